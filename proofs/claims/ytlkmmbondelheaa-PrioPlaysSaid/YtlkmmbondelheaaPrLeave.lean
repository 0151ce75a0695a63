/-
  place.leave and rows.join: a place leaves its ring, and joins another at the end.
-/
import Derived.Test.YtlkmmbondelheaaPrMem
namespace Go.Proofs.Ytlkmmbondelheaa
open Go.RowKit Go.Maps Go.ChangeMaps

set_option maxHeartbeats 4000000 in
set_option maxRecDepth 100000 in
theorem leave_any {w : World} {g many : Nat} {F G : Nd → Nd} {L : List It} (h : Nds w g many F G L) (hR : Rings F G many L) (x : It) (hx : x ∈ L) (hp : x.pr < many) :
    Calls Try.prog 40 #[.pointer (some ⟨x.bk, 0, none⟩)] w fun e w' =>
      e = .returned (.tuple #[]) ∧ Nds w' g many (updN F (G (.p x.bk)) (F (.p x.bk))) (updN G (F (.p x.bk)) (G (.p x.bk))) L ∧ Kept (Fn g L) w w' := by
  obtain ⟨hv, hu, hvn, hun⟩ := hR.beside hx hp
  have bx := h.its x hx
  have c4 : w.cell? ⟨x.bk, 4, none⟩ = some (.pointer (some ⟨nB g (G (.p x.bk)), nO (G (.p x.bk)), none⟩)) := by rw [← adr_eq]; exact bx.cell 4
  have c5 : w.cell? ⟨x.bk, 5, none⟩ = some (.pointer (some ⟨nB g (F (.p x.bk)), nO (F (.p x.bk)), none⟩)) := by rw [← adr_eq]; exact bx.cell 5
  have fu := h.free hu
  have fv := h.free hv
  have cu := h.behind hu
  have cv := h.before hv
  have du := nB_ne h.gne hx hun
  have dv := nB_ne h.gne hx hvn
  have H := Lib.hid (And.intro h (And.intro hR.nod (And.intro hu hv)))
  generalize hU : G (.p x.bk) = u at *
  generalize hV : F (.p x.bk) = v at *
  have l1 := bx.lt
  clear h hR bx hu hv hvn hun
  obtain ⟨ub, hub⟩ : ∃ ub, ub = nB g u := ⟨_, rfl⟩
  obtain ⟨uo, huo⟩ : ∃ uo, uo = nO u := ⟨_, rfl⟩
  obtain ⟨vb, hvb⟩ : ∃ vb, vb = nB g v := ⟨_, rfl⟩
  obtain ⟨vo, hvo⟩ : ∃ vo, vo = nO v := ⟨_, rfl⟩
  rw [← hub] at c4 fu cu du
  rw [← huo] at c4 cu
  rw [← hvb] at c5 fv cv dv
  rw [← hvo] at c5 cv
  obtain ⟨tu, htu⟩ : ∃ t, t = ptr g (F u) := ⟨_, rfl⟩
  obtain ⟨tv, htv⟩ : ∃ t, t = ptr g (G v) := ⟨_, rfl⟩
  rw [← htu] at cu
  rw [← htv] at cv
  have m1 : uo % 6 = 0 := by rw [huo]; cases u <;> simp [nO]
  have m2 : vo % 6 = 0 := by rw [hvo]; cases v <;> simp [nO]
  have e1 : uo + 5 ≠ vo + 4 := by omega
  have e2 : vo + 4 ≠ uo + 5 := by omega
  have m1 := Lib.hid m1
  have m2 := Lib.hid m2
  have HH := Lib.hid (And.intro hub (And.intro huo (And.intro hvb (And.intro hvo (And.intro hU hV)))))
  clear hub huo hvb hvo hU hV htu htv
  go_enter Try.func40, Try.ntmps40
  go_wp2
  go_region
  go_wp2
  go_end0
  obtain ⟨i1, i2, i3, i4, i5, i6⟩ := HH.out
  obtain ⟨hN, hL, hu, hv⟩ := H.out
  have h1 := hN.setF hu hL v
  have h2 := h1.setG hv hL u
  refine ⟨rfl, ?_, ?_⟩
  · refine h2.same ?_ (fun y hy => ?_)
    · rw [← i1, ← i2, ← i3, ← i4]
      simp only [ptr, adr_eq, ← i1, ← i2, ← i3, ← i4]
      rfl
    · rw [← i1, ← i2, ← i3, ← i4]
      simp only [ptr, adr_eq, ← i1, ← i2, ← i3, ← i4]
      rfl
  · refine Kept.drew ?_
    exact ((Kept.refl _ w).setCell (p := ⟨ub, uo + 5, none⟩) (by rw [i1]; exact Fn.of hu) _).setCell (p := ⟨vb, vo + 4, none⟩) (by rw [i3]; exact Fn.of hv) _

theorem InR.mono {many : Nat} {L M : List It} {n : Nd} (h : InR many L n) (hs : ∀ x ∈ L, x ∈ M) : InR many M n := by
  cases n with
  | e i => exact h
  | p b => obtain ⟨x, hx, e⟩ := h; exact ⟨x, hs x hx, e⟩

set_option maxHeartbeats 4000000 in
set_option maxRecDepth 100000 in
theorem join_any {w : World} {r g m many : Nat} {F G : Nd → Nd} {L : List It} (hr : Blk w r 71 #[.slice (some ⟨g, 0, none⟩) many many, .map (some m)]) (h : Nds w g many F G L) (hR : Rings F G many L)
    (x : It) (hp : x.pr < many) (hm : many ≤ 8) (c3 c4 c5 : Value) (bx : Blk w x.bk 74 #[.int .i64 x.id, .int .i64 x.fl, .int .i64 x.ct, c3, c4, c5]) (hb : ∀ y ∈ L, y.bk ≠ x.bk) (hg : x.bk ≠ g) :
    Calls Try.prog 39 #[.pointer (some ⟨r, 0, none⟩), .pointer (some ⟨x.bk, 0, none⟩), .int .i64 (x.pr : Int)] w fun e w' =>
      e = .returned (.tuple #[]) ∧ Nds w' g many (updN (updN F (.p x.bk) (.e x.pr)) (G (.e x.pr)) (.p x.bk)) (updN (updN G (.p x.bk) (G (.e x.pr))) (.e x.pr) (.p x.bk)) (L ++ [x]) ∧ Kept (fun k => Fn g L k ∨ k = x.bk) w w' := by
  have hu := (hR.ends hp).2
  have k0 := hr.cell 0
  simp at k0
  have kr := hr.lt
  have kb : r ≠ x.bk := fun e => by
    unfold Blk at hr bx
    rw [← e, hr] at bx
    injection bx with bx; injection bx with _ ht
    revert ht; decide
  have cu := h.before (n := .e x.pr) hp
  have d3 := bx.cell 3
  have d4 := bx.cell 4
  have d5 := bx.cell 5
  simp at d3 d4 d5
  have fx := fun j => bx.frozen j
  have lx := bx.lt
  have hnod := (hR.join hp hb).nod
  -- behind the first three stores
  obtain ⟨F1, hF1⟩ : ∃ F1, F1 = updN F (.p x.bk) (.e x.pr) := ⟨_, rfl⟩
  obtain ⟨G1, hG1⟩ : ∃ G1, G1 = updN G (.p x.bk) (G (.e x.pr)) := ⟨_, rfl⟩
  obtain ⟨u, hU⟩ : ∃ u, u = G (.e x.pr) := ⟨_, rfl⟩
  rw [← hU] at cu hu hG1 ⊢
  rw [← hF1, ← hG1]
  obtain ⟨W, hW⟩ : ∃ W, W = ((w.setCell ⟨x.bk, 3, none⟩ (.int .i64 (x.pr : Int))).setCell ⟨x.bk, 4, none⟩ (ptr g u)).setCell ⟨x.bk, 5, none⟩ (ptr g (.e x.pr)) := ⟨_, rfl⟩
  have bW : Blk W x.bk 74 (encPl F1 G1 g x) := by
    have := ((bx.set_ 3 (.int .i64 (x.pr : Int))).set_ 4 (ptr g u)).set_ 5 (ptr g (.e x.pr))
    rw [← hW] at this
    rw [hF1, hG1]
    unfold encPl
    rw [updN_same, updN_same]
    simpa using this
  have far : ∀ k, k ≠ x.bk → W.heap[k]? = w.heap[k]? := fun k hk => by
    rw [hW, Below.heap_setCell _ _ _ _ hk, Below.heap_setCell _ _ _ _ hk, Below.heap_setCell _ _ _ _ hk]
  have hN : Nds W g many F1 G1 (L ++ [x]) := by
    obtain ⟨cs, hb1, hs, hc⟩ := h.ends
    refine ⟨⟨cs, hb1.same (far g (fun e => hg e.symm)), hs, fun i hi => ?_⟩, fun y hy => ?_, fun y hy => ?_⟩
    · rw [hF1, hG1, updN_ne _ _ (by simp), updN_ne _ _ (by simp)]; exact hc i hi
    · rcases List.mem_append.1 hy with hy | hy
      · have := (h.its y hy).same (far y.bk (hb y hy))
        unfold encPl at this ⊢
        rw [hF1, hG1, updN_ne _ _ (fun e => hb y hy (by injection e)), updN_ne _ _ (fun e => hb y hy (by injection e))]
        exact this
      · simp at hy; subst hy; exact bW
    · rcases List.mem_append.1 hy with hy | hy
      · exact h.gne y hy
      · simp at hy; subst hy; exact hg
  have hk1 : Kept (fun k => Fn g L k ∨ k = x.bk) w W := by
    rw [hW]
    exact (((Kept.refl _ w).setCell (p := ⟨x.bk, 3, none⟩) (.inr rfl) _).setCell (p := ⟨x.bk, 4, none⟩) (.inr rfl) _).setCell (p := ⟨x.bk, 5, none⟩) (.inr rfl) _
  have hx : x ∈ L ++ [x] := by simp
  have hu2 : InR many (L ++ [x]) u := hu.mono (fun y hy => List.mem_append_left _ hy)
  have hUx : u ≠ .p x.bk := fun e => by
    rw [e] at hu
    obtain ⟨y, hy, e⟩ := hu
    exact hb y hy e
  have du := nB_ne hN.gne hx hUx
  have m1 : nO u % 6 = 0 := by cases u <;> simp [nO]
  have cW4 := bW.cell 4
  have cW5 := bW.cell 5
  have cWu := hN.behind hu2
  have cWe := hN.before (n := .e x.pr) hp
  have fWu := hN.free hu2
  have fWe := hN.free (n := .e x.pr) hp
  have lW := bW.lt
  have H := Lib.hid (And.intro hN (And.intro hnod (And.intro hu2 hk1)))
  have e4 : G1 (.p x.bk) = u := by rw [hG1, updN_same]
  have e5 : F1 (.p x.bk) = .e x.pr := by rw [hF1, updN_same]
  unfold encPl at cW4 cW5
  simp only [e4, e5] at cW4 cW5
  have b0 : (0 : Int) ≤ (x.pr : Int) := by omega
  have b1 : (x.pr : Int) < (many : Int) := by omega
  obtain ⟨tu, htu⟩ : ∃ t, t = ptr g (F1 u) := ⟨_, rfl⟩
  obtain ⟨te, hte⟩ : ∃ t, t = ptr g (G1 (.e x.pr)) := ⟨_, rfl⟩
  rw [← htu] at cWu
  rw [← hte] at cWe
  obtain ⟨ub, hub⟩ : ∃ ub, ub = nB g u := ⟨_, rfl⟩
  obtain ⟨uo, huo⟩ : ∃ uo, uo = nO u := ⟨_, rfl⟩
  simp only [ptr, adr_eq] at cu cW4 cW5 hW
  rw [← hub] at cu cWu cW4 du fWu hW
  rw [← huo] at cu cWu cW4 m1 hW
  simp only [nB, nO] at cu cWe cW5 fWe hW
  simp at cW4 cW5
  have e1 : uo + 5 ≠ x.pr * 6 + 4 := by omega
  have e2 : x.pr * 6 + 4 ≠ uo + 5 := by omega
  have HW := Lib.hid (And.intro hW (And.intro hub huo))
  clear hN hnod hu2 hk1 hW hub huo bW far bx hb h hR hr hF1 hG1 hU hu htu hte hUx m1 e4 e5 hp hx
  go_enter Try.func39, Try.ntmps39
  go_wp2_with fail
  rw [← HW.out.1]
  clear cu k0 d3 d4 d5 fx
  go_region
  go_wp2
  go_end0
  obtain ⟨i0, i1, i2⟩ := HW.out
  obtain ⟨hN, hL, hu, hk⟩ := H.out
  have h1 := hN.setF hu hL (.p x.bk)
  have hp : InR many (L ++ [x]) (.e x.pr) := by
    show x.pr < many
    omega
  have h2 := h1.setG hp hL (.p x.bk)
  refine ⟨rfl, ?_, ?_⟩
  · refine h2.same ?_ (fun y hy => ?_)
    · simp only [ptr, adr_eq, ← i1, ← i2]
      rfl
    · simp only [ptr, adr_eq, ← i1, ← i2]
      rfl
  · refine Kept.drew ?_
    refine (hk.setCell (p := ⟨ub, uo + 5, none⟩) ?_ _).setCell (p := ⟨g, x.pr * 6 + 4, none⟩) (.inl (.inl rfl)) _
    rw [i1]
    rcases Fn.of (g := g) hu with e | ⟨y, hy, e⟩
    · exact .inl (.inl e)
    · rcases List.mem_append.1 hy with hy | hy
      · exact .inl (.inr ⟨y, hy, e⟩)
      · simp at hy; subst hy; exact .inr e.symm
end Go.Proofs.Ytlkmmbondelheaa
