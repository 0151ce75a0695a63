/-
  A place leaves its ring, and joins one at the end; the deadline of a queue's last item; whether a queue has none.
-/
import Derived.Test.YtncdohbdmpfefaaCoMem
import Derived.LaidEqlPtr
import Derived.BigRegion
namespace Go.Proofs.Ytncdohbdmpfefaa
open Go.RowKit Go.Maps Go.ChangeMaps

theorem nO_le (n : Nd) : nO n ≤ 1 := by cases n <;> simp [nO]

set_option maxHeartbeats 4000000 in
set_option maxRecDepth 100000 in
theorem leave_nodes {w : World} {F G : Nd → Nd} {bo qb : Int → Nat} {L : List En} {T : List Int} (h : Nds w F G bo qb L T) (e : En) (he : e ∈ L) (hq : e.q ≠ none)
    (hv : InR bo qb L T (F (.p (bo e.x.id)))) (hu : InR bo qb L T (G (.p (bo e.x.id)))) (hvn : F (.p (bo e.x.id)) ≠ .p (bo e.x.id)) (hun : G (.p (bo e.x.id)) ≠ .p (bo e.x.id)) :
    Calls Try.prog 48 #[.pointer (some ⟨bo e.x.id, 0, none⟩)] w fun en w' =>
      en = .returned (.tuple #[]) ∧ Nds w' (updN F (G (.p (bo e.x.id))) (F (.p (bo e.x.id)))) (updN G (F (.p (bo e.x.id))) (G (.p (bo e.x.id)))) bo qb L T ∧ Kept (Fn bo qb L T) w w' := by
  have bx := h.pl e he
  obtain ⟨b, hb⟩ : ∃ b, b = bo e.x.id := ⟨_, rfl⟩
  have c4 : w.cell? ⟨b, 4, none⟩ = some (.pointer (some ⟨nB (G (.p b)), nO (G (.p b)), none⟩)) := by
    rw [hb, ← adr_eq]; exact (bx.cell 4).trans (by rw [show ∀ n, (Value.pointer (some (adr n))) = ptr n from fun _ => rfl, ← lk_some hq]; rfl)
  have c5 : w.cell? ⟨b, 5, none⟩ = some (.pointer (some ⟨nB (F (.p b)), nO (F (.p b)), none⟩)) := by
    rw [hb, ← adr_eq]; exact (bx.cell 5).trans (by rw [show ∀ n, (Value.pointer (some (adr n))) = ptr n from fun _ => rfl, ← lk_some hq]; rfl)
  have fu := h.free hu
  have fv := h.free hv
  have cu := h.behind hu
  have cv := h.before hv
  have du := nB_ne h he hu hun
  have dv := nB_ne h he hv hvn
  have l1 := bx.lt
  rw [← hb] at hu hv hvn hun fu fv cu cv du dv l1 ⊢
  have H := Lib.hid (And.intro h (And.intro hu hv))
  generalize hU : G (.p b) = u at *
  generalize hV : F (.p b) = v at *
  clear h bx hu hv hvn hun hb
  obtain ⟨ub, hub⟩ : ∃ ub, ub = nB u := ⟨_, rfl⟩
  obtain ⟨uo, huo⟩ : ∃ uo, uo = nO u := ⟨_, rfl⟩
  obtain ⟨vb, hvb⟩ : ∃ vb, vb = nB v := ⟨_, rfl⟩
  obtain ⟨vo, hvo⟩ : ∃ vo, vo = nO v := ⟨_, rfl⟩
  rw [← hub] at c4 fu cu du
  rw [← huo] at c4 cu
  rw [← hvb] at c5 fv cv dv
  rw [← hvo] at c5 cv
  obtain ⟨tu, htu⟩ : ∃ t, t = ptr (F u) := ⟨_, rfl⟩
  obtain ⟨tv, htv⟩ : ∃ t, t = ptr (G v) := ⟨_, rfl⟩
  rw [← htu] at cu
  rw [← htv] at cv
  have e0 : ub = vb → uo = vo := fun e1 => by
    obtain ⟨hN, hu, hv⟩ := H.out
    rw [hub, hvb] at e1
    rw [huo, hvo]
    cases u <;> cases v <;> simp only [nB, nO] at e1 ⊢
    · obtain ⟨t, ht, e2⟩ := hu
      obtain ⟨a, ha, _, e3⟩ := hv
      exact absurd (e2.trans (e1.trans e3.symm)) (hN.qp ht ha)
    · obtain ⟨t, ht, e2⟩ := hv
      obtain ⟨a, ha, _, e3⟩ := hu
      exact absurd (e2.trans (e1.symm.trans e3.symm)) (hN.qp ht ha)
  have e1 : (⟨ub, uo + 5, none⟩ : Addr) ≠ ⟨vb, vo + 4, none⟩ := fun e2 => by
    injection e2 with e3 e4
    have := e0 e3
    omega
  have e2 : (⟨vb, vo + 4, none⟩ : Addr) ≠ ⟨ub, uo + 5, none⟩ := fun e2 => e1 e2.symm
  have E0 := Lib.hid e0
  have HH := Lib.hid (And.intro hub (And.intro huo (And.intro hvb (And.intro hvo (And.intro hU hV)))))
  clear hub huo hvb hvo hU hV htu htv e0
  by_cases e3 : ub = vb
  · have e4 := E0.out e3
    subst e3
    subst e4
    have e5 : uo + 5 ≠ uo + 4 := by omega
    have e6 : uo + 4 ≠ uo + 5 := by omega
    go_enter Try.func48, Try.ntmps48
    go_wp2
    go_region
    go_wp2
    go_end0
    obtain ⟨i1, i2, i3, i4, i5, i6⟩ := HH.out
    obtain ⟨hN, hu, hv⟩ := H.out
    have h1 := hN.setF hu v
    have h2 := h1.setG hv u
    refine ⟨rfl, ?_, ?_⟩
    · refine h2.same (fun i _ => ?_)
      rw [← i1, ← i2, ← i3, ← i4]
      simp only [ptr, adr_eq, ← i1, ← i2, ← i3, ← i4]
      rfl
    · refine Kept.drew ?_
      exact ((Kept.refl _ w).setCell (p := ⟨ub, uo + 5, none⟩) (by rw [i1]; exact hu.fn) _).setCell (p := ⟨ub, uo + 4, none⟩) (by rw [i3]; exact hv.fn) _
  · have e4 : vb ≠ ub := fun e => e3 e.symm
    go_enter Try.func48, Try.ntmps48
    go_wp2
    go_region
    go_wp2
    go_end0
    obtain ⟨i1, i2, i3, i4, i5, i6⟩ := HH.out
    obtain ⟨hN, hu, hv⟩ := H.out
    have h1 := hN.setF hu v
    have h2 := h1.setG hv u
    refine ⟨rfl, ?_, ?_⟩
    · refine h2.same (fun i _ => ?_)
      rw [← i1, ← i2, ← i3, ← i4]
      simp only [ptr, adr_eq, ← i1, ← i2, ← i3, ← i4]
      rfl
    · refine Kept.drew ?_
      exact ((Kept.refl _ w).setCell (p := ⟨ub, uo + 5, none⟩) (by rw [i1]; exact hu.fn) _).setCell (p := ⟨vb, vo + 4, none⟩) (by rw [i3]; exact hv.fn) _

/-- A place in no queue: what it becomes a place of t's queue with. -/
theorem Nds.begin_ {w W : World} {F G : Nd → Nd} {bo qb : Int → Nat} {L : List En} {T : List Int} (h : Nds w F G bo qb L T) (x : It) (t : Int) (ht : t ∈ T)
    (hA : Apt bo qb (L ++ [⟨x, some t⟩]) T) (hfar : ∀ k, k ≠ bo x.id → W.heap[k]? = w.heap[k]?) (hqb : ∀ s ∈ T, qb s ≠ bo x.id) (u : Nd)
    (hb : Blk W (bo x.id) 74 #[.int .i64 x.id, .int .u64 x.d, .int .u64 x.n, .pointer (some ⟨qb t, 0, none⟩), ptr u, ptr (.e (qb t))]) :
    Nds W (updN F (.p (bo x.id)) (.e (qb t))) (updN G (.p (bo x.id)) u) bo qb (L ++ [⟨x, some t⟩]) T := by
  refine ⟨fun s hs => ?_, fun a ha => ?_, hA⟩
  · have := (h.qs s hs).same (hfar _ (hqb s hs))
    unfold encQu at this ⊢
    rw [updN_ne _ _ (by simp), updN_ne _ _ (by simp)]
    exact this
  · rcases List.mem_append.1 ha with h1 | h1
    · have hne : bo a.x.id ≠ bo x.id := fun e1 => by
        have h2 := hA.b a ha ⟨x, some t⟩ (by simp) e1
        have h3 := hA.ids
        rw [List.map_append, List.nodup_append] at h3
        exact h3.2.2 a.x.id (List.mem_map_of_mem (f := fun e : En => e.x.id) h1) x.id (by simp) h2
      have := (h.pl a h1).same (hfar _ hne)
      unfold encPl at this ⊢
      rw [updN_ne _ _ (fun e2 => hne (by injection e2)), updN_ne _ _ (fun e2 => hne (by injection e2))]
      exact this
    · simp at h1
      subst h1
      unfold encPl
      simp only [updN_same]
      exact hb

set_option maxHeartbeats 4000000 in
set_option maxRecDepth 100000 in
theorem join_nodes {w : World} {F G : Nd → Nd} {bo qb : Int → Nat} {L : List En} {T : List Int} (h : Nds w F G bo qb L T) (x : It) (t : Int) (ht : t ∈ T)
    (hA : Apt bo qb (L ++ [⟨x, some t⟩]) T) (hu : InR bo qb L T (G (.e (qb t))))
    (bx : Blk w (bo x.id) 74 #[.int .i64 x.id, .int .u64 x.d, .int .u64 x.n, .pointer none, .pointer none, .pointer none]) :
    Calls Try.prog 46 #[.pointer (some ⟨qb t, 0, none⟩), .pointer (some ⟨bo x.id, 0, none⟩)] w fun en w' =>
      en = .returned (.tuple #[]) ∧ Nds w' (updN (updN F (.p (bo x.id)) (.e (qb t))) (G (.e (qb t))) (.p (bo x.id))) (updN (updN G (.p (bo x.id)) (G (.e (qb t)))) (.e (qb t)) (.p (bo x.id))) bo qb (L ++ [⟨x, some t⟩]) T ∧
        Kept (fun i => Fn bo qb L T i ∨ i = bo x.id) w w' := by
  have hqb : ∀ s ∈ T, qb s ≠ bo x.id := fun s hs => blk_ne (h.qs s hs) bx (by decide)
  have hqt : InR bo qb L T (.e (qb t)) := ⟨t, ht, rfl⟩
  have hpl : ∀ a ∈ L, bo a.x.id ≠ bo x.id := fun a ha e1 => by
    have h2 := hA.b a (List.mem_append_left _ ha) ⟨x, some t⟩ (by simp) e1
    have h3 := hA.ids
    rw [List.map_append, List.nodup_append] at h3
    exact h3.2.2 a.x.id (List.mem_map_of_mem (f := fun e : En => e.x.id) ha) x.id (by simp) h2
  have hub0 : nB (G (.e (qb t))) ≠ bo x.id := fun e1 => by
    rcases hu.fn with ⟨s, hs, e2⟩ | ⟨a, ha, e2⟩
    · exact hqb s hs (e2.trans e1)
    · exact hpl a ha (e2.trans e1)
  have cu := h.before hqt
  have fqt := h.free hqt
  have fub := h.free hu
  have lq := h.lt hqt
  have lx := bx.lt
  have fx := fun j => bx.frozen j
  have d3 := bx.cell 3
  have d4 := bx.cell 4
  have d5 := bx.cell 5
  simp at d3 d4 d5
  obtain ⟨b, hb⟩ : ∃ b, b = bo x.id := ⟨_, rfl⟩
  obtain ⟨q, hq⟩ : ∃ q, q = qb t := ⟨_, rfl⟩
  rw [← hq] at cu fqt fub lq hub0 hu
  rw [← hb] at lx fx d3 d4 d5 hub0
  obtain ⟨u, hU⟩ : ∃ u, u = G (.e q) := ⟨_, rfl⟩
  rw [← hU] at cu fub hub0 hu
  obtain ⟨W, hW⟩ : ∃ W, W = ((w.setCell ⟨b, 3, none⟩ (.pointer (some ⟨q, 0, none⟩))).setCell ⟨b, 4, none⟩ (ptr u)).setCell ⟨b, 5, none⟩ (ptr (.e q)) := ⟨_, rfl⟩
  have far : ∀ k, k ≠ b → W.heap[k]? = w.heap[k]? := fun k hk => by
    rw [hW, Below.heap_setCell _ _ _ _ hk, Below.heap_setCell _ _ _ _ hk, Below.heap_setCell _ _ _ _ hk]
  have bW : Blk W b 74 #[.int .i64 x.id, .int .u64 x.d, .int .u64 x.n, .pointer (some ⟨q, 0, none⟩), ptr u, ptr (.e q)] := by
    have h1 := bx
    rw [← hb] at h1
    have := ((h1.set_ 3 (.pointer (some ⟨q, 0, none⟩))).set_ 4 (ptr u)).set_ 5 (ptr (.e q))
    rw [← hW] at this
    simpa using this
  have hN : Nds W (updN F (.p b) (.e q)) (updN G (.p b) u) bo qb (L ++ [⟨x, some t⟩]) T := by
    have := h.begin_ x t ht hA (W := W) (by rw [← hb]; exact far) hqb u (by rw [← hb, ← hq]; exact bW)
    rw [← hb, ← hq] at this
    exact this
  have hk1 : Kept (fun i => Fn bo qb L T i ∨ i = b) w W := by
    rw [hW]
    exact (((Kept.refl _ w).setCell (p := ⟨b, 3, none⟩) (.inr rfl) _).setCell (p := ⟨b, 4, none⟩) (.inr rfl) _).setCell (p := ⟨b, 5, none⟩) (.inr rfl) _
  have hu2 : InR bo qb (L ++ [⟨x, some t⟩]) T u := hu.mono (fun y hy => List.mem_append_left _ hy)
  have hq2 : InR bo qb (L ++ [⟨x, some t⟩]) T (.e q) := by rw [hq]; exact ⟨t, ht, rfl⟩
  have cW4 := bW.cell 4
  have cW5 := bW.cell 5
  have cWu := hN.behind hu2
  have cWe := hN.before hq2
  have fWu := hN.free hu2
  have fWe := hN.free hq2
  have lW := bW.lt
  have hqb1 : q ≠ b := by rw [hq, hb]; exact hqb t ht
  have H := Lib.hid (And.intro hN (And.intro hu2 (And.intro hq2 (And.intro hk1 (And.intro hu hqt)))))
  obtain ⟨tu, htu⟩ : ∃ z, z = ptr (updN F (.p b) (.e q) u) := ⟨_, rfl⟩
  obtain ⟨te, hte⟩ : ∃ z, z = ptr (updN G (.p b) u (.e q)) := ⟨_, rfl⟩
  rw [← htu] at cWu
  rw [← hte] at cWe
  obtain ⟨ub, hub⟩ : ∃ ub, ub = nB u := ⟨_, rfl⟩
  obtain ⟨uo, huo⟩ : ∃ uo, uo = nO u := ⟨_, rfl⟩
  simp only [ptr, adr_eq] at cu cW4 cW5 hW
  rw [← hub] at cu cWu cW4 fub fWu hW hub0
  rw [← huo] at cu cWu cW4 hW
  simp only [nB, nO] at cu cWe cW5 fqt fWe lq hW
  simp at cW4 cW5 cu
  have e1 : ub = q → uo + 5 ≠ 5 := fun e2 => by
    obtain ⟨hN, hu2, hq2, _⟩ := H.out
    rw [huo]
    cases u with
    | e z => simp [nO]
    | p z =>
      obtain ⟨a, ha, _, e3⟩ := hu2
      exact absurd (hq.symm.trans ((e2.symm.trans hub).trans e3.symm)) (hN.qp ht ha)
  have HW := Lib.hid (And.intro hW (And.intro hub (And.intro huo (And.intro hU (And.intro hb hq)))))
  have E1 := Lib.hid e1
  rw [← hb, ← hq, ← hU]
  clear hN hu2 hq2 hk1 hW hub huo bW far bx h hU hu htu hte hA hqb hqt hpl e1 hb hq
  have q0 : (1 : Nat) + 4 = 5 := rfl
  by_cases e3 : ub = q
  · have e4 := E1.out e3
    have e5 : ¬ (5 : Nat) = uo + 5 := fun e => e4 e.symm
    subst e3
    go_enter Try.func46, Try.ntmps46
    go_wp2_with fail
    go_region
    rw [← HW.out.1]
    clear cu d3 d4 d5 fx
    go_wp2_with fail
    go_region
    go_wp2
    go_end0
    obtain ⟨i0, i1, i2, iU, ib, iq⟩ := HW.out
    obtain ⟨hN, hu, hq, hk, hu0, hq0⟩ := H.out
    have h1 := hN.setF hu (.p b)
    have h2 := h1.setG hq (.p b)
    refine ⟨rfl, ?_, ?_⟩
    · refine h2.same (fun i _ => ?_)
      simp only [ptr, adr_eq, ← i1, ← i2]
      rfl
    · refine Kept.drew (Kept.drew ?_)
      refine (hk.setCell (p := ⟨ub, uo + 5, none⟩) (.inl ?_) _).setCell (p := ⟨ub, 5, none⟩) (.inl ?_) _
      · rw [i1]; exact hu0.fn
      · rw [iq]; exact hq0.fn
  · have e4 : q ≠ ub := fun e => e3 e.symm
    go_enter Try.func46, Try.ntmps46
    go_wp2_with fail
    go_region
    rw [← HW.out.1]
    clear cu d3 d4 d5 fx
    go_wp2_with fail
    go_region
    go_wp2
    go_end0
    obtain ⟨i0, i1, i2, iU, ib, iq⟩ := HW.out
    obtain ⟨hN, hu, hq, hk, hu0, hq0⟩ := H.out
    have h1 := hN.setF hu (.p b)
    have h2 := h1.setG hq (.p b)
    refine ⟨rfl, ?_, ?_⟩
    · refine h2.same (fun i _ => ?_)
      simp only [ptr, adr_eq, ← i1, ← i2]
      rfl
    · refine Kept.drew (Kept.drew ?_)
      refine (hk.setCell (p := ⟨ub, uo + 5, none⟩) (.inl ?_) _).setCell (p := ⟨q, 5, none⟩) (.inl ?_) _
      · rw [i1]; exact hu0.fn
      · rw [iq]; exact hq0.fn

theorem neq_pl (w : World) (a : Addr) : (binOp .eql 67 (.pointer (some a)) (.pointer (some a))).run Try.prog w = .ok (.bool true) w := by
  have hi : (Try.prog.info? 74).map (fun i => i.size) = some 6 := by kernel_rfl
  cases hte : Try.prog.info? 74 with
  | none => rw [hte] at hi; simp at hi
  | some j =>
    have h : ∀ d : Nat, (Op.equalIn (d + 1) 67 (.pointer (some a)) (.pointer (some a))).run Try.prog w = .ok true w := fun d => by
      simp [Op.equalIn, run_underlying Try.underlying67, sizeOf, typeInfo, hte, run_sameAddr_same]
    simp only [binOp]
    simp [Op.equal, Op.maxDepth, h 9999]
theorem eq_other (w : World) {a b : Addr} {ca cb : Array Value} {ta tb : TypeId} (hne : a ≠ b) (ha : w.heap[a.block]? = some (.cells ca ta (0, 0))) (hb : w.heap[b.block]? = some (.cells cb tb (0, 0))) :
    (binOp .eql 67 (.pointer (some a)) (.pointer (some b))).run Try.prog w = .ok (.bool false) w := by
  have hi : (Try.prog.info? 74).map (fun i => i.size) = some 6 := by kernel_rfl
  cases hte : Try.prog.info? 74 with
  | none => rw [hte] at hi; simp at hi
  | some j =>
    rw [hte] at hi
    have hsz : j.size ≠ 0 := by simp at hi; omega
    have h : ∀ d : Nat, (Op.equalIn (d + 1) 67 (.pointer (some a)) (.pointer (some b))).run Try.prog w = .ok false w := fun d => by
      simp [Op.equalIn, run_underlying Try.underlying67, sizeOf, typeInfo, hte, hsz, run_sameAddr_other w hne ha hb]
    simp only [binOp]
    simp [Op.equal, Op.maxDepth, h 9999]

/-- What stands before the end, and behind it. -/
theorem Seg.last_eq {F G : Nd → Nd} : ∀ {l : List Nd} {u v : Nd}, Seg F G u l v → G v = (u :: l).getLast (by simp)
  | [], u, v, h => h.2
  | x :: l, u, v, h => by rw [List.getLast_cons (by simp)]; exact Seg.last_eq h.2
theorem Seg.first_eq {F G : Nd → Nd} {l : List Nd} {u v : Nd} (h : Seg F G u l v) : F u = (l ++ [v]).head (by simp) := by
  cases l with
  | nil => exact h.1
  | cons x l => exact h.1.1

/-- The last deadline of a queue. -/
def lastD (L : List En) (t : Int) : Int := match (ofQ L t).getLast? with | none => 0 | some e => e.x.d

set_option maxHeartbeats 1000000 in
theorem last_any {w : World} {F G : Nd → Nd} {bo qb : Int → Nat} {L : List En} {T : List Int} (h : Nds w F G bo qb L T) (hR : Rings F G bo qb L T) {t : Int} (ht : t ∈ T) :
    Calls Try.prog 43 #[.pointer (some ⟨qb t, 0, none⟩)] w fun en w' => en = .returned (.int .u64 (lastD L t)) ∧ w = w' := by
  have hs := hR t ht
  have hl := hs.last_eq
  have bq := h.qs t ht
  have c5 := bq.cell 5
  unfold encQu at c5
  simp [ptr, adr_eq] at c5
  have lq := bq.lt
  have hm : G (.e (qb t)) ∈ Nd.e (qb t) :: nods bo L t := hs.last
  have hin := InR.of_ring (bo := bo) (L := L) ht hm
  have lu := h.lt hin
  have cu : w.cell? ⟨nB (G (.e (qb t))), nO (G (.e (qb t))) + 1, none⟩ = some (.int .u64 (lastD L t)) := by
    unfold lastD
    rw [hl]
    unfold nods
    cases e : (ofQ L t).getLast? with
    | none =>
      have : ofQ L t = [] := List.getLast?_eq_none_iff.1 e
      simp only [this]
      exact bq.cell 2
    | some a =>
      obtain ⟨z, hz⟩ := List.getLast?_eq_some_iff.1 e
      have ha : a ∈ ofQ L t := by rw [hz]; simp
      simp only [hz, List.map_append, List.map_cons, List.map_nil]
      have e2 : (Nd.e (qb t) :: (z.map (fun e => Nd.p (bo e.x.id)) ++ [Nd.p (bo a.x.id)])).getLast (by simp) = Nd.p (bo a.x.id) := by rw [List.getLast_cons (by simp)]; simp
      rw [e2]
      exact (h.pl a (ofQ_mem.1 ha).1).cell 1
  obtain ⟨u, hu⟩ : ∃ u, u = G (.e (qb t)) := ⟨_, rfl⟩
  rw [← hu] at c5 lu cu
  generalize nB u = ub at *
  generalize nO u = uo at *
  clear h hR hs hl bq hm hin hu
  go_enter Try.func43, Try.ntmps43
  go_wp2
  go_ret
  exact ⟨rfl, rfl⟩

theorem empty_any {w : World} {F G : Nd → Nd} {bo qb : Int → Nat} {L : List En} {T : List Int} (h : Nds w F G bo qb L T) (hR : Rings F G bo qb L T) {t : Int} (ht : t ∈ T) :
    Calls Try.prog 45 #[.pointer (some ⟨qb t, 0, none⟩)] w fun en w' => en = .returned (.bool (ofQ L t).isEmpty) ∧ ∃ n, w' = w.drewN n := by
  have hs := hR t ht
  have hl := hs.first_eq
  have bq := h.qs t ht
  have c6 := bq.cell 6
  unfold encQu at c6
  simp [ptr] at c6
  have lq := bq.lt
  have heq : ∀ n, (binOp .eql 67 (.pointer (some (adr (F (.e (qb t)))))) (.pointer (some ⟨qb t, 1, none⟩))).run Try.prog (w.drewN n) = .ok (.bool (ofQ L t).isEmpty) (w.drewN n) := fun n => by
    unfold nods at hl
    cases e : ofQ L t with
    | nil =>
      simp only [e] at hl
      rw [hl]
      exact neq_pl _ _
    | cons a z =>
      simp only [e] at hl
      rw [hl]
      have ha : a ∈ ofQ L t := by rw [e]; simp
      exact eq_other (w.drewN n) (fun e1 => h.qp ht (ofQ_mem.1 ha).1 (by injection e1 with e1; exact e1.symm)) (h.pl a (ofQ_mem.1 ha).1) bq
  rw [adr_eq] at c6 heq
  generalize (ofQ L t).isEmpty = bb at *
  generalize nB (F (.e (qb t))) = ub at *
  generalize nO (F (.e (qb t))) = uo at *
  have HQ := Lib.hid heq
  clear h hR hs hl bq heq
  go_enter Try.func45, Try.ntmps45
  go_wp2_with fail
  have heq := HQ.out
  go_quiet (fail)
  go_wp2_with fail
  go_ret
  exact ⟨rfl, _, rfl⟩
end Go.Proofs.Ytncdohbdmpfefaa
