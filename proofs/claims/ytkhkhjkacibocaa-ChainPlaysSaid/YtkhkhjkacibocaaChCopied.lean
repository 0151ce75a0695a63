/-
  copied: so many bytes from an index on, in new memory; Copy, Take.
-/
import Derived.Test.YtkhkhjkacibocaaChPcs
import Derived.Scope
namespace Go.Proofs.Ytkhkhjkacibocaa
open Go.RowKit Go.Maps Go.ChangeMaps Go.Shelf

attribute [local go_sem] Oper.semAt_some

/-- A row of its own that the slice v names, all of it: the bytes ps. -/
def RowB (W : World) (B : Nat) (v : Value) (ps : List Int) : Prop :=
  (v = .slice none 0 0 ∧ ps = []) ∨ ∃ g, v = .slice (some ⟨g, 0, none⟩) ps.length ps.length ∧ B ≤ g ∧ Blk W g 5 (encB ps).toArray

/-- Between two pieces: the row, its variable, how many are wanted. -/
structure CpI (w : World) (k b5 b7 g : Nat) (acc : List Int) (W : World) : Prop where
  row : ∃ cs : Array Value, Blk W g 5 cs ∧ cs.size = k ∧ ∀ (i : Nat) (z : Int), acc[i]? = some z → cs[i]? = some (Value.int .u8 z)
  bo5 : Boxed W b5 3 (.int .i64 (k : Int))
  bo7 : Boxed W b7 31 (.slice (some ⟨g, 0, none⟩) acc.length k)
  kc : Kc No2 w W

section
variable {w : World} {B c : Nat} {t : TypeId} {L : List Lk}
theorem CpI.chR {k b5 b7 g N : Nat} {acc : List Int} {X Y : World} (h : CpI w k b5 b7 g acc X) (hc : ChR N X Y) (hN : w.heap.size ≤ N) : CpI w k b5 b7 g acc Y := by
  obtain ⟨⟨cs, h1, h2⟩, h3, h4, h5⟩ := h
  exact ⟨⟨cs, h1.chR hc, h2⟩, boxed_chR h3 hc, boxed_chR h4 hc, h5.chR hc hN⟩
theorem Cn.src_pc {W : World} {f : Nat} {p : Pc} (h : Cn W B t c L) (hp : p ∈ pcs f 0 L) : Src W No2 (some ⟨p.g, p.off, none⟩) p.bs.length p.bs.length p.bs ∧ 0 < p.bs.length := by
  obtain ⟨x, hx, j, hj, e1, e2, e3⟩ := pcs_mem f L 0 p hp
  obtain ⟨nx, hl⟩ := h.lks.mem hx
  obtain ⟨cs, d1, d2, d3⟩ := hl.dat
  have hpos := pcs_pos f L 0 p hp
  have hb := hl.big
  have hf := hl.fit
  have hlen : p.bs.length ≤ 1048576 := by rw [e3, List.length_drop]; omega
  refine ⟨⟨rfl, Nat.le_refl _, by omega, (fun e => by cases e), (fun a e _ => by cases e; rfl), fun _ => ⟨p.g, p.off, rfl, by rw [e1]; exact d1.lt, fun i z hz => ⟨fun e => e, ?_⟩⟩⟩, hpos⟩
  rw [e3, List.getElem?_drop] at hz
  rw [e1, e2, d1.cell, Nat.add_assoc]
  exact d3 _ z hz
set_option maxRecDepth 100000 in
set_option maxHeartbeats 8000000 in
theorem copied_any (h : Cn w B t c L) (f k : Nat) (hk : 0 < k) (hfk : f + k ≤ (flat L).length) :
    Calls Try.prog 46 #[.pointer (some ⟨c, 0, none⟩), .int .i64 (f : Int), .int .i64 (k : Int)] w fun e w' => ∃ v, e = .returned v ∧ RowB w' w.heap.size v (((flat L).drop f).take k) ∧ Kept (fun _ => False) w w' := by
  have hle := h.le
  obtain ⟨Z, hZ⟩ : ∃ Z, Z = (encB (List.replicate k 0)).toArray := ⟨_, rfl⟩
  have hmk : ∀ U : World, (Instr.makeSlice 31 (.int .i64 0) (.int .i64 (k : Int))).run Try.prog U = .ok (.slice (some ⟨U.heap.size, 0, none⟩) 0 k) (U.alloc (.cells (encB (List.replicate k 0)).toArray 5)) := make_run 0 k (by omega) (by omega)
  rw [← hZ] at hmk
  have HZ := Lib.hid hZ
  have H := Lib.hid h
  clear hZ h
  refine (callsIn_wide (n := 5)).1 ?_
  refine callsIn_of_wp_marks Try.func46 rfl trivial ?_ rfl
  simp only [Try.ntmps46, List.size_toArray, List.length_cons, List.length_nil, Nat.reduceAdd, Nat.reduceSub, Array.replicate_succ, Array.replicate_zero, List.push_toArray, List.append_toArray, List.nil_append, List.cons_append]
  gi_wp2
  refine wpIn_wide.2 (wp_scope_straight ((wpIn_wide (n := 5)).1 ?_))
  gi_wp2
  refine wpIn_label ?_
  gi_wp2_with (refine ⟨trivial, ?_⟩; gi_at_call 39; refine (callsIn_wide.2 (pieces_call _ c f)).mono ?_; rintro e w' ⟨rfl, rfl⟩)
  obtain ⟨V, hV⟩ : ∃ V, V = ((((w.alloc (.cells #[.int .i64 (k : Int)] 3)).alloc (.cells Z 5)).alloc (.cells #[.slice (some ⟨w.heap.size + 1, 0, none⟩) 0 k] 31)).alloc (.cells #[.pointer (some ⟨c, 0, none⟩)] 82)).alloc (.cells #[.int .i64 (f : Int)] 3) := ⟨_, rfl⟩
  have hkV : Kept (fun _ => False) w V := by rw [hV]; exact (((((Kept.refl _ w).alloc _).alloc _).alloc _).alloc _).alloc _
  have hVz : V.heap.size = w.heap.size + 5 := by rw [hV]; simp
  have v5 : Boxed V w.heap.size 3 (.int .i64 (k : Int)) := by rw [hV]; exact ((((Boxed.new w _ _).alloc _).alloc _).alloc _).alloc _
  have vr : Blk V (w.heap.size + 1) 5 Z := by
    rw [hV]
    have := (((Blk.new (w.alloc (.cells #[.int .i64 (k : Int)] 3)) 5 Z).alloc (.cells #[.slice (some ⟨w.heap.size + 1, 0, none⟩) 0 k] 31)).alloc (.cells #[.pointer (some ⟨c, 0, none⟩)] 82)).alloc (.cells #[.int .i64 (f : Int)] 3)
    simpa using this
  have v7 : Boxed V (w.heap.size + 1 + 1) 31 (.slice (some ⟨w.heap.size + 1, 0, none⟩) 0 k) := by
    rw [hV]
    have := ((Boxed.new ((w.alloc (.cells #[.int .i64 (k : Int)] 3)).alloc (.cells Z 5)) 31 (.slice (some ⟨w.heap.size + 1, 0, none⟩) 0 k)).alloc (.cells #[.pointer (some ⟨c, 0, none⟩)] 82)).alloc (.cells #[.int .i64 (f : Int)] 3)
    simpa using this
  have vL : Boxed V (w.heap.size + 1 + 1 + 1) 82 (.pointer (some ⟨c, 0, none⟩)) := by
    rw [hV]
    have := (Boxed.new (((w.alloc (.cells #[.int .i64 (k : Int)] 3)).alloc (.cells Z 5)).alloc (.cells #[.slice (some ⟨w.heap.size + 1, 0, none⟩) 0 k] 31)) 82 (.pointer (some ⟨c, 0, none⟩))).alloc (.cells #[.int .i64 (f : Int)] 3)
    simpa using this
  have vF : Boxed V (w.heap.size + 1 + 1 + 1 + 1) 3 (.int .i64 (f : Int)) := by
    rw [hV]
    have := Boxed.new ((((w.alloc (.cells #[.int .i64 (k : Int)] 3)).alloc (.cells Z 5)).alloc (.cells #[.slice (some ⟨w.heap.size + 1, 0, none⟩) 0 k] 31)).alloc (.cells #[.pointer (some ⟨c, 0, none⟩)] 82)) 3 (.int .i64 (f : Int))
    simpa using this
  rw [← hV]
  have h := H.out
  have hZ := HZ.out
  have hcV := h.kept hkV
  have hFh : ∀ i, Fh c L i → i < w.heap.size := fun i hi => (Hold.of h).lt hi
  clear hV
  refine rangeFunc_o (n := 5) (by omega) (gf := 50) (lb := #[.pointer (some ⟨w.heap.size + 1 + 1 + 1, 0, none⟩), .pointer (some ⟨w.heap.size + 1 + 1 + 1 + 1, 0, none⟩)]) rfl (enters_of Try.func50 (by kernel_rfl) rfl)
    (encs := encQ) TC (fun i => Fh c L i ∨ i = w.heap.size + 1 + 1 + 1 ∨ i = w.heap.size + 1 + 1 + 1 + 1)
    (pieces_o 4 (by omega) (Hold.of hcV) _ _ vL vF (by omega) hle TC _ V.heap.size ⟨by omega, .inr (.inl rfl)⟩ ⟨by omega, .inr (.inr rfl)⟩ (fun i hi => ⟨by have := hFh i hi; omega, .inl hi⟩)) (fun _ => rfl)
    (fun pre W => CpI w k w.heap.size (w.heap.size + 1 + 1) (w.heap.size + 1) (gath pre) W ∧ (gath pre).length < k)
    (fun cd pre W => cd = .exit 0 ∧ CpI w k w.heap.size (w.heap.size + 1 + 1) (w.heap.size + 1) ((gath pre).take k) W ∧ k ≤ (gath pre).length)
    (fun s X Y hi hc => ⟨hi.1.chR hc (by omega), hi.2⟩) (fun _ s X Y hi hc => ⟨hi.1, hi.2.1.chR hc (by omega), hi.2.2⟩) ⟨⟨⟨Z, vr, by rw [hZ]; simp [encB_length], fun i z hz => by simp [gath] at hz⟩, v5, by simpa [gath] using v7, Kc.of_kept hkV⟩, by simpa [gath] using hk⟩ ?round ?done ?stop
  case round =>
    rintro l pre p W hz ⟨hI, hlt⟩ ⟨r, hr⟩
    have HI := Lib.hid (And.intro hI (And.intro hlt hr))
    clear hI hlt hr v5 vr v7 vL vF hcV
    simp only [encQ]
    gi_wp2_with fail
    refine ⟨KeepsFrom.of_kc (Kc.refl No2 W), KpO.of_kc (Kc.refl No2 W) (fun _ _ _ _ e => e), fun W2 hc => ?_⟩
    obtain ⟨hI, hlt, hr⟩ := HI.out
    have hI2 := hI.chR hc (by omega)
    have hcW : Cn W2 B t c L := h.kc (D := No2) hI2.kc (fun _ _ _ e => e)
    obtain ⟨hsrc, hpos⟩ := hcW.src_pc (f := f) (p := p) (by rw [← hr]; simp)
    obtain ⟨⟨cs, r1, r2, r3⟩, i5, i7, ik⟩ := hI2
    obtain ⟨al, hal⟩ : ∃ al, al = (gath pre).length := ⟨_, rfl⟩
    obtain ⟨n, hn⟩ : ∃ n, n = p.bs.length := ⟨_, rfl⟩
    obtain ⟨m, hm⟩ : ∃ m, m = min n (k - al) := ⟨_, rfl⟩
    rw [← hal] at hlt i7
    rw [← hn] at hsrc hpos ⊢
    obtain ⟨hcut, hs2⟩ := hsrc.left (m := m) (by omega)
    obtain ⟨W4, hap, hw⟩ := app_room (W := W2.drew) (g := w.heap.size + 1) (o := 0) (len := al) (cap := k) (r1.same rfl) (by omega) (by omega) (hs2.kept ((Kept.refl _ W2).drew))
    have c5 := i5.cell
    have c7 := i7.cell
    have l5 := i5.lt
    have l7 := i7.lt
    have hcutx := hcut W2.drew
    have e1 : IntKind.i64.wrap ((k : Int) - (al : Int)) = ((k - al : Nat) : Int) := by rw [IntWalk.i64_in _ (by omega)]; omega
    have e2 : (if k - al < n then ((k - al : Nat) : Int) else (n : Int)) = (m : Int) := by split <;> omega
    have HW := Lib.hid (And.intro hw (And.intro r1 (And.intro r2 (And.intro r3 (And.intro i5 (And.intro i7 (And.intro ik hc)))))))
    have HN := Lib.hid (And.intro hal (And.intro hn (And.intro hm (And.intro hlt hpos))))
    have HR := Lib.hid hr
    have HAp := Lib.hid hap
    have HCl := Lib.hid (And.intro hcW hs2.len)
    clear hI hlt hr hcW hsrc hpos r1 r2 r3 i5 i7 ik hal hn hm hcut hs2 hap hw hc
    gi_wp2_with fail
    refine wpIn_region_tail 10 (by kernel_rfl) (by kernel_rfl) (by kernel_rfl) ?_
    simp only [List.take_succ_cons, List.take_zero, List.drop_succ_cons, List.drop_zero]
    repeat still_step
    refine wpStill_nil ?_
    refine wpList_app_eq rfl _ _ rfl (.slice (some ⟨w.heap.size + 1, 0, none⟩) al k) (.slice (some ⟨p.g, p.off, none⟩) m n) (.slice (some ⟨w.heap.size + 1, 0, none⟩) (al + m) k) rfl rfl HAp.out ?_
    obtain ⟨hw, r1, r2, r3, i5, i7, ik, hc⟩ := HW.out
    have hk4 : Kept (fun i => i = w.heap.size + 1) W2 W4 := (Kept.refl _ W2).drew.trans (hw.k.kept.mono fun i _ ⟨j, e⟩ => e.1)
    have i5' : Boxed W4 w.heap.size 3 (.int .i64 (k : Int)) := (hk4.block _ i5.lt (by omega)).trans i5
    have i7' : Boxed W4 (w.heap.size + 1 + 1) 31 (.slice (some ⟨w.heap.size + 1, 0, none⟩) al k) := (hk4.block _ i7.lt (by omega)).trans i7
    have d7 := i7'.cell
    have df := i7'.frozen
    have d5 := i5'.cell
    have dl := i7'.lt
    have dl5 := i5'.lt
    have hne : w.heap.size ≠ w.heap.size + 1 + 1 := by omega
    have HD := Lib.hid (And.intro hk4 (And.intro i5' i7'))
    clear hw r1 r2 r3 i5 i7 ik hc hk4 i5' i7'
    go_wp2_with fail
    simp only [endsN]
    have HE := Lib.hid (show CpI w k w.heap.size (w.heap.size + 1 + 1) (w.heap.size + 1) (gath pre ++ p.bs.take m) (W4.setCell ⟨w.heap.size + 1 + 1, 0, none⟩ (.slice (some ⟨w.heap.size + 1, 0, none⟩) (al + m) k)) ∧
        KeepsFrom V.heap.size W2 (W4.setCell ⟨w.heap.size + 1 + 1, 0, none⟩ (.slice (some ⟨w.heap.size + 1, 0, none⟩) (al + m) k)) ∧ KpO TC V.heap.size (fun i => Fh c L i ∨ i = w.heap.size + 1 + 1 + 1 ∨ i = w.heap.size + 1 + 1 + 1 + 1) W2 (W4.setCell ⟨w.heap.size + 1 + 1, 0, none⟩ (.slice (some ⟨w.heap.size + 1, 0, none⟩) (al + m) k)) from by
      obtain ⟨hw, r1, r2, r3, i5, i7, ik, hc⟩ := HW.out
      obtain ⟨hk4, i5', i7'⟩ := HD.out
      obtain ⟨hal, hn, hm, hlt, hpos⟩ := HN.out
      obtain ⟨hcW, hml⟩ := HCl.out
      obtain ⟨cs', q1, q2, q3, q4⟩ := hw.row
      have k4 : Kc (fun j i => j = w.heap.size + 1 ∨ j = w.heap.size + 1 + 1) W2 W4 := (Kc.refl _ W2).drew.trans (hw.k.mono fun i j _ e => .inl e.1)
      have kk := k4.setCell (p := ⟨w.heap.size + 1 + 1, 0, none⟩) i7' rfl (fun _ => .inr rfl) (.slice (some ⟨w.heap.size + 1, 0, none⟩) (al + m) k)
      refine ⟨⟨⟨cs', q1.far (p := ⟨w.heap.size + 1 + 1, 0, none⟩) (by simp) _, by rw [q2, r2], fun i z hi => ?_⟩, (Below.heap_setCell _ _ _ _ (by simp; omega)).trans i5', ?_, ?_⟩, KeepsFrom.of_kc kk, KpO.of_kc kk fun j hj hp i e => ?_⟩
      · by_cases hil : i < al
        · rw [List.getElem?_append_left (by omega)] at hi
          rw [q4 i (by omega)]; exact r3 i z hi
        · rw [List.getElem?_append_right (by omega)] at hi
          have := q3 (i - (gath pre).length) z hi
          rw [← hal, show 0 + al + (i - al) = i by omega] at this
          exact this
      · have hlen : (gath pre ++ p.bs.take m).length = al + m := by rw [List.length_append, hml, hal]
        rw [hlen]
        have hb : Blk W4 (w.heap.size + 1 + 1) 31 #[.slice (some ⟨w.heap.size + 1, 0, none⟩) al k] := i7'
        have := hb.set_ 0 (.slice (some ⟨w.heap.size + 1, 0, none⟩) (al + m) k)
        simpa [Boxed, Blk] using this
      · exact ik.andThen kk fun i j hi e => by omega
      · have h1 := H.out
        have : ∀ x, Fh c L x → x < w.heap.size := fun x hx => (Hold.of h1).lt hx
        rcases hp with hp | hp | hp
        · have := this j hp; omega
        · omega
        · omega)
    have HG := Lib.hid (show (gath (pre ++ [p])).length = al + n ∧ (gath (pre ++ [p])).take k = gath pre ++ p.bs.take m ∧ (m = n → gath (pre ++ [p]) = gath pre ++ p.bs.take m) from by
      obtain ⟨hal, hn, hm, hlt, hpos⟩ := HN.out
      have e : gath (pre ++ [p]) = gath pre ++ p.bs := by rw [gath_append]; simp [gath]
      refine ⟨by rw [e, List.length_append, hal, hn], ?_, fun h => by rw [e, h, hn, List.take_length]⟩
      rw [e, List.take_append, List.take_of_length_le (by omega), ← hal]
      congr 1
      by_cases h : n ≤ k - al
      · rw [List.take_of_length_le (by omega), show m = p.bs.length by omega, List.take_length]
      · rw [show m = k - al by omega])
    by_cases hfin : al + m = k
    · have b1 : decide (((al + m : Nat) : Int) = (k : Int)) = true := by simp; omega
      have b2 : (al : Int) + (m : Int) = (k : Int) := by omega
      have HF := Lib.hid hfin
      clear hfin
      gi_wp2_with fail
      have := HF.out
      obtain ⟨hal, hn, hm, hlt, hpos⟩ := HN.out
      exact ⟨HE.out.2.1, HE.out.2.2, rfl, by rw [HG.out.2.1]; exact HE.out.1, by rw [HG.out.1]; omega⟩
    · have b2 : ¬ (al : Int) + (m : Int) = (k : Int) := by omega
      have b3 : ¬ al + m = k := hfin
      gi_wp2_with fail
      obtain ⟨hal, hn, hm, hlt, hpos⟩ := HN.out
      have hmn : m = n := by omega
      exact ⟨HE.out.2.1, HE.out.2.2, by rw [HG.out.2.2 hmn]; exact HE.out.1, by rw [HG.out.1]; omega⟩
  case done =>
    rintro xs W rfl ⟨hI, hlt⟩ hD hz
    rw [pcs_gath, List.length_drop] at hlt
    omega
  case stop =>
    rintro cd pre W ⟨r, hr⟩ ⟨rfl, hI, hlen⟩ hD hz
    have hacc : (gath pre).take k = ((flat L).drop f).take k := by
      have := pcs_gath f L 0
      rw [Nat.sub_zero, ← hr, gath_append] at this
      rw [← this, List.take_append_of_le_length hlen]
    have hal : ((gath pre).take k).length = k := by rw [List.length_take]; omega
    have HE := Lib.hid (show ∀ W', ChO w.heap.size W W' → RowB W' w.heap.size (.slice (some ⟨w.heap.size + 1, 0, none⟩) k k) (((flat L).drop f).take k) ∧ Kept (fun _ => False) w W' from fun W' hc => by
      have hI' := hI.chR hc.toR (by omega)
      obtain ⟨⟨cs, r1, r2, r3⟩, _, _, ik⟩ := hI'
      rw [hacc] at r3 hal
      refine ⟨.inr ⟨w.heap.size + 1, by rw [hal], by omega, ?_⟩, ik.quiet fun _ _ _ e => e⟩
      have : cs = (encB (((flat L).drop f).take k)).toArray := by
        refine Array.ext_getElem? fun i => ?_
        by_cases hi : i < (((flat L).drop f).take k).length
        · rw [r3 i _ (List.getElem?_eq_getElem hi)]
          simp only [List.getElem?_toArray, encB_get]
          rw [List.getElem?_eq_getElem hi]; rfl
        · rw [Array.getElem?_eq_none (by omega)]
          simp only [List.getElem?_toArray, encB_get]
          rw [List.getElem?_eq_none (by omega)]; rfl
      rw [← this]; exact r1)
    have h7 := hI.bo7
    rw [hal] at h7
    have c7 := h7.cell
    have l7 := h7.lt
    clear hI hacc hal h7 v5 vr v7 vL vF hcV hr hlen
    gi_wp2_with fail
    rw [Exit.noGoto_ret]
    exact leaves_marks w.heap.size [V.heap.size] W (by simp) (fun D hD' => by simp at hD'; subst hD'; exact ⟨by omega, hD⟩) (fun W' hc => ⟨_, results_tmp rfl _ _ _, .slice (some ⟨w.heap.size + 1, 0, none⟩) k k, rfl, HE.out W' hc⟩)

theorem RowB.lt {W : World} {B' : Nat} {v : Value} {ps : List Int} (h : RowB W B' v ps) {k : Nat} (hk : v.ownBlock = some k) : k < W.heap.size ∧ B' ≤ k := by
  rcases h with ⟨rfl, _⟩ | ⟨g, rfl, hB, hg⟩
  · cases hk
  · cases hk; exact ⟨hg.lt, hB⟩
theorem RowB.same {W W' : World} {B' : Nat} {v : Value} {ps : List Int} (h : RowB W B' v ps) (e : ∀ k, v.ownBlock = some k → W'.heap[k]? = W.heap[k]?) : RowB W' B' v ps := by
  rcases h with h | ⟨g, rfl, hB, hg⟩
  · exact .inl h
  · exact .inr ⟨g, rfl, hB, hg.same (e g rfl)⟩
theorem RowB.form {W : World} {B' : Nat} {v : Value} {ps : List Int} (h : RowB W B' v ps) : ∃ A, v = .slice A ps.length ps.length ∧ (A.map (·.block) = v.ownBlock) := by
  rcases h with ⟨rfl, rfl⟩ | ⟨g, rfl, _, _⟩
  · exact ⟨none, rfl, rfl⟩
  · exact ⟨_, rfl, rfl⟩
theorem RowB.kept {W W' : World} {B' : Nat} {v : Value} {ps : List Int} (h : RowB W B' v ps) (k : Kept (fun _ => False) W W') : RowB W' B' v ps := h.same fun i e => k.block i (h.lt e).1 (fun e => e)
theorem RowB.mc {W W' w0 : World} {v : Value} {ps : List Int} {D D' : Nat → Nat → Prop} (h : RowB W w0.heap.size v ps) (m : Mc W W' D D') (hD : ∀ k i, D k i → k < w0.heap.size) : RowB W' w0.heap.size v ps :=
  h.same fun k e => m.k.same (h.lt e).1 fun j hd => by have := hD k j hd; have := (h.lt e).2; omega
/-- Such a slice may be read. -/
theorem RowB.src {W : World} {B' : Nat} {v : Value} {ps : List Int} {D : Nat → Nat → Prop} (h : RowB W B' v ps) (hl : ps.length ≤ 9223372036854775807) (hD : ∀ k i, D k i → v.ownBlock ≠ some k) : ∃ A, v = .slice A ps.length ps.length ∧ Src W D A ps.length ps.length ps := by
  rcases h with ⟨rfl, rfl⟩ | ⟨g, rfl, hB, hg⟩
  · exact ⟨none, rfl, Src.nl W D⟩
  · refine ⟨_, rfl, rfl, Nat.le_refl _, hl, (fun e => by cases e), (fun a e _ => by cases e; rfl), fun _ => ⟨g, 0, rfl, hg.lt, fun i z hz => ⟨fun e => hD g _ e rfl, ?_⟩⟩⟩
    rw [Nat.zero_add, hg.cell]
    simp [encB, hz]

/-- Copy. -/
def cpy (bs : List Int) (f n : Int) : List Int := if f < 0 then [] else (bs.drop f.toNat).take n.toNat
theorem cpy_cnt (bs : List Int) (f n : Int) : (cpy bs f n).length = cntZ bs.length f n := by
  unfold cpy cntZ
  split
  · rfl
  · rw [List.length_take, List.length_drop]; omega
set_option maxHeartbeats 1000000 in
theorem copy_any (h : Cn w B 29 c L) (f n : Int) (hf : -9223372036854775808 ≤ f ∧ f ≤ 9223372036854775807) (hn : -9223372036854775808 ≤ n ∧ n ≤ 9223372036854775807) : Calls Try.prog 26 #[.pointer (some ⟨c, 0, none⟩), .int .i64 f, .int .i64 n] w fun e w' =>
    ∃ v, e = .returned v ∧ RowB w' w.heap.size v (cpy (flat L) f n) ∧ Kept (fun _ => False) w w' := by
  have HC := Lib.hid (count_any h f n hf hn)
  have l1 := h.blk.lt
  have hcp := cpy_cnt (flat L) f n
  obtain ⟨m, hm⟩ : ∃ m, m = cntZ (flat L).length f n := ⟨_, rfl⟩
  rw [← hm] at HC hcp
  by_cases h0 : m = 0
  · have he : cpy (flat L) f n = [] := List.eq_nil_of_length_eq_zero (by omega)
    rw [h0] at HC
    have HE := Lib.hid he
    clear h hcp hm h0 he
    go_enter Try.func26, Try.ntmps26
    go_wp2_with (go_at_call 42; refine HC.out.mono ?_; rintro e w' ⟨rfl, rfl⟩)
    go_ret
    exact ⟨_, rfl, .inl ⟨rfl, HE.out⟩, Kept.refl _ _⟩
  · have hf0 : 0 ≤ f := by
      unfold cntZ at hm; split at hm <;> omega
    obtain ⟨g, rfl⟩ : ∃ g : Nat, f = (g : Int) := ⟨f.toNat, by omega⟩
    have hcz : m = (min n (((flat L).length : Int) - (g : Int))).toNat := by rw [hm]; unfold cntZ; rw [if_neg (by omega)]
    have HD := Lib.hid (copied_any h g m (by omega) (by omega))
    have he : cpy (flat L) (g : Int) n = ((flat L).drop g).take m := by
      unfold cpy
      rw [if_neg (by omega), Int.toNat_natCast]
      by_cases e : n.toNat ≤ (flat L).length - g
      · rw [show m = n.toNat by omega]
      · rw [List.take_of_length_le (by rw [List.length_drop]; omega), List.take_of_length_le (by rw [List.length_drop]; omega)]
    have HE := Lib.hid he
    have b1 : ((m : Int) == 0) = false := by simp; omega
    have b2 : ¬ (m : Int) = 0 := by omega
    clear h hcp hm h0 hcz he
    go_enter Try.func26, Try.ntmps26
    go_wp2_with (go_at_call 42; refine HC.out.mono ?_; rintro e w' ⟨rfl, rfl⟩)
    refine HD.out.mono ?_
    rintro e w2 ⟨v, rfl, g1, g2⟩
    rw [← HE.out] at g1
    have HG := Lib.hid (And.intro g1 g2)
    clear g1 g2
    go_wp2_with fail
    go_ret
    exact ⟨_, rfl, HG.out⟩
theorem copy_nil (w : World) (f n : Int) (hf : -9223372036854775808 ≤ f ∧ f ≤ 9223372036854775807) (hn : -9223372036854775808 ≤ n ∧ n ≤ 9223372036854775807) : Calls Try.prog 26 #[.pointer none, .int .i64 f, .int .i64 n] w fun e w' => e = .returned (.slice none 0 0) ∧ w = w' := by
  have HC := Lib.hid (count_nil w f n hf hn)
  go_enter Try.func26, Try.ntmps26
  go_wp2_with (go_at_call 42; refine HC.out.mono ?_; rintro e w' ⟨rfl, rfl⟩)
  go_ret
  exact ⟨rfl, rfl⟩

set_option maxHeartbeats 1000000 in
theorem take_any (h : Cn w B 29 c L) (n : Int) (hn : -9223372036854775808 ≤ n ∧ n ≤ 9223372036854775807) : Calls Try.prog 25 #[.pointer (some ⟨c, 0, none⟩), .int .i64 n] w fun e w' =>
    ∃ v, e = .returned v ∧ RowB w' w.heap.size v ((flat L).take n.toNat) ∧ ∃ L', Cn w' B 29 c L' ∧ flat L' = (flat L).drop n.toNat ∧ Mc w w' (Fc c L) (Fc c L') ∧ ∀ k i, Fc c L' k i → v.ownBlock ≠ some k := by
  have HC := Lib.hid (copy_any h 0 n (by omega) hn)
  have H := Lib.hid h
  have hle := h.le
  have hcp : cpy (flat L) 0 n = (flat L).take n.toNat := by unfold cpy; rw [if_neg (by omega)]; simp
  rw [hcp] at HC
  clear h hcp
  go_enter Try.func25, Try.ntmps25
  go_wp2_with fail
  refine HC.out.mono ?_
  rintro e w1 ⟨v, rfl, g1, g2⟩
  obtain ⟨A, hv, _⟩ := g1.form
  obtain ⟨m, hm⟩ : ∃ m, m = ((flat L).take n.toNat).length := ⟨_, rfl⟩
  rw [← hm] at hv
  have hml : m ≤ (flat L).length := by rw [hm, List.length_take]; omega
  have h1 := H.out.kept g2
  have HD := Lib.hid (drain_any h1 (m : Int) (by omega))
  have HG := Lib.hid (And.intro g1 (And.intro g2 (And.intro hv hm)))
  subst hv
  clear g1 g2 hm h1
  go_wp2_with fail
  refine HD.out.mono ?_
  rintro e w2 ⟨rfl, L', k1, k2, k3⟩
  obtain ⟨g1, g2, hv, hm⟩ := HG.out
  have HE := Lib.hid (show RowB w2 w.heap.size (.slice A m m) ((flat L).take n.toNat) ∧ ∃ L', Cn w2 B 29 c L' ∧ flat L' = (flat L).drop n.toNat ∧ Mc w w2 (Fc c L) (Fc c L') ∧ ∀ k i, Fc c L' k i → (Value.slice A m m).ownBlock ≠ some k from
    ⟨g1.mc k3 (fun k i e => H.out.lt e), L', k1, by
      rw [k2, Int.toNat_natCast, hm, List.length_take]
      by_cases e : n.toNat ≤ (flat L).length
      · rw [Nat.min_eq_left e]
      · rw [List.drop_of_length_le (by omega), List.drop_of_length_le (by omega)], (Mc.of_kept g2).trans k3, fun k i hf e => by
        obtain ⟨a1, a2⟩ := g1.lt e
        rcases k3.o k i hf with h | h
        · have := H.out.lt h; omega
        · omega⟩)
  clear g1 g2 hv hm k1 k2 k3
  go_wp2_with fail
  go_ret
  exact ⟨_, rfl, HE.out⟩
theorem drain_nil (w : World) (n : Int) (hn : -9223372036854775808 ≤ n ∧ n ≤ 9223372036854775807) : Calls Try.prog 22 #[.pointer none, .int .i64 n] w fun e w' => e = .returned (.int .i64 0) ∧ w = w' := by
  have HC := Lib.hid (count_nil w 0 n (by omega) hn)
  go_enter Try.func22, Try.ntmps22
  go_wp2_with (go_at_call 42; refine HC.out.mono ?_; rintro e w' ⟨rfl, rfl⟩)
  go_ret
  exact ⟨rfl, rfl⟩
theorem take_nil (w : World) (n : Int) (hn : -9223372036854775808 ≤ n ∧ n ≤ 9223372036854775807) : Calls Try.prog 25 #[.pointer none, .int .i64 n] w fun e w' => e = .returned (.slice none 0 0) ∧ w = w' := by
  have HC := Lib.hid (copy_nil w 0 n (by omega) hn)
  have HD := Lib.hid (drain_nil w 0 (by omega))
  go_enter Try.func25, Try.ntmps25
  go_wp2_with (first
    | (go_at_call 26; refine HC.out.mono ?_; rintro e w' ⟨rfl, rfl⟩)
    | (go_at_call 22; refine HD.out.mono ?_; rintro e w' ⟨rfl, rfl⟩))
  go_ret
  exact ⟨rfl, rfl⟩
end
end Go.Proofs.Ytkhkhjkacibocaa
