/-
  The reference's Due.
-/
import Derived.Test.YtncdohbdmpfefaaCoRefAll
namespace Go.Proofs.Ytncdohbdmpfefaa
open Go.RowKit Go.Maps Go.ChangeMaps Go.Shelf Go.Sort

theorem drop_gt {now : Int} : ∀ {l : List It}, Srt l → ∀ y ∈ l.dropWhile (fun x => decide (x.d ≤ now)), now < y.d
  | [], _, y, h => by simp at h
  | x :: l, hs, y, h => by
    unfold Srt at hs
    rw [List.pairwise_cons] at hs
    by_cases hx : x.d ≤ now
    · rw [List.dropWhile_cons_of_pos (by simpa using hx)] at h
      exact drop_gt hs.2 y h
    · rw [List.dropWhile_cons_of_neg (by simpa using hx)] at h
      rcases List.mem_cons.1 h with rfl | h
      · omega
      · have := srt_d (hs.1 y h); omega
theorem cutAll_subl : ∀ (D : List It) (L : List En), (cutAll D L).Sublist L
  | [], L => List.Sublist.refl L
  | x :: D, L => (cutAll_subl D (cutL x.id L)).trans List.filter_sublist
theorem RefQ.lt {B r : Nat} {L : List En} {T : List Int} {nx : Int} {W : World} {O : Nat → Prop} (h : RefQ B r L T nx W O) {i : Nat} (hi : O i) : i < W.heap.size ∧ B ≤ i := by
  obtain ⟨vl, vq, vc, R, ho⟩ := h
  exact R.lt ((ho i).1 hi)

/-- While Due collects. -/
structure DuT (w W : World) (B r : Nat) (O0 O : Nat → Prop) (L : List En) (T : List Int) (nx : Int) (va : Value) (D0 : List It) (u : Value) (P : List It) : Prop where
  q : RefQ B r L T nx W O
  mv : Mv w W O0 O
  Oa : rowI.own W w.heap.size va D0
  Ou : rowI.own W w.heap.size u P
  ap : ∀ i, va.ownBlock = some i → u.ownBlock ≠ some i
  na : ∀ i, va.ownBlock = some i → ¬ O i
  nu : ∀ i, u.ownBlock = some i → ¬ O i
section
variable {w W W1 W2 : World} {B r : Nat} {O0 O O2 : Nat → Prop} {L L2 : List En} {T : List Int} {nx : Int} {va u u1 : Value} {D0 P P1 : List It} {o : Obj}
theorem DuT.app (h : DuT w W B r O0 O L T nx va D0 u P) (hg : (W.alloc o).grownBy W1 u.ownBlock) (O1 : rowI.own W1 w.heap.size u1 P1) (ho : u1.ownBlock = u.ownBlock ∨ u1.ownBlock = some (W.alloc o).heap.size) : DuT w W1 B r O0 O L T nx va D0 u1 P1 := by
  have hz : W.heap.size ≤ W1.heap.size := by have := hg.size; simp at this; omega
  refine ⟨refQ_stable _ _ _ _ _ W W1 O h.q (fun i hi => RowK.grown_far hg (h.q.lt hi).1 (fun e => h.nu i e hi)) hz, ⟨(h.mv.k.alloc o).grown hg (fun k e hk => by have := (RowK.own_lt h.Ou e).2; omega), h.mv.o⟩, RowK.own_same h.Oa (fun i e => RowK.grown_far hg (RowK.own_lt h.Oa e).1 (fun e2 => h.ap i e e2)), O1, fun i e e2 => ?_, h.na, fun i e hi => ?_⟩
  · rcases ho with h1 | h1
    · exact h.ap i e (h1 ▸ e2)
    · rw [h1] at e2
      have := (RowK.own_lt h.Oa e).1
      simp at e2; omega
  · rcases ho with h1 | h1
    · exact h.nu i (h1 ▸ e) hi
    · rw [h1] at e
      have := (h.q.lt hi).1
      simp at e; omega
theorem DuT.cut (h : DuT w W B r O0 O L T nx va D0 u P) (hq : RefQ B r L2 T nx W2 O2) (m : Mv W W2 O O2) : DuT w W2 B r O0 O2 L2 T nx va D0 u P := by
  refine ⟨hq, h.mv.trans m, RowK.own_same h.Oa (fun i e => m.k.block i (RowK.own_lt h.Oa e).1 (h.na i e)), RowK.own_same h.Ou (fun i e => m.k.block i (RowK.own_lt h.Ou e).1 (h.nu i e)), h.ap, fun i e hi => ?_, fun i e hi => ?_⟩
  · rcases m.o i hi with h1 | h1
    · exact h.na i e h1
    · have := (RowK.own_lt h.Oa e).1; omega
  · rcases m.o i hi with h1 | h1
    · exact h.nu i e h1
    · have := (RowK.own_lt h.Ou e).1; omega
end

set_option maxHeartbeats 8000000 in
set_option maxRecDepth 100000 in
theorem rdue_any {w : World} {B r : Nat} {L : List En} {T : List Int} {nx : Int} {O0 : Nat → Prop} (H : RefQ B r L T nx w O0) (hI : CInv L T nx) (now : Int) :
    Calls Try.prog 16 #[.pointer (some ⟨r, 0, none⟩), .int .u64 now] w fun e w' => ∃ v O', e = .returned v ∧ rowI.own w' w.heap.size v (dueD now (xs L)) ∧ RefQ B r (cutAll (dueD now (xs L)) L) T nx w' O' ∧ (∀ i, v.ownBlock = some i → ¬ O' i) ∧ Mv w w' O0 O' := by
  have HA := Lib.hid (rall_any H hI)
  have H0 := Lib.hid (And.intro H hI)
  obtain ⟨D, eD⟩ : ∃ D, D = dueD now (xs L) := ⟨_, rfl⟩
  obtain ⟨E, eE⟩ : ∃ E, E = (ord (xs L)).dropWhile fun x => decide (x.d ≤ now) := ⟨_, rfl⟩
  have hDE : D ++ E = ord (xs L) := by rw [eD, eE]; exact due_split
  have hEg : ∀ y ∈ E, now < y.d := by rw [eE]; exact drop_gt (ord_srt hI.uniq)
  have hDl : ∀ y ∈ D, y.d ≤ now := by rw [eD]; exact take_le _
  have hln : D.length ≤ 1000 ∧ (D ++ E).length ≤ 1000 := by
    have h1 : (D ++ E).length = L.length := by rw [hDE, ord_len, xs_len]
    have h2 := hI.len
    constructor
    · rw [List.length_append] at h1; omega
    · omega
  rw [← eD]
  rw [← hDE] at HA
  have HD := Lib.hid (And.intro hEg (And.intro hDl hln))
  obtain ⟨D0, eD0⟩ : ∃ D0, D0 = D ++ E := ⟨_, rfl⟩
  rw [← eD0] at HA
  have HE := Lib.hid eD0
  have hl0 : (D0.length : Int) ≤ 1000 := by rw [eD0]; omega
  clear H hI eD eE hDE hEg hDl hln eD0
  go_enter Try.func16, Try.ntmps16
  go_wp2_with fail
  refine HA.out.mono ?_
  rintro e w1 ⟨va, rfl, hO, hb⟩
  obtain ⟨Aa, ca, rfl, -, -⟩ := RowK.own_shows hO
  have G0 := Lib.hid (show DuT w w1 B r O0 O0 (cutAll (D.take 0) L) T nx (.slice Aa D0.length ca) D0 (.slice none 0 0) (D.take 0) from
    ⟨refQ_stable _ _ _ _ _ w w1 O0 H0.out.1 (fun i hi => hb.block i (H0.out.1.lt hi).1) hb.size, Mv.of_kept (Kept.of_below hb), hO, RowK.own_nil _ _, (fun i _ e => by cases e), (fun i e hi => by have := (RowK.own_lt hO e).2; have := (H0.out.1.lt hi).1; omega), (fun i e => by cases e)⟩)
  clear hO hb
  go_wp2_with fail
  go_loopw [6, 7] (fun u i wr => ∃ (k : Nat) (O : Nat → Prop), i = .int .i64 (k : Int) ∧ k ≤ D0.length ∧ DuT w wr B r O0 O (cutAll (D.take k) L) T nx (.slice Aa D0.length ca) D0 u (D.take k)) (fun _ i _ => D0.length - (intOf i).toNat)
  case atStart => exact ⟨0, O0, rfl, Nat.zero_le _, G0.out⟩
  case round =>
    obtain ⟨k, O, rfl, hk, G⟩ := hrel
    obtain ⟨Au, nu, cu, hu⟩ := RowK.own_slice G.Ou
    subst hu
    have HG := Lib.hid G
    by_cases hkl : k < D0.length
    · obtain ⟨x, hx⟩ : ∃ x, D0[k]? = some x := ⟨_, List.getElem?_eq_getElem hkl⟩
      rcases RowK.own_form G.Oa with ⟨_, h0⟩ | ⟨g, c, e, hc, hg, _, hl⟩
      · rw [h0] at hkl; simp at hkl
      obtain ⟨rfl, rfl⟩ : Aa = some ⟨g, 0, none⟩ ∧ ca = c := by injection e with e1 e2 e3; exact ⟨e1, e3⟩
      obtain ⟨x0, x1, x2⟩ := rowI_cells hl hx
      have b0 : (0 : Int) ≤ (k : Int) := by omega
      have b1 : (k : Int) < (D0.length : Int) := by omega
      by_cases hkD : k < D.length
      · have hxD : D[k]? = some x := by rw [HE.out, List.getElem?_append_left hkD] at hx; exact hx
        have hle := HD.out.2.1 x (List.mem_of_getElem? hxD)
        have ht : D.take (k + 1) = D.take k ++ [x] := by rw [List.take_add_one, hxD]; rfl
        have hct : cutAll (D.take (k + 1)) L = cutL x.id (cutAll (D.take k) L) := by rw [ht, cutAll_snoc]
        have HT := Lib.hid (And.intro ht (And.intro hct hx))
        have HC := Lib.hid (fun (W : World) (h : RefQ B r (cutAll (D.take k) L) T nx W O) => rcut_any h (H0.out.2.sub (show (cutAll (D.take k) L).Sublist L from cutAll_subl _ _)).ids (Nat.le_trans (cutAll_subl (D.take k) L).length_le (by have := H0.out.2.len; omega)) x.id)
        clear G hx hxD ht hct hl e
        go_wp2_with (first
          | (at_builtin; refine RowK.append (R := rowI) rfl _ _ rfl w.heap.size _ (D.take k) [x] rfl (RowK.own_alloc HG.out.Ou _) _ 1 1 rfl rfl (RowK.new_shows (R := rowI) wr x _) (fun e => by cases e) (by have := HD.out.2.2.1; have h1 := List.length_take_le k D; simp only [List.length_singleton]; omega) (by have := HG.out.mv.k.size; simp; omega) ?_; intro u1 w2 O1 hg1 ho1; have G1 := Lib.hid (HG.out.app hg1 O1 ho1); obtain ⟨A2, n2, c2, hu1⟩ := RowK.own_slice O1; subst hu1; obtain ⟨x0, gl⟩ := (show w2.cell? ⟨g, k * 3, none⟩ = some (.int .i64 x.id) ∧ g < w2.heap.size from by
              rcases RowK.own_form G1.out.Oa with ⟨e, _⟩ | ⟨g', c', e, _, hg', _, hl⟩
              · cases e
              · obtain rfl : g = g' := by injection e with e1; injection e1 with e1; injection e1
                exact ⟨(rowI_cells hl HT.out.2.2).1, hg'⟩); clear O1 hg1 ho1)
          | fail)
        refine (HC.out _ G1.out.q).mono ?_
        rintro e w3 ⟨rfl, O3, hq3, hm3⟩
        have G3 := Lib.hid (show DuT w w3 B r O0 O3 (cutAll (D.take (k + 1)) L) T nx (.slice (some ⟨g, 0, none⟩) D0.length ca) D0 (.slice A2 n2 c2) (D.take (k + 1)) from by rw [HT.out.2.1, HT.out.1]; exact G1.out.cut hq3 hm3)
        clear hq3 hm3 x0 gl
        go_wp2_with fail
        go_roundw
        case rel => exact ⟨k + 1, O3, by go_num, by omega, G3.out⟩
        case measure => simp [intOf]; omega
      · have hxE : x ∈ E := by rw [HE.out, List.getElem?_append_right (by omega)] at hx; exact List.mem_of_getElem? hx
        have hgt := HD.out.1 x hxE
        have hnl : ¬ x.d ≤ now := by omega
        have ht : D.take (k + 1) = D.take k := by rw [List.take_of_length_le (by omega), List.take_of_length_le (by omega)]
        have HT := Lib.hid ht
        clear G hx hl e ht
        go_wp2_with fail
        go_roundw
        case rel => exact ⟨k + 1, O, by go_num, by omega, by rw [HT.out]; exact HG.out⟩
        case measure => simp [intOf]; omega
    · obtain rfl : k = D0.length := by omega
      have ht : D.take D0.length = D := List.take_of_length_le (by rw [HE.out, List.length_append]; omega)
      rw [ht] at HG
      clear G ht
      go_wp2_with fail
      go_ret
      exact ⟨_, O, rfl, HG.out.Ou, HG.out.q, HG.out.nu, HG.out.mv⟩
end Go.Proofs.Ytncdohbdmpfefaa
