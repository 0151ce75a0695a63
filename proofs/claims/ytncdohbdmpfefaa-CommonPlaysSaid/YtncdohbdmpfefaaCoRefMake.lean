/-
  The reference's Make.
-/
import Derived.Test.YtncdohbdmpfefaaCoRefCut
namespace Go.Proofs.Ytncdohbdmpfefaa
open Go.RowKit Go.Maps Go.ChangeMaps Go.Shelf Go.Sort

set_option maxHeartbeats 4000000 in
set_option maxRecDepth 100000 in
theorem rmake_rs {w : World} {B r : Nat} {vl vq vc : Value} {X : List It} {Q T : List Int} {nx : Int} (R : RS w B r vl vq vc X Q T nx) (h32 : T.length ≤ 32) {t : Int} (ht : U t) :
    Calls Try.prog 18 #[.pointer (some ⟨r, 0, none⟩), .int .u64 t] w fun e w' =>
      e = .returned (.int .i64 (comE T t)) ∧ ∃ u, RS w' B r vl vq u X Q (comT T t) nx ∧ Mv w w' (RO r vl vq vc) (RO r vl vq u) := by
  obtain ⟨Al, cl, Aq, cq, Ac, cc, rfl, rfl, rfl⟩ := R.forms
  have c2 := R.blk.cell 2
  have rl := R.blk.lt
  simp at c2
  have HR := Lib.hid R
  have hB : B ≤ w.heap.size := Nat.le_trans R.hB (Nat.le_of_lt rl)
  by_cases h1 : t = 18446744073709551615
  · have e1 : comE T t = 90 := if_pos (.inl h1)
    have e2 : comT T t = T := if_pos (.inl h1)
    rw [e1, e2]
    subst h1
    clear R e1 e2 ht
    go_enter Try.func18, Try.ntmps18
    go_wp2_with fail
    go_ret
    exact ⟨rfl, _, HR.out, Mv.of_kept (Kept.refl _ _)⟩
  have f1 : (t == 18446744073709551615) = false := by simpa using h1
  by_cases h2 : T.length = 32
  · have e1 : comE T t = 90 := if_pos (.inr (.inr h2))
    have e2 : comT T t = T := if_pos (.inr (.inr h2))
    rw [e1, e2]
    have b1 : (32 : Int) ≤ (T.length : Int) := by omega
    clear R e1 e2 ht h1
    go_enter Try.func18, Try.ntmps18
    go_wp2_with fail
    go_ret
    exact ⟨rfl, _, HR.out, Mv.of_kept (Kept.refl _ _)⟩
  have b1 : ¬ ((32 : Int) ≤ (T.length : Int)) := by omega
  have HT := Lib.hid (And.intro h1 h2)
  clear R h1
  go_enter Try.func18, Try.ntmps18
  go_wp2_with fail
  go_loop [5] (fun i => ∃ k : Nat, i = .int .i64 (k : Int) ∧ k ≤ T.length ∧ t ∉ T.take k) (fun i => T.length - (intOf i).toNat)
  case atStart => exact ⟨0, rfl, Nat.zero_le _, by simp⟩
  case round =>
    obtain ⟨k, rfl, hk, hno⟩ := hrel
    by_cases hkl : k < T.length
    · obtain ⟨y, hy⟩ : ∃ y, T[k]? = some y := ⟨_, List.getElem?_eq_getElem hkl⟩
      have b2 : (0 : Int) ≤ (k : Int) := by omega
      have b3 : (k : Int) < (T.length : Int) := by omega
      rcases RowK.own_form HR.out.rc with ⟨_, rfl⟩ | ⟨g, c, e, hc, hg, _, hl⟩
      · simp at hkl
      obtain rfl : Ac = some ⟨g, 0, none⟩ := by injection e with e1 e2 e3
      have y0 := rowC_cell hl hy
      by_cases hyt : y = t
      · have e0 : t ∈ T := by rw [← hyt]; exact List.mem_of_getElem? hy
        have e1 : comE T t = 90 := if_pos (.inr (.inl e0))
        have e2 : comT T t = T := if_pos (.inr (.inl e0))
        rw [hyt] at y0
        have f2 : (t == t) = true := by simp
        have HE := Lib.hid (And.intro e1 e2)
        clear hl e hy hyt e0 e1 e2 hno
        go_wp2_with fail
        go_ret
        exact ⟨by rw [HE.out.1]; rfl, _, by rw [HE.out.2]; exact HR.out, Mv.of_kept (Kept.refl _ _)⟩
      · have f2 : (y == t) = false := by simpa using hyt
        have HN := Lib.hid (show t ∉ T.take (k + 1) from by
          rw [List.take_add_one, hy]
          intro h
          rcases List.mem_append.1 h with h | h
          · exact hno h
          · simp at h; exact hyt h.symm)
        clear hl e hy hyt hno
        go_wp2_with fail
        go_round
        case rel => exact ⟨k + 1, by go_num, by omega, HN.out⟩
        case measure => simp [intOf]; omega
    · obtain rfl : k = T.length := by omega
      rw [List.take_length] at hno
      have e0 : ¬ (t = 18446744073709551615 ∨ t ∈ T ∨ T.length = 32) := by
        rintro (h | h | h)
        · exact HT.out.1 h
        · exact hno h
        · exact HT.out.2 h
      have HE := Lib.hid (show comE T t = 0 ∧ comT T t = T ++ [t] from ⟨if_neg e0, if_neg e0⟩)
      have HA := Lib.hid (HR.out.alloc (.cells #[.int .u64 t] 29))
      clear e0 hno
      go_wp2_with (at_builtin; refine RowK.append (R := rowC) rfl _ _ rfl B _ _ [t] rfl HA.out.rc _ 1 1 rfl rfl (RowK.new_shows (R := rowC) w t _) (fun e => by cases e) (by simp; omega) (by simp; omega) ?_; intro u1 w1 O1 hg1 ho1; have HJ := Lib.hid (HA.out.growC hg1 ho1 O1); have b3 := HA.out.blk.same (hg1.block r HA.out.blk.lt (fun e => HA.out.nc e.symm)); have d2 := b3.cell 2; have fz := b3.frozen 2; have rl1 := b3.lt; obtain ⟨A3, n3, c3, hu1⟩ := RowK.own_slice O1; subst hu1; clear O1 hg1 ho1 b3)
      go_ret
      exact ⟨by rw [HE.out.1]; rfl, _, by rw [HE.out.2]; exact HJ.out.1, (Mv.of_kept ((Kept.refl _ w).alloc _)).trans HJ.out.2⟩
theorem rmake_any {W : World} {B r : Nat} {L : List En} {T : List Int} {nx : Int} {O : Nat → Prop} (H : RefQ B r L T nx W O) (h32 : T.length ≤ 32) (hq : ∀ e ∈ L, ∀ t, e.q = some t → t ∈ T) {t : Int} (ht : U t) :
    Calls Try.prog 18 #[.pointer (some ⟨r, 0, none⟩), .int .u64 t] W fun e W' => e = .returned (.int .i64 (comE T t)) ∧ ∃ O', RefQ B r L (comT T t) nx W' O' ∧ Mv W W' O O' := by
  obtain ⟨vl, vq, vc, R, ho⟩ := H
  refine (rmake_rs R h32 ht).mono ?_
  rintro e w' ⟨rfl, u, R', hm⟩
  have e1 : qs L T = qs L (comT T t) := by
    unfold comT
    split
    · rfl
    · unfold qs
      refine List.map_congr_left fun e he => ?_
      cases hq' : e.q with
      | none => rfl
      | some s =>
        have := hq e he s hq'
        simp only [qi]
        rw [List.idxOf_append, if_pos this]
  rw [e1] at R'
  exact ⟨rfl, _, ⟨vl, vq, u, R', fun i => Iff.rfl⟩, hm.iff ho⟩
end Go.Proofs.Ytncdohbdmpfefaa
