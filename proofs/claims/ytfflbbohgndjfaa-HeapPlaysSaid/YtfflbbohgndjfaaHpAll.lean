/-
  The heap's All: a new slice with its items in their order; the heap is as it was.
-/
import Derived.Test.YtfflbbohgndjfaaHpSorted
namespace Go.Proofs.Ytfflbbohgndjfaa
open Go.RowKit Go.Shelf Go.Maps Go.ChangeMaps Go.Sort

theorem OwnIt.more {W : World} {B B' : Nat} {v : Value} {P : List It} (h : OwnIt W B v P) (hB : B' ≤ B) : OwnIt W B' v P := by
  obtain ⟨h1, h2⟩ := h
  refine ⟨h1, ?_⟩
  rcases h2 with h2 | ⟨g, cap, cur, rfl, hg, r⟩
  · exact .inl h2
  · exact .inr ⟨g, cap, cur, rfl, by omega, r⟩

theorem collect_any (w : World) (Bs : Nat) (A : Option Addr) (c : Nat) (P : List It) (hlen : P.length ≤ 100000) (hb : Boxed w Bs 26 (.slice A P.length c)) (hr : 0 < P.length → ∃ g, A = some ⟨g, 0, none⟩ ∧ g < w.heap.size ∧ RowAt w g P) (hA : ∀ k, A.map (·.block) = some k → k < w.heap.size) :
    Calls Try.prog 46 #[.func (.func 48) #[] #[.pointer (some ⟨Bs, 0, none⟩)]] w fun e w' =>
      ∃ v, e = .returned v ∧ OwnIt w' w.heap.size v P ∧ Below w.heap.size w w' := by
  have HA := Lib.hid (appendSeq_any w Bs A c P hlen hb hr hA)
  clear hb hr hA
  go_enter Try.func46, Try.ntmps46
  go_wp2_with fail
  refine HA.out.mono ?_
  rintro e w' ⟨v, rfl, h1, h2⟩
  go_wp2_with fail
  go_ret
  exact ⟨v, rfl, h1, h2⟩

theorem sortedFunc_any (w : World) (Bs : Nat) (A : Option Addr) (c : Nat) (P S : List It) (hs : Srt S) (hp : P.Perm S) (hu : Uniq P) (hlen : P.length ≤ 100000) (hb : Boxed w Bs 26 (.slice A P.length c)) (hr : 0 < P.length → ∃ g, A = some ⟨g, 0, none⟩ ∧ g < w.heap.size ∧ RowAt w g P) (hA : ∀ k, A.map (·.block) = some k → k < w.heap.size) :
    Calls Try.prog 43 #[.func (.func 48) #[] #[.pointer (some ⟨Bs, 0, none⟩)], .func (.func 45) #[] #[]] w fun e w' =>
      ∃ v, e = .returned v ∧ OwnIt w' w.heap.size v S ∧ Below w.heap.size w w' := by
  have HA := Lib.hid (collect_any w Bs A c P hlen hb hr hA)
  have HS := Lib.hid (And.intro hs (And.intro hp hu))
  clear hb hr hA hs hp hu
  go_enter Try.func43, Try.ntmps43
  go_wp2_with fail
  refine HA.out.mono ?_
  rintro e w1 ⟨v, rfl, h1, h2⟩
  go_wp2_with fail
  refine (sort_any h1 HS.out.1 HS.out.2.1 HS.out.2.2 hlen h2.size).mono ?_
  rintro e w2 ⟨rfl, h3, h4⟩
  go_wp2_with fail
  go_ret
  exact ⟨v, rfl, h3, h2.trans h4⟩

theorem sorted_any (w : World) (B q m : Nat) (v : Value) (L S : List It) (hQ : Que w B q m v L) (hs : Srt S) (hp : L.Perm S) :
    Calls Try.prog 38 #[.pointer (some ⟨q, 0, none⟩)] w fun e w' => ∃ u, e = .returned u ∧ OwnIt w' w.heap.size u S ∧ Below w.heap.size w w' := by
  obtain ⟨f, hQ, hpl, hh, hu⟩ := hQ
  obtain ⟨A, c, hv, hvo⟩ := hQ.slice
  have c0 := hQ.blk.cell 0
  simp at c0
  rw [hv] at c0
  have hr : 0 < L.length → ∃ g, A = some ⟨g, 0, none⟩ ∧ g < w.heap.size ∧ RowAt w g L := fun h0 => by
    obtain ⟨g, cap, e, _, hg, _, _, hcell⟩ := hQ.form h0
    rw [hv] at e
    injection e with e
    exact ⟨g, e, hg, hcell⟩
  have hA : ∀ k, A.map (·.block) = some k → k < w.heap.size := fun k e => (own_lt hQ.row (hvo.trans e)).1
  have HX := fun (hb : Boxed (w.alloc (.cells #[.slice A L.length c] 26)) w.heap.size 26 (.slice A L.length c)) => sortedFunc_any _ _ A c L S hs hp hu hQ.len hb
    (fun h0 => by obtain ⟨g, e, hg, hra⟩ := hr h0; exact ⟨g, e, by simp; omega, hra.same (Below.heap_alloc _ _ _ hg)⟩) (fun k e => by have := hA k e; simp; omega)
  have HX := Lib.hid (HX (Boxed.new w _ _))
  clear hr hA hQ hpl hh hu hs hp hv
  go_enter Try.func38, Try.ntmps38
  go_wp2_with fail
  refine (values_any A L.length c w).mono ?_
  rintro e w1 ⟨rfl, rfl⟩
  go_wp2_with fail
  refine HX.out.mono ?_
  rintro e w2 ⟨u, rfl, h1, h2⟩
  have hend := Lib.hid (show OwnIt w2 w.heap.size u S ∧ Below w.heap.size w w2 from ⟨h1.more (by simp), ((Below.refl _ w).alloc (Nat.le_refl _) _).trans (h2.mono (by simp))⟩)
  clear h1 h2
  go_wp2_with fail
  go_ret
  exact ⟨u, rfl, hend.out⟩

theorem all_any {w : World} {B h q m : Nat} {v : Value} {S : List It} (H : Hp w B h q m v S) : Calls Try.prog 25 #[.pointer (some ⟨h, 0, none⟩)] w fun e w' => ∃ u, e = .returned u ∧ OwnIt w' w.heap.size u S ∧ Below w.heap.size w w' := by
  obtain ⟨L, hq, hpm⟩ := id H.que
  have hM := Lib.hid (made_yes w h q H.hb)
  have c0 := H.hb.cell 0
  simp at c0
  have HX := Lib.hid (sorted_any w B q m v L S hq H.srt hpm)
  clear hq hpm H
  go_enter Try.func25, Try.ntmps25
  go_wp2_with (go_at_call 30; refine hM.out.mono ?_; rintro e w' ⟨rfl, rfl⟩)
  refine HX.out.mono ?_
  rintro e w2 ⟨u, rfl, h1, h2⟩
  go_wp2_with fail
  go_ret
  exact ⟨u, rfl, h1, h2⟩
theorem all_zero (w : World) (h : Nat) (c0 : w.cell? ⟨h, 0, none⟩ = some (.pointer none)) : Calls Try.prog 25 #[.pointer (some ⟨h, 0, none⟩)] w fun e w' => e = .returned (.slice none 0 0) ∧ w = w' := by
  have hM := Lib.hid (made_zero w h c0)
  go_enter Try.func25, Try.ntmps25
  go_wp2_with (go_at_call 30; refine hM.out.mono ?_; rintro e w' ⟨rfl, rfl⟩)
  go_ret
  exact ⟨rfl, rfl⟩
end Go.Proofs.Ytfflbbohgndjfaa
