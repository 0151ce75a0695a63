/-
  New: queues without items.
-/
import Derived.Test.YtlkmmbondelheaaPrCalls
import Derived.Laws.MakeOwn
import Derived.Carry
namespace Go.Proofs.Ytlkmmbondelheaa
open Go.RowKit Go.Maps Go.ChangeMaps

theorem infoPl : (Try.prog.info? 74).map (fun i => (i.zero.isSome, i.size, i.bytes)) = some (true, 6, 48) := by kernel_rfl
theorem mkPl (w : World) (n : Nat) (hn : n ≤ 8) : ∃ cs : Array Value, cs.size = n * 6 ∧ (Instr.makeSlice 68 (.int .i64 (n : Int)) (.int .i64 (n : Int))).run Try.prog w = .ok (.slice (some ⟨w.heap.size, 0, none⟩) n n) (w.alloc (.cells cs 74)) := by
  have h := infoPl
  cases hi : Try.prog.info? 74 with
  | none => rw [hi] at h; simp at h
  | some i =>
    rw [hi] at h
    simp at h
    obtain ⟨h1, h2, h3⟩ := h
    obtain ⟨z, hz⟩ := Option.isSome_iff_exists.1 h1
    have hr := run_makeSlice (P := Try.prog) (w := w) 68 74 i z Try.underlying68 hi hz .i64 .i64 n n (by omega) (Int.le_refl _) (by rw [h2]; omega) (by rw [h3]; omega) (by omega)
    simp only [Int.toNat_natCast] at hr
    exact ⟨_, by rw [size_madeCells, h2], hr⟩

/-- The ends that have been laid so far. -/
def EndsTo (W : World) (g n k : Nat) : Prop := ∃ cs : Array Value, Blk W g 74 cs ∧ cs.size = n * 6 ∧ ∀ j, j < k → cs[j * 6 + 4]? = some (ptr g (.e j)) ∧ cs[j * 6 + 5]? = some (ptr g (.e j))
theorem EndsTo.step {W : World} {g n k : Nat} (h : EndsTo W g n k) (hk : k < n) : EndsTo ((W.setCell ⟨g, k * 6 + 4, none⟩ (ptr g (.e k))).setCell ⟨g, k * 6 + 5, none⟩ (ptr g (.e k))) g n (k + 1) := by
  obtain ⟨cs, hb, hs, hc⟩ := h
  refine ⟨_, (hb.set_ (k * 6 + 4) _).set_ (k * 6 + 5) _, by simpa using hs, fun j hj => ?_⟩
  by_cases e : j = k
  · subst e
    rw [Array.getElem?_setIfInBounds_ne (by omega), Array.getElem?_setIfInBounds_self_of_lt (by omega), Array.getElem?_setIfInBounds_self_of_lt (by simp; omega)]
    exact ⟨rfl, rfl⟩
  · rw [Array.getElem?_setIfInBounds_ne (by omega), Array.getElem?_setIfInBounds_ne (by omega), Array.getElem?_setIfInBounds_ne (by omega), Array.getElem?_setIfInBounds_ne (by omega)]
    exact hc j (by omega)

def RowsMade (w : World) (n : Nat) (e : Ending) (w' : World) : Prop :=
  ∃ r g m F G, e = .returned (.pointer (some ⟨r, 0, none⟩)) ∧ Rw w' r g m n F G [] ∧ Below w.heap.size w w' ∧ w.heap.size ≤ r ∧ w.heap.size ≤ g ∧ w.heap.size ≤ m

set_option maxHeartbeats 4000000 in
set_option maxRecDepth 100000 in
theorem newRows_any (w : World) (n : Nat) (h1 : 1 ≤ n) (h8 : n ≤ 8) : Calls Try.prog 28 #[.int .i64 (n : Int)] w (RowsMade w n) := by
  obtain ⟨cs, hcs, hmk⟩ := mkPl w n h8
  obtain ⟨W1, hW1⟩ : ∃ W1, W1 = w.alloc (.cells cs 74) := ⟨_, rfl⟩
  rw [← hW1] at hmk
  have b1 : Blk W1 w.heap.size 74 cs := by rw [hW1]; exact Blk.new _ _ _
  have bel1 : Below w.heap.size w W1 := by rw [hW1]; exact (Below.refl _ w).alloc (Nat.le_refl _) _
  have s1 : W1.heap.size = w.heap.size + 1 := by rw [hW1]; simp
  have H0 := Lib.hid (And.intro b1 (And.intro bel1 s1))
  have HC := Lib.hid hcs
  clear b1 bel1 s1 hW1 hcs
  obtain ⟨W2, hW2⟩ : ∃ W2, W2 = W1.alloc (.map #[] 0) := ⟨_, rfl⟩
  have hmm : (Instr.makeMap 69 none).run Try.prog W1 = .ok (.map (some W1.heap.size)) W2 := by rw [hW2]; exact run_makeMap _ _
  have hpm2 : Pm W2 W1.heap.size 0 (placeF []) := by rw [hW2]; exact Pm.made W1
  have hb2 : Blk W2 w.heap.size 74 cs := by rw [hW2]; exact H0.out.1.alloc _
  have bel2 : Below w.heap.size w W2 := by rw [hW2]; exact H0.out.2.1.alloc (by rw [H0.out.2.2]; omega) _
  have s2 : W2.heap.size = w.heap.size + 2 := by rw [hW2]; simp [H0.out.2.2]
  obtain ⟨m, hm⟩ : ∃ m, m = W1.heap.size := ⟨_, rfl⟩
  rw [← hm] at hmm hpm2
  have hm1 : w.heap.size ≤ m := by rw [hm, H0.out.2.2]; omega
  clear hW2 hm
  obtain ⟨g, hg⟩ : ∃ g, g = w.heap.size := ⟨_, rfl⟩
  rw [← hg] at hmk hb2
  obtain ⟨W3, hW3⟩ : ∃ W3, W3 = W2.alloc (.cells #[.slice (some ⟨g, 0, none⟩) n n, .map (some m)] 71) := ⟨_, rfl⟩
  obtain ⟨r, hr⟩ : ∃ r, r = W2.heap.size := ⟨_, rfl⟩
  have rb : Blk W3 r 71 #[.slice (some ⟨g, 0, none⟩) n n, .map (some m)] := by rw [hW3, hr]; exact Blk.new _ _ _
  have hpm3 : Pm W3 m 0 (placeF []) := by rw [hW3]; exact hpm2.alloc _
  have hb3 : Blk W3 g 74 cs := by rw [hW3]; exact hb2.alloc _
  have bel3 : Below w.heap.size w W3 := by rw [hW3]; exact bel2.alloc (by omega) _
  have e3 : EndsTo W3 g n 0 := ⟨cs, hb3, HC.out, fun j hj => by omega⟩
  have hgm : g ≠ m := hpm3.ne hb3
  have hrm : r ≠ m := hpm3.ne rb
  have hrg : r ≠ g := blk_ne rb hb3 (by decide)
  have HF := Lib.hid (And.intro hgm (And.intro hrm (And.intro hrg (And.intro hm1 (And.intro hg (show w.heap.size ≤ r by omega))))))
  have H3 := Lib.hid (And.intro rb (And.intro hpm3 (And.intro e3 bel3)))
  have c0 := rb.cell 0
  simp at c0
  have lr := rb.lt
  have HW := Lib.hid hW3
  have HR := Lib.hid hr
  clear hpm2 hb2 bel2 s2 hm1 hgm hrm hrg hg rb hpm3 hb3 bel3 e3 hW3 hr H0 HC
  go_enter Try.func28, Try.ntmps28
  go_wp2_with fail
  rw [← HW.out, ← HR.out]
  go_wp2_with fail
  go_loopw [16] (fun i wr => ∃ k : Nat, i = .int .i64 (k : Int) ∧ k ≤ n ∧ Blk wr r 71 #[.slice (some ⟨g, 0, none⟩) n n, .map (some m)] ∧ Pm wr m 0 (placeF []) ∧ EndsTo wr g n k ∧ Below w.heap.size w wr) (fun i _ => n - (intOf i).toNat)
  case atStart => exact ⟨0, rfl, Nat.zero_le _, H3.out⟩
  case round =>
    obtain ⟨k, rfl, hk, rb, hpm, hE, hbel⟩ := hrel
    by_cases hlt : k < n
    · have c0 := rb.cell 0
      simp at c0
      have lr := rb.lt
      obtain ⟨cs, hb, hs, hc⟩ := id hE
      have c4 : ∃ v, wr.cell? ⟨g, k * 6 + 4, none⟩ = some v := ⟨cs[k * 6 + 4]'(by omega), by rw [hb.cell, Array.getElem?_eq_getElem (by omega)]⟩
      have c5 : ∃ v, wr.cell? ⟨g, k * 6 + 5, none⟩ = some v := ⟨cs[k * 6 + 5]'(by omega), by rw [hb.cell, Array.getElem?_eq_getElem (by omega)]⟩
      obtain ⟨v4, c4⟩ := c4
      obtain ⟨v5, c5⟩ := c5
      have fg := fun j => hb.frozen j
      have lg := hb.lt
      have HE := Lib.hid (And.intro rb (And.intro hpm (And.intro (hE.step hlt) hbel)))
      have b0 : (0 : Int) ≤ (k : Int) := by omega
      have b1 : (k : Int) < (n : Int) := by omega
      clear hb hs hc hE hpm hbel rb
      go_wp2_with fail
      go_roundw
      case rel =>
        obtain ⟨rb, hpm, hE, hbel⟩ := HE.out
        obtain ⟨f1, f2, f3, f4, f5, f6⟩ := HF.out
        have kk : Kept (fun i => i = g) wr ((wr.setCell ⟨g, k * 6 + 4, none⟩ (ptr g (.e k))).setCell ⟨g, k * 6 + 5, none⟩ (ptr g (.e k))) := ((Kept.refl (fun i => i = g) wr).setCell (p := ⟨g, k * 6 + 4, none⟩) rfl _).setCell (p := ⟨g, k * 6 + 5, none⟩) rfl _
        exact ⟨k + 1, by go_num, by omega, rb.kept kk f3, hpm.kept kk (fun e => f1 e.symm), hE, (hbel.setCell (by show w.heap.size ≤ g; omega) _).setCell (by show w.heap.size ≤ g; omega) _⟩
      case measure => simp [intOf]; omega
    · have hkn : k = n := by omega
      have HE := Lib.hid (And.intro rb (And.intro hpm (And.intro hE hbel)))
      have HK := Lib.hid hkn
      have b1 : ¬ ((k : Int) < (n : Int)) := by omega
      clear rb hpm hE hbel hkn
      go_wp2_with fail
      go_ret
      obtain ⟨rb, hpm, ⟨cs, hb, hs, hc⟩, hbel⟩ := HE.out
      obtain ⟨f1, f2, f3, f4, f5, f6⟩ := HF.out
      rw [HK.out] at hc
      exact ⟨r, g, m, fun x => x, fun x => x, rfl, ⟨rb, hpm, ⟨⟨cs, hb, hs, hc⟩, fun x hx => by simp at hx, fun x hx => by simp at hx⟩, ⟨fun i hi => ⟨rfl, rfl⟩, by simp⟩, ⟨h1, h8⟩, fun x hx => by simp at hx, by simp, by simp⟩, hbel, f6, by omega, f4⟩

set_option maxHeartbeats 1000000 in
theorem new_yes (w : World) (n : Nat) (h1 : 1 ≤ n) (h8 : n ≤ 8) : Calls Try.prog 8 #[.int .i64 (n : Int)] w fun e w' =>
    ∃ h Own, e = .returned (.tuple #[.pointer (some ⟨h, 0, none⟩), .int .i64 0]) ∧ Qu w' w.heap.size h Own n [] ∧ Below w.heap.size w w' ∧ h < w'.heap.size := by
  have b0 : ¬ ((n : Int) < 1) := by omega
  have b1 : (1 : Int) ≤ (n : Int) := by omega
  have b2 : (n : Int) ≤ 8 := by omega
  go_enter Try.func8, Try.ntmps8
  go_wp2_with fail
  refine (newRows_any w n h1 h8).mono ?_
  rintro e w1 ⟨r, g, m, F, G, rfl, hR, hbel, l1, l2, l3⟩
  have H := Lib.hid (And.intro hR (And.intro hbel (And.intro l1 (And.intro l2 l3))))
  clear hR hbel l1 l2 l3
  go_wp2_with fail
  go_ret2
  obtain ⟨hR, hbel, l1, l2, l3⟩ := H.out
  have hk : Kept (fun _ => False) w1 (w1.alloc (.cells #[.pointer (some ⟨r, 0, none⟩)] 65)) := (Kept.refl _ _).alloc _
  refine ⟨w1.heap.size, fun k => k = w1.heap.size ∨ Fw r g m [] k, rfl, ⟨r, g, m, F, G, Blk.new _ _ _, hR.same (fun k e => hk.block k (hR.lt e) (fun e => e)), fun k => Iff.rfl, fun k e => ?_, by have := hbel.size; simp; omega⟩, hbel.alloc hbel.size _, by simp⟩
  rcases e with rfl | rfl | rfl | rfl | ⟨x, hx, _⟩
  · exact hbel.size
  · exact l1
  · exact l3
  · exact l2
  · simp at hx
theorem new_no (w : World) (k : Int) (h : k < 1 ∨ 8 < k) : Calls Try.prog 8 #[.int .i64 k] w fun e w' => e = .returned (.tuple #[.pointer none, .int .i64 2]) ∧ w = w' := by
  by_cases h0 : k < 1
  · clear h
    go_enter Try.func8, Try.ntmps8
    go_wp2
    go_ret2
    exact ⟨rfl, rfl⟩
  · have h1 : 8 < k := by omega
    clear h
    go_enter Try.func8, Try.ntmps8
    go_wp2
    go_ret2
    exact ⟨rfl, rfl⟩
end Go.Proofs.Ytlkmmbondelheaa
