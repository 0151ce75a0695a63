/-
  The contract of package fdset's Of: of ints that are all from 0 to 63 it returns the set of them, and OK; else no set, and ErrSet.
-/
import Derived.Test.YthpinbngggcgcaaDoorRef
import Derived.Test.YthpinbngggcgcaaDoorSets
import Derived.Test.YthpinbngggcgcaaDoorOkI
namespace Go.Proofs.YthpinbngggcgcaaDoor
open Go.RowKit

/-- The words of a set that has just the descriptors of a list. -/
def WordsOf (zs : List Int) (x y : Nat) : Prop := x < 4294967296 ∧ y < 4294967296 ∧ ∀ n, n < 64 → hasB x y n = inB (n : Int) zs
theorem wordsOf_nil : WordsOf [] 0 0 := ⟨by omega, by omega, fun n _ => by simp [hasB, inB]⟩
theorem WordsOf.more {zs : List Int} {x y n : Nat} (h : WordsOf zs x y) (hn : n < 64) : WordsOf (zs ++ [(n : Int)]) (w0 x n) (w1 y n) := by
  obtain ⟨h1, h2, h3⟩ := h
  refine ⟨w0_lt n h1, w1_lt n h2, fun k hk => ?_⟩
  rw [hasB_with _ _ _ _ hn hk, h3 k hk]
  unfold inB
  rw [Bool.eq_iff_iff]
  simp
  exact ⟨fun h => h.imp_right (by omega), fun h => h.imp_right (by omega)⟩
theorem WordsOf.mem {zs : List Int} {x y : Nat} (h : WordsOf zs x y) : memI x y = upTo (fun k => inB (k : Int) zs) 64 := by
  rw [memI_upTo]
  exact upTo_congr _ _ _ fun k hk => h.2.2 k hk

/-- What Of leaves where all are descriptors. -/
def FofOk (w : World) (zs : List Int) (e : Ending) (w' : World) : Prop := ∃ x y, WordsOf zs x y ∧ e = .returned (.tuple #[.agg #[.int .u32 (x : Int), .int .u32 (y : Int)], .int .i64 0]) ∧ Below w.heap.size w w'

set_option maxRecDepth 100000 in
set_option maxHeartbeats 2000000 in
theorem fof_ok (zs : List Int) (v : Value) (w : World) (hv : IsL w v zs) (hok : zs.all okI = true) :
    Calls Tryd.prog 11 #[v] w (FofOk w zs) := by
  obtain ⟨a, cap, rfl, hm, _, h⟩ := hv
  unfold maxLen at hm
  have Hok := Lib.hid hok
  clear hok
  obtain ⟨X, hX⟩ : ∃ X, (w.alloc (.cells #[.int .u32 0, .int .u32 0] 25)).alloc (.cells #[.int .u32 0, .int .u32 0] 25) = X := ⟨_, rfl⟩
  have hbel : Below w.heap.size w X := by rw [← hX]; exact ((Below.refl _ _).alloc (Nat.le_refl _) _).alloc (by simp) _
  have hs1 : IsSet X w.heap.size 0 0 := by rw [← hX]; exact (isSet_new w 0 0).grown (World.grownBy_alloc _ _ none) (by simp)
  have hs2 : IsSet X (w.heap.size + 1) 0 0 := by
    rw [← hX]
    simpa using isSet_new (w.alloc (.cells #[.int .u32 0, .int .u32 0] 25)) 0 0
  have HX := Lib.hid hX
  clear hX
  go_enter Tryd.func11, Tryd.ntmps11
  go_wp2_with fail
  rw [HX.out]
  go_loopw [9] (fun i wr => ∃ k x y : Nat, k ≤ zs.length ∧ i = .int .i64 k ∧ Hid (WordsOf (zs.take k) x y) ∧ Hid (IsSet wr (w.heap.size + 1) x y) ∧ Hid (IsSet wr w.heap.size 0 0) ∧ Below w.heap.size w wr)
    (fun i _ => zs.length - (intOf i).toNat)
  case atStart => exact ⟨0, 0, 0, Nat.zero_le _, rfl, wordsOf_nil, hs2, hs1, hbel⟩
  case round =>
    clear hs1 hs2 hbel HX
    obtain ⟨k, x, y, hk, rfl, Hw, Hs2, Hs1, hbw⟩ := hrel
    by_cases hlt : k < zs.length
    · rcases h with h | ⟨b, off, rfl, hb, hc⟩
      · rw [h] at hlt; simp at hlt
      have hck := (hbw.cell (p := ⟨b, off + k, none⟩) hb).trans (hc k hlt)
      have hx1 : okI (zs[k]?.getD 0) = true := List.all_eq_true.1 Hok.out _ (by rw [List.getElem?_eq_getElem hlt]; simp)
      have htk : zs.take (k + 1) = zs.take k ++ [zs[k]?.getD 0] := by rw [List.take_add_one, List.getElem?_eq_getElem hlt]; simp
      obtain ⟨z, hz⟩ : ∃ z, zs[k]?.getD 0 = z := ⟨_, rfl⟩
      rw [hz] at hx1 hck htk
      simp only [okI, Bool.and_eq_true, decide_eq_true_eq] at hx1
      obtain ⟨n, rfl⟩ : ∃ n : Nat, z = (n : Int) := ⟨z.toNat, by omega⟩
      have hn : n < 64 := by omega
      have Htk := Lib.hid htk
      have Hc := Lib.hid hc
      clear hz htk hc
      have hw2 := Hw.out
      go_wp2_with (first | (go_at_call 33; refine (fits_yes (n : Int) _ (by omega) (by omega)).mono ?_; rintro e w2 ⟨rfl, rfl⟩) | (go_at_call 34; refine (put_any (w.heap.size + 1) x y n _ Hw.out.1 Hw.out.2.1 hn Hs2.out).mono ?_; rintro e w3 ⟨rfl, hp, hg⟩))
      go_roundw
      case rel => exact ⟨k + 1, Go.Proofs.YthpinbngggcgcaaDoor.w0 x n, Go.Proofs.YthpinbngggcgcaaDoor.w1 y n, by omega, by go_num, by rw [Htk.out]; exact Hw.out.more hn, hp, Hs1.out.grown hg (by simp), hbw.grown hg hbw.size (fun j hj => by cases hj; omega)⟩
      case measure => simp [intOf]; omega
    · have hw2 := Hw.out
      rw [List.take_of_length_le (by omega)] at hw2
      have Hw2 := Lib.hid hw2
      clear hw2
      obtain ⟨p0, p1, _, _⟩ := Hs2.out
      obtain ⟨q0, q1, g0, g1⟩ := Hs1.out
      go_wp2
      obtain ⟨r0, r1⟩ := two_set (.int .u32 (x : Int)) (.int .u32 (y : Int)) q0 q1
      exact bodyPost_ret (v := .tuple #[.agg #[.int .u32 (x : Int), .int .u32 (y : Int)], .int .i64 0]) (by simp [results, Tryd.results11, go_sem, r0, r1]) rfl ⟨x, y, Hw2.out, rfl, (hbw.setCell (Nat.le_refl _) _).setCell (Nat.le_refl _) _⟩

set_option maxRecDepth 100000 in
set_option maxHeartbeats 2000000 in
theorem fof_bad (zs : List Int) (v : Value) (w : World) (hv : IsL w v zs) (hbad : zs.all okI = false) :
    Calls Tryd.prog 11 #[v] w fun e w' => e = .returned (.tuple #[.agg #[.int .u32 0, .int .u32 0], .int .i64 10]) ∧ Below w.heap.size w w' := by
  obtain ⟨a, cap, rfl, hm, _, h⟩ := hv
  unfold maxLen at hm
  have Hbad := Lib.hid hbad
  clear hbad
  obtain ⟨X, hX⟩ : ∃ X, (w.alloc (.cells #[.int .u32 0, .int .u32 0] 25)).alloc (.cells #[.int .u32 0, .int .u32 0] 25) = X := ⟨_, rfl⟩
  have hbel : Below w.heap.size w X := by rw [← hX]; exact ((Below.refl _ _).alloc (Nat.le_refl _) _).alloc (by simp) _
  have hs1 : IsSet X w.heap.size 0 0 := by rw [← hX]; exact (isSet_new w 0 0).grown (World.grownBy_alloc _ _ none) (by simp)
  have hs2 : IsSet X (w.heap.size + 1) 0 0 := by
    rw [← hX]
    simpa using isSet_new (w.alloc (.cells #[.int .u32 0, .int .u32 0] 25)) 0 0
  have HX := Lib.hid hX
  clear hX
  go_enter Tryd.func11, Tryd.ntmps11
  go_wp2_with fail
  rw [HX.out]
  go_loopw [9] (fun i wr => ∃ k x y : Nat, k ≤ zs.length ∧ i = .int .i64 k ∧ Hid ((zs.take k).all okI = true) ∧ Hid (WordsOf (zs.take k) x y) ∧ Hid (IsSet wr (w.heap.size + 1) x y) ∧ Hid (IsSet wr w.heap.size 0 0) ∧ Below w.heap.size w wr)
    (fun i _ => zs.length - (intOf i).toNat)
  case atStart => exact ⟨0, 0, 0, Nat.zero_le _, rfl, by simp [Hid], wordsOf_nil, hs2, hs1, hbel⟩
  case round =>
    clear hs1 hs2 hbel HX
    obtain ⟨k, x, y, hk, rfl, Hall, Hw, Hs2, Hs1, hbw⟩ := hrel
    by_cases hlt : k < zs.length
    · rcases h with h | ⟨b, off, rfl, hb, hc⟩
      · rw [h] at hlt; simp at hlt
      have hck := (hbw.cell (p := ⟨b, off + k, none⟩) hb).trans (hc k hlt)
      have hsu := okI_take zs k hlt
      rw [Hall.out, Bool.true_and] at hsu
      have htk : zs.take (k + 1) = zs.take k ++ [zs[k]?.getD 0] := by rw [List.take_add_one, List.getElem?_eq_getElem hlt]; simp
      obtain ⟨z, hz⟩ : ∃ z, zs[k]?.getD 0 = z := ⟨_, rfl⟩
      rw [hz] at hsu hck htk
      have Htk := Lib.hid htk
      have Hsu := Lib.hid hsu
      have Hc := Lib.hid hc
      clear hz htk hc hsu
      by_cases hz : z < 0 ∨ 64 ≤ z
      · obtain ⟨q0, q1, g0, g1⟩ := Hs1.out
        go_wp2_with (go_at_call 33; refine (fits_no z _ hz).mono ?_; rintro e w2 ⟨rfl, rfl⟩)
        obtain ⟨r0, r1⟩ := two_set (.int .u32 0) (.int .u32 0) q0 q1
        exact bodyPost_ret (v := .tuple #[.agg #[.int .u32 0, .int .u32 0], .int .i64 10]) (by simp [results, Tryd.results11, go_sem, r0, r1]) rfl ⟨rfl, (hbw.setCell (Nat.le_refl _) _).setCell (Nat.le_refl _) _⟩
      · obtain ⟨n, rfl⟩ : ∃ n : Nat, z = (n : Int) := ⟨z.toNat, by omega⟩
        have hn : n < 64 := by omega
        go_wp2_with (first | (go_at_call 33; refine (fits_yes (n : Int) _ (by omega) (by omega)).mono ?_; rintro e w2 ⟨rfl, rfl⟩) | (go_at_call 34; refine (put_any (w.heap.size + 1) x y n _ Hw.out.1 Hw.out.2.1 hn Hs2.out).mono ?_; rintro e w3 ⟨rfl, hp, hg⟩))
        go_roundw
        case rel => exact ⟨k + 1, Go.Proofs.YthpinbngggcgcaaDoor.w0 x n, Go.Proofs.YthpinbngggcgcaaDoor.w1 y n, by omega, by go_num, by unfold Hid; rw [Hsu.out]; simp [okI]; omega, by rw [Htk.out]; exact Hw.out.more hn, hp, Hs1.out.grown hg (by simp), hbw.grown hg hbw.size (fun j hj => by cases hj; omega)⟩
        case measure => simp [intOf]; omega
    · have h1 := Hall.out
      rw [List.take_of_length_le (by omega), Hbad.out] at h1
      cases h1
end Go.Proofs.YthpinbngggcgcaaDoor
