/-
  The contracts of package fdset's put, With, Without, And, Or, Less: what each returns, for every set and number.
-/
import Derived.Test.YthpinbngggcgcaaDoorLeaf
import Derived.Deep.RegionWith
import Derived.Deep.RegionHeld3
import Derived.RegionTactic
import Derived.ChangeAlike
import Derived.Outline
namespace Go.Proofs.YthpinbngggcgcaaDoor
open Go.RowKit

theorem grownBy_set (w : World) (B o : Nat) (u : Value) : w.grownBy (w.setCell ⟨B, o, none⟩ u) (some B) :=
  ⟨rfl, rfl, rfl, by simp, fun k _ hk => Below.heap_setCell w ⟨B, o, none⟩ u k (fun e => hk (by rw [e]))⟩

theorem below_endL {w w' w'' : World} (h : Below w.heap.size w w') (k : Below w'.heap.size w' w'') : Below w.heap.size w w'' := h.trans (k.mono h.size)
/-- The block of a set. -/
def IsSet (w : World) (B a b : Nat) : Prop := w.cell? ⟨B, 0, none⟩ = some (.int .u32 (a : Int)) ∧ w.cell? ⟨B, 1, none⟩ = some (.int .u32 (b : Int)) ∧ w.frozen? ⟨B, 0, none⟩ = false ∧ w.frozen? ⟨B, 1, none⟩ = false
theorem IsSet.word {w : World} {B a b : Nat} (h : IsSet w B a b) (n : Nat) (hn : n < 64) : w.cell? ⟨B, n / 32, none⟩ = some (.int .u32 (word a b n : Int)) ∧ w.frozen? ⟨B, n / 32, none⟩ = false := by
  obtain ⟨h0, h1, f0, f1⟩ := h
  unfold Go.Proofs.YthpinbngggcgcaaDoor.word
  split
  · rw [show n / 32 = 0 from by omega]; exact ⟨h0, f0⟩
  · rw [show n / 32 = 1 from by omega]; exact ⟨h1, f1⟩
theorem IsSet.set {w : World} {B a b : Nat} (h : IsSet w B a b) (n : Nat) (hn : n < 64) (x : Nat) :
    IsSet (w.setCell ⟨B, n / 32, none⟩ (.int .u32 (x : Int))) B (if n < 32 then x else a) (if n < 32 then b else x) := by
  obtain ⟨h0, h1, f0, f1⟩ := h
  unfold IsSet
  by_cases c : n < 32
  · rw [show n / 32 = 0 from by omega]
    simp only [c, if_true]
    exact ⟨World.cell?_setCell_same _ _ _ h0, (World.cell?_setCell_other _ _ _ _ (by simp)).trans h1, (World.frozen?_setCell _ _ _ _).trans f0, (World.frozen?_setCell _ _ _ _).trans f1⟩
  · rw [show n / 32 = 1 from by omega]
    simp only [c, if_false]
    exact ⟨(World.cell?_setCell_other _ _ _ _ (by simp)).trans h0, World.cell?_setCell_same _ _ _ h1, (World.frozen?_setCell _ _ _ _).trans f0, (World.frozen?_setCell _ _ _ _).trans f1⟩
theorem isSet_new (w : World) (a b : Nat) : IsSet (w.alloc (.cells #[.int .u32 (a : Int), .int .u32 (b : Int)] 25)) w.heap.size a b := by
  refine ⟨?_, ?_, ?_, ?_⟩
  · rw [World.cell?_alloc_at _ _ _ _ rfl]; rfl
  · rw [World.cell?_alloc_at _ _ _ _ rfl]; rfl
  · exact World.frozen?_alloc_at _ _ _ _ rfl
  · exact World.frozen?_alloc_at _ _ _ _ rfl
theorem IsSet.drewn {w : World} {B a b : Nat} (h : IsSet w B a b) : IsSet w.drew B a b := h
theorem IsSet.lt {w : World} {B a b : Nat} (h : IsSet w B a b) : B < w.heap.size := World.block_lt_of_cell? w ⟨B, 0, none⟩ h.1
theorem cell_below {w w' : World} {p : Addr} {v : Value} (hb : Below w.heap.size w w') (h : w.cell? p = some v) : w'.cell? p = some v := (hb.cell (World.block_lt_of_cell? w p h)).trans h
theorem IsSet.below {w w' : World} {B a b : Nat} (h : IsSet w B a b) (hb : Below w.heap.size w w') : IsSet w' B a b :=
  ⟨cell_below hb h.1, cell_below hb h.2.1, (hb.frozen (p := ⟨B, 0, none⟩) h.lt).trans h.2.2.1, (hb.frozen (p := ⟨B, 1, none⟩) h.lt).trans h.2.2.2⟩

set_option maxHeartbeats 1000000 in
theorem put_any (B a b n : Nat) (w : World) (ha : a < 4294967296) (hb : b < 4294967296) (hn : n < 64) (h : IsSet w B a b) :
    Calls Tryd.prog 34 #[.pointer (some ⟨B, 0, none⟩), .int .i64 (n : Int)] w fun e w' => e = .returned (.tuple #[]) ∧ IsSet w' B (w0 a n) (w1 b n) ∧ w.grownBy w' (some B) := by
  obtain ⟨hc, hf⟩ := h.word n hn
  have hq : (n : Int) / 32 < 2 := by omega
  have hq0 : (0 : Int) ≤ (n : Int) / 32 := by omega
  have e0 : (n : Int).tdiv 32 = (n : Int) / 32 := Int.tdiv_eq_ediv_of_nonneg (by omega)
  have e1 : IntKind.i64.wrap ((n : Int) / 32) = (n : Int) / 32 := IntWalk.i64_in _ (by omega)
  have e2 : ((n : Int) / 32).toNat = n / 32 := by omega
  have Hs := Lib.hid h
  clear h
  go_enter Tryd.func34, Tryd.ntmps34
  go_wp2_with fail
  go_region_with (go_at_call 45; refine (bit_any n _ hn).mono ?_; rintro e w2 ⟨rfl, rfl⟩)
  all_goals go_wp2
  all_goals go_end0
  all_goals rw [u32_or_nat _ _ (word_lt a b n ha hb) (bitN_lt n)]
  all_goals
    refine ⟨rfl, ?_, ⟨rfl, rfl, rfl, by simp, fun k hk hne => (grownBy_set w B (n / 32) _).block k hk hne⟩⟩
    have h2 := Hs.out.set n hn (word a b n ||| bitN n)
    unfold w0 w1
    unfold Go.Proofs.YthpinbngggcgcaaDoor.word at h2 ⊢
    split
    · rename_i hlt
      simp only [hlt, if_true] at h2
      exact h2
    · rename_i hlt
      simp only [hlt, if_false] at h2
      exact h2

/-- It returns this set; nothing that lay has turned. -/
def RetS (w : World) (a b : Nat) (e : Ending) (w' : World) : Prop := e = .returned (.agg #[.int .u32 (a : Int), .int .u32 (b : Int)]) ∧ Below w.heap.size w w'

set_option maxHeartbeats 1000000 in
theorem with_out (a b : Nat) (n : Int) (w : World) (h : n < 0 ∨ 64 ≤ n) :
    Calls Tryd.prog 26 #[.agg #[.int .u32 (a : Int), .int .u32 (b : Int)], .int .i64 n] w fun e w' => e = .returned (.tuple #[.agg #[.int .u32 0, .int .u32 0], .int .i64 10]) ∧ Below w.heap.size w w' := by
  go_enter Tryd.func26, Tryd.ntmps26
  go_wp2_with (go_at_call 33; refine (fits_no n _ h).mono ?_; rintro e w2 ⟨rfl, rfl⟩)
  exact bodyPost_ret (v := .tuple #[.agg #[.int .u32 0, .int .u32 0], .int .i64 10]) (by simp [results, Tryd.results26, go_sem]) rfl ⟨rfl, ((Below.refl _ _).alloc (Nat.le_refl _) _).alloc (by simp) _⟩
theorem IsSet.grown {w w' : World} {B a b : Nat} {row : Option Nat} (h : IsSet w B a b) (hg : w.grownBy w' row) (hne : some B ≠ row) : IsSet w' B a b := by
  have hl := h.lt
  obtain ⟨h0, h1, f0, f1⟩ := h
  have hb := hg.block B hl hne
  exact ⟨(World.cell?_of_block (a := ⟨B, 0, none⟩) hb).trans h0, (World.cell?_of_block (a := ⟨B, 1, none⟩) hb).trans h1, (World.frozen?_of_block (a := ⟨B, 0, none⟩) hb).trans f0, (World.frozen?_of_block (a := ⟨B, 1, none⟩) hb).trans f1⟩
theorem two_set {w : World} {B : Nat} {x y : Value} (u v : Value) (h0 : w.cell? ⟨B, 0, none⟩ = some x) (h1 : w.cell? ⟨B, 1, none⟩ = some y) :
    ((w.setCell ⟨B, 0, none⟩ u).setCell ⟨B, 1, none⟩ v).cell? ⟨B, 0, none⟩ = some u ∧ ((w.setCell ⟨B, 0, none⟩ u).setCell ⟨B, 1, none⟩ v).cell? ⟨B, 1, none⟩ = some v :=
  ⟨(World.cell?_setCell_other _ _ _ _ (by simp)).trans (World.cell?_setCell_same _ _ _ h0), World.cell?_setCell_same _ _ _ ((World.cell?_setCell_other _ _ _ _ (by simp)).trans h1)⟩
theorem with_in (a b n : Nat) (w : World) (ha : a < 4294967296) (hb : b < 4294967296) (hn : n < 64) :
    Calls Tryd.prog 26 #[.agg #[.int .u32 (a : Int), .int .u32 (b : Int)], .int .i64 (n : Int)] w fun e w' => e = .returned (.tuple #[.agg #[.int .u32 (w0 a n : Int), .int .u32 (w1 b n : Int)], .int .i64 0]) ∧ Below w.heap.size w w' := by
  go_enter Tryd.func26, Tryd.ntmps26
  go_wp2_with (go_at_call 33; refine (fits_yes (n : Int) _ (by omega) (by omega)).mono ?_; rintro e w2 ⟨rfl, rfl⟩)
  have hs1 := isSet_new w a b
  have hs2 := hs1.grown (World.grownBy_alloc _ (.cells #[.int .u32 0, .int .u32 0] 25) none) (by simp)
  have hs3 := isSet_new (w.alloc (.cells #[.int .u32 (a : Int), .int .u32 (b : Int)] 25)) 0 0
  refine (put_any _ a b n _ ha hb hn hs2).mono ?_
  rintro e w3 ⟨rfl, hp, hg⟩
  have hp2 := hs3.grown hg (by simp)
  have hz := hg.size
  have hbel : Below w.heap.size w w3 := (((Below.refl _ _).alloc (Nat.le_refl _) _).alloc (by simp) _).grown hg (by simp; omega) (fun k hk => by cases hk; exact Nat.le_refl _)
  simp only [World.size_alloc] at hp2
  clear hs1 hs2 hs3 hg
  obtain ⟨p0, p1, _, _⟩ := hp
  obtain ⟨q0, q1, g0, g1⟩ := hp2
  go_wp2
  obtain ⟨r0, r1⟩ := two_set (.int .u32 (w0 a n : Int)) (.int .u32 (w1 b n : Int)) q0 q1
  exact bodyPost_ret (v := .tuple #[.agg #[.int .u32 (w0 a n : Int), .int .u32 (w1 b n : Int)], .int .i64 0]) (by simp [results, Tryd.results26, go_sem, r0, r1]) rfl ⟨rfl, (hbel.setCell (by simp) _).setCell (by simp) _⟩

set_option maxHeartbeats 1000000 in
theorem without_out (a b : Nat) (n : Int) (w : World) (h : n < 0 ∨ 64 ≤ n) :
    Calls Tryd.prog 28 #[.agg #[.int .u32 (a : Int), .int .u32 (b : Int)], .int .i64 n] w (RetS w a b) := by
  go_enter Tryd.func28, Tryd.ntmps28
  go_wp2_with (go_at_call 33; refine (fits_no n _ h).mono ?_; rintro e w2 ⟨rfl, rfl⟩)
  exact bodyPost_ret (v := .agg #[.int .u32 (a : Int), .int .u32 (b : Int)]) (by simp [results, Tryd.results28, go_sem]) rfl ⟨rfl, ((Below.refl _ _).alloc (Nat.le_refl _) _).alloc (by simp) _⟩

/-- A pair of words, one bit less, in the form that the store leaves. -/
theorem less_set {w : World} {B a b n : Nat} (h : IsSet w B a b) (hn : n < 64) : IsSet (w.setCell ⟨B, n / 32, none⟩ (.int .u32 ((word a b n &&& (4294967295 - bitN n) : Nat) : Int))) B (o0 a n) (o1 b n) := by
  have h2 := h.set n hn (word a b n &&& (4294967295 - bitN n))
  unfold o0 o1
  unfold Go.Proofs.YthpinbngggcgcaaDoor.word at h2 ⊢
  split
  · rename_i hlt
    simp only [hlt, if_true] at h2
    exact h2
  · rename_i hlt
    simp only [hlt, if_false] at h2
    exact h2
set_option maxHeartbeats 1000000 in
theorem without_in (a b n : Nat) (w : World) (ha : a < 4294967296) (hb : b < 4294967296) (hn : n < 64) :
    Calls Tryd.prog 28 #[.agg #[.int .u32 (a : Int), .int .u32 (b : Int)], .int .i64 (n : Int)] w (RetS w (o0 a n) (o1 b n)) := by
  have hbel : Below w.heap.size w ((w.alloc (.cells #[.int .u32 (a : Int), .int .u32 (b : Int)] 25)).alloc (.cells #[.int .u32 0, .int .u32 0] 25)) := ((Below.refl _ _).alloc (Nat.le_refl _) _).alloc (by simp) _
  have hs1 := isSet_new w a b
  have hs2 := hs1.grown (World.grownBy_alloc _ (.cells #[.int .u32 0, .int .u32 0] 25) none) (by simp)
  have hs3 := isSet_new (w.alloc (.cells #[.int .u32 (a : Int), .int .u32 (b : Int)] 25)) 0 0
  obtain ⟨X, hX⟩ : ∃ X, (w.alloc (.cells #[.int .u32 (a : Int), .int .u32 (b : Int)] 25)).alloc (.cells #[.int .u32 0, .int .u32 0] 25) = X := ⟨_, rfl⟩
  have hq : (n : Int) / 32 < 2 := by omega
  have hq0 : (0 : Int) ≤ (n : Int) / 32 := by omega
  have e0 : (n : Int).tdiv 32 = (n : Int) / 32 := Int.tdiv_eq_ediv_of_nonneg (by omega)
  have e1 : IntKind.i64.wrap ((n : Int) / 32) = (n : Int) / 32 := IntWalk.i64_in _ (by omega)
  have e2 : ((n : Int) / 32).toNat = n / 32 := by omega
  have hzero : ((0 : Nat) : Int) = 0 := rfl
  rw [hzero] at hs3
  rw [hX] at hbel hs2
  have hs3' : IsSet X (w.heap.size + 1) 0 0 := by rw [← hX]; simpa using isSet_new (w.alloc (.cells #[.int .u32 (a : Int), .int .u32 (b : Int)] 25)) 0 0
  clear hs1 hs3 hzero
  obtain ⟨hc, hf⟩ := hs2.word n hn
  have Hs2 := Lib.hid hs2
  have Hs3 := Lib.hid hs3'
  clear hs2 hs3'
  have HX := Lib.hid hX
  clear hX
  go_enter Tryd.func28, Tryd.ntmps28
  go_wp2_with (go_at_call 33; refine (fits_yes (n : Int) _ (by omega) (by omega)).mono ?_; rintro e w2 ⟨rfl, rfl⟩)
  rw [HX.out]
  go_region_with (go_at_call 45; refine (bit_any n _ hn).mono ?_; rintro e w2 ⟨rfl, rfl⟩)
  all_goals
    rw [u32_andNot_nat _ _ (word_lt a b n ha hb) (bitN_lt n)]
    obtain ⟨Y, hY, hY1, hY2, hY3⟩ : ∃ Y, (X.setCell ⟨w.heap.size, n / 32, none⟩ (.int .u32 ((word a b n &&& (4294967295 - bitN n) : Nat) : Int))).drew = Y ∧ IsSet Y w.heap.size (o0 a n) (o1 b n) ∧ IsSet Y (w.heap.size + 1) 0 0 ∧ Below w.heap.size w Y :=
      ⟨_, rfl, less_set Hs2.out hn, (Hs3.out.grown (grownBy_set X w.heap.size (n / 32) _) (by simp)).drewn, (hbel.setCell (Nat.le_refl _) _).drew⟩
    rw [hY]
    clear hY hbel hc hf e0 e1 e2
    obtain ⟨p0, p1, _, _⟩ := hY1
    obtain ⟨q0, q1, g0, g1⟩ := hY2
    go_wp2
    obtain ⟨r0, r1⟩ := two_set (.int .u32 (o0 a n : Int)) (.int .u32 (o1 b n : Int)) q0 q1
    exact bodyPost_ret (v := .agg #[.int .u32 (o0 a n : Int), .int .u32 (o1 b n : Int)]) (by simp [results, Tryd.results28, go_sem, r0, r1]) rfl ⟨rfl, (hY3.setCell (by simp) _).setCell (by simp) _⟩
end Go.Proofs.YthpinbngggcgcaaDoor
