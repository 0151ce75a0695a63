/-
  The contract of the statements' own function list: it returns the set's members, rising, as a new slice, for every set; nothing that lay has turned.
-/
import Derived.Test.YthpinbngggcgcaaDoorLeaf
import Derived.Maps.AppendAt
import Derived.Deep.DeepMust
import Derived.Deep.DeepFit
import Derived.Outline
namespace Go.Proofs.YthpinbngggcgcaaDoor
open Go.RowKit

theorem infoInt : (Tryd.prog.info? 3).map (fun i => (i.zero, i.size, i.bytes)) = some (some (.int .i64 0), 1, 8) := by kernel_rfl

/-- What nothing below the heap's end has turned keeps an owned row. -/
theorem owns_below {w w' : World} {base : Nat} {e : TypeId} {size : Nat} {v : Value} {n : Nat} {xs : List Value} (h : w.ownsRow base e size v n xs) (hb : Below w.heap.size w w') : w'.ownsRow base e size v n xs :=
  h.kept (row := none) ⟨hb.os, hb.tape, hb.output, hb.size, fun k hk _ => hb.block k hk⟩ (by cases v.ownBlock <;> simp)

/-- A slice value that reads as these ints. -/
def IsL (w : World) (v : Value) (zs : List Int) : Prop :=
  ∃ a cap, v = .slice a zs.length cap ∧ zs.length ≤ maxLen ∧ (a = none → cap = 0) ∧ (zs = [] ∨ ∃ b off, a = some ⟨b, off, none⟩ ∧ b < w.heap.size ∧ ∀ j, j < zs.length → w.cell? ⟨b, off + j, none⟩ = some (.int .i64 (zs[j]?.getD 0)))
theorem IsL.below {w w' : World} {v : Value} {zs : List Int} (h : IsL w v zs) (hb : Below w.heap.size w w') : IsL w' v zs := by
  obtain ⟨a, cap, rfl, hm, hz, h⟩ := h
  refine ⟨a, cap, rfl, hm, hz, ?_⟩
  rcases h with h | ⟨b, off, rfl, hlt, hc⟩
  · exact .inl h
  · exact .inr ⟨b, off, rfl, Nat.lt_of_lt_of_le hlt hb.size, fun j hj => (hb.cell (p := ⟨b, off + j, none⟩) hlt).trans (hc j hj)⟩
theorem isL_of_owns {w : World} {base : Nat} {v : Value} {zs : List Int} (hm : zs.length ≤ maxLen) (h : w.ownsRow base 3 1 v zs.length (zs.map (Value.int .i64))) : IsL w v zs := by
  have hc := fun g hg => h.cells (g := g) hg
  have hl := h.lt
  rcases h.2 with ⟨rfl, h0⟩ | ⟨g, cap, cur, rfl, _⟩
  · have : zs = [] := List.length_eq_zero_iff.1 h0
    subst this
    exact ⟨none, 0, rfl, hm, fun _ => rfl, .inl rfl⟩
  · refine ⟨_, cap, rfl, hm, (fun h => by cases h), .inr ⟨g, 0, rfl, (hl g rfl).2, fun j hj => ?_⟩⟩
    have := hc g rfl j (.int .i64 (zs[j]?.getD 0)) (by rw [List.getElem?_map, List.getElem?_eq_getElem hj]; rfl)
    rw [Nat.zero_add]
    have hadd : (⟨g, 0, none⟩ : Addr).add j = ⟨g, j, none⟩ := by unfold Addr.add; split <;> simp_all
    rwa [hadd] at this
/-- As the source of an append. -/
theorem IsL.src {w : World} {v : Value} {zs : List Int} (h : IsL w v zs) :
    (v = .slice none 0 0 ∧ zs = []) ∨ ∃ ad cap, v = .slice (some ad) zs.length cap ∧ ∀ j u, (zs.map (Value.int .i64))[j]? = some u → w.cell? (ad.add j) = some u := by
  obtain ⟨a, cap, rfl, hm, hz, h⟩ := h
  cases a with
  | none =>
    rcases h with rfl | ⟨b, off, h, _⟩
    · rw [hz rfl]; exact .inl ⟨rfl, rfl⟩
    · cases h
  | some ad =>
    refine .inr ⟨ad, cap, rfl, fun j u hu => ?_⟩
    rcases h with rfl | ⟨b, off, h, _, hc⟩
    · simp at hu
    · cases h
      rw [List.getElem?_map] at hu
      have hj : j < zs.length := by
        by_cases hj : j < zs.length
        · exact hj
        · rw [List.getElem?_eq_none (by omega)] at hu; simp at hu
      have := hc j hj
      rw [List.getElem?_eq_getElem hj] at hu this
      simp at hu this
      have hadd : (⟨b, off, none⟩ : Addr).add j = ⟨b, off + j, none⟩ := by unfold Addr.add; split <;> simp_all
      rw [hadd, this, hu]
/-- It returns a slice that reads as these ints; nothing that lay has turned. -/
def RetL (w : World) (zs : List Int) (e : Ending) (w' : World) : Prop := ∃ v, e = .returned v ∧ IsL w' v zs ∧ Below w.heap.size w w'

theorem has_yes (a b : Nat) (n : Nat) (w : World) (ha : a < 4294967296) (hb : b < 4294967296) (h1 : n < 64) (h : hasB a b n = true) :
    Calls Tryd.prog 32 #[.agg #[.int .u32 (a : Int), .int .u32 (b : Int)], .int .i64 (n : Int)] w fun e w' => e = .returned (.bool true) ∧ Below w.heap.size w w' :=
  (has_in a b n w ha hb h1).mono fun _ _ ⟨he, hw⟩ => ⟨by rw [he, h], hw⟩
theorem has_no (a b : Nat) (n : Nat) (w : World) (ha : a < 4294967296) (hb : b < 4294967296) (h1 : n < 64) (h : hasB a b n = false) :
    Calls Tryd.prog 32 #[.agg #[.int .u32 (a : Int), .int .u32 (b : Int)], .int .i64 (n : Int)] w fun e w' => e = .returned (.bool false) ∧ Below w.heap.size w w' :=
  (has_in a b n w ha hb h1).mono fun _ _ ⟨he, hw⟩ => ⟨by rw [he, h], hw⟩

/-- A member, behind 63 none. -/
def memP (a b : Nat) (n : Nat) : Bool := decide (n < 64) && hasB a b n
theorem memP_in {a b n : Nat} (h : n < 64) : memP a b n = hasB a b n := by simp [memP, h]
theorem upTo_out (a b : Nat) (q : Int) (h : q < 0 ∨ 64 ≤ q) (hq : -1 ≤ q) : upTo (memP a b) (q + 1).toNat = upTo (memP a b) q.toNat := by
  rcases h with h | h
  · rw [show q = -1 from by omega]; rfl
  · rw [show (q + 1).toNat = q.toNat + 1 from by omega]
    exact upTo_miss _ _ (by unfold memP; simp; omega)
theorem memI_end (a b : Nat) : upTo (memP a b) 65 = memI a b := by
  rw [upTo_miss _ 64 (by simp [memP]), memI_upTo]
  exact upTo_congr _ _ _ fun n hn => memP_in hn

set_option maxRecDepth 100000 in
set_option maxHeartbeats 1000000 in
theorem list_any (a b : Nat) (w : World) (ha : a < 4294967296) (hb : b < 4294967296) :
    Calls Tryd.prog 14 #[.agg #[.int .u32 (a : Int), .int .u32 (b : Int)]] w (RetL w (memI a b)) := by
  obtain ⟨i0, hi, hz0, hz1, hz2⟩ := info_parts infoInt
  go_enter Tryd.func14, Tryd.ntmps14
  go_wp2_with fail
  go_loopw [3, 4] (fun v i wr => ∃ q : Int, -1 ≤ q ∧ q ≤ 65 ∧ i = .int .i64 q ∧ wr.ownsRow (w.heap.size + 1) 3 1 v (upTo (memP a b) q.toNat).length ((upTo (memP a b) q.toNat).map (Value.int .i64)) ∧
      Below (w.heap.size + 1) (w.alloc (.cells #[.int .u32 (a : Int), .int .u32 (b : Int)] 25)) wr)
    (fun _ i _ => (65 - intOf i).toNat)
  case atStart => exact ⟨-1, by omega, by omega, rfl, World.ownsRow_nil _ _ _ _, Below.refl _ _⟩
  case round =>
    obtain ⟨q, hq1, hq2, rfl, hown, hnx⟩ := hrel
    have hc0 : wr.cell? ⟨w.heap.size, 0, none⟩ = some (.int .u32 (a : Int)) := (hnx.cell (p := ⟨w.heap.size, 0, none⟩) (by simp)).trans (by rw [World.cell?_alloc_at _ _ _ _ rfl]; rfl)
    have hc1 : wr.cell? ⟨w.heap.size, 1, none⟩ = some (.int .u32 (b : Int)) := (hnx.cell (p := ⟨w.heap.size, 1, none⟩) (by simp)).trans (by rw [World.cell?_alloc_at _ _ _ _ rfl]; rfl)
    by_cases c1 : q < 0 ∨ 64 ≤ q
    · by_cases c2 : q ≤ 64
      · go_wp2_with (go_at_call 32; refine (has_out a b q _ c1).mono ?_; rintro e w2 ⟨rfl, hb2⟩)
        go_roundw
        case rel => exact ⟨q + 1, by omega, by omega, by go_num, by rw [upTo_out a b q c1 hq1]; exact owns_below hown hb2, hnx.trans (hb2.mono (by have := hnx.size; simp at this; omega))⟩
        case measure => simp [intOf]; omega
      · have hq : q = 65 := by omega
        have hend : upTo (memP a b) q.toNat = memI a b := by rw [hq]; exact memI_end a b
        have H := Lib.hid hend
        clear hend hq
        go_wp2
        go_ret
        refine ⟨_, rfl, isL_of_owns (by have := length_memI a b; unfold maxLen; omega) (by rw [← H.out]; exact hown), ?_⟩
        exact ((Below.refl _ _).alloc (Nat.le_refl _) _).trans (hnx.mono (by omega))
    · obtain ⟨n, rfl⟩ : ∃ n : Nat, q = (n : Int) := ⟨q.toNat, by omega⟩
      have hn : n < 64 := by omega
      have hle := upTo_le (memP a b) n
      simp only [Int.toNat_natCast] at hown
      cases hh : hasB a b n with
      | false =>
        go_wp2_with (go_at_call 32; refine (has_no a b n _ ha hb hn (by assumption)).mono ?_; rintro e w2 ⟨rfl, hb2⟩)
        go_roundw
        case rel => exact ⟨(n : Int) + 1, by omega, by omega, by go_num, by rw [show ((n : Int) + 1).toNat = n + 1 from by omega, upTo_miss _ _ (by rw [memP_in hn]; exact hh)]; exact owns_below hown hb2, hnx.trans (hb2.mono (by have := hnx.size; simp at this; omega))⟩
        case measure => simp [intOf]; omega
      | true =>
        have hsz : w.heap.size + 1 ≤ wr.heap.size := by have := hnx.size; simpa using this
        go_wp2_with (first | (go_at_call 32; refine (has_yes a b n _ ha hb hn (by assumption)).mono ?_; rintro e w2 ⟨rfl, hb2⟩; have hown2 := owns_below hown hb2; have hsz2 := hb2.size) | (at_builtin; refine wpList_append_own _ rfl _ _ 22 rfl (w.heap.size + 1) 3 i0 (.int .i64 0) 1 8 Tryd.underlying22 hi hz0 hz1 hz2 rfl (by decide) _ _ _ rfl (hown2.alloc _) ⟨w2.heap.size, 0, none⟩ 1 1 [.int .i64 (n : Int)] rfl rfl (cell_one_new _ _ _) (by simp [Value.oneCell']) (by unfold maxLen; omega) (by omega) (by simp; omega) ?_; intro v' w3 hown' hgrow _))
        go_roundw
        case rel =>
          exact ⟨(n : Int) + 1, by omega, by omega, by go_num, by rw [show ((n : Int) + 1).toNat = n + 1 from by omega, upTo_hit _ _ (by rw [memP_in hn]; exact hh)]; simpa using hown',
            hnx.trans (((hb2.mono hsz).alloc (by omega) _).grown hgrow (by simp; omega) (fun j hj => by have := (hown2.lt j hj).1; omega))⟩
        case measure => simp [intOf]; omega
end Go.Proofs.YthpinbngggcgcaaDoor
