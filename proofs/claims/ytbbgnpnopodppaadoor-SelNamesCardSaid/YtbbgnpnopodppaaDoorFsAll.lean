/-
  The contract of package fdset's All: a new slice of all members, rising, for every set.
-/
import Derived.Test.YtbbgnpnopodppaaDoorSeBase
import Derived.Test.YtbbgnpnopodppaaDoorFsLen
import Derived.RangeFuncBox
namespace Go.Proofs.YtbbgnpnopodppaaDoor.Fs
open Go.RowKit Go.Shelf

attribute [local go_sem] Oper.semAt_some

/-- The members so far, as ints. -/
def intsOf (l : List M) : List Int := l.map (fun x => (x.1 : Int))
theorem intsOf_snoc (l : List M) (x : M) : intsOf (l ++ [x]) = intsOf l ++ [(x.1 : Int)] := by simp [intsOf]
theorem intsOf_length (l : List M) : (intsOf l).length = l.length := by simp [intsOf]

set_option maxRecDepth 100000 in
set_option maxHeartbeats 4000000 in
theorem all_own (a b : Nat) (w : World) (ha : a < 4294967296) (hb : b < 4294967296) (hT : Tab w) (hg : 0 < w.heap.size) :
    Calls Tryd.prog 39 #[.agg #[.int .u32 (a : Int), .int .u32 (b : Int)]] w (fun e w' => ∃ v, e = .returned v ∧ (IsL w' v (memI a b) ∧ ∀ k, v.ownBlock = some k → w.heap.size ≤ k) ∧ Below w.heap.size w w') := by
  refine (callsIn_wide (n := 4)).1 ?_
  obtain ⟨i0, hi, hz0, hz1, hz2⟩ := info_parts infoInt
  have hN : (memI a b).length ≤ 64 := length_memI a b
  have hs0 := isSet_new w a b
  refine callsIn_of_wp_marks Tryd.func39 rfl trivial ?_ rfl
  simp only [Tryd.ntmps39, List.size_toArray, List.length_cons, List.length_nil, Nat.reduceAdd, Nat.reduceSub, Array.replicate_succ, Array.replicate_zero, List.push_toArray, List.append_toArray, List.nil_append, List.cons_append]
  gi_wp2_with (first
    | (refine ⟨trivial, ?_⟩; gi_at_call 10; refine (callsIn_wide.2 (len_any a b _ ha hb)).mono ?_; rintro e w1 ⟨rfl, hb1⟩; have hs1 := Lib.hid (hs0.below hb1); have hz1' := hb1.size; have hbw1 := below_endL ((Below.refl _ w).alloc (Nat.le_refl _) _) hb1)
    | (gi_at_make; refine wpListIn_make_own _ rfl _ _ 67 rfl w.heap.size 3 i0 (.int .i64 0) 1 Tryd.underlying67 hi hz0 hz1 .i64 .i64 _ (memI a b).length rfl rfl rfl (by rw [hz2]; omega) (by unfold maxLen; omega) (by simp at hz1'; omega) ?_; intro w2 hown hgrow; have hs2 := Lib.hid (hs1.out.grown hgrow (by simp)); have hz2' := hgrow.size; have hlt2 : w.heap.size < w2.heap.size := (by simp at hz1'; omega); have hbw2 := hbw1.grown hgrow (by simp at hz1'; omega) (fun k hk => by cases hk); obtain ⟨c0, c1, _, _⟩ := hs2.out)
    | (refine ⟨trivial, ?_⟩; gi_at_call 47; refine (callsIn_wide.2 (members_any a b _)).mono ?_; rintro e w' ⟨rfl, rfl⟩))
  obtain ⟨v0, hv0⟩ : ∃ v0 : Value, Value.slice (some ⟨w1.heap.size, 0, none⟩) 0 (memI a b).length = v0 := ⟨_, rfl⟩
  rw [hv0] at hown ⊢
  have hnn : v0 ≠ .slice none 0 0 := by rw [← hv0]; intro h; cases h
  have hb2 : w1.heap.size < w2.heap.size := by
    rw [← hv0] at hown
    exact (hown.lt w1.heap.size rfl).2
  obtain ⟨Y, hY⟩ : ∃ Y, w2.alloc (.cells #[v0] 67) = Y := ⟨_, rfl⟩
  have bY : Boxed Y w2.heap.size 67 v0 := by rw [← hY]; exact Boxed.new _ _ _
  have hYsz : Y.heap.size = w2.heap.size + 1 := by rw [← hY]; simp
  have hownY : Y.ownsRow w.heap.size 3 1 v0 0 [] := by rw [← hY]; exact hown.alloc _
  have hYb : Below w.heap.size w Y := by rw [← hY]; exact hbw2.alloc (by omega) _
  rw [hY]
  obtain ⟨Z, hZ⟩ : ∃ Z, Y.alloc (.cells #[.int .u32 (a : Int), .int .u32 (b : Int)] 28) = Z := ⟨_, rfl⟩
  have hsN := isSet_new Y a b
  have hZY : Below Y.heap.size Y Z := by rw [← hZ]; exact (Below.refl _ _).alloc (Nat.le_refl _) _
  have hZsz : Z.heap.size = w2.heap.size + 1 + 1 := by rw [← hZ]; simp [hYsz]
  have hB0 : Below w.heap.size w Z := below_endL hYb hZY
  have hTZ : Tab Z := (hT.below hg hYb).below (by omega) hZY
  have bZ : Boxed Z w2.heap.size 67 v0 := by rw [← hZ]; exact bY.alloc _
  have hownZ : Z.ownsRow w.heap.size 3 1 v0 0 [] := by rw [← hZ]; exact hownY.alloc _
  rw [hYsz] at hsN
  rw [hZ] at hsN ⊢
  clear hZ hZY hY bY hownY hYb hown hs1 hs2 c0 c1 hbw1 hbw2 hgrow hb1
  refine wpIn_rangeFunc_ownG (n := 4) rfl (by omega) (gf := 54) (lb := #[.pointer (some ⟨w2.heap.size + 1, 0, none⟩)]) rfl trivial (enters_of Tryd.func54 (by kernel_rfl) rfl)
    (members_stops 3 (by omega) (w2.heap.size + 1) w.heap.size hg a b ha hb Z hsN hTZ (by omega)) belowK_t (belowK_b (by omega)) (Below.refl _ _) (fun _ => rfl)
    (fun pre W => (∃ v, Boxed W w2.heap.size 67 v ∧ W.ownsRow w.heap.size 3 1 v (intsOf pre).length ((intsOf pre).map (Value.int .i64)) ∧ True) ∧ Below w.heap.size w W)
    (fun _ _ _ => False)
    (OwnFrom.and (Own.from (holdsRow_own w.heap.size w2.heap.size 67 3 1 (fun pre => (intsOf pre).length) (fun pre => (intsOf pre).map (Value.int .i64)) (fun _ _ => True)) _) (ownFrom_below (Nat.le_refl _) (by omega)))
    (fun _ _ _ _ _ hs _ _ => hs)
    ⟨⟨_, bZ, hownZ, trivial⟩, hB0⟩
    (fun x => { tmps := #[.agg #[.int .u32 (a : Int), .int .u32 (b : Int)], .pointer (some ⟨w.heap.size, 0, none⟩), .slice none 0 0, .pointer (some ⟨w2.heap.size, 0, none⟩), .int .i64 (x.1 : Int), .agg #[.int .u32 (a : Int), .int .u32 (b : Int)], .int .i64 (((memI a b).length : Nat) : Int), v0, .agg #[.int .u32 (a : Int), .int .u32 (b : Int)], .func (.func 54) #[] #[.pointer (some ⟨w2.heap.size + 1, 0, none⟩)], .int .i64 (x.1 : Int), undef, undef, undef, undef, undef], defers := [] }) ?assign ?body ?done ?stop
  case assign =>
    intro l x W K hK
    gi_wp2
    exact hK
  case body =>
    rintro l pre x W ⟨⟨v, hv, hrow, _⟩, hB⟩ hlt
    have hc := hv.cell
    have hpl : (intsOf pre).length < 64 := by
      rw [intsOf_length]
      have := length_memI a b
      unfold memI at this
      rw [List.length_map] at this
      omega
    gi_wp2_with (gi_at_builtin; refine wpListIn_append_own _ rfl _ _ 67 rfl w.heap.size 3 i0 (.int .i64 0) 1 8 Tryd.underlying67 hi hz0 hz1 hz2 rfl (by decide) _ _ _ rfl (hrow.alloc _) ⟨W.heap.size, 0, none⟩ 1 1 [.int .i64 (x.1 : Int)] rfl rfl (cell_one_new _ _ _) (by simp [Value.oneCell']) (by unfold maxLen; omega) (by omega) (by have := hB.size; simp; omega) ?_; intro v' w1 hown' hgrow _; obtain ⟨g', cap', rfl⟩ := ownsRow_succ hown'; obtain ⟨hv1, hv2, hr2, hk2, hb2⟩ := hv.appended (by decide) hrow hB.size (by omega) hown' hgrow; have hc1 := hv1.cell; have hf1 := hv1.frozen)
    exact ⟨hk2.from _, hb2, ⟨_, hv2, by rw [intsOf_snoc]; simpa using hr2, trivial⟩, hB.trans hb2⟩
  case done =>
    rintro D ys W hD hys ⟨⟨v, hv, hrow, _⟩, hB⟩ hK
    have hc := hv.cell
    have hm := memI_vals a b ys hys
    have Hm := Lib.hid hm
    clear hm
    gi_wp2
    refine ⟨by simp, .inl ⟨_, _, rfl, run_takeDeferred hK, ?_⟩⟩
    refine ⟨_, results_tmp rfl _ _ _, v, rfl, ?_, hB.trans (belowK_b (w := w) (Nat.le_refl _) W D _ _ (by omega) hK rfl rfl)⟩
    rw [Hm.out]
    exact ⟨isL_of_owns (by have h := length_memI a b; rw [Hm.out] at h; unfold maxLen; omega) (ownsRow_putObj hrow _ hK rfl), fun k hk => (hrow.lt k hk).1⟩
  case stop =>
    rintro D c pre W _ _ h _
    exact h.elim
theorem all_any (a b : Nat) (w : World) (ha : a < 4294967296) (hb : b < 4294967296) (hT : Tab w) (hg : 0 < w.heap.size) :
    Calls Tryd.prog 39 #[.agg #[.int .u32 (a : Int), .int .u32 (b : Int)]] w (RetL w (memI a b)) := (all_own a b w ha hb hT hg).mono fun e w' ⟨v, h1, h2, h3⟩ => ⟨v, h1, h2.1, h3⟩
end Go.Proofs.YtbbgnpnopodppaaDoor.Fs
