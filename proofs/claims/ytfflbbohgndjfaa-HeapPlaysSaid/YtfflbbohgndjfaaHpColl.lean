/-
  slices.Collect of slices.Values at items: a new slice with the same items.
-/
import Derived.Test.YtfflbbohgndjfaaHpVals
import Derived.Maps.AppendAt
import Derived.Outline
namespace Go.Proofs.Ytfflbbohgndjfaa
open Go.RowKit Go.Shelf Go.Maps Go.ChangeMaps Go.Sort

attribute [local go_sem] Oper.semAt_some

/-- A row of its own that the slice v names, with the items P. -/
def OwnIt (W : World) (B : Nat) (v : Value) (P : List It) : Prop := W.ownsRow B 31 3 v P.length (P.flatMap encIt)

set_option maxRecDepth 100000 in
set_option maxHeartbeats 4000000 in
theorem appendSeq_any (w : World) (Bs : Nat) (A : Option Addr) (c : Nat) (P : List It) (hlen : P.length ≤ 100000) (hb : Boxed w Bs 26 (.slice A P.length c)) (hr : 0 < P.length → ∃ g, A = some ⟨g, 0, none⟩ ∧ g < w.heap.size ∧ RowAt w g P) (hA : ∀ k, A.map (·.block) = some k → k < w.heap.size) :
    Calls Try.prog 52 #[.slice none 0 0, .func (.func 48) #[] #[.pointer (some ⟨Bs, 0, none⟩)]] w fun e w' =>
      ∃ v, e = .returned v ∧ OwnIt w' w.heap.size v P ∧ Below w.heap.size w w' := by
  obtain ⟨i0, hi, hz0, hz1, hz2⟩ := info_parts infoIt
  refine (callsIn_wide (n := 4)).1 ?_
  have bO := Boxed.new w 26 (.slice none 0 0)
  have hB0 : Below w.heap.size w (w.alloc (.cells #[.slice none 0 0] 26)) := (Below.refl _ w).alloc (Nat.le_refl _) _
  refine callsIn_of_wp_marks Try.func52 rfl trivial ?_ rfl
  simp only [Try.ntmps52, List.size_toArray, List.length_cons, List.length_nil, Nat.reduceAdd, Nat.reduceSub, Array.replicate_succ, Array.replicate_zero, List.push_toArray, List.append_toArray, List.nil_append, List.cons_append]
  gi_wp2
  have hAB : ∀ k, (k = Bs ∨ A.map (·.block) = some k) → k < w.heap.size := fun k e => by
    rcases e with e | e
    · exact e ▸ hb.lt
    · exact hA k e
  refine rangeFunc_ch (n := 4) (by omega) (gf := 48) (lb := #[.pointer (some ⟨Bs, 0, none⟩)]) rfl (enters_of Try.func48 (by kernel_rfl) rfl)
    (values_ch 3 (by omega) Bs A c P hlen (Below w.heap.size) (fun X Y k h e _ => h.block k (hAB k e)) w hb hr) hB0.block (by simp)
    (fun h k => h.trans k) (belowK_b (by simp)) (fun _ => rfl)
    (fun pre W => (∃ v, Boxed W w.heap.size 26 v ∧ OwnIt W w.heap.size v pre) ∧ Below w.heap.size w W)
    (fun _ _ _ => False)
    (OwnFrom.and (Own.from (fun s X Y row hs hg hrow => by
      obtain ⟨v, h1, h2⟩ := hs
      refine ⟨v, h1.kept hg (fun e' => ?_), World.ownsRow.kept h2 hg ?_⟩
      · obtain ⟨o, ho, hc⟩ := hrow _ e'.symm
        rw [show X.heap[w.heap.size]? = _ from h1] at ho; cases ho; cases hc
      · rcases h2.2 with ⟨rfl, _⟩ | ⟨g, cap, cur, rfl, _, hgb, _⟩
        · exact .inl rfl
        · refine .inr fun e' => ?_
          obtain ⟨o, ho, hc⟩ := hrow g (by simpa [Value.ownBlock] using e'.symm)
          rw [hgb] at ho; cases ho; cases hc) _) (ownFrom_below (Nat.le_refl _) (by simp)))
    (fun _ _ _ _ _ hs _ _ => hs)
    (fun X Y k o h hk ho => (h.block k (Array.getElem?_eq_some_iff.1 ho).1 (fun e => e)).trans ho)
    (fun s X Y hs h => by
      obtain ⟨⟨v, h1, h2⟩, h3⟩ := hs
      exact ⟨⟨v, (h.block _ h1.lt (fun e => e)).trans h1, own_same h2 (fun k e => h.block k (own_lt h2 e).1 (fun e => e))⟩, h3.trans (h.below (fun _ e => e.elim) h3.size)⟩)
    (fun _ _ _ _ _ hs _ _ => hs)
    ⟨⟨_, bO, World.ownsRow_nil _ _ _ _⟩, hB0⟩
    (fun x a' W => ∃ Bx, w.heap.size < Bx ∧ Blk W Bx 31 #[.int .i64 x.id, .int .u64 x.d, .int .u64 x.n] ∧ a' = { tmps := #[.slice none 0 0, .func (.func 48) #[] #[.pointer (some ⟨Bs, 0, none⟩)], .pointer (some ⟨w.heap.size, 0, none⟩), undef, .slice none 0 0, .pointer (some ⟨Bx, 0, none⟩), .func (.func 48) #[] #[.pointer (some ⟨Bs, 0, none⟩)], .agg #[.int .i64 x.id, .int .u64 x.d, .int .u64 x.n], undef, undef, undef, undef, undef], defers := [] })
    (fun x a' s X Y row hs hg hrow => by
      obtain ⟨Bx, h1, h2, h3⟩ := hs
      refine ⟨Bx, h1, h2.same (hg.block Bx h2.lt (fun e' => ?_)), h3⟩
      obtain ⟨_, o, ho, hc⟩ := hrow _ e'.symm
      rw [show X.heap[Bx]? = _ from h2] at ho; cases ho; cases hc) ?assign ?body ?done ?stop
  case assign =>
    rintro l pre x W K ⟨⟨v, hv, hrow⟩, hB⟩ hK
    have hlt := hv.lt
    gi_wp2
    exact hK _ _ ((KeepsOthers.alloc _ _).from _) ((Below.refl _ W).alloc hB.size _) ⟨⟨v, hv.alloc _, World.ownsRow.alloc hrow _⟩, hB.alloc hB.size _⟩ ⟨W.heap.size, by omega, Blk.new _ _ _, rfl⟩
  case body =>
    rintro l pre x a' W hl ⟨⟨v, hv, hrow⟩, hB⟩ ⟨Bx, hBx, bX, rfl⟩ hlt
    have hc := hv.cell
    have x0 := bX.cell 0
    have x1 := bX.cell 1
    have x2 := bX.cell 2
    simp at x0 x1 x2
    gi_wp2_with (gi_at_builtin; refine wpListIn_append_own _ rfl _ _ 26 rfl w.heap.size 31 i0 _ 3 24 Try.underlying26 hi hz0 hz1 hz2 rfl (by decide) _ _ _ rfl (World.ownsRow.alloc hrow _) ⟨W.heap.size, 0, none⟩ 1 1 [.int .i64 x.id, .int .u64 x.d, .int .u64 x.n] rfl rfl (World.news_of_block (cs := #[.int .i64 x.id, .int .u64 x.d, .int .u64 x.n]) (heap_alloc_new W _)) (by simp [Value.oneCell']) (by unfold maxLen; omega) (by omega) (by have := hB.size; simp; omega) ?_; intro v' w1 hown' hgrow _; obtain ⟨g', cap', rfl⟩ := ownsRow_succ hown'; obtain ⟨hv1, hv2, hr2, hk2, hb2⟩ := hv.appended (by decide) hrow hB.size (Nat.le_refl _) hown' hgrow; have hc1 := hv1.cell; have hf1 := hv1.frozen)
    rw [enc_snoc] at hr2
    exact ⟨hk2.from _, hb2, ⟨_, hv2, by unfold OwnIt; simpa using hr2⟩, hB.trans hb2⟩
  case done =>
    rintro D ys W hD rfl ⟨⟨v, hv, hrow⟩, hB⟩ hK
    have hc := hv.cell
    gi_wp2
    refine ⟨by simp, .inl ⟨_, _, rfl, run_takeDeferred hK, ?_⟩⟩
    exact ⟨_, results_tmp rfl _ _ _, v, rfl, ownsRow_putObj hrow _ hK rfl, hB.trans (belowK_b (w := w) (Nat.le_refl _) W D _ _ (by simp at hD; omega) hK rfl rfl)⟩
  case stop =>
    rintro D c pre W _ _ h _
    exact h.elim
end Go.Proofs.Ytfflbbohgndjfaa
