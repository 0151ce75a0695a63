/-
  circle.lay, resize and put.
-/
import Derived.Test.YtjejpgognfadoaaGreatDoorRgFirst
namespace Go.Proofs.YtjejpgognfadoaaGreatDoor
open Go.RowKit Go.Shelf Go.Maps Go.ChangeMaps

theorem encB_rep (n : Nat) : (List.replicate n (0 : Int)).length = n := List.length_replicate

set_option maxRecDepth 100000 in
set_option maxHeartbeats 4000000 in
theorem lay_any {w : World} {B cb cap inn out : Nat} {v : Value} {ps bs : List Int} (h : Cst w B cb cap v ps bs inn out) (hBw : B ≤ w.heap.size) (k : Nat) (hk : bs.length ≤ k) (hk2 : k ≤ 65536) :
    Calls Tryz.prog 94 #[.pointer (some ⟨cb, 0, none⟩), .int .i64 (k : Int)] w fun e w' =>
      e = .returned (.tuple #[]) ∧ ∃ g', Cst w' B cb cap (.slice (some ⟨g', 0, none⟩) k k) (laidB (List.replicate k 0) out bs) bs inn out ∧ w.heap.size ≤ g' ∧ Kept (fun i => i = cb) w w' := by
  have hL := Lib.hid (length_any h)
  have hcl := h.blk.lt
  have hsm := h.sm
  have hin := h.hin
  have hmk := made_run k hk2
  have HF : Hid (∀ q, Calls Tryz.prog 96 #[.pointer (some ⟨cb, 0, none⟩), .int .i64 (bs.length : Int)] (w.drewN q) fun e w' =>
      ∃ gb, e = .returned (.slice (some ⟨gb, 0, none⟩) bs.length bs.length) ∧ w.heap.size ≤ gb ∧ (0 < bs.length → w'.heap[gb]? = some (.cells (encB bs).toArray 5 (0, 0))) ∧ Kept (fun _ => False) w w') := by
    refine Lib.hid fun q => ?_
    have hk0 : Kept (fun _ => False) w (w.drewN q) := (Kept.refl _ w).drewN q
    by_cases h0 : 0 < bs.length
    · refine (first_any (h.drewN q) bs.length (Nat.le_refl _) h0).mono ?_
      rintro e w' ⟨gb, rfl, h1, h2, h3⟩
      rw [List.take_length] at h2
      exact ⟨gb, rfl, h1, fun _ => h2, hk0.trans h3⟩
    · obtain rfl : bs = [] := List.eq_nil_of_length_eq_zero (by omega)
      refine (first_none (h.drewN q)).mono ?_
      rintro e w' ⟨gb, rfl, h1, h3⟩
      exact ⟨gb, rfl, h1, fun h => by simp at h, hk0.trans h3⟩
  have HC := Lib.hid h
  clear h
  go_enter Tryz.func94, Tryz.ntmps94
  go_wp2_with (go_at_call 70; refine hL.out.mono ?_; rintro e w' ⟨rfl, q, rfl⟩)
  refine (HF.out q).mono ?_
  rintro e w1 ⟨gb, rfl, hgb, hrow, hk1⟩
  have hC1 := HC.out.kept hk1 (fun _ _ e => e)
  have c1 := hC1.blk.cell 1
  have c3 := hC1.blk.cell 3
  simp at c1 c3
  have f1 := hC1.blk.frozen 1
  have l1 := hC1.blk.lt
  have hnr : ∀ i, v.ownBlock = some i → i < w.heap.size := fun i e => (HC.out.row.lt e).1
  obtain ⟨W2, hW2⟩ : ∃ W2, (w1.setCell ⟨cb, 1, none⟩ (.slice (some ⟨w1.heap.size, 0, none⟩) k k)).alloc (.cells (encB (List.replicate k 0)).toArray 5) = W2 := ⟨_, rfl⟩
  have hs2 : (w1.setCell ⟨cb, 1, none⟩ (.slice (some ⟨w1.heap.size, 0, none⟩) k k)).heap.size = w1.heap.size := by simp [World.setCell]
  have b2 : Blk W2 cb 104 #[.int .i64 (cap : Int), .slice (some ⟨w1.heap.size, 0, none⟩) k k, .int .u64 (inn : Int), .int .u64 (out : Int)] := by
    rw [← hW2]
    have := (hC1.blk.set_ 1 (.slice (some ⟨w1.heap.size, 0, none⟩) k k)).alloc (.cells (encB (List.replicate k 0)).toArray 5)
    simpa using this
  have r2 : W2.heap[w1.heap.size]? = some (.cells (encB (List.replicate k 0)).toArray 5 (0, 0)) := by
    rw [← hW2]
    have := heap_alloc_new (w1.setCell ⟨cb, 1, none⟩ (.slice (some ⟨w1.heap.size, 0, none⟩) k k)) (.cells (encB (List.replicate k 0)).toArray 5)
    rwa [hs2] at this
  have hk2' : Kept (fun i => i = cb) w1 W2 := by rw [← hW2]; exact ((Kept.refl (fun i => i = cb) w1).setCell (p := ⟨cb, 1, none⟩) rfl _).alloc _
  have hz2 : W2.heap.size = w1.heap.size + 1 := by rw [← hW2]; simp [World.setCell]
  have HWR : Hid (Calls Tryz.prog 95 #[.pointer (some ⟨cb, 0, none⟩), .int .u64 (out : Int), .slice (some ⟨gb, 0, none⟩) bs.length bs.length] W2 fun e w' =>
      e = .returned (.tuple #[]) ∧ w'.heap[w1.heap.size]? = some (.cells (encB (laidB (List.replicate k 0) out bs)).toArray 5 (0, 0)) ∧ Kept (fun i => i = w1.heap.size) W2 w') := by
    refine Lib.hid ?_
    by_cases h0 : 0 < bs.length
    · have hgl : gb < w1.heap.size := (Array.getElem?_eq_some_iff.1 (hrow h0)).1
      refine write_any W2 cb w1.heap.size out _ _ _ (List.replicate k 0) bs _ gb 0 bs.length (by rw [List.length_replicate]; exact b2) r2 (by rw [List.length_replicate]; exact hk2) (by rw [List.length_replicate]; exact hk) h0 (by omega) (Nat.le_refl _) (by omega) rfl (by omega) (by omega) (fun i z hz => ?_)
      have hb : Blk W2 gb 5 (encB bs).toArray := (hk2'.block gb hgl (by omega)).trans (hrow h0)
      rw [hb.cell]
      simp [encB, hz]
    · obtain rfl : bs = [] := List.eq_nil_of_length_eq_zero (by omega)
      refine (write_none W2 cb out (some ⟨gb, 0, none⟩) 0).mono ?_
      rintro e w' ⟨rfl, hk'⟩
      exact ⟨rfl, by rw [laidB_nil]; exact (hk'.block _ (by omega) (fun e => e)).trans r2, hk'.mono fun _ _ e => e.elim⟩
  have HW2 := Lib.hid hW2
  have H1 := Lib.hid (And.intro hgb (And.intro hrow (And.intro hk1 (And.intro hC1 (And.intro b2 (And.intro hk2' hnr))))))
  clear hgb hrow hk1 hC1 hW2 b2 r2 hk2' hs2 hnr
  go_wp2_with fail
  rw [HW2.out]
  refine HWR.out.mono ?_
  rintro e w3 ⟨rfl, r3, k3⟩
  obtain ⟨hgb, hrow, hk1, hC1, b2, hk2', hnr⟩ := H1.out
  have HE := Lib.hid (show Cst w3 B cb cap (.slice (some ⟨w1.heap.size, 0, none⟩) k k) (laidB (List.replicate k 0) out bs) bs inn out ∧ Kept (fun i => i = cb) w w3 from by
    have hll : (laidB (List.replicate k 0) out bs).length = k := by rw [len_laid _ _ _ (by rw [List.length_replicate]; exact hk), List.length_replicate]
    refine ⟨⟨b2.kept k3 (by omega), .inr ⟨w1.heap.size, by rw [hll], Nat.le_trans hBw hk1.size, r3⟩, HC.out.hB, Lies.fresh k bs out hk, by rw [hll]; exact hk2, HC.out.big, HC.out.fit, hin, hsm⟩, ?_⟩
    exact ((hk1.mono fun _ _ e => e.elim).trans hk2').andThen k3 (fun i hi e => by have := hk1.size; omega))
  have hz1 := hk1.size
  clear hgb hrow hk1 hC1 b2 hk2' hnr r3 k3
  go_wp2_with fail
  go_end0
  exact ⟨rfl, _, HE.out.1, hz1, HE.out.2⟩

end Go.Proofs.YtjejpgognfadoaaGreatDoor
