/-
  The document's Text.
-/
import Derived.Test.YtlephnfepofbbaaGreatDoorMvRefLine
import Derived.Deep.RegionHeld3
namespace Go.Proofs.YtlephnfepofbbaaGreatDoor
open Go.RowKit

theorem textB_takeL (l : List St) (k : Nat) : (textB (l.take k)).length ≤ (textB l).length := by
  conv => rhs; rw [← List.take_append_drop k l]
  unfold textB
  rw [List.flatMap_append, List.length_append]; omega
theorem beq_ba (a : ByteArray) : (a.toList == a.toList) = true := beq_self_eq_true _
set_option maxRecDepth 100000 in
set_option maxHeartbeats 8000000 in
theorem same_true (l : List St) (u v : Value) (w : World) (hx : SrcS (Lt w.heap.size) w u l) (hy : SrcS (Lt w.heap.size) w v l) (hwf : ∀ x ∈ l, x.Wf) (hok : ∀ x ∈ l, stOk x = true) :
    Calls Tryz.prog 20 #[u, v] w fun e w' => e = .returned (.bool true) ∧ Below w.heap.size w w' := by
  obtain ⟨A, c, rfl, a1, a2, a3⟩ := hx.form
  obtain ⟨B, d, rfl, b1, b2, b3⟩ := hy.form
  obtain ⟨n, hn⟩ : ∃ n, l.length = n := ⟨_, rfl⟩
  rw [hn] at hx hy a1 b1 ⊢
  have HX := Lib.hid hx
  have HY := Lib.hid hy
  have HN := Lib.hid hn
  have HOK := Lib.hid (And.intro hok hwf)
  clear hx hy hn hok hwf a3 b3
  go_enter Tryz.func20, Tryz.ntmps20
  go_wp2_with fail
  go_loopw [5] (fun i wr => ∃ (j : Nat), j ≤ n ∧ i = .int .i64 j ∧ Hid (Below w.heap.size w wr)) (fun i _ => n - (intOf i).toNat)
  case atStart => exact ⟨0, Nat.zero_le _, rfl, Lib.hid (Below.refl _ _)⟩
  case round =>
    obtain ⟨j, hj, rfl, HB⟩ := hrel
    by_cases hlt : j < n
    · have hlt' : (j : Int) < (n : Int) := by omega
      have hj0 : (0 : Int) ≤ (j : Int) := by omega
      have hjl : j < l.length := by have := HN.out; omega
      obtain ⟨g, off, ov, mv, rfl, hg, hg2, ⟨q0, q1, q2, q3⟩, hS⟩ := HX.out.at_ (k := j) hjl
      obtain ⟨h, of2, ow, mw, rfl, hh, hh2, ⟨p0, p1, p2, p3⟩, hT⟩ := HY.out.at_ (k := j) hjl
      obtain ⟨z, hz⟩ : ∃ z, l[j] = z := ⟨_, rfl⟩
      have hzm : z ∈ l := by rw [← hz]; exact List.getElem_mem _
      rw [hz] at q0 q1 hS p0 p1 hT
      obtain ⟨E, e2, F, f2, rfl, rfl⟩ := hS.forms
      obtain ⟨G, g2, H, h2, rfl, rfl⟩ := hT.forms
      obtain ⟨L, hLL⟩ : ∃ L, lineB z = L := ⟨_, rfl⟩
      have hfun : ∀ W', Below w.heap.size w W' → (W'.cell? ⟨g, off + j * 4, none⟩ = some (.int .u64 (z.t : Int)) ∧ W'.cell? ⟨g, off + j * 4 + 1, none⟩ = some (.bool z.intr) ∧ W'.cell? ⟨g, off + j * 4 + 2, none⟩ = some (.slice E z.ord.length e2) ∧ W'.cell? ⟨g, off + j * 4 + 3, none⟩ = some (.slice F z.mv.length f2) ∧
          W'.cell? ⟨h, of2 + j * 4, none⟩ = some (.int .u64 (z.t : Int)) ∧ W'.cell? ⟨h, of2 + j * 4 + 1, none⟩ = some (.bool z.intr) ∧ W'.cell? ⟨h, of2 + j * 4 + 2, none⟩ = some (.slice G z.ord.length g2) ∧ W'.cell? ⟨h, of2 + j * 4 + 3, none⟩ = some (.slice H z.mv.length h2)) := fun W' hb =>
        ⟨(hb.cell (p := ⟨g, _, none⟩) hg).trans q0, (hb.cell (p := ⟨g, _, none⟩) hg).trans q1, (hb.cell (p := ⟨g, _, none⟩) hg).trans q2, (hb.cell (p := ⟨g, _, none⟩) hg).trans q3,
         (hb.cell (p := ⟨h, _, none⟩) hh).trans p0, (hb.cell (p := ⟨h, _, none⟩) hh).trans p1, (hb.cell (p := ⟨h, _, none⟩) hh).trans p2, (hb.cell (p := ⟨h, _, none⟩) hh).trans p3⟩
      have C1 : ∀ W', Below w.heap.size w W' → Calls Tryz.prog 46 #[.agg #[.int .u64 (z.t : Int), .bool z.intr, .slice E z.ord.length e2, .slice F z.mv.length f2]] W' fun e w' => e = .returned (.string ⟨L.toArray⟩) ∧ Below W'.heap.size W' w' := fun W' hb => hLL ▸ rline_any z (HOK.out.1 z hzm) (HOK.out.2 z hzm) _ _ W' ((hS.below hb).weak fun g _ h => Nat.lt_of_lt_of_le h hb.size)
      have C2 : ∀ W', Below w.heap.size w W' → Calls Tryz.prog 46 #[.agg #[.int .u64 (z.t : Int), .bool z.intr, .slice G z.ord.length g2, .slice H z.mv.length h2]] W' fun e w' => e = .returned (.string ⟨L.toArray⟩) ∧ Below W'.heap.size W' w' := fun W' hb => hLL ▸ rline_any z (HOK.out.1 z hzm) (HOK.out.2 z hzm) _ _ W' ((hT.below hb).weak fun g _ h => Nat.lt_of_lt_of_le h hb.size)
      have HC1 := Lib.hid C1
      have HC2 := Lib.hid C2
      have HF := Lib.hid hfun
      have hne : ((⟨L.toArray⟩ : ByteArray).toList == (⟨L.toArray⟩ : ByteArray).toList) = true := beq_ba _
      clear hz hg hg2 hh hh2 hS hT hzm hLL C1 C2 hfun q0 q1 q2 q3 p0 p1 p2 p3
      go_wp2_with fail
      have hE : Below w.heap.size w wr.drew := HB.out.trans ⟨rfl, rfl, rfl, Nat.le_refl _, fun _ _ => rfl⟩
      go_region_held3 (fun W => W.cell? ⟨g, off + j * 4, none⟩ = some (.int .u64 (z.t : Int)) ∧ W.cell? ⟨g, off + j * 4 + 1, none⟩ = some (.bool z.intr) ∧ W.cell? ⟨g, off + j * 4 + 2, none⟩ = some (.slice E z.ord.length e2) ∧ W.cell? ⟨g, off + j * 4 + 3, none⟩ = some (.slice F z.mv.length f2) ∧
          W.cell? ⟨h, of2 + j * 4, none⟩ = some (.int .u64 (z.t : Int)) ∧ W.cell? ⟨h, of2 + j * 4 + 1, none⟩ = some (.bool z.intr) ∧ W.cell? ⟨h, of2 + j * 4 + 2, none⟩ = some (.slice G z.ord.length g2) ∧ W.cell? ⟨h, of2 + j * 4 + 3, none⟩ = some (.slice H z.mv.length h2))
        (exact HF.out _ hE)
        (first
          | (go_at_call 46; (with_reducible refine (HC1.out _ hE).mono ?_); rintro e w' ⟨rfl, hbx⟩; have hE := hE.trans (hbx.mono hE.size))
          | (go_at_call 46; (with_reducible refine (HC2.out _ hE).mono ?_); rintro e w' ⟨rfl, hbx⟩; have hE := hE.trans (hbx.mono hE.size)))
      all_goals
        go_wp2_with fail
        go_roundw
        case rel => exact ⟨j + 1, by omega, by go_num, Lib.hid hE⟩
        case measure => simp [intOf]; omega
    · obtain rfl : j = n := by omega
      have hlt' : ¬ (j : Int) < (j : Int) := by omega
      go_wp2_with fail
      go_ret
      exact ⟨rfl, HB.out⟩
end Go.Proofs.YtlephnfepofbbaaGreatDoor
