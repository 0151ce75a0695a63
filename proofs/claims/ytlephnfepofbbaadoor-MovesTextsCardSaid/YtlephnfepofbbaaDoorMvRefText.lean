/-
  The document's Text.
-/
import Derived.Test.YtlephnfepofbbaaDoorMvRefLine
import Derived.Deep.RegionHeld3
namespace Go.Proofs.YtlephnfepofbbaaDoor
open Go.RowKit

theorem textB_takeL (l : List St) (k : Nat) : (textB (l.take k)).length ≤ (textB l).length := by
  conv => rhs; rw [← List.take_append_drop k l]
  unfold textB
  rw [List.flatMap_append, List.length_append]; omega
theorem rtext_no (l : List St) (v : Value) (w : World) (hx : SrcS (Lt w.heap.size) w v l) (h : allOk l = false) :
    Calls Tryd.prog 8 #[v] w fun e w' => e = .returned (.tuple #[.string ⟨#[]⟩, .int .i64 120]) ∧ Below w.heap.size w w' := by
  have hc := rAll_any l v w hx
  rw [h] at hc
  have HC := Lib.hid hc
  clear hc hx h
  go_enter Tryd.func8, Tryd.ntmps8
  go_wp2_with (go_at_call 16; refine HC.out.mono ?_; rintro e w1 ⟨rfl, hb⟩)
  go_ret2
  exact ⟨rfl, hb⟩

set_option maxRecDepth 100000 in
set_option maxHeartbeats 8000000 in
theorem rtext_yes (l : List St) (v : Value) (w : World) (hx : SrcS (Lt w.heap.size) w v l) (hwf : ∀ x ∈ l, x.Wf) (h : allOk l = true) (hl : (textB l).length ≤ 40000000) :
    Calls Tryd.prog 8 #[v] w fun e w' => e = .returned (.tuple #[.string ⟨(textB l).toArray⟩, .int .i64 0]) ∧ Below w.heap.size w w' := by
  have hc := rAll_any l v w hx
  rw [h] at hc
  obtain ⟨A, c, rfl, a1, a2, a3⟩ := hx.form
  obtain ⟨n, hn⟩ : ∃ n, l.length = n := ⟨_, rfl⟩
  have hx' := hx
  rw [hn] at hc a1 hx' ⊢
  have HC := Lib.hid hc
  have HX := Lib.hid hx'
  have HN := Lib.hid hn
  have HOK := Lib.hid (And.intro (allOk_parts h).2 hwf)
  have HL := Lib.hid hl
  obtain ⟨T, hT⟩ : ∃ T, textB l = T := ⟨_, rfl⟩
  rw [hT]
  have HT := Lib.hid hT
  clear hc hx hx' h hn hwf hl hT a3
  go_enter Tryd.func8, Tryd.ntmps8
  go_wp2_with (go_at_call 16; refine HC.out.mono ?_; rintro e w1 ⟨rfl, hb⟩)
  have HB1 := Lib.hid hb
  clear hb
  go_loopw [5, 6] (fun o i wr => ∃ (j : Nat) (S : ByteArray), j ≤ n ∧ i = .int .i64 j ∧ o = .string S ∧ Hid (S.data.toList = textB (l.take j)) ∧ Hid (Below w.heap.size w wr)) (fun _ i _ => n - (intOf i).toNat)
  case atStart => exact ⟨0, ⟨#[]⟩, Nat.zero_le _, rfl, rfl, Lib.hid rfl, HB1⟩
  case round =>
    obtain ⟨j, S, hj, rfl, rfl, HS, HB⟩ := hrel
    by_cases hlt : j < n
    · have hlt' : (j : Int) < (n : Int) := by omega
      have hjl : j < l.length := by have := HN.out; omega
      obtain ⟨g, off, ov, mv, rfl, hg, hg2, ⟨q0, q1, q2, q3⟩, hS⟩ := HX.out.at_ (k := j) hjl
      have q0 := (HB.out.cell (p := ⟨g, off + j * 4, none⟩) hg).trans q0
      have q1 := (HB.out.cell (p := ⟨g, off + j * 4 + 1, none⟩) hg).trans q1
      have q2 := (HB.out.cell (p := ⟨g, off + j * 4 + 2, none⟩) hg).trans q2
      have q3 := (HB.out.cell (p := ⟨g, off + j * 4 + 3, none⟩) hg).trans q3
      obtain ⟨z, hz⟩ : ∃ z, l[j] = z := ⟨_, rfl⟩
      have hzm : z ∈ l := by rw [← hz]; exact List.getElem_mem _
      have hT2 : textB (l.take (j + 1)) = textB (l.take j) ++ (lineB z ++ [10]) := by
        unfold textB
        rw [List.take_add_one, List.getElem?_eq_getElem hjl, hz, Option.toList_some, List.flatMap_append]; simp
      rw [hz] at q0 q1 hS
      obtain ⟨E, e2, F, f2, rfl, rfl⟩ := hS.forms
      have hll := line_len z (HOK.out.1 z hzm) (HOK.out.2 z hzm)
      have hSz : S.size ≤ 40000000 := by rw [sz_of HS.out]; have := HL.out; have := textB_takeL l j; omega
      obtain ⟨L, hLL⟩ : ∃ L, lineB z = L := ⟨_, rfl⟩
      have hCC := rline_any z (HOK.out.1 z hzm) (HOK.out.2 z hzm) _ _ wr ((hS.below HB.out).weak fun g _ h => Nat.lt_of_lt_of_le h HB.out.size)
      rw [hLL] at hCC hT2 hll
      have hLs : (⟨L.toArray⟩ : ByteArray).size = L.length := by rw [Lib.size_eq]
      have h10 : (⟨#[10]⟩ : ByteArray).size = 1 := rfl
      have sA := sz_ok (a := S) (b := ⟨L.toArray⟩) (by omega)
      have sB := sz_ok (a := S ++ ⟨L.toArray⟩) (b := ⟨#[10]⟩) (by rw [ByteArray.size_append]; omega)
      have HCC := Lib.hid hCC
      have HT2 := Lib.hid hT2
      clear hz hg hg2 hT2 hS hzm hCC hll hSz hLL hLs h10
      go_wp2_with (go_at_call 17; refine HCC.out.mono ?_; rintro e w8 ⟨rfl, hb8⟩; have HB8 := Lib.hid (HB.out.trans (hb8.mono HB.out.size)); clear hb8)
      go_roundw
      case rel => exact ⟨j + 1, _, by omega, by go_num, rfl, Lib.hid (by rw [dl_app, dl_app, HS.out, HT2.out]; simp), HB8⟩
      case measure => simp [intOf]; omega
    · obtain rfl : j = n := by omega
      have hlt' : ¬ (j : Int) < (j : Int) := by omega
      have HO2 : Hid (S.data.toList = T) := Lib.hid (by have := HS.out; rwa [List.take_of_length_le (by have := HN.out; omega), HT.out] at this)
      go_wp2_with fail
      go_ret2
      have e : S = (⟨T.toArray⟩ : ByteArray) := ba_ext (by rw [HO2.out])
      exact ⟨by rw [e]; rfl, HB.out⟩

theorem beq_ba (a : ByteArray) : (a.toList == a.toList) = true := beq_self_eq_true _
set_option maxRecDepth 100000 in
set_option maxHeartbeats 8000000 in
theorem same_true (l : List St) (u v : Value) (w : World) (hx : SrcS (Lt w.heap.size) w u l) (hy : SrcS (Lt w.heap.size) w v l) (hwf : ∀ x ∈ l, x.Wf) (hok : ∀ x ∈ l, stOk x = true) :
    Calls Tryd.prog 11 #[u, v] w fun e w' => e = .returned (.bool true) ∧ Below w.heap.size w w' := by
  obtain ⟨A, c, rfl, a1, a2, a3⟩ := hx.form
  obtain ⟨B, d, rfl, b1, b2, b3⟩ := hy.form
  obtain ⟨n, hn⟩ : ∃ n, l.length = n := ⟨_, rfl⟩
  rw [hn] at hx hy a1 b1 ⊢
  have HX := Lib.hid hx
  have HY := Lib.hid hy
  have HN := Lib.hid hn
  have HOK := Lib.hid (And.intro hok hwf)
  clear hx hy hn hok hwf a3 b3
  go_enter Tryd.func11, Tryd.ntmps11
  go_wp2_with fail
  go_loopw [5] (fun i wr => ∃ (j : Nat), j ≤ n ∧ i = .int .i64 j ∧ Hid (Below w.heap.size w wr)) (fun i _ => n - (intOf i).toNat)
  case atStart => exact ⟨0, Nat.zero_le _, rfl, Lib.hid (Below.refl _ _)⟩
  case round =>
    obtain ⟨j, hj, rfl, HB⟩ := hrel
    by_cases hlt : j < n
    · have hlt' : (j : Int) < (n : Int) := by omega
      have hj0 : (0 : Int) ≤ (j : Int) := by omega
      have hjl : j < l.length := by have := HN.out; omega
      obtain ⟨g, off, ov, mv, rfl, hg, hg2, ⟨q0, q1, q2, q3⟩, hS⟩ := HX.out.at_ (k := j) hjl
      obtain ⟨h, of2, ow, mw, rfl, hh, hh2, ⟨p0, p1, p2, p3⟩, hT⟩ := HY.out.at_ (k := j) hjl
      obtain ⟨z, hz⟩ : ∃ z, l[j] = z := ⟨_, rfl⟩
      have hzm : z ∈ l := by rw [← hz]; exact List.getElem_mem _
      rw [hz] at q0 q1 hS p0 p1 hT
      obtain ⟨E, e2, F, f2, rfl, rfl⟩ := hS.forms
      obtain ⟨G, g2, H, h2, rfl, rfl⟩ := hT.forms
      obtain ⟨L, hLL⟩ : ∃ L, lineB z = L := ⟨_, rfl⟩
      have hfun : ∀ W', Below w.heap.size w W' → (W'.cell? ⟨g, off + j * 4, none⟩ = some (.int .u64 (z.t : Int)) ∧ W'.cell? ⟨g, off + j * 4 + 1, none⟩ = some (.bool z.intr) ∧ W'.cell? ⟨g, off + j * 4 + 2, none⟩ = some (.slice E z.ord.length e2) ∧ W'.cell? ⟨g, off + j * 4 + 3, none⟩ = some (.slice F z.mv.length f2) ∧
          W'.cell? ⟨h, of2 + j * 4, none⟩ = some (.int .u64 (z.t : Int)) ∧ W'.cell? ⟨h, of2 + j * 4 + 1, none⟩ = some (.bool z.intr) ∧ W'.cell? ⟨h, of2 + j * 4 + 2, none⟩ = some (.slice G z.ord.length g2) ∧ W'.cell? ⟨h, of2 + j * 4 + 3, none⟩ = some (.slice H z.mv.length h2)) := fun W' hb =>
        ⟨(hb.cell (p := ⟨g, _, none⟩) hg).trans q0, (hb.cell (p := ⟨g, _, none⟩) hg).trans q1, (hb.cell (p := ⟨g, _, none⟩) hg).trans q2, (hb.cell (p := ⟨g, _, none⟩) hg).trans q3,
         (hb.cell (p := ⟨h, _, none⟩) hh).trans p0, (hb.cell (p := ⟨h, _, none⟩) hh).trans p1, (hb.cell (p := ⟨h, _, none⟩) hh).trans p2, (hb.cell (p := ⟨h, _, none⟩) hh).trans p3⟩
      have C1 : ∀ W', Below w.heap.size w W' → Calls Tryd.prog 17 #[.agg #[.int .u64 (z.t : Int), .bool z.intr, .slice E z.ord.length e2, .slice F z.mv.length f2]] W' fun e w' => e = .returned (.string ⟨L.toArray⟩) ∧ Below W'.heap.size W' w' := fun W' hb => hLL ▸ rline_any z (HOK.out.1 z hzm) (HOK.out.2 z hzm) _ _ W' ((hS.below hb).weak fun g _ h => Nat.lt_of_lt_of_le h hb.size)
      have C2 : ∀ W', Below w.heap.size w W' → Calls Tryd.prog 17 #[.agg #[.int .u64 (z.t : Int), .bool z.intr, .slice G z.ord.length g2, .slice H z.mv.length h2]] W' fun e w' => e = .returned (.string ⟨L.toArray⟩) ∧ Below W'.heap.size W' w' := fun W' hb => hLL ▸ rline_any z (HOK.out.1 z hzm) (HOK.out.2 z hzm) _ _ W' ((hT.below hb).weak fun g _ h => Nat.lt_of_lt_of_le h hb.size)
      have HC1 := Lib.hid C1
      have HC2 := Lib.hid C2
      have HF := Lib.hid hfun
      have hne : ((⟨L.toArray⟩ : ByteArray).toList == (⟨L.toArray⟩ : ByteArray).toList) = true := beq_ba _
      clear hz hg hg2 hh hh2 hS hT hzm hLL C1 C2 hfun q0 q1 q2 q3 p0 p1 p2 p3
      go_wp2_with fail
      have hE : Below w.heap.size w wr.drew := HB.out.trans ⟨rfl, rfl, rfl, Nat.le_refl _, fun _ _ => rfl⟩
      go_region_held3 (fun W => W.cell? ⟨g, off + j * 4, none⟩ = some (.int .u64 (z.t : Int)) ∧ W.cell? ⟨g, off + j * 4 + 1, none⟩ = some (.bool z.intr) ∧ W.cell? ⟨g, off + j * 4 + 2, none⟩ = some (.slice E z.ord.length e2) ∧ W.cell? ⟨g, off + j * 4 + 3, none⟩ = some (.slice F z.mv.length f2) ∧
          W.cell? ⟨h, of2 + j * 4, none⟩ = some (.int .u64 (z.t : Int)) ∧ W.cell? ⟨h, of2 + j * 4 + 1, none⟩ = some (.bool z.intr) ∧ W.cell? ⟨h, of2 + j * 4 + 2, none⟩ = some (.slice G z.ord.length g2) ∧ W.cell? ⟨h, of2 + j * 4 + 3, none⟩ = some (.slice H z.mv.length h2))
        (exact HF.out _ hE)
        (first
          | (go_at_call 17; (with_reducible refine (HC1.out _ hE).mono ?_); rintro e w' ⟨rfl, hbx⟩; have hE := hE.trans (hbx.mono hE.size))
          | (go_at_call 17; (with_reducible refine (HC2.out _ hE).mono ?_); rintro e w' ⟨rfl, hbx⟩; have hE := hE.trans (hbx.mono hE.size)))
      all_goals
        go_wp2_with fail
        go_roundw
        case rel => exact ⟨j + 1, by omega, by go_num, Lib.hid hE⟩
        case measure => simp [intOf]; omega
    · obtain rfl : j = n := by omega
      have hlt' : ¬ (j : Int) < (j : Int) := by omega
      go_wp2_with fail
      go_ret
      exact ⟨rfl, HB.out⟩
end Go.Proofs.YtlephnfepofbbaaDoor
