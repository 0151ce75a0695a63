/-
  Text: the text of steps that may be a script's.
-/
import Derived.Test.YtlephnfepofbbaaGreatDoorMvStepff
import Derived.Test.YtlephnfepofbbaaGreatDoorMvStepft
import Derived.Test.YtlephnfepofbbaaGreatDoorMvSteptf
import Derived.Test.YtlephnfepofbbaaGreatDoorMvSteptt
namespace Go.Proofs.YtlephnfepofbbaaGreatDoor
open Go.RowKit
variable {E : Prop}

theorem appendStep_any (B : Nat) (v ov mv : Value) (bs : List UInt8) (x : St) (hok : stOk x = true) (hwf : x.Wf) (w : World) (hown : OwB B w v bs) (hE : EnvP E B w) (hx : StepV (Lt B) w ov mv x) (hl : bs.length ≤ 50000000) :
    Calls Tryz.prog 43 #[v, .agg #[.int .u64 (x.t : Int), .bool x.intr, ov, mv]] w (AppP B w bs (lineB x ++ [10])) := by
  obtain ⟨t, intr, ord, ms⟩ := x
  cases intr with
  | false =>
    by_cases h : ord = []
    · exact appendStep_ff B v ov mv bs t ord ms h hok hwf w hown hE hx hl
    · exact appendStep_ft B v ov mv bs t ord ms h hok hwf w hown hE hx hl
  | true =>
    by_cases h : ord = []
    · exact appendStep_tf B v ov mv bs t ord ms h hok hwf w hown hE hx hl
    · exact appendStep_tt B v ov mv bs t ord ms h hok hwf w hown hE hx hl

set_option maxRecDepth 100000 in
theorem OwB.str {B : Nat} {W : World} {v : Value} {bs : List UInt8} (h : OwB B W v bs) : (convert 23 9 v).run Tryz.prog W = .ok (.string ⟨bs.toArray⟩) W := by
  rcases h.2 with ⟨rfl, hn⟩ | ⟨g, cap, cur, rfl, hb, hg, hc, hm, hs, htk⟩
  · have : bs = [] := List.eq_nil_of_length_eq_zero hn
    subst this; rfl
  · exact run_convert_bytes_back W _ _ 5 ⟨g, 0, none⟩ cap bs Tryz.underlying23 Tryz.underlying5 Tryz.underlying9 (fun j hj => by
      have hc := World.ownsRow.cellAt h j (by rw [Nat.mul_one]; exact hj)
      have e : (Lib.byteCells bs)[j]? = some (.int .u8 (bs[j].toNat : Int)) := by simp [Lib.byteCells, hj]
      rw [e] at hc
      have : (⟨g, 0, none⟩ : Addr).add j = ⟨g, j, none⟩ := by rw [Lib.add_plain, Nat.zero_add]
      rw [this]; exact hc)
theorem textB_take (l : List St) (k : Nat) : (textB (l.take k)).length ≤ (textB l).length := by
  conv => rhs; rw [← List.take_append_drop k l]
  unfold textB
  rw [List.flatMap_append, List.length_append]; omega

theorem text_no (l : List St) (v : Value) (w : World) (hE : EnvP E w.heap.size w) (hx : SrcS (Lt w.heap.size) w v l) (h : allOk l = false) :
    Calls Tryz.prog 14 #[v] w fun e w' => e = .returned (.tuple #[.string ⟨#[]⟩, .int .i64 120]) ∧ Below w.heap.size w w' := by
  have hc := checkAll_any l v w hE.f hx
  have e1 : allE l = 120 := by unfold allE; rw [if_neg (by rw [h]; simp)]
  rw [e1] at hc
  have HC := Lib.hid hc
  clear hc hE hx h e1
  go_enter Tryz.func14, Tryz.ntmps14
  go_wp2_with (go_at_call 36; refine HC.out.mono ?_; rintro e w1 ⟨rfl, hb⟩)
  go_ret2
  exact ⟨rfl, hb⟩

set_option maxRecDepth 100000 in
set_option maxHeartbeats 8000000 in
theorem text_yes (l : List St) (v : Value) (w : World) (hE : EnvP E w.heap.size w) (hx : SrcS (Lt w.heap.size) w v l) (hwf : ∀ x ∈ l, x.Wf) (h : allOk l = true) (hl : (textB l).length ≤ 40000000) :
    Calls Tryz.prog 14 #[v] w fun e w' => e = .returned (.tuple #[.string ⟨(textB l).toArray⟩, .int .i64 0]) ∧ Below w.heap.size w w' := by
  have hc := checkAll_any l v w hE.f hx
  have e1 : allE l = 0 := by unfold allE; rw [if_pos h]
  rw [e1] at hc
  obtain ⟨A, c, rfl, a1, a2, a3⟩ := hx.form
  obtain ⟨n, hn⟩ : ∃ n, l.length = n := ⟨_, rfl⟩
  have hx' := hx
  rw [hn] at hc a1 hx' ⊢
  have HC := Lib.hid hc
  have HX := Lib.hid hx'
  have HN := Lib.hid hn
  have HE := Lib.hid hE
  have HOK := Lib.hid (And.intro (allOk_parts h).2 hwf)
  have HL := Lib.hid hl
  obtain ⟨T, hT⟩ : ∃ T, textB l = T := ⟨_, rfl⟩
  rw [hT]
  have HT := Lib.hid hT
  clear hc hE hx hx' h e1 hn hwf hl hT a3
  go_enter Tryz.func14, Tryz.ntmps14
  go_wp2_with (go_at_call 36; refine HC.out.mono ?_; rintro e w1 ⟨rfl, hb⟩)
  have HB1 := Lib.hid hb
  clear hb
  go_loopw [5, 15] (fun o i wr => ∃ (j : Nat), j ≤ n ∧ i = .int .i64 j ∧ Hid (OwB w.heap.size wr o (textB (l.take j))) ∧ Hid (Below w.heap.size w wr)) (fun _ i _ => n - (intOf i).toNat)
  case atStart => exact ⟨0, Nat.zero_le _, rfl, Lib.hid (OwB.nil _ _), HB1⟩
  case round =>
    obtain ⟨j, hj, rfl, HO, HB⟩ := hrel
    by_cases hlt : j < n
    · have hlt' : (j : Int) < (n : Int) := by omega
      have hjl : j < l.length := by have := HN.out; omega
      obtain ⟨g, off, ov, mv, rfl, hg, hg2, ⟨q0, q1, q2, q3⟩, hS⟩ := HX.out.at_ (k := j) hjl
      have q0 := (HB.out.cell (p := ⟨g, off + j * 4, none⟩) hg).trans q0
      have q1 := (HB.out.cell (p := ⟨g, off + j * 4 + 1, none⟩) hg).trans q1
      have q2 := (HB.out.cell (p := ⟨g, off + j * 4 + 2, none⟩) hg).trans q2
      have q3 := (HB.out.cell (p := ⟨g, off + j * 4 + 3, none⟩) hg).trans q3
      obtain ⟨z, hz⟩ : ∃ z, l[j] = z := ⟨_, rfl⟩
      have hzm : z ∈ l := by rw [← hz]; exact List.getElem_mem _
      have hT2 : textB (l.take j) ++ (lineB z ++ [10]) = textB (l.take (j + 1)) := by
        unfold textB
        rw [List.take_add_one, List.getElem?_eq_getElem hjl, hz, Option.toList_some, List.flatMap_append]; simp
      rw [hz] at q0 q1 hS
      obtain ⟨E, e2, F, f2, rfl, rfl⟩ := hS.forms
      have HBA := Lib.hid (HB.out.alloc HB.out.size (.cells #[.int .u64 (z.t : Int), .bool z.intr, .slice E z.ord.length e2, .slice F z.mv.length f2] 36))
      have HCC := Lib.hid (appendStep_any w.heap.size u5 _ _ _ z (HOK.out.1 z hzm) (HOK.out.2 z hzm) (wr.alloc (.cells #[.int .u64 (z.t : Int), .bool z.intr, .slice E z.ord.length e2, .slice F z.mv.length f2] 36)) (HO.out.alloc _) (HE.out.below HBA.out) (hS.below HBA.out) (by have := HL.out; have := textB_take l j; omega))
      have HT2 := Lib.hid hT2
      clear hz hg hg2 hT2 hS hzm
      go_wp2_with (go_at_call 43; refine HCC.out.mono ?_; rintro e w8 ⟨v8, rfl, h8, hb8⟩; have H8 := Lib.hid h8; have HB8 := Lib.hid (HBA.out.trans hb8.b); clear h8 hb8)
      go_roundw
      case rel => exact ⟨j + 1, by omega, by go_num, Lib.hid (by rw [← HT2.out]; exact H8.out), HB8⟩
      case measure => simp [intOf]; omega
    · obtain rfl : j = n := by omega
      have hlt' : ¬ (j : Int) < (j : Int) := by omega
      have HO2 : Hid (OwB w.heap.size wr u5 T) := Lib.hid (by have := HO.out; rwa [List.take_of_length_le (by have := HN.out; omega), HT.out] at this)
      have hstr := HO2.out.str
      go_wp2_with fail
      go_ret2
      exact ⟨rfl, HB.out⟩
end Go.Proofs.YtlephnfepofbbaaGreatDoor
