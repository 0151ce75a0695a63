/-
  FdsetBack, the walk: for any set and any text it returns true, and nothing that lay has turned.
-/
import Derived.Test.YthpinbngggcgcaaDoorParseOut
import Derived.Test.YthpinbngggcgcaaDoorLaid7
import Derived.Test.YthpinbngggcgcaaDoorEqSet
namespace Go.Proofs.YthpinbngggcgcaaDoor
open Go.RowKit

/-- A set in a variable, the tables and the errors. -/
def EnvBk (w : World) (B a b : Nat) (W : World) : Prop := IsSet W B a b ∧ HereE W ∧ Below w.heap.size w W
theorem EnvBk.below {w : World} {B a b : Nat} {W W' : World} (h : EnvBk w B a b W) (hb : Below W.heap.size W W') : EnvBk w B a b W' := ⟨h.1.below hb, h.2.1.below hb, below_endL h.2.2 hb⟩
theorem envBk_new (w : World) (a b : Nat) (hh : HereE w) : EnvBk w w.heap.size a b (w.alloc (.cells #[.int .u32 (a : Int), .int .u32 (b : Int)] 25)) :=
  have hb : Below w.heap.size w (w.alloc (.cells #[.int .u32 (a : Int), .int .u32 (b : Int)] 25)) := (Below.refl _ _).alloc (Nat.le_refl _) _
  ⟨isSet_new w a b, hh.below hb, hb⟩
theorem text_has (t : ByteArray) (c d : Nat) (h : HasText t c d) (w : World) (hh : Here w) :
    Calls Tryd.prog 24 #[.agg #[.int .u32 (c : Int), .int .u32 (d : Int)]] w fun e W' => e = .returned (.string t) ∧ Below w.heap.size w W' :=
  (text_all c d h.1 h.2.1 w hh).mono fun e w' ⟨he, hb⟩ => ⟨by
    rw [he]
    have : (⟨(textB c d).toArray⟩ : ByteArray) = t := by rw [h.2.2]
    rw [this], hb⟩

set_option maxRecDepth 100000 in
set_option maxHeartbeats 4000000 in
theorem back_any (a b : Nat) (t : ByteArray) (_ : t.size ≤ maxLen) (w : World) (ha : a < 4294967296) (hb : b < 4294967296) (hh : HereE w) :
    Calls Tryd.prog 6 #[.agg #[.int .u32 (a : Int), .int .u32 (b : Int)], .string t] w fun e w' => e = .returned (.bool true) ∧ Below w.heap.size w w' := by
  have h0 := envBk_new w a b hh
  obtain ⟨Y, hY⟩ : ∃ Y, w.alloc (.cells #[.int .u32 (a : Int), .int .u32 (b : Int)] 25) = Y := ⟨_, rfl⟩
  rw [hY] at h0
  have HY := Lib.hid hY
  clear hY
  have hA := alive_any Y h0.2.1.1
  by_cases hlong : 1000 < t.size
  · have hl : (1000 : Int) < (t.size : Int) := by omega
    have Hh := Lib.hid h0
    clear h0 hh
    go_enter Tryd.func6, Tryd.ntmps6
    go_wp2_with fail
    rw [HY.out]
    refine hA.mono ?_
    rintro e w1 ⟨rfl, hb1⟩
    go_wp2_with fail
    go_ret
    exact ⟨rfl, below_endL Hh.out.2.2 hb1⟩
  · have hl : ¬ (1000 : Int) < (t.size : Int) := by omega
    have hs : t.size ≤ 100000 := by omega
    go_enter Tryd.func6, Tryd.ntmps6
    go_wp2_with fail
    rw [HY.out]
    refine hA.mono ?_
    rintro e w1 ⟨rfl, hb1⟩
    have h1 := h0.below hb1
    clear h0 hb1 hA
    obtain ⟨m0, m1, _, _⟩ := id h1.1
    go_wp2_with fail
    refine (text_all a b ha hb _ h1.2.1.1).mono ?_
    rintro e w2 ⟨rfl, hb2⟩
    have h2 := h1.below hb2
    clear h1 hb2 m0 m1
    go_wp2_with fail
    refine (parse_own a b ha hb _ h2.2.1.2).mono ?_
    rintro e w3 ⟨rfl, hb3⟩
    have h3 := h2.below hb3
    clear h2 hb3
    have n3 := envBk_new w3 a b h3.2.1
    have h4 := h3.below n3.2.2
    clear h3
    have H4 := Lib.hid h4
    have N3 := Lib.hid n3.1
    clear h4 n3
    go_wp2_with fail
    refine (parse_out t hs _ H4.out.2.1.2).mono ?_
    rintro e w5 (⟨_, rfl, hb5⟩ | ⟨c, d, hcd, rfl, hb5⟩)
    · have h5 := H4.out.below hb5
      have n5 := N3.out.below hb5
      have b6 : Below w5.heap.size w5 (w5.alloc (.cells #[.int .u32 0, .int .u32 0] 25)) := (Below.refl _ _).alloc (Nat.le_refl _) _
      have H6 := Lib.hid (h5.below b6)
      obtain ⟨p0, p1, _, _⟩ := (h5.below b6).1
      obtain ⟨q0, q1, _, _⟩ := n5.below b6
      have rr : IsSet (w5.alloc (.cells #[.int .u32 0, .int .u32 0] 25)) w5.heap.size 0 0 := isSet_new w5 0 0
      have r0 : (w5.alloc (.cells #[.int .u32 0, .int .u32 0] 25)).cell? ⟨w5.heap.size, 0, none⟩ = some (.int .u32 0) := rr.1
      have r1 : (w5.alloc (.cells #[.int .u32 0, .int .u32 0] 25)).cell? ⟨w5.heap.size, 1, none⟩ = some (.int .u32 0) := rr.2.1
      clear rr
      have e1 := eqSet a b a b
      have e2 := eqSet 0 0 0 0
      simp only [beq_self_eq_true, Bool.and_self] at e1 e2
      clear H4 N3 b6 n5 h5 hh hb5
      go_wp2_with fail
      go_ret
      exact ⟨rfl, H6.out.2.2⟩
    · have h5 := H4.out.below hb5
      have n5 := N3.out.below hb5
      have b6 : Below w5.heap.size w5 (w5.alloc (.cells #[.int .u32 (c : Int), .int .u32 (d : Int)] 25)) := (Below.refl _ _).alloc (Nat.le_refl _) _
      have H6 := Lib.hid (h5.below b6)
      obtain ⟨p0, p1, _, _⟩ := (h5.below b6).1
      obtain ⟨q0, q1, _, _⟩ := n5.below b6
      obtain ⟨r0, r1, _, _⟩ := isSet_new w5 c d
      have e1 := eqSet a b a b
      simp only [beq_self_eq_true, Bool.and_self] at e1
      clear H4 N3 b6 n5 h5 hh hb5
      go_wp2_with fail
      refine (text_has t c d hcd _ H6.out.2.1.1).mono ?_
      rintro e w7 ⟨rfl, hb7⟩
      go_wp2_with fail
      go_ret
      exact ⟨rfl, below_endL H6.out.2.2 hb7⟩
end Go.Proofs.YthpinbngggcgcaaDoor
