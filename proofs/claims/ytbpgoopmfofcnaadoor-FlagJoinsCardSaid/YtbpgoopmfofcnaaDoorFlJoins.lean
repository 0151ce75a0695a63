/-
  The walk of FlagJoins.
-/
import Derived.Test.YtbpgoopmfofcnaaDoorFlMay
import Derived.Test.YtbpgoopmfofcnaaDoorFlRef2
import Derived.IntWalk
namespace Go.Proofs.YtbpgoopmfofcnaaDoor
open Go.RowKit

theorem rdy_low : ∀ w i : Fin 64, frdy (w.val : Int) (i.val : Int) = frdy ((w.val &&& 46 : Nat) : Int) ((i.val &&& 15 : Nat) : Int) := by decide +kernel
theorem w46 : ∀ w : Fin 64, (w.val &&& 46 : Nat) ∈ [0, 2, 4, 6, 8, 10, 12, 14, 32, 34, 36, 38, 40, 42, 44, 46] := by decide +kernel
theorem rdy_or : ∀ w ∈ [0, 2, 4, 6, 8, 10, 12, 14, 32, 34, 36, 38, 40, 42, 44, 46], ∀ a b : Fin 16, bits .or .i64 (frdy (w : Nat) (a.val : Int)) (frdy (w : Nat) (b.val : Int)) = frdy (w : Nat) ((a.val ||| b.val : Nat) : Int) := by decide +kernel
theorem rdy_join (w a b : Nat) (hw : w < 64) (ha : a < 64) (hb : b < 64) : bits .or .i64 (frdy (w : Int) (a : Int)) (frdy (w : Int) (b : Int)) = frdy (w : Int) ((a ||| b : Nat) : Int) := by
  have hor : a ||| b < 64 := Nat.or_lt_two_pow (n := 6) ha hb
  have e1 := rdy_low ⟨w, hw⟩ ⟨a, ha⟩
  have e2 := rdy_low ⟨w, hw⟩ ⟨b, hb⟩
  have e3 := rdy_low ⟨w, hw⟩ ⟨a ||| b, hor⟩
  have hm := w46 ⟨w, hw⟩
  simp only at e1 e2 e3 hm
  have la : a &&& 15 < 16 := Nat.lt_of_le_of_lt Nat.and_le_right (by omega)
  have lb : b &&& 15 < 16 := Nat.lt_of_le_of_lt Nat.and_le_right (by omega)
  have h := rdy_or (w &&& 46) hm ⟨a &&& 15, la⟩ ⟨b &&& 15, lb⟩
  simp only at h
  rw [e1, e2, e3, Nat.and_or_distrib_right, h]
theorem or_mod (a b : Int) (a0 : 0 ≤ a) (a1 : a ≤ 255) (b0 : 0 ≤ b) (b1 : b ≤ 255) : bits .or .i64 a b = ((a.toNat ||| b.toNat : Nat) : Int) ∧ ((a.toNat ||| b.toNat : Nat) : Int) % 64 = (((a % 64).toNat ||| (b % 64).toNat : Nat) : Int) := by
  constructor
  · have := (bits_nat .i64 8 (by decide) (fun n h0 h1 => by rw [IntKind.wrap_i64]; omega) a.toNat b.toNat (by omega) (by omega)).2
    rw [show ((a.toNat : Nat) : Int) = a by omega, show ((b.toNat : Nat) : Int) = b by omega] at this
    exact this
  · have h := Nat.or_mod_two_pow (a := a.toNat) (b := b.toNat) (n := 6)
    rw [show (a % 64).toNat = a.toNat % 64 by omega, show (b % 64).toNat = b.toNat % 64 by omega, show (64 : Nat) = 2 ^ 6 from rfl, ← h]
    rfl
theorem one_bd {j : Nat} {v : Int} (hv : v = 2 ^ j) (hj : j ≤ 5) : 1 ≤ v ∧ v ≤ 32 := by
  rw [hv]
  obtain rfl | rfl | rfl | rfl | rfl | rfl : j = 0 ∨ j = 1 ∨ j = 2 ∨ j = 3 ∨ j = 4 ∨ j = 5 := by omega
  all_goals decide
/-- The bit that is made, and its loop. -/
def OneRel (q : Nat) (o i : Value) : Prop := ∃ (j : Nat) (v : Int), j ≤ q ∧ v = 2 ^ j ∧ i = .int .i64 (j : Int) ∧ o = .int .i64 v
theorem OneRel.next {q j : Nat} {v : Int} (hj : j < q) (hv : v = 2 ^ j) (u : Int) (hu : u = v * 2) : OneRel q (.int .i64 u) (.int .i64 ((j + 1 : Nat) : Int)) :=
  ⟨j + 1, u, by omega, by rw [hu, hv, Int.pow_succ], rfl, rfl⟩
theorem no_plus {s : ByteArray} (h : ¬ 43 ∈ s.data.toList) (i : Nat) (hi : i < s.size) : ((s[i].toNat : Int) == 43) = false := by
  rw [beq_eq_false_iff_ne]
  intro e
  have e2 : s[i] = 43 := UInt8.toNat_inj.1 (by have : s[i].toNat = 43 := by omega
                                               rw [this]; rfl)
  refine h ?_
  rw [← e2]
  show s.data[i] ∈ s.data.toList
  simp
/-- A driver's word, and who has it. -/
def Named (k : Int) : Prop := (dName k = ⟨#[]⟩ ∧ byName (dName k) = 0) ∨ (1 ≤ k ∧ dName k ≠ ⟨#[]⟩ ∧ byName (dName k) = k)
theorem named (k : Int) : Named k := by
  by_cases h : 1 ≤ k ∧ k ≤ 4
  · obtain rfl | rfl | rfl | rfl : k = 1 ∨ k = 2 ∨ k = 3 ∨ k = 4 := by omega
    all_goals exact .inr ⟨by decide +kernel, by decide +kernel, by decide +kernel⟩
  · left
    rw [(none_of h).2.1]
    exact ⟨rfl, by decide +kernel⟩
theorem one_bit : ∀ j : Fin 6, textE 6 (2 ^ j.val) = 0 ∧ textB wordB 6 (2 ^ j.val) = wordB j.val ∧ prV wordB 6 (wordB j.val) = 2 ^ j.val ∧ prE wordB 6 (wordB j.val) = 0 ∧ 43 ∉ (wordB j.val).data.toList := by decide +kernel

set_option maxRecDepth 100000 in
set_option maxHeartbeats 4000000 in
theorem joins_any (x a b k : Int) (W : World) (hT : TabW W) (hD : TabD W) (x0 : 0 ≤ x) (x1 : x ≤ 255) (a0 : 0 ≤ a) (a1 : a ≤ 255) (b0 : 0 ≤ b) (b1 : b ≤ 255) :
    Calls Tryd.prog 8 #[.int .u8 x, .int .u8 a, .int .u8 b, .int .i64 k] W fun e w' => e = .returned (.bool true) ∧ Below W.heap.size W w' := by
  have HT := Lib.hid hT
  have HD := Lib.hid hD
  have CA := Lib.hid (alive_any W hT hD)
  clear hT hD
  have hor := or_mod a b a0 a1 b0 b1
  have hj := rdy_join (x % 64).toNat (a % 64).toNat (b % 64).toNat (by omega) (by omega) (by omega)
  rw [← hor.2] at hj
  rw [show (((x % 64).toNat : Nat) : Int) = x % 64 by omega, show (((a % 64).toNat : Nat) : Int) = a % 64 by omega, show (((b % 64).toNat : Nat) : Int) = b % 64 by omega, ← hor.1] at hj
  have HJ := Lib.hid hj
  have HOR := Lib.hid hor
  clear hj
  obtain ⟨o, ho⟩ : ∃ o, bits .or .i64 a b = o := ⟨_, rfl⟩
  have ho0 : 0 ≤ o ∧ o ≤ 255 := by
    rw [← ho, hor.1]
    have : a.toNat ||| b.toNat < 2 ^ 8 := Nat.or_lt_two_pow (by omega) (by omega)
    omega
  obtain ⟨o0, o1⟩ := ho0
  clear hor
  go_enter Tryd.func8, Tryd.ntmps8
  go_wp2_with fail
  refine CA.out.mono ?_; rintro e w1 ⟨rfl, hb⟩
  have B0 := Lib.hid hb
  clear hb
  go_wp2_with (go_at_call 28; refine (frdy_any _ _ _).mono ?_; rintro e w' ⟨rfl, rfl⟩)
  refine (name_any k _ (HD.out.below B0.out)).mono ?_; rintro e w2 ⟨rfl, hb⟩
  have B1 := Lib.hid (B0.out.trans (hb.mono B0.out.size))
  clear hb
  have HJ2 : Hid (bits .or .i64 (frdy (x % 64) (a % 64)) (frdy (x % 64) (b % 64)) = frdy (x % 64) (o % 64)) := by rw [← ho]; exact HJ.out
  clear ho
  obtain ⟨t, ht⟩ : ∃ t, dName k = t := ⟨_, rfl⟩
  have hn := named k
  unfold Named at hn
  rw [ht] at hn ⊢
  obtain ⟨q, hq⟩ : ∃ q : Nat, x % 6 = (q : Int) := ⟨(x % 6).toNat, by omega⟩
  have hq6 : q < 6 := by omega
  obtain ⟨g1, g2, g3, g4, g5⟩ := one_bit ⟨q, hq6⟩
  simp only at g1 g2 g3 g4 g5
  have G1 := Lib.hid g1
  have G2 := Lib.hid g2
  have G3 := Lib.hid g3
  have G4 := Lib.hid g4
  have HQ := Lib.hid hq
  have hwl : (wordB q).size ≤ 7 := by have h7 := word_len q; rw [Array.length_toList] at h7; exact h7
  obtain ⟨s, hs⟩ : ∃ s, wordB q = s := ⟨_, rfl⟩
  rw [hs] at g5 hwl
  have G5 := Lib.hid g5
  have HS := Lib.hid hs
  clear ht g1 g2 g3 g4 g5 hq hs
  rcases hn with ⟨n1, n2⟩ | ⟨hk1, n1, n2⟩
  · have ht : (t.toList == []) = true := by rw [n1, ByteArray.toList_eq]; rfl
    have N2 := Lib.hid n2
    clear n1 n2
    go_wp2_with (go_at_call 23; refine (byName_any t _ (HD.out.below B1.out)).mono ?_; rintro e w3 ⟨rfl, hb⟩; rw [N2.out]; have B2 := Lib.hid (B1.out.trans (hb.mono B1.out.size)); clear hb)
    have BB := B2
    clear N2
    have hq := HQ.out
    go_loop [15, 16] (fun o i => OneRel q o i) (fun _ i => q - (intOf i).toNat)
    case atStart => exact ⟨0, 1, by omega, rfl, rfl, rfl⟩
    case round =>
      obtain ⟨j, v, hj, hv, rfl, rfl⟩ := hrel
      by_cases hlt : j < q
      · have hv32 : 1 ≤ v ∧ v ≤ 32 := one_bd hv (by omega)
        obtain ⟨v1, v32⟩ := hv32
        have HV := Lib.hid hv
        clear hv
        go_wp2
        go_round
        case rel => exact OneRel.next hlt HV.out _ rfl
        case measure => simp [intOf]; omega
      · obtain rfl : j = q := by omega
        obtain ⟨v1, v32⟩ := one_bd hv (by omega)
        have CT : Hid (∀ X, TabW X → Calls Tryd.prog 9 #[.int .i64 v] X fun e w' => e = .returned (.tuple #[.string s, .int .i64 0]) ∧ Below X.heap.size X w') := fun X hX =>
          (textW_any v X hX (by omega) (by omega)).mono fun e w' ⟨he, hb⟩ => ⟨by rw [he, hv, G1.out, G2.out, HS.out], hb⟩
        have CP : Hid (∀ X, TabW X → Calls Tryd.prog 13 #[.string s] X fun e w' => e = .returned (.tuple #[.int .i64 v, .int .i64 0]) ∧ Below X.heap.size X w') := fun X hX =>
          (parseW_any s X hX (by omega)).mono fun e w' ⟨he, hb⟩ => ⟨by rw [he, ← HS.out, G3.out, G4.out, hv], hb⟩
        clear hv
        go_wp2_with fail
        refine (CT.out _ (HT.out.below BB.out)).mono ?_; rintro e w4 ⟨rfl, hb⟩
        have B3 := Lib.hid (BB.out.trans (hb.mono BB.out.size))
        clear hb
        go_wp2_with fail
        refine (CP.out _ (HT.out.below B3.out)).mono ?_; rintro e w5 ⟨rfl, hb⟩
        have B4 := Lib.hid (B3.out.trans (hb.mono B3.out.size))
        clear hb
        go_wp2_with fail
        go_loop [21] (fun i => ∃ p : Nat, p ≤ s.size ∧ i = .int .i64 (p : Int)) (fun i => s.size - (intOf i).toNat)
        case atStart => exact ⟨0, by omega, rfl⟩
        case round =>
          obtain ⟨p, hp, rfl⟩ := hrel
          by_cases hlt : p < s.size
          · have hnp := no_plus G5.out p hlt
            go_wp2
            go_round
            case rel => exact ⟨p + 1, by omega, by go_num⟩
            case measure => simp [intOf]; omega
          · have hj2 := HJ2.out
            go_wp2
            go_ret
            exact ⟨rfl, B4.out⟩
  · have ht : (t.toList == []) = false := by
      rw [beq_eq_false_iff_ne, ByteArray.toList_eq]
      intro e
      exact n1 (ba_ext e)
    have N2 := Lib.hid n2
    clear n1 n2
    go_wp2_with fail
    refine (byName_any t _ (HD.out.below B1.out)).mono ?_; rintro e w3 ⟨rfl, hb⟩; rw [N2.out]
    have B2 := Lib.hid (B1.out.trans (hb.mono B1.out.size))
    clear hb
    go_wp2_with fail
    refine (byName_any t _ (HD.out.below B2.out)).mono ?_; rintro e w3' ⟨rfl, hb⟩; rw [N2.out]
    have BB := Lib.hid (B2.out.trans (hb.mono B2.out.size))
    clear hb
    go_wp2_with fail
    clear N2
    have hq := HQ.out
    go_loop [15, 16] (fun o i => OneRel q o i) (fun _ i => q - (intOf i).toNat)
    case atStart => exact ⟨0, 1, by omega, rfl, rfl, rfl⟩
    case round =>
      obtain ⟨j, v, hj, hv, rfl, rfl⟩ := hrel
      by_cases hlt : j < q
      · have hv32 : 1 ≤ v ∧ v ≤ 32 := one_bd hv (by omega)
        obtain ⟨v1, v32⟩ := hv32
        have HV := Lib.hid hv
        clear hv
        go_wp2
        go_round
        case rel => exact OneRel.next hlt HV.out _ rfl
        case measure => simp [intOf]; omega
      · obtain rfl : j = q := by omega
        obtain ⟨v1, v32⟩ := one_bd hv (by omega)
        have CT : Hid (∀ X, TabW X → Calls Tryd.prog 9 #[.int .i64 v] X fun e w' => e = .returned (.tuple #[.string s, .int .i64 0]) ∧ Below X.heap.size X w') := fun X hX =>
          (textW_any v X hX (by omega) (by omega)).mono fun e w' ⟨he, hb⟩ => ⟨by rw [he, hv, G1.out, G2.out, HS.out], hb⟩
        have CP : Hid (∀ X, TabW X → Calls Tryd.prog 13 #[.string s] X fun e w' => e = .returned (.tuple #[.int .i64 v, .int .i64 0]) ∧ Below X.heap.size X w') := fun X hX =>
          (parseW_any s X hX (by omega)).mono fun e w' ⟨he, hb⟩ => ⟨by rw [he, ← HS.out, G3.out, G4.out, hv], hb⟩
        clear hv
        go_wp2_with fail
        refine (CT.out _ (HT.out.below BB.out)).mono ?_; rintro e w4 ⟨rfl, hb⟩
        have B3 := Lib.hid (BB.out.trans (hb.mono BB.out.size))
        clear hb
        go_wp2_with fail
        refine (CP.out _ (HT.out.below B3.out)).mono ?_; rintro e w5 ⟨rfl, hb⟩
        have B4 := Lib.hid (B3.out.trans (hb.mono B3.out.size))
        clear hb
        go_wp2_with fail
        go_loop [21] (fun i => ∃ p : Nat, p ≤ s.size ∧ i = .int .i64 (p : Int)) (fun i => s.size - (intOf i).toNat)
        case atStart => exact ⟨0, by omega, rfl⟩
        case round =>
          obtain ⟨p, hp, rfl⟩ := hrel
          by_cases hlt : p < s.size
          · have hnp := no_plus G5.out p hlt
            go_wp2
            go_round
            case rel => exact ⟨p + 1, by omega, by go_num⟩
            case measure => simp [intOf]; omega
          · have hj2 := HJ2.out
            go_wp2
            go_ret
            exact ⟨rfl, B4.out⟩
end Go.Proofs.YtbpgoopmfofcnaaDoor
