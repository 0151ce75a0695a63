/-
  ChainPlays: a round's calls: kinds 0, 1, 9, and others.
-/
import Derived.Test.YtkhkhjkacibocaaChDp
import Derived.BigQuiet
import Derived.Deep.RegionHeld
namespace Go.Proofs.Ytkhkhjkacibocaa
open Go.RowKit Go.Shelf Go.Maps Go.ChangeMaps

theorem dcells {w0 : World} {c d r s xb : Nat} {k wh sl nn f mm : Value} {bv : Value} {zs fl fm xs ys gs rs : List Int} {gv rv : Value} {W : World} (h : DD ⟨w0, c, d, r, s, xb, #[k, wh, sl, nn, f, mm], bv, zs⟩ fl fm xs ys gv gs rv rs W) :
    W.cell? ⟨xb, 0, none⟩ = some k ∧ W.cell? ⟨xb, 3, none⟩ = some nn ∧ W.cell? ⟨xb, 4, none⟩ = some f ∧ xb < W.heap.size := by
  obtain ⟨h1, h2⟩ := h.cells
  exact ⟨h1 0, h1 3, h1 4, h2⟩
theorem lcells {w0 : World} {c d r s xb : Nat} {k wh sl nn f mm : Value} {bv : Value} {L : List Lk} {zs fm xs ys gs rs : List Int} {gv rv : Value} {W : World} (h : DL ⟨w0, c, d, r, s, xb, #[k, wh, sl, nn, f, mm], bv, zs⟩ L fm xs ys gv gs rv rs W) :
    W.cell? ⟨xb, 0, none⟩ = some k ∧ W.cell? ⟨xb, 3, none⟩ = some nn ∧ W.cell? ⟨xb, 4, none⟩ = some f ∧ xb < W.heap.size := dcells h.dd
section
variable {κ : Kt} {fl fm xs ys gs rs : List Int} {gv rv : Value} {W : World}
theorem DD.drew (h : DD κ fl fm xs ys gv gs rv rs W) : DD κ fl fm xs ys gv gs rv rs W.drew := h.quiet (Kept.refl _ W).drew
theorem d_drain' (h : DD κ fl fm xs ys gv gs rv rs W) (n : Int) (hn : -9223372036854775808 ≤ n ∧ n ≤ 9223372036854775807) {k : Nat} (hk : (fl.take n.toNat).length = k) : Calls Try.prog 22 #[.pointer (some ⟨κ.c, 0, none⟩), .int .i64 n] W fun e w' => e = .returned (.int .i64 (k : Int)) ∧ DD κ (fl.drop n.toNat) fm xs ys gv gs rv rs w' := by
  subst hk; exact d_drain h n hn
theorem d_rtake' (h : DD κ fl fm xs ys gv gs rv rs W) (hl : xs.length ≤ 1048576) (n : Int) (hn : -9223372036854775808 ≤ n ∧ n ≤ 9223372036854775807) {k : Nat} (hk : (xs.take n.toNat).length = k) : Calls Try.prog 31 #[.pointer (some ⟨κ.r, 0, none⟩), .int .i64 n] W fun e w' => ∃ A cp, e = .returned (.slice A k cp) ∧ DD κ fl fm (xs.drop n.toNat) ys gv gs (.slice A k cp) (xs.take n.toNat) w' := by
  subst hk; exact d_rtake h hl n hn
end

set_option maxRecDepth 100000 in
set_option maxHeartbeats 16000000 in
theorem do_9 {w0 w : World} {c d r s : Nat} (h : Du w0 c d r s w) {A : Option Addr} {n cp : Nat} {z : List Int} (which nn f : Int) (many : Nat) (hs : Src w No2 A n cp z) (hz : Byt z) (hn : n ≤ 3000) (hm : many ≤ 4294967295) (hnn : -9223372036854775808 ≤ nn ∧ nn ≤ 9223372036854775807) (hf : -9223372036854775808 ≤ f ∧ f ≤ 9223372036854775807) :
    Calls Try.prog 11 #[.pointer (some ⟨c, 0, none⟩), .pointer (some ⟨d, 0, none⟩), .pointer (some ⟨r, 0, none⟩), .pointer (some ⟨s, 0, none⟩), .agg #[.int .i64 9, .int .u8 which, .slice A n cp, .int .i64 nn, .int .i64 f, .int .u32 (many : Int)]] w fun e w' => e = .returned (.bool true) ∧ Du w0 c d r s w' := by
  have HB := Lib.hid (fun (W : World) (hW : Kept (fun _ => False) w W) => bytes_any W 9 which nn f many (hs.kept hW) hz hn hm)
  have H0 := Lib.hid h
  clear h hs hz
  go_enter Try.func11, Try.ntmps11
  go_wp2_with fail
  refine (HB.out _ ((Kept.refl _ w).alloc _)).mono ?_
  rintro e w1 ⟨v, zs, rfl, g1, g2, g3, g4⟩
  obtain ⟨Ab, cb, hv, hform⟩ := g1.form
  obtain ⟨m, hm'⟩ : ∃ m, m = zs.length := ⟨_, rfl⟩
  rw [← hm'] at hv hform g3
  subst hv
  obtain ⟨ff, fg, hD⟩ := H0.out.start #[.int .i64 9, .int .u8 which, .slice A n cp, .int .i64 nn, .int .i64 f, .int .u32 (many : Int)] g4 (by rw [World.size_alloc] at g1; exact g1) g2
  obtain ⟨T, hT⟩ : ∃ T, strOfNums zs = T := ⟨_, rfl⟩
  have hcb := hD.conv_b (by show zs.length ≤ _; omega)
  dsimp only at hcb
  rw [hT] at hcb
  obtain ⟨q0, q3, q4, ql⟩ := dcells hD
  have hlen := hD.len
  have H1 := Lib.hid hD
  have HM := Lib.hid (And.intro hm' (And.intro hT (And.intro g2 g3)))
  have HFo := Lib.hid hform
  clear g1 g2 g3 g4 hD hform hT hm' HB
  go_wp2_with fail
  refine (d_move_self H1.out nn).mono ?_
  rintro e w2 ⟨rfl, hF⟩
  have HF := Lib.hid hF
  clear hF
  have HT := Lib.hid (HF.out.dt)
  have hcg := HF.out.conv_g (by decide)
  rw [show strOfNums [] = (⟨#[]⟩ : ByteArray) from rfl] at hcg
  clear HF
  go_wp2_with fail
  go_loopw [247] (fun i wr => ∃ k : Nat, i = .int .i64 (k : Int) ∧ DT w0 c d r s (.slice none 0 0) [] (.slice Ab m cb) zs wr) (fun _ _ => 0)
  case atStart => exact ⟨0, rfl, HT.out⟩
  case round =>
    obtain ⟨ka, rfl, hDT⟩ := hrel
    have HT2 := Lib.hid hDT
    have a0 : decide ((ka : Int) < 0) = false := by simp
    clear hDT
    go_wp2_with fail
    go_loopw [261] (fun i wr => ∃ (k : Nat) (qs : List Int), i = .int .i64 (k : Int) ∧ k ≤ m ∧ qs.length = m ∧ DT w0 c d r s (.slice none 0 0) [] (.slice Ab m cb) qs wr) (fun i _ => m - (intOf i).toNat)
    case atStart => exact ⟨0, zs, rfl, Nat.zero_le _, HM.out.1.symm, HT2.out⟩
    case round =>
      obtain ⟨kb, qs, rfl, hkb, hqs, hDT⟩ := hrel
      by_cases hlt : kb < m
      · obtain ⟨gb, rfl⟩ := HFo.out (by omega)
        obtain ⟨x, y1, y2, y3, y4⟩ := hDT.at_b (i := kb) (by omega)
        have b0 : decide ((kb : Int) < (m : Int)) = true := by simp; omega
        have b1 : (kb : Int) < (m : Int) := by omega
        have hmb := HM.out.2.2.2
        have HQ := Lib.hid (y4 (IntKind.u8.wrap (x + 1)))
        have HLn := Lib.hid (show (qs.set kb (IntKind.u8.wrap (x + 1))).length = m by rw [List.length_set]; exact hqs)
        clear hDT y4
        go_wp2_with fail
        go_roundw
        case rel => exact ⟨kb + 1, _, by go_num, by omega, HLn.out, HQ.out⟩
        case measure => simp [intOf]; omega
      · have b0 : decide ((kb : Int) < (m : Int)) = false := by simp; omega
        have b1 : (m : Int) ≤ (kb : Int) := by omega
        have HQ := Lib.hid hDT.du
        clear hDT
        go_wp2_with fail
        go_ret
        exact ⟨rfl, HQ.out⟩
set_option maxRecDepth 100000 in
set_option maxHeartbeats 16000000 in
theorem do_x {w0 w : World} {c d r s : Nat} (h : Du w0 c d r s w) {A : Option Addr} {n cp : Nat} {z : List Int} (k which nn f : Int) (many : Nat) (hs : Src w No2 A n cp z) (hz : Byt z) (hn : n ≤ 3000) (hm : many ≤ 4294967295) (hnn : -9223372036854775808 ≤ nn ∧ nn ≤ 9223372036854775807) (hf : -9223372036854775808 ≤ f ∧ f ≤ 9223372036854775807) (hk : k < 0 ∨ 9 < k) :
    Calls Try.prog 11 #[.pointer (some ⟨c, 0, none⟩), .pointer (some ⟨d, 0, none⟩), .pointer (some ⟨r, 0, none⟩), .pointer (some ⟨s, 0, none⟩), .agg #[.int .i64 k, .int .u8 which, .slice A n cp, .int .i64 nn, .int .i64 f, .int .u32 (many : Int)]] w fun e w' => e = .returned (.bool true) ∧ Du w0 c d r s w' := by
  have HB := Lib.hid (fun (W : World) (hW : Kept (fun _ => False) w W) => bytes_any W k which nn f many (hs.kept hW) hz hn hm)
  have H0 := Lib.hid h
  have n0 : (k == 0) = false := by rw [beq_eq_false_iff_ne]; omega
  have m0 : ¬ k = 0 := by omega
  have n1 : (k == 1) = false := by rw [beq_eq_false_iff_ne]; omega
  have m1 : ¬ k = 1 := by omega
  have n2 : (k == 2) = false := by rw [beq_eq_false_iff_ne]; omega
  have m2 : ¬ k = 2 := by omega
  have n3 : (k == 3) = false := by rw [beq_eq_false_iff_ne]; omega
  have m3 : ¬ k = 3 := by omega
  have n4 : (k == 4) = false := by rw [beq_eq_false_iff_ne]; omega
  have m4 : ¬ k = 4 := by omega
  have n5 : (k == 5) = false := by rw [beq_eq_false_iff_ne]; omega
  have m5 : ¬ k = 5 := by omega
  have n6 : (k == 6) = false := by rw [beq_eq_false_iff_ne]; omega
  have m6 : ¬ k = 6 := by omega
  have n7 : (k == 7) = false := by rw [beq_eq_false_iff_ne]; omega
  have m7 : ¬ k = 7 := by omega
  have n8 : (k == 8) = false := by rw [beq_eq_false_iff_ne]; omega
  have m8 : ¬ k = 8 := by omega
  have n9 : (k == 9) = false := by rw [beq_eq_false_iff_ne]; omega
  have m9 : ¬ k = 9 := by omega
  clear h hs hz
  go_enter Try.func11, Try.ntmps11
  go_wp2_with fail
  refine (HB.out _ ((Kept.refl _ w).alloc _)).mono ?_
  rintro e w1 ⟨v, zs, rfl, g1, g2, g3, g4⟩
  obtain ⟨Ab, cb, hv, hform⟩ := g1.form
  obtain ⟨m, hm'⟩ : ∃ m, m = zs.length := ⟨_, rfl⟩
  rw [← hm'] at hv hform g3
  subst hv
  obtain ⟨ff, fg, hD⟩ := H0.out.start #[.int .i64 k, .int .u8 which, .slice A n cp, .int .i64 nn, .int .i64 f, .int .u32 (many : Int)] g4 (by rw [World.size_alloc] at g1; exact g1) g2
  obtain ⟨T, hT⟩ : ∃ T, strOfNums zs = T := ⟨_, rfl⟩
  have hcb := hD.conv_b (by show zs.length ≤ _; omega)
  dsimp only at hcb
  rw [hT] at hcb
  obtain ⟨q0, q3, q4, ql⟩ := dcells hD
  have hlen := hD.len
  have H1 := Lib.hid hD
  have HM := Lib.hid (And.intro hm' (And.intro hT (And.intro g2 g3)))
  have HFo := Lib.hid hform
  clear g1 g2 g3 g4 hD hform hT hm' HB
  have HF := Lib.hid H1.out
  clear hk
  have HT := Lib.hid (HF.out.dt)
  have hcg := HF.out.conv_g (by decide)
  rw [show strOfNums [] = (⟨#[]⟩ : ByteArray) from rfl] at hcg
  clear HF
  go_wp2_with fail
  go_loopw [247] (fun i wr => ∃ k : Nat, i = .int .i64 (k : Int) ∧ DT w0 c d r s (.slice none 0 0) [] (.slice Ab m cb) zs wr) (fun _ _ => 0)
  case atStart => exact ⟨0, rfl, HT.out⟩
  case round =>
    obtain ⟨ka, rfl, hDT⟩ := hrel
    have HT2 := Lib.hid hDT
    have a0 : decide ((ka : Int) < 0) = false := by simp
    clear hDT
    go_wp2_with fail
    go_loopw [261] (fun i wr => ∃ (k : Nat) (qs : List Int), i = .int .i64 (k : Int) ∧ k ≤ m ∧ qs.length = m ∧ DT w0 c d r s (.slice none 0 0) [] (.slice Ab m cb) qs wr) (fun i _ => m - (intOf i).toNat)
    case atStart => exact ⟨0, zs, rfl, Nat.zero_le _, HM.out.1.symm, HT2.out⟩
    case round =>
      obtain ⟨kb, qs, rfl, hkb, hqs, hDT⟩ := hrel
      by_cases hlt : kb < m
      · obtain ⟨gb, rfl⟩ := HFo.out (by omega)
        obtain ⟨x, y1, y2, y3, y4⟩ := hDT.at_b (i := kb) (by omega)
        have b0 : decide ((kb : Int) < (m : Int)) = true := by simp; omega
        have b1 : (kb : Int) < (m : Int) := by omega
        have hmb := HM.out.2.2.2
        have HQ := Lib.hid (y4 (IntKind.u8.wrap (x + 1)))
        have HLn := Lib.hid (show (qs.set kb (IntKind.u8.wrap (x + 1))).length = m by rw [List.length_set]; exact hqs)
        clear hDT y4
        go_wp2_with fail
        go_roundw
        case rel => exact ⟨kb + 1, _, by go_num, by omega, HLn.out, HQ.out⟩
        case measure => simp [intOf]; omega
      · have b0 : decide ((kb : Int) < (m : Int)) = false := by simp; omega
        have b1 : (m : Int) ≤ (kb : Int) := by omega
        have HQ := Lib.hid hDT.du
        clear hDT
        go_wp2_with fail
        go_ret
        exact ⟨rfl, HQ.out⟩
set_option maxRecDepth 100000 in
set_option maxHeartbeats 16000000 in
theorem do_0 {w0 w : World} {c d r s : Nat} (h : Du w0 c d r s w) {A : Option Addr} {n cp : Nat} {z : List Int} (which nn f : Int) (many : Nat) (hs : Src w No2 A n cp z) (hz : Byt z) (hn : n ≤ 3000) (hm : many ≤ 4294967295) (hnn : -9223372036854775808 ≤ nn ∧ nn ≤ 9223372036854775807) (hf : -9223372036854775808 ≤ f ∧ f ≤ 9223372036854775807) :
    Calls Try.prog 11 #[.pointer (some ⟨c, 0, none⟩), .pointer (some ⟨d, 0, none⟩), .pointer (some ⟨r, 0, none⟩), .pointer (some ⟨s, 0, none⟩), .agg #[.int .i64 0, .int .u8 which, .slice A n cp, .int .i64 nn, .int .i64 f, .int .u32 (many : Int)]] w fun e w' => e = .returned (.bool true) ∧ Du w0 c d r s w' := by
  have HB := Lib.hid (fun (W : World) (hW : Kept (fun _ => False) w W) => bytes_any W 0 which nn f many (hs.kept hW) hz hn hm)
  have H0 := Lib.hid h
  clear h hs hz
  go_enter Try.func11, Try.ntmps11
  go_wp2_with fail
  refine (HB.out _ ((Kept.refl _ w).alloc _)).mono ?_
  rintro e w1 ⟨v, zs, rfl, g1, g2, g3, g4⟩
  obtain ⟨Ab, cb, hv, hform⟩ := g1.form
  obtain ⟨m, hm'⟩ : ∃ m, m = zs.length := ⟨_, rfl⟩
  rw [← hm'] at hv hform g3
  subst hv
  obtain ⟨ff, fg, hD⟩ := H0.out.start #[.int .i64 0, .int .u8 which, .slice A n cp, .int .i64 nn, .int .i64 f, .int .u32 (many : Int)] g4 (by rw [World.size_alloc] at g1; exact g1) g2
  obtain ⟨T, hT⟩ : ∃ T, strOfNums zs = T := ⟨_, rfl⟩
  have hcb := hD.conv_b (by show zs.length ≤ _; omega)
  dsimp only at hcb
  rw [hT] at hcb
  obtain ⟨q0, q3, q4, ql⟩ := dcells hD
  have hlen := hD.len
  have H1 := Lib.hid hD
  have HM := Lib.hid (And.intro hm' (And.intro hT (And.intro g2 g3)))
  have HFo := Lib.hid hform
  clear g1 g2 g3 g4 hD hform hT hm' HB
  by_cases hfit : zs.length + ff.length ≤ 1048576
  · go_wp2_with fail
    refine (d_add H1.out hfit).mono ?_
    rintro e w2 ⟨rfl, g1⟩
    obtain ⟨cpt, w3, hct, hst, g2⟩ := g1.text (by show zs.length ≤ _; have := HM.out; omega)
    dsimp only at hct hst
    rw [HM.out.2.1, ← HM.out.1] at hct
    rw [← HM.out.1] at hst
    have HR := Lib.hid (d_radd g2 hst (by rw [HM.out.1]; exact hfit))
    clear hst g2 g1 q0 q3 q4 ql
    go_wp2_with fail
    refine HR.out.mono ?_
    rintro e w4 ⟨rfl, hF⟩
    have HF := Lib.hid hF
    clear hF HR hct hfit
    have HT := Lib.hid (HF.out.dt)
    have hcg := HF.out.conv_g (by decide)
    rw [show strOfNums [] = (⟨#[]⟩ : ByteArray) from rfl] at hcg
    clear HF
    go_wp2_with fail
    go_loopw [247] (fun i wr => ∃ k : Nat, i = .int .i64 (k : Int) ∧ DT w0 c d r s (.slice none 0 0) [] (.slice Ab m cb) zs wr) (fun _ _ => 0)
    case atStart => exact ⟨0, rfl, HT.out⟩
    case round =>
      obtain ⟨ka, rfl, hDT⟩ := hrel
      have HT2 := Lib.hid hDT
      have a0 : decide ((ka : Int) < 0) = false := by simp
      clear hDT
      go_wp2_with fail
      go_loopw [261] (fun i wr => ∃ (k : Nat) (qs : List Int), i = .int .i64 (k : Int) ∧ k ≤ m ∧ qs.length = m ∧ DT w0 c d r s (.slice none 0 0) [] (.slice Ab m cb) qs wr) (fun i _ => m - (intOf i).toNat)
      case atStart => exact ⟨0, zs, rfl, Nat.zero_le _, HM.out.1.symm, HT2.out⟩
      case round =>
        obtain ⟨kb, qs, rfl, hkb, hqs, hDT⟩ := hrel
        by_cases hlt : kb < m
        · obtain ⟨gb, rfl⟩ := HFo.out (by omega)
          obtain ⟨x, y1, y2, y3, y4⟩ := hDT.at_b (i := kb) (by omega)
          have b0 : decide ((kb : Int) < (m : Int)) = true := by simp; omega
          have b1 : (kb : Int) < (m : Int) := by omega
          have hmb := HM.out.2.2.2
          have HQ := Lib.hid (y4 (IntKind.u8.wrap (x + 1)))
          have HLn := Lib.hid (show (qs.set kb (IntKind.u8.wrap (x + 1))).length = m by rw [List.length_set]; exact hqs)
          clear hDT y4
          go_wp2_with fail
          go_roundw
          case rel => exact ⟨kb + 1, _, by go_num, by omega, HLn.out, HQ.out⟩
          case measure => simp [intOf]; omega
        · have b0 : decide ((kb : Int) < (m : Int)) = false := by simp; omega
          have b1 : (m : Int) ≤ (kb : Int) := by omega
          have HQ := Lib.hid hDT.du
          clear hDT
          go_wp2_with fail
          go_ret
          exact ⟨rfl, HQ.out⟩
  · go_wp2_with fail
    refine (d_add_no H1.out (by show _ < zs.length + _; omega) (by show zs.length ≤ _; have := HM.out; omega)).mono ?_
    rintro e w2 ⟨rfl, g1⟩
    obtain ⟨cpt, w3, hct, hst, g2⟩ := g1.text (by show zs.length ≤ _; have := HM.out; omega)
    dsimp only at hct hst
    rw [HM.out.2.1, ← HM.out.1] at hct
    rw [← HM.out.1] at hst
    have HR := Lib.hid (d_radd_no (A := some ⟨w2.heap.size, 0, none⟩) (m := m) (cp := cpt) g2 hlen.1 (by have := HM.out.2.2.2; omega) (by rw [HM.out.1]; omega))
    clear hst g2 g1 q0 q3 q4 ql
    go_wp2_with fail
    refine HR.out.mono ?_
    rintro e w4 ⟨rfl, hF⟩
    have HF := Lib.hid hF
    clear hF HR hct hfit
    have HT := Lib.hid (HF.out.dt)
    have hcg := HF.out.conv_g (by decide)
    rw [show strOfNums [] = (⟨#[]⟩ : ByteArray) from rfl] at hcg
    clear HF
    go_wp2_with fail
    go_loopw [247] (fun i wr => ∃ k : Nat, i = .int .i64 (k : Int) ∧ DT w0 c d r s (.slice none 0 0) [] (.slice Ab m cb) zs wr) (fun _ _ => 0)
    case atStart => exact ⟨0, rfl, HT.out⟩
    case round =>
      obtain ⟨ka, rfl, hDT⟩ := hrel
      have HT2 := Lib.hid hDT
      have a0 : decide ((ka : Int) < 0) = false := by simp
      clear hDT
      go_wp2_with fail
      go_loopw [261] (fun i wr => ∃ (k : Nat) (qs : List Int), i = .int .i64 (k : Int) ∧ k ≤ m ∧ qs.length = m ∧ DT w0 c d r s (.slice none 0 0) [] (.slice Ab m cb) qs wr) (fun i _ => m - (intOf i).toNat)
      case atStart => exact ⟨0, zs, rfl, Nat.zero_le _, HM.out.1.symm, HT2.out⟩
      case round =>
        obtain ⟨kb, qs, rfl, hkb, hqs, hDT⟩ := hrel
        by_cases hlt : kb < m
        · obtain ⟨gb, rfl⟩ := HFo.out (by omega)
          obtain ⟨x, y1, y2, y3, y4⟩ := hDT.at_b (i := kb) (by omega)
          have b0 : decide ((kb : Int) < (m : Int)) = true := by simp; omega
          have b1 : (kb : Int) < (m : Int) := by omega
          have hmb := HM.out.2.2.2
          have HQ := Lib.hid (y4 (IntKind.u8.wrap (x + 1)))
          have HLn := Lib.hid (show (qs.set kb (IntKind.u8.wrap (x + 1))).length = m by rw [List.length_set]; exact hqs)
          clear hDT y4
          go_wp2_with fail
          go_roundw
          case rel => exact ⟨kb + 1, _, by go_num, by omega, HLn.out, HQ.out⟩
          case measure => simp [intOf]; omega
        · have b0 : decide ((kb : Int) < (m : Int)) = false := by simp; omega
          have b1 : (m : Int) ≤ (kb : Int) := by omega
          have HQ := Lib.hid hDT.du
          clear hDT
          go_wp2_with fail
          go_ret
          exact ⟨rfl, HQ.out⟩
set_option maxRecDepth 100000 in
set_option maxHeartbeats 16000000 in
theorem do_1 {w0 w : World} {c d r s : Nat} (h : Du w0 c d r s w) {A : Option Addr} {n cp : Nat} {z : List Int} (which nn f : Int) (many : Nat) (hs : Src w No2 A n cp z) (hz : Byt z) (hn : n ≤ 3000) (hm : many ≤ 4294967295) (hnn : -9223372036854775808 ≤ nn ∧ nn ≤ 9223372036854775807) (hf : -9223372036854775808 ≤ f ∧ f ≤ 9223372036854775807) :
    Calls Try.prog 11 #[.pointer (some ⟨c, 0, none⟩), .pointer (some ⟨d, 0, none⟩), .pointer (some ⟨r, 0, none⟩), .pointer (some ⟨s, 0, none⟩), .agg #[.int .i64 1, .int .u8 which, .slice A n cp, .int .i64 nn, .int .i64 f, .int .u32 (many : Int)]] w fun e w' => e = .returned (.bool true) ∧ Du w0 c d r s w' := by
  have HB := Lib.hid (fun (W : World) (hW : Kept (fun _ => False) w W) => bytes_any W 1 which nn f many (hs.kept hW) hz hn hm)
  have H0 := Lib.hid h
  clear h hs hz
  go_enter Try.func11, Try.ntmps11
  go_wp2_with fail
  refine (HB.out _ ((Kept.refl _ w).alloc _)).mono ?_
  rintro e w1 ⟨v, zs, rfl, g1, g2, g3, g4⟩
  obtain ⟨Ab, cb, hv, hform⟩ := g1.form
  obtain ⟨m, hm'⟩ : ∃ m, m = zs.length := ⟨_, rfl⟩
  rw [← hm'] at hv hform g3
  subst hv
  obtain ⟨ff, fg, hD⟩ := H0.out.start #[.int .i64 1, .int .u8 which, .slice A n cp, .int .i64 nn, .int .i64 f, .int .u32 (many : Int)] g4 (by rw [World.size_alloc] at g1; exact g1) g2
  obtain ⟨T, hT⟩ : ∃ T, strOfNums zs = T := ⟨_, rfl⟩
  have hcb := hD.conv_b (by show zs.length ≤ _; omega)
  dsimp only at hcb
  rw [hT] at hcb
  obtain ⟨q0, q3, q4, ql⟩ := dcells hD
  have hlen := hD.len
  have H1 := Lib.hid hD
  have HM := Lib.hid (And.intro hm' (And.intro hT (And.intro g2 g3)))
  have HFo := Lib.hid hform
  clear g1 g2 g3 g4 hD hform hT hm' HB
  by_cases hfit : zs.length + ff.length ≤ 1048576
  · go_wp2_with fail
    refine (d_ahead H1.out hfit).mono ?_
    rintro e w2 ⟨rfl, g1⟩
    obtain ⟨cpt, w3, hct, hst, g2⟩ := g1.text (by show zs.length ≤ _; have := HM.out; omega)
    dsimp only at hct hst
    rw [HM.out.2.1, ← HM.out.1] at hct
    rw [← HM.out.1] at hst
    have HR := Lib.hid (d_rahead g2 hst (by rw [HM.out.1]; exact hfit))
    clear hst g2 g1 q0 q3 q4 ql
    go_wp2_with fail
    refine HR.out.mono ?_
    rintro e w4 ⟨rfl, hF⟩
    have HF := Lib.hid hF
    clear hF HR hct hfit
    have HT := Lib.hid (HF.out.dt)
    have hcg := HF.out.conv_g (by decide)
    rw [show strOfNums [] = (⟨#[]⟩ : ByteArray) from rfl] at hcg
    clear HF
    go_wp2_with fail
    go_loopw [247] (fun i wr => ∃ k : Nat, i = .int .i64 (k : Int) ∧ DT w0 c d r s (.slice none 0 0) [] (.slice Ab m cb) zs wr) (fun _ _ => 0)
    case atStart => exact ⟨0, rfl, HT.out⟩
    case round =>
      obtain ⟨ka, rfl, hDT⟩ := hrel
      have HT2 := Lib.hid hDT
      have a0 : decide ((ka : Int) < 0) = false := by simp
      clear hDT
      go_wp2_with fail
      go_loopw [261] (fun i wr => ∃ (k : Nat) (qs : List Int), i = .int .i64 (k : Int) ∧ k ≤ m ∧ qs.length = m ∧ DT w0 c d r s (.slice none 0 0) [] (.slice Ab m cb) qs wr) (fun i _ => m - (intOf i).toNat)
      case atStart => exact ⟨0, zs, rfl, Nat.zero_le _, HM.out.1.symm, HT2.out⟩
      case round =>
        obtain ⟨kb, qs, rfl, hkb, hqs, hDT⟩ := hrel
        by_cases hlt : kb < m
        · obtain ⟨gb, rfl⟩ := HFo.out (by omega)
          obtain ⟨x, y1, y2, y3, y4⟩ := hDT.at_b (i := kb) (by omega)
          have b0 : decide ((kb : Int) < (m : Int)) = true := by simp; omega
          have b1 : (kb : Int) < (m : Int) := by omega
          have hmb := HM.out.2.2.2
          have HQ := Lib.hid (y4 (IntKind.u8.wrap (x + 1)))
          have HLn := Lib.hid (show (qs.set kb (IntKind.u8.wrap (x + 1))).length = m by rw [List.length_set]; exact hqs)
          clear hDT y4
          go_wp2_with fail
          go_roundw
          case rel => exact ⟨kb + 1, _, by go_num, by omega, HLn.out, HQ.out⟩
          case measure => simp [intOf]; omega
        · have b0 : decide ((kb : Int) < (m : Int)) = false := by simp; omega
          have b1 : (m : Int) ≤ (kb : Int) := by omega
          have HQ := Lib.hid hDT.du
          clear hDT
          go_wp2_with fail
          go_ret
          exact ⟨rfl, HQ.out⟩
  · go_wp2_with fail
    refine (d_ahead_no H1.out (by show _ < zs.length + _; omega) (by show zs.length ≤ _; have := HM.out; omega)).mono ?_
    rintro e w2 ⟨rfl, g1⟩
    obtain ⟨cpt, w3, hct, hst, g2⟩ := g1.text (by show zs.length ≤ _; have := HM.out; omega)
    dsimp only at hct hst
    rw [HM.out.2.1, ← HM.out.1] at hct
    rw [← HM.out.1] at hst
    have HR := Lib.hid (d_rahead_no (A := some ⟨w2.heap.size, 0, none⟩) (m := m) (cp := cpt) g2 hlen.1 (by have := HM.out.2.2.2; omega) (by rw [HM.out.1]; omega))
    clear hst g2 g1 q0 q3 q4 ql
    go_wp2_with fail
    refine HR.out.mono ?_
    rintro e w4 ⟨rfl, hF⟩
    have HF := Lib.hid hF
    clear hF HR hct hfit
    have HT := Lib.hid (HF.out.dt)
    have hcg := HF.out.conv_g (by decide)
    rw [show strOfNums [] = (⟨#[]⟩ : ByteArray) from rfl] at hcg
    clear HF
    go_wp2_with fail
    go_loopw [247] (fun i wr => ∃ k : Nat, i = .int .i64 (k : Int) ∧ DT w0 c d r s (.slice none 0 0) [] (.slice Ab m cb) zs wr) (fun _ _ => 0)
    case atStart => exact ⟨0, rfl, HT.out⟩
    case round =>
      obtain ⟨ka, rfl, hDT⟩ := hrel
      have HT2 := Lib.hid hDT
      have a0 : decide ((ka : Int) < 0) = false := by simp
      clear hDT
      go_wp2_with fail
      go_loopw [261] (fun i wr => ∃ (k : Nat) (qs : List Int), i = .int .i64 (k : Int) ∧ k ≤ m ∧ qs.length = m ∧ DT w0 c d r s (.slice none 0 0) [] (.slice Ab m cb) qs wr) (fun i _ => m - (intOf i).toNat)
      case atStart => exact ⟨0, zs, rfl, Nat.zero_le _, HM.out.1.symm, HT2.out⟩
      case round =>
        obtain ⟨kb, qs, rfl, hkb, hqs, hDT⟩ := hrel
        by_cases hlt : kb < m
        · obtain ⟨gb, rfl⟩ := HFo.out (by omega)
          obtain ⟨x, y1, y2, y3, y4⟩ := hDT.at_b (i := kb) (by omega)
          have b0 : decide ((kb : Int) < (m : Int)) = true := by simp; omega
          have b1 : (kb : Int) < (m : Int) := by omega
          have hmb := HM.out.2.2.2
          have HQ := Lib.hid (y4 (IntKind.u8.wrap (x + 1)))
          have HLn := Lib.hid (show (qs.set kb (IntKind.u8.wrap (x + 1))).length = m by rw [List.length_set]; exact hqs)
          clear hDT y4
          go_wp2_with fail
          go_roundw
          case rel => exact ⟨kb + 1, _, by go_num, by omega, HLn.out, HQ.out⟩
          case measure => simp [intOf]; omega
        · have b0 : decide ((kb : Int) < (m : Int)) = false := by simp; omega
          have b1 : (m : Int) ≤ (kb : Int) := by omega
          have HQ := Lib.hid hDT.du
          clear hDT
          go_wp2_with fail
          go_ret
          exact ⟨rfl, HQ.out⟩
end Go.Proofs.Ytkhkhjkacibocaa
