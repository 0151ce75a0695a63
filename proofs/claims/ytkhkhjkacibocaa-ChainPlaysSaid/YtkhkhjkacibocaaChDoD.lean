/-
  ChainPlays: a round's calls: kind 7.
-/
import Derived.Test.YtkhkhjkacibocaaChDoA
import Derived.BigQuiet
import Derived.Deep.RegionHeld
namespace Go.Proofs.Ytkhkhjkacibocaa
open Go.RowKit Go.Shelf Go.Maps Go.ChangeMaps

set_option maxRecDepth 100000 in
set_option maxHeartbeats 16000000 in
theorem do_7 {w0 w : World} {c d r s : Nat} (h : Du w0 c d r s w) {A : Option Addr} {n cp : Nat} {z : List Int} (which nn f : Int) (many : Nat) (hs : Src w No2 A n cp z) (hz : Byt z) (hn : n ≤ 3000) (hm : many ≤ 4294967295) (hnn : -9223372036854775808 ≤ nn ∧ nn ≤ 9223372036854775807) (hf : -9223372036854775808 ≤ f ∧ f ≤ 9223372036854775807) :
    Calls Try.prog 11 #[.pointer (some ⟨c, 0, none⟩), .pointer (some ⟨d, 0, none⟩), .pointer (some ⟨r, 0, none⟩), .pointer (some ⟨s, 0, none⟩), .agg #[.int .i64 7, .int .u8 which, .slice A n cp, .int .i64 nn, .int .i64 f, .int .u32 (many : Int)]] w fun e w' => e = .returned (.bool true) ∧ Du w0 c d r s w' := by
  have HB := Lib.hid (fun (W : World) (hW : Kept (fun _ => False) w W) => bytes_any W 7 which nn f many (hs.kept hW) hz hn hm)
  have H0 := Lib.hid h
  clear h hs hz
  go_enter Try.func11, Try.ntmps11
  go_wp2_with fail
  refine (HB.out _ ((Kept.refl _ w).alloc _)).mono ?_
  rintro e w1 ⟨v, zs, rfl, g1, g2, g3, g4⟩
  obtain ⟨Ab, cb, hv, hform⟩ := g1.form
  obtain ⟨m, hm'⟩ : ∃ m, m = zs.length := ⟨_, rfl⟩
  rw [← hm'] at hv hform g3
  subst hv
  obtain ⟨ff, fg, hD⟩ := H0.out.start #[.int .i64 7, .int .u8 which, .slice A n cp, .int .i64 nn, .int .i64 f, .int .u32 (many : Int)] g4 (by rw [World.size_alloc] at g1; exact g1) g2
  obtain ⟨T, hT⟩ : ∃ T, strOfNums zs = T := ⟨_, rfl⟩
  have hcb := hD.conv_b (by show zs.length ≤ _; omega)
  dsimp only at hcb
  rw [hT] at hcb
  obtain ⟨q0, q3, q4, ql⟩ := dcells hD
  have hlen := hD.len
  have H1 := Lib.hid hD
  have HM := Lib.hid (And.intro hm' (And.intro hT (And.intro g2 g3)))
  have HFo := Lib.hid hform
  clear g1 g2 g3 g4 hD hform hT hm' HB
  go_wp2_with fail
  refine (d_line H1.out).mono ?_
  rintro e w2 ⟨q, hq, g1⟩
  have HQ := Lib.hid hq
  have HLn := Lib.hid hlen.1
  clear hq
  cases q with
  | none =>
    obtain ⟨rfl, g2⟩ := g1
    have HR := Lib.hid (d_rline g2 HLn.out)
    obtain ⟨q0, q3, q4, ql⟩ := dcells g2
    clear g2
    go_wp2_with fail
    refine HR.out.mono ?_
    rintro e w4 ⟨q', hq', g4⟩
    obtain rfl := HQ.out.unique hq'
    obtain ⟨rfl, g5⟩ := g4
    have hZ : ∀ j, (convert 31 9 (.slice none 0 0)).run Try.prog (w4.drewN j) = .ok (.string ⟨#[]⟩) (w4.drewN j) := fun j => (g5.drewN j).conv_g (by decide)
    have HF := Lib.hid (fun j => g5.drewN j)
    clear g5 hq' HR
    go_wp2_with fail
    go_quiet (fail)
    go_wp2_with fail
    have HT := Lib.hid (fun j => (HF.out j).dt)
    have hcg : ∀ j, _ := fun j => (HF.out j).conv_g (by decide)
    simp only [show strOfNums [] = (⟨#[]⟩ : ByteArray) from rfl] at hcg
    clear HF
    go_loopw [247] (fun i wr => ∃ k : Nat, i = .int .i64 (k : Int) ∧ DT w0 c d r s (.slice none 0 0) [] (.slice Ab m cb) zs wr) (fun _ _ => 0)
    case atStart => exact ⟨0, rfl, HT.out _⟩
    case round =>
      obtain ⟨ka, rfl, hDT⟩ := hrel
      have HT2 := Lib.hid hDT
      have a0 : decide ((ka : Int) < 0) = false := by simp
      clear hDT
      go_wp2_with fail
      go_loopw [261] (fun i wr => ∃ (k : Nat) (qs : List Int), i = .int .i64 (k : Int) ∧ k ≤ m ∧ qs.length = m ∧ DT w0 c d r s (.slice none 0 0) [] (.slice Ab m cb) qs wr) (fun i _ => m - (intOf i).toNat)
      case atStart => exact ⟨0, zs, rfl, Nat.zero_le _, HM.out.1.symm, HT2.out⟩
      case round =>
        obtain ⟨kb, qs, rfl, hkb, hqs, hDT⟩ := hrel
        by_cases hlt : kb < m
        · obtain ⟨gb, rfl⟩ := HFo.out (by omega)
          obtain ⟨x, y1, y2, y3, y4⟩ := hDT.at_b (i := kb) (by omega)
          have b0 : decide ((kb : Int) < (m : Int)) = true := by simp; omega
          have b1 : (kb : Int) < (m : Int) := by omega
          have hmb := HM.out.2.2.2
          have HQ := Lib.hid (y4 (IntKind.u8.wrap (x + 1)))
          have HLn := Lib.hid (show (qs.set kb (IntKind.u8.wrap (x + 1))).length = m by rw [List.length_set]; exact hqs)
          clear hDT y4
          go_wp2_with fail
          go_roundw
          case rel => exact ⟨kb + 1, _, by go_num, by omega, HLn.out, HQ.out⟩
          case measure => simp [intOf]; omega
        · have b0 : decide ((kb : Int) < (m : Int)) = false := by simp; omega
          have b1 : (m : Int) ≤ (kb : Int) := by omega
          have HQ := Lib.hid hDT.du
          clear hDT
          go_wp2_with fail
          go_ret
          exact ⟨rfl, HQ.out⟩
  | some i =>
    obtain ⟨v, rfl, g2⟩ := g1
    obtain ⟨G, cg, hv, hfg⟩ := g2.form_g
    obtain ⟨ng, hng⟩ : ∃ k, k = (ff.take i).length := ⟨_, rfl⟩
    rw [← hng] at hv hfg
    subst hv
    have HG := Lib.hid (And.intro hng (And.intro hfg (show ng ≤ 1048576 by rw [hng]; rw [List.length_take]; have := HLn.out; omega)))
    clear hng hfg
    have HR := Lib.hid (d_rline g2 HLn.out)
    obtain ⟨q0, q3, q4, ql⟩ := dcells g2
    obtain ⟨TS, hTS⟩ : ∃ TS, strOfNums (ff.take i) = TS := ⟨_, rfl⟩
    have HTS := Lib.hid hTS
    clear g2 hTS
    go_wp2_with fail
    refine HR.out.mono ?_
    rintro e w4 ⟨q', hq', g4⟩
    obtain rfl := HQ.out.unique hq'
    obtain ⟨A3, k3, c3, rfl, g5⟩ := g4
    have hr3 : ∀ j, (convert 31 9 (.slice A3 k3 c3)).run Try.prog (w4.drewN j) = .ok (.string TS) (w4.drewN j) := fun j => HTS.out ▸ (g5.drewN j).conv_r
    have hcg : ∀ j, (convert 31 9 (.slice G ng cg)).run Try.prog (w4.drewN j) = .ok (.string TS) (w4.drewN j) := fun j => HTS.out ▸ (g5.drewN j).conv_g (by rw [← HG.out.1]; have := HG.out.2.2; omega)
    have HF := Lib.hid (fun j => g5.drewN j)
    clear g5 hq' HR
    go_wp2_with fail
    go_quiet (fail)
    go_wp2_with fail
    have HT := Lib.hid (fun j => (HF.out j).dt)
    go_loopw [247] (fun i wr => ∃ (k : Nat) (qs : List Int), i = .int .i64 (k : Int) ∧ k ≤ ng ∧ qs.length = ng ∧ DT w0 c d r s (.slice G ng cg) qs (.slice Ab m cb) zs wr) (fun i _ => ng - (intOf i).toNat)
    case atStart => exact ⟨0, _, rfl, Nat.zero_le _, HG.out.1.symm, HT.out _⟩
    case round =>
      obtain ⟨ka, ps, rfl, hka, hps, hDT⟩ := hrel
      by_cases hlt : ka < ng
      · obtain ⟨ga, rfl⟩ := HG.out.2.1 (by omega)
        obtain ⟨x, y1, y2, y3, y4⟩ := hDT.at_g (i := ka) (by omega)
        have b0 : decide ((ka : Int) < (ng : Int)) = true := by simp; omega
        have b1 : (ka : Int) < (ng : Int) := by omega
        have hnb := HG.out.2.2
        have HQ := Lib.hid (y4 (IntKind.u8.wrap (x + 1)))
        have HLn := Lib.hid (show (ps.set ka (IntKind.u8.wrap (x + 1))).length = ng by rw [List.length_set]; exact hps)
        clear hDT y4
        go_wp2_with fail
        go_roundw
        case rel => exact ⟨ka + 1, _, by go_num, by omega, HLn.out, HQ.out⟩
        case measure => simp [intOf]; omega
      · have b0 : decide ((ka : Int) < (ng : Int)) = false := by simp; omega
        have b1 : (ng : Int) ≤ (ka : Int) := by omega
        have HT2 := Lib.hid hDT
        clear hDT
        go_wp2_with fail
        go_loopw [261] (fun i wr => ∃ (k : Nat) (qs : List Int), i = .int .i64 (k : Int) ∧ k ≤ m ∧ qs.length = m ∧ DT w0 c d r s (.slice G ng cg) ps (.slice Ab m cb) qs wr) (fun i _ => m - (intOf i).toNat)
        case atStart => exact ⟨0, zs, rfl, Nat.zero_le _, HM.out.1.symm, HT2.out⟩
        case round =>
          obtain ⟨kb, qs, rfl, hkb, hqs, hDT⟩ := hrel
          by_cases hlt : kb < m
          · obtain ⟨gb, rfl⟩ := HFo.out (by omega)
            obtain ⟨x, y1, y2, y3, y4⟩ := hDT.at_b (i := kb) (by omega)
            have b0 : decide ((kb : Int) < (m : Int)) = true := by simp; omega
            have b1 : (kb : Int) < (m : Int) := by omega
            have hmb := HM.out.2.2.2
            have HQ := Lib.hid (y4 (IntKind.u8.wrap (x + 1)))
            have HLn := Lib.hid (show (qs.set kb (IntKind.u8.wrap (x + 1))).length = m by rw [List.length_set]; exact hqs)
            clear hDT y4
            go_wp2_with fail
            go_roundw
            case rel => exact ⟨kb + 1, _, by go_num, by omega, HLn.out, HQ.out⟩
            case measure => simp [intOf]; omega
          · have b0 : decide ((kb : Int) < (m : Int)) = false := by simp; omega
            have b1 : (m : Int) ≤ (kb : Int) := by omega
            have HQ := Lib.hid hDT.du
            clear hDT
            go_wp2_with fail
            go_ret
            exact ⟨rfl, HQ.out⟩
end Go.Proofs.Ytkhkhjkacibocaa
