/-
  ChainPlays: a round's calls: kinds 2, 6, 8.
-/
import Derived.Test.YtkhkhjkacibocaaChDoA
import Derived.BigQuiet
import Derived.Deep.RegionHeld
namespace Go.Proofs.Ytkhkhjkacibocaa
open Go.RowKit Go.Shelf Go.Maps Go.ChangeMaps

set_option maxRecDepth 100000 in
set_option maxHeartbeats 16000000 in
theorem do_2 {w0 w : World} {c d r s : Nat} (h : Du w0 c d r s w) {A : Option Addr} {n cp : Nat} {z : List Int} (which nn f : Int) (many : Nat) (hs : Src w No2 A n cp z) (hz : Byt z) (hn : n ≤ 3000) (hm : many ≤ 4294967295) (hnn : -9223372036854775808 ≤ nn ∧ nn ≤ 9223372036854775807) (hf : -9223372036854775808 ≤ f ∧ f ≤ 9223372036854775807) :
    Calls Try.prog 11 #[.pointer (some ⟨c, 0, none⟩), .pointer (some ⟨d, 0, none⟩), .pointer (some ⟨r, 0, none⟩), .pointer (some ⟨s, 0, none⟩), .agg #[.int .i64 2, .int .u8 which, .slice A n cp, .int .i64 nn, .int .i64 f, .int .u32 (many : Int)]] w fun e w' => e = .returned (.bool true) ∧ Du w0 c d r s w' := by
  have HB := Lib.hid (fun (W : World) (hW : Kept (fun _ => False) w W) => bytes_any W 2 which nn f many (hs.kept hW) hz hn hm)
  have H0 := Lib.hid h
  clear h hs hz
  go_enter Try.func11, Try.ntmps11
  go_wp2_with fail
  refine (HB.out _ ((Kept.refl _ w).alloc _)).mono ?_
  rintro e w1 ⟨v, zs, rfl, g1, g2, g3, g4⟩
  obtain ⟨Ab, cb, hv, hform⟩ := g1.form
  obtain ⟨m, hm'⟩ : ∃ m, m = zs.length := ⟨_, rfl⟩
  rw [← hm'] at hv hform g3
  subst hv
  obtain ⟨ff, fg, hD⟩ := H0.out.start #[.int .i64 2, .int .u8 which, .slice A n cp, .int .i64 nn, .int .i64 f, .int .u32 (many : Int)] g4 (by rw [World.size_alloc] at g1; exact g1) g2
  obtain ⟨T, hT⟩ : ∃ T, strOfNums zs = T := ⟨_, rfl⟩
  have hcb := hD.conv_b (by show zs.length ≤ _; omega)
  dsimp only at hcb
  rw [hT] at hcb
  obtain ⟨q0, q3, q4, ql⟩ := dcells hD
  have hlen := hD.len
  have H1 := Lib.hid hD
  have HM := Lib.hid (And.intro hm' (And.intro hT (And.intro g2 g3)))
  have HFo := Lib.hid hform
  clear g1 g2 g3 g4 hD hform hT hm' HB
  obtain ⟨lt, hlt⟩ : ∃ k, (ff.take nn.toNat).length = k := ⟨_, rfl⟩
  have HL := Lib.hid (And.intro hlt hlen.1)
  have hE := H1.out.drew
  clear hlt
  go_wp2_with fail
  go_region_held3 (fun W' => W'.cell? ⟨w.heap.size, 3, none⟩ = some (.int .i64 nn))
    (exact (dcells hE).2.1)
    (first
      | (go_at_call 22; refine (d_drain' hE nn hnn HL.out.1).mono ?_; rintro e w2 ⟨rfl, hE⟩)
      | (go_at_call 31; refine (d_rtake' hE HL.out.2 nn hnn HL.out.1).mono ?_; rintro e w3 ⟨A2, cp2, rfl, hE⟩))
  have HF := Lib.hid hE
  clear hE
  have HT := Lib.hid (HF.out.dt)
  have hcg := HF.out.conv_g (by decide)
  rw [show strOfNums [] = (⟨#[]⟩ : ByteArray) from rfl] at hcg
  clear HF
  go_wp2_with fail
  go_loopw [247] (fun i wr => ∃ k : Nat, i = .int .i64 (k : Int) ∧ DT w0 c d r s (.slice none 0 0) [] (.slice Ab m cb) zs wr) (fun _ _ => 0)
  case atStart => exact ⟨0, rfl, HT.out⟩
  case round =>
    obtain ⟨ka, rfl, hDT⟩ := hrel
    have HT2 := Lib.hid hDT
    have a0 : decide ((ka : Int) < 0) = false := by simp
    clear hDT
    go_wp2_with fail
    go_loopw [261] (fun i wr => ∃ (k : Nat) (qs : List Int), i = .int .i64 (k : Int) ∧ k ≤ m ∧ qs.length = m ∧ DT w0 c d r s (.slice none 0 0) [] (.slice Ab m cb) qs wr) (fun i _ => m - (intOf i).toNat)
    case atStart => exact ⟨0, zs, rfl, Nat.zero_le _, HM.out.1.symm, HT2.out⟩
    case round =>
      obtain ⟨kb, qs, rfl, hkb, hqs, hDT⟩ := hrel
      by_cases hlt : kb < m
      · obtain ⟨gb, rfl⟩ := HFo.out (by omega)
        obtain ⟨x, y1, y2, y3, y4⟩ := hDT.at_b (i := kb) (by omega)
        have b0 : decide ((kb : Int) < (m : Int)) = true := by simp; omega
        have b1 : (kb : Int) < (m : Int) := by omega
        have hmb := HM.out.2.2.2
        have HQ := Lib.hid (y4 (IntKind.u8.wrap (x + 1)))
        have HLn := Lib.hid (show (qs.set kb (IntKind.u8.wrap (x + 1))).length = m by rw [List.length_set]; exact hqs)
        clear hDT y4
        go_wp2_with fail
        go_roundw
        case rel => exact ⟨kb + 1, _, by go_num, by omega, HLn.out, HQ.out⟩
        case measure => simp [intOf]; omega
      · have b0 : decide ((kb : Int) < (m : Int)) = false := by simp; omega
        have b1 : (m : Int) ≤ (kb : Int) := by omega
        have HQ := Lib.hid hDT.du
        clear hDT
        go_wp2_with fail
        go_ret
        exact ⟨rfl, HQ.out⟩
set_option maxRecDepth 100000 in
set_option maxHeartbeats 16000000 in
theorem do_6 {w0 w : World} {c d r s : Nat} (h : Du w0 c d r s w) {A : Option Addr} {n cp : Nat} {z : List Int} (which nn f : Int) (many : Nat) (hs : Src w No2 A n cp z) (hz : Byt z) (hn : n ≤ 3000) (hm : many ≤ 4294967295) (hnn : -9223372036854775808 ≤ nn ∧ nn ≤ 9223372036854775807) (hf : -9223372036854775808 ≤ f ∧ f ≤ 9223372036854775807) :
    Calls Try.prog 11 #[.pointer (some ⟨c, 0, none⟩), .pointer (some ⟨d, 0, none⟩), .pointer (some ⟨r, 0, none⟩), .pointer (some ⟨s, 0, none⟩), .agg #[.int .i64 6, .int .u8 which, .slice A n cp, .int .i64 nn, .int .i64 f, .int .u32 (many : Int)]] w fun e w' => e = .returned (.bool true) ∧ Du w0 c d r s w' := by
  have HB := Lib.hid (fun (W : World) (hW : Kept (fun _ => False) w W) => bytes_any W 6 which nn f many (hs.kept hW) hz hn hm)
  have H0 := Lib.hid h
  clear h hs hz
  go_enter Try.func11, Try.ntmps11
  go_wp2_with fail
  refine (HB.out _ ((Kept.refl _ w).alloc _)).mono ?_
  rintro e w1 ⟨v, zs, rfl, g1, g2, g3, g4⟩
  obtain ⟨Ab, cb, hv, hform⟩ := g1.form
  obtain ⟨m, hm'⟩ : ∃ m, m = zs.length := ⟨_, rfl⟩
  rw [← hm'] at hv hform g3
  subst hv
  obtain ⟨ff, fg, hD⟩ := H0.out.start #[.int .i64 6, .int .u8 which, .slice A n cp, .int .i64 nn, .int .i64 f, .int .u32 (many : Int)] g4 (by rw [World.size_alloc] at g1; exact g1) g2
  obtain ⟨T, hT⟩ : ∃ T, strOfNums zs = T := ⟨_, rfl⟩
  have hcb := hD.conv_b (by show zs.length ≤ _; omega)
  dsimp only at hcb
  rw [hT] at hcb
  obtain ⟨q0, q3, q4, ql⟩ := dcells hD
  have hlen := hD.len
  have H1 := Lib.hid hD
  have HM := Lib.hid (And.intro hm' (And.intro hT (And.intro g2 g3)))
  have HFo := Lib.hid hform
  clear g1 g2 g3 g4 hD hform hT hm' HB
  go_wp2_with fail
  refine (d_find H1.out (by show zs.length ≤ _; have := HM.out; omega) f hf).mono ?_
  rintro e w2 ⟨q, rfl, hq, g1⟩
  obtain ⟨cpt, w3, hct, hst, g2⟩ := g1.text (by show zs.length ≤ _; have := HM.out; omega)
  dsimp only at hct hst
  rw [HM.out.2.1, ← HM.out.1] at hct
  rw [← HM.out.1] at hst
  obtain ⟨q0, q3, q4, ql⟩ := dcells g2
  have HR := Lib.hid (d_rfind g2 hlen.1 hst (by have := HM.out.2.2.2; omega) f hf)
  have HQ := Lib.hid hq
  clear hst g2 g1 hq
  cases q with
  | none =>
    simp only [ansF]
    go_wp2_with fail
    refine HR.out.mono ?_
    rintro e w4 ⟨q', rfl, hq', g4⟩
    obtain rfl := HQ.out.unique hq'
    clear hq'
    have HF := Lib.hid g4
    clear g4
    simp only [ansF]
    have HT := Lib.hid (HF.out.dt)
    have hcg := HF.out.conv_g (by decide)
    rw [show strOfNums [] = (⟨#[]⟩ : ByteArray) from rfl] at hcg
    clear HF
    go_wp2_with fail
    go_loopw [247] (fun i wr => ∃ k : Nat, i = .int .i64 (k : Int) ∧ DT w0 c d r s (.slice none 0 0) [] (.slice Ab m cb) zs wr) (fun _ _ => 0)
    case atStart => exact ⟨0, rfl, HT.out⟩
    case round =>
      obtain ⟨ka, rfl, hDT⟩ := hrel
      have HT2 := Lib.hid hDT
      have a0 : decide ((ka : Int) < 0) = false := by simp
      clear hDT
      go_wp2_with fail
      go_loopw [261] (fun i wr => ∃ (k : Nat) (qs : List Int), i = .int .i64 (k : Int) ∧ k ≤ m ∧ qs.length = m ∧ DT w0 c d r s (.slice none 0 0) [] (.slice Ab m cb) qs wr) (fun i _ => m - (intOf i).toNat)
      case atStart => exact ⟨0, zs, rfl, Nat.zero_le _, HM.out.1.symm, HT2.out⟩
      case round =>
        obtain ⟨kb, qs, rfl, hkb, hqs, hDT⟩ := hrel
        by_cases hlt : kb < m
        · obtain ⟨gb, rfl⟩ := HFo.out (by omega)
          obtain ⟨x, y1, y2, y3, y4⟩ := hDT.at_b (i := kb) (by omega)
          have b0 : decide ((kb : Int) < (m : Int)) = true := by simp; omega
          have b1 : (kb : Int) < (m : Int) := by omega
          have hmb := HM.out.2.2.2
          have HQ := Lib.hid (y4 (IntKind.u8.wrap (x + 1)))
          have HLn := Lib.hid (show (qs.set kb (IntKind.u8.wrap (x + 1))).length = m by rw [List.length_set]; exact hqs)
          clear hDT y4
          go_wp2_with fail
          go_roundw
          case rel => exact ⟨kb + 1, _, by go_num, by omega, HLn.out, HQ.out⟩
          case measure => simp [intOf]; omega
        · have b0 : decide ((kb : Int) < (m : Int)) = false := by simp; omega
          have b1 : (m : Int) ≤ (kb : Int) := by omega
          have HQ := Lib.hid hDT.du
          clear hDT
          go_wp2_with fail
          go_ret
          exact ⟨rfl, HQ.out⟩
  | some i =>
    simp only [ansF]
    go_wp2_with fail
    refine HR.out.mono ?_
    rintro e w4 ⟨q', rfl, hq', g4⟩
    obtain rfl := HQ.out.unique hq'
    clear hq'
    have HF := Lib.hid g4
    clear g4
    simp only [ansF]
    have HT := Lib.hid (HF.out.dt)
    have hcg := HF.out.conv_g (by decide)
    rw [show strOfNums [] = (⟨#[]⟩ : ByteArray) from rfl] at hcg
    clear HF
    go_wp2_with fail
    go_loopw [247] (fun i wr => ∃ k : Nat, i = .int .i64 (k : Int) ∧ DT w0 c d r s (.slice none 0 0) [] (.slice Ab m cb) zs wr) (fun _ _ => 0)
    case atStart => exact ⟨0, rfl, HT.out⟩
    case round =>
      obtain ⟨ka, rfl, hDT⟩ := hrel
      have HT2 := Lib.hid hDT
      have a0 : decide ((ka : Int) < 0) = false := by simp
      clear hDT
      go_wp2_with fail
      go_loopw [261] (fun i wr => ∃ (k : Nat) (qs : List Int), i = .int .i64 (k : Int) ∧ k ≤ m ∧ qs.length = m ∧ DT w0 c d r s (.slice none 0 0) [] (.slice Ab m cb) qs wr) (fun i _ => m - (intOf i).toNat)
      case atStart => exact ⟨0, zs, rfl, Nat.zero_le _, HM.out.1.symm, HT2.out⟩
      case round =>
        obtain ⟨kb, qs, rfl, hkb, hqs, hDT⟩ := hrel
        by_cases hlt : kb < m
        · obtain ⟨gb, rfl⟩ := HFo.out (by omega)
          obtain ⟨x, y1, y2, y3, y4⟩ := hDT.at_b (i := kb) (by omega)
          have b0 : decide ((kb : Int) < (m : Int)) = true := by simp; omega
          have b1 : (kb : Int) < (m : Int) := by omega
          have hmb := HM.out.2.2.2
          have HQ := Lib.hid (y4 (IntKind.u8.wrap (x + 1)))
          have HLn := Lib.hid (show (qs.set kb (IntKind.u8.wrap (x + 1))).length = m by rw [List.length_set]; exact hqs)
          clear hDT y4
          go_wp2_with fail
          go_roundw
          case rel => exact ⟨kb + 1, _, by go_num, by omega, HLn.out, HQ.out⟩
          case measure => simp [intOf]; omega
        · have b0 : decide ((kb : Int) < (m : Int)) = false := by simp; omega
          have b1 : (m : Int) ≤ (kb : Int) := by omega
          have HQ := Lib.hid hDT.du
          clear hDT
          go_wp2_with fail
          go_ret
          exact ⟨rfl, HQ.out⟩
set_option maxRecDepth 100000 in
set_option maxHeartbeats 16000000 in
theorem do_8n {w0 w : World} {c d r s : Nat} (h : Du w0 c d r s w) {A : Option Addr} {n cp : Nat} {z : List Int} (which nn f : Int) (many : Nat) (hs : Src w No2 A n cp z) (hz : Byt z) (hn : n ≤ 3000) (hm : many ≤ 4294967295) (hnn : -9223372036854775808 ≤ nn ∧ nn ≤ 9223372036854775807) (hf : -9223372036854775808 ≤ f ∧ f ≤ 9223372036854775807) (h0 : nn < 0) :
    Calls Try.prog 11 #[.pointer (some ⟨c, 0, none⟩), .pointer (some ⟨d, 0, none⟩), .pointer (some ⟨r, 0, none⟩), .pointer (some ⟨s, 0, none⟩), .agg #[.int .i64 8, .int .u8 which, .slice A n cp, .int .i64 nn, .int .i64 f, .int .u32 (many : Int)]] w fun e w' => e = .returned (.bool true) ∧ Du w0 c d r s w' := by
  have HB := Lib.hid (fun (W : World) (hW : Kept (fun _ => False) w W) => bytes_any W 8 which nn f many (hs.kept hW) hz hn hm)
  have H0 := Lib.hid h
  clear h hs hz
  go_enter Try.func11, Try.ntmps11
  go_wp2_with fail
  refine (HB.out _ ((Kept.refl _ w).alloc _)).mono ?_
  rintro e w1 ⟨v, zs, rfl, g1, g2, g3, g4⟩
  obtain ⟨Ab, cb, hv, hform⟩ := g1.form
  obtain ⟨m, hm'⟩ : ∃ m, m = zs.length := ⟨_, rfl⟩
  rw [← hm'] at hv hform g3
  subst hv
  obtain ⟨ff, fg, hD⟩ := H0.out.start #[.int .i64 8, .int .u8 which, .slice A n cp, .int .i64 nn, .int .i64 f, .int .u32 (many : Int)] g4 (by rw [World.size_alloc] at g1; exact g1) g2
  obtain ⟨T, hT⟩ : ∃ T, strOfNums zs = T := ⟨_, rfl⟩
  have hcb := hD.conv_b (by show zs.length ≤ _; omega)
  dsimp only at hcb
  rw [hT] at hcb
  obtain ⟨q0, q3, q4, ql⟩ := dcells hD
  have hlen := hD.len
  have H1 := Lib.hid hD
  have HM := Lib.hid (And.intro hm' (And.intro hT (And.intro g2 g3)))
  have HFo := Lib.hid hform
  clear g1 g2 g3 g4 hD hform hT hm' HB
  go_wp2_with fail
  refine (d_move_neg H1.out nn h0).mono ?_
  rintro e w2 ⟨rfl, g1⟩
  obtain ⟨q0, q3, q4, ql⟩ := dcells g1
  have HR := Lib.hid (d_rmove_neg g1 nn h0)
  clear g1
  go_wp2_with fail
  refine HR.out.mono ?_
  rintro e w4 ⟨rfl, g4⟩
  have HF := Lib.hid g4
  clear g4
  have HT := Lib.hid (HF.out.dt)
  have hcg := HF.out.conv_g (by decide)
  rw [show strOfNums [] = (⟨#[]⟩ : ByteArray) from rfl] at hcg
  clear HF
  go_wp2_with fail
  go_loopw [247] (fun i wr => ∃ k : Nat, i = .int .i64 (k : Int) ∧ DT w0 c d r s (.slice none 0 0) [] (.slice Ab m cb) zs wr) (fun _ _ => 0)
  case atStart => exact ⟨0, rfl, HT.out⟩
  case round =>
    obtain ⟨ka, rfl, hDT⟩ := hrel
    have HT2 := Lib.hid hDT
    have a0 : decide ((ka : Int) < 0) = false := by simp
    clear hDT
    go_wp2_with fail
    go_loopw [261] (fun i wr => ∃ (k : Nat) (qs : List Int), i = .int .i64 (k : Int) ∧ k ≤ m ∧ qs.length = m ∧ DT w0 c d r s (.slice none 0 0) [] (.slice Ab m cb) qs wr) (fun i _ => m - (intOf i).toNat)
    case atStart => exact ⟨0, zs, rfl, Nat.zero_le _, HM.out.1.symm, HT2.out⟩
    case round =>
      obtain ⟨kb, qs, rfl, hkb, hqs, hDT⟩ := hrel
      by_cases hlt : kb < m
      · obtain ⟨gb, rfl⟩ := HFo.out (by omega)
        obtain ⟨x, y1, y2, y3, y4⟩ := hDT.at_b (i := kb) (by omega)
        have b0 : decide ((kb : Int) < (m : Int)) = true := by simp; omega
        have b1 : (kb : Int) < (m : Int) := by omega
        have hmb := HM.out.2.2.2
        have HQ := Lib.hid (y4 (IntKind.u8.wrap (x + 1)))
        have HLn := Lib.hid (show (qs.set kb (IntKind.u8.wrap (x + 1))).length = m by rw [List.length_set]; exact hqs)
        clear hDT y4
        go_wp2_with fail
        go_roundw
        case rel => exact ⟨kb + 1, _, by go_num, by omega, HLn.out, HQ.out⟩
        case measure => simp [intOf]; omega
      · have b0 : decide ((kb : Int) < (m : Int)) = false := by simp; omega
        have b1 : (m : Int) ≤ (kb : Int) := by omega
        have HQ := Lib.hid hDT.du
        clear hDT
        go_wp2_with fail
        go_ret
        exact ⟨rfl, HQ.out⟩
set_option maxRecDepth 100000 in
set_option maxHeartbeats 16000000 in
theorem do_8p {w0 w : World} {c d r s : Nat} (h : Du w0 c d r s w) {A : Option Addr} {n cp : Nat} {z : List Int} (which nn f : Int) (many : Nat) (hs : Src w No2 A n cp z) (hz : Byt z) (hn : n ≤ 3000) (hm : many ≤ 4294967295) (hnn : -9223372036854775808 ≤ nn ∧ nn ≤ 9223372036854775807) (hf : -9223372036854775808 ≤ f ∧ f ≤ 9223372036854775807) (h0 : 0 ≤ nn) :
    Calls Try.prog 11 #[.pointer (some ⟨c, 0, none⟩), .pointer (some ⟨d, 0, none⟩), .pointer (some ⟨r, 0, none⟩), .pointer (some ⟨s, 0, none⟩), .agg #[.int .i64 8, .int .u8 which, .slice A n cp, .int .i64 nn, .int .i64 f, .int .u32 (many : Int)]] w fun e w' => e = .returned (.bool true) ∧ Du w0 c d r s w' := by
  have HB := Lib.hid (fun (W : World) (hW : Kept (fun _ => False) w W) => bytes_any W 8 which nn f many (hs.kept hW) hz hn hm)
  have H0 := Lib.hid h
  clear h hs hz
  go_enter Try.func11, Try.ntmps11
  go_wp2_with fail
  refine (HB.out _ ((Kept.refl _ w).alloc _)).mono ?_
  rintro e w1 ⟨v, zs, rfl, g1, g2, g3, g4⟩
  obtain ⟨Ab, cb, hv, hform⟩ := g1.form
  obtain ⟨m, hm'⟩ : ∃ m, m = zs.length := ⟨_, rfl⟩
  rw [← hm'] at hv hform g3
  subst hv
  obtain ⟨ff, fg, hD⟩ := H0.out.start #[.int .i64 8, .int .u8 which, .slice A n cp, .int .i64 nn, .int .i64 f, .int .u32 (many : Int)] g4 (by rw [World.size_alloc] at g1; exact g1) g2
  obtain ⟨T, hT⟩ : ∃ T, strOfNums zs = T := ⟨_, rfl⟩
  have hcb := hD.conv_b (by show zs.length ≤ _; omega)
  dsimp only at hcb
  rw [hT] at hcb
  obtain ⟨q0, q3, q4, ql⟩ := dcells hD
  have hlen := hD.len
  have H1 := Lib.hid hD
  have HM := Lib.hid (And.intro hm' (And.intro hT (And.intro g2 g3)))
  have HFo := Lib.hid hform
  clear g1 g2 g3 g4 hD hform hT hm' HB
  obtain ⟨p, rfl⟩ : ∃ p : Nat, nn = (p : Int) := ⟨nn.toNat, by omega⟩
  have hp : p ≤ 9223372036854775807 := by omega
  clear h0
  by_cases hfit : min p ff.length + fg.length ≤ 1048576
  · have HK := Lib.hid hfit
    clear hfit
    go_wp2_with fail
    refine (d_move H1.out p hp HK.out).mono ?_
    rintro e w2 ⟨rfl, g1⟩
    obtain ⟨q0, q3, q4, ql⟩ := dcells g1
    obtain ⟨y, hy⟩ : ∃ y, y = min p ff.length := ⟨_, rfl⟩
    have HR := d_rmove g1 hlen.1 hlen.2 p hp HK.out
    rw [← hy] at HR ⊢
    have HR := Lib.hid HR
    clear g1 hy
    go_wp2_with fail
    refine HR.out.mono ?_
    rintro e w4 ⟨rfl, g4⟩
    have HF := Lib.hid g4
    clear g4
    have HT := Lib.hid (HF.out.dt)
    have hcg := HF.out.conv_g (by decide)
    rw [show strOfNums [] = (⟨#[]⟩ : ByteArray) from rfl] at hcg
    clear HF
    go_wp2_with fail
    go_loopw [247] (fun i wr => ∃ k : Nat, i = .int .i64 (k : Int) ∧ DT w0 c d r s (.slice none 0 0) [] (.slice Ab m cb) zs wr) (fun _ _ => 0)
    case atStart => exact ⟨0, rfl, HT.out⟩
    case round =>
      obtain ⟨ka, rfl, hDT⟩ := hrel
      have HT2 := Lib.hid hDT
      have a0 : decide ((ka : Int) < 0) = false := by simp
      clear hDT
      go_wp2_with fail
      go_loopw [261] (fun i wr => ∃ (k : Nat) (qs : List Int), i = .int .i64 (k : Int) ∧ k ≤ m ∧ qs.length = m ∧ DT w0 c d r s (.slice none 0 0) [] (.slice Ab m cb) qs wr) (fun i _ => m - (intOf i).toNat)
      case atStart => exact ⟨0, zs, rfl, Nat.zero_le _, HM.out.1.symm, HT2.out⟩
      case round =>
        obtain ⟨kb, qs, rfl, hkb, hqs, hDT⟩ := hrel
        by_cases hlt : kb < m
        · obtain ⟨gb, rfl⟩ := HFo.out (by omega)
          obtain ⟨x, y1, y2, y3, y4⟩ := hDT.at_b (i := kb) (by omega)
          have b0 : decide ((kb : Int) < (m : Int)) = true := by simp; omega
          have b1 : (kb : Int) < (m : Int) := by omega
          have hmb := HM.out.2.2.2
          have HQ := Lib.hid (y4 (IntKind.u8.wrap (x + 1)))
          have HLn := Lib.hid (show (qs.set kb (IntKind.u8.wrap (x + 1))).length = m by rw [List.length_set]; exact hqs)
          clear hDT y4
          go_wp2_with fail
          go_roundw
          case rel => exact ⟨kb + 1, _, by go_num, by omega, HLn.out, HQ.out⟩
          case measure => simp [intOf]; omega
        · have b0 : decide ((kb : Int) < (m : Int)) = false := by simp; omega
          have b1 : (m : Int) ≤ (kb : Int) := by omega
          have HQ := Lib.hid hDT.du
          clear hDT
          go_wp2_with fail
          go_ret
          exact ⟨rfl, HQ.out⟩
  · have HK := Lib.hid (show 1048576 < min p ff.length + fg.length by omega)
    clear hfit
    go_wp2_with fail
    refine (d_move_no H1.out p hp HK.out).mono ?_
    rintro e w2 ⟨rfl, g1⟩
    obtain ⟨q0, q3, q4, ql⟩ := dcells g1
    have HR := Lib.hid (d_rmove_no g1 hlen.1 hlen.2 p hp HK.out)
    clear g1
    go_wp2_with fail
    refine HR.out.mono ?_
    rintro e w4 ⟨rfl, g4⟩
    have HF := Lib.hid g4
    clear g4
    have HT := Lib.hid (HF.out.dt)
    have hcg := HF.out.conv_g (by decide)
    rw [show strOfNums [] = (⟨#[]⟩ : ByteArray) from rfl] at hcg
    clear HF
    go_wp2_with fail
    go_loopw [247] (fun i wr => ∃ k : Nat, i = .int .i64 (k : Int) ∧ DT w0 c d r s (.slice none 0 0) [] (.slice Ab m cb) zs wr) (fun _ _ => 0)
    case atStart => exact ⟨0, rfl, HT.out⟩
    case round =>
      obtain ⟨ka, rfl, hDT⟩ := hrel
      have HT2 := Lib.hid hDT
      have a0 : decide ((ka : Int) < 0) = false := by simp
      clear hDT
      go_wp2_with fail
      go_loopw [261] (fun i wr => ∃ (k : Nat) (qs : List Int), i = .int .i64 (k : Int) ∧ k ≤ m ∧ qs.length = m ∧ DT w0 c d r s (.slice none 0 0) [] (.slice Ab m cb) qs wr) (fun i _ => m - (intOf i).toNat)
      case atStart => exact ⟨0, zs, rfl, Nat.zero_le _, HM.out.1.symm, HT2.out⟩
      case round =>
        obtain ⟨kb, qs, rfl, hkb, hqs, hDT⟩ := hrel
        by_cases hlt : kb < m
        · obtain ⟨gb, rfl⟩ := HFo.out (by omega)
          obtain ⟨x, y1, y2, y3, y4⟩ := hDT.at_b (i := kb) (by omega)
          have b0 : decide ((kb : Int) < (m : Int)) = true := by simp; omega
          have b1 : (kb : Int) < (m : Int) := by omega
          have hmb := HM.out.2.2.2
          have HQ := Lib.hid (y4 (IntKind.u8.wrap (x + 1)))
          have HLn := Lib.hid (show (qs.set kb (IntKind.u8.wrap (x + 1))).length = m by rw [List.length_set]; exact hqs)
          clear hDT y4
          go_wp2_with fail
          go_roundw
          case rel => exact ⟨kb + 1, _, by go_num, by omega, HLn.out, HQ.out⟩
          case measure => simp [intOf]; omega
        · have b0 : decide ((kb : Int) < (m : Int)) = false := by simp; omega
          have b1 : (m : Int) ≤ (kb : Int) := by omega
          have HQ := Lib.hid hDT.du
          clear hDT
          go_wp2_with fail
          go_ret
          exact ⟨rfl, HQ.out⟩
end Go.Proofs.Ytkhkhjkacibocaa
