/-
  ChainPlays: a round's calls: kinds 3, 4.
-/
import Derived.Test.YtkhkhjkacibocaaChPg
import Derived.Test.YtkhkhjkacibocaaChDoA
import Derived.BigQuiet
import Derived.Deep.RegionHeld
namespace Go.Proofs.Ytkhkhjkacibocaa
open Go.RowKit Go.Shelf Go.Maps Go.ChangeMaps

set_option maxRecDepth 100000 in
set_option maxHeartbeats 16000000 in
theorem do_3 {w0 w : World} {c d r s : Nat} (h : Du w0 c d r s w) {A : Option Addr} {n cp : Nat} {z : List Int} (which nn f : Int) (many : Nat) (hs : Src w No2 A n cp z) (hz : Byt z) (hn : n ≤ 3000) (hm : many ≤ 4294967295) (hnn : -9223372036854775808 ≤ nn ∧ nn ≤ 9223372036854775807) (hf : -9223372036854775808 ≤ f ∧ f ≤ 9223372036854775807) :
    Calls Try.prog 11 #[.pointer (some ⟨c, 0, none⟩), .pointer (some ⟨d, 0, none⟩), .pointer (some ⟨r, 0, none⟩), .pointer (some ⟨s, 0, none⟩), .agg #[.int .i64 3, .int .u8 which, .slice A n cp, .int .i64 nn, .int .i64 f, .int .u32 (many : Int)]] w fun e w' => e = .returned (.bool true) ∧ Du w0 c d r s w' := by
  have HB := Lib.hid (fun (W : World) (hW : Kept (fun _ => False) w W) => bytes_any W 3 which nn f many (hs.kept hW) hz hn hm)
  have H0 := Lib.hid h
  clear h hs hz
  go_enter Try.func11, Try.ntmps11
  go_wp2_with fail
  refine (HB.out _ ((Kept.refl _ w).alloc _)).mono ?_
  rintro e w1 ⟨v, zs, rfl, g1, g2, g3, g4⟩
  obtain ⟨Ab, cb, hv, hform⟩ := g1.form
  obtain ⟨m, hm'⟩ : ∃ m, m = zs.length := ⟨_, rfl⟩
  rw [← hm'] at hv hform g3
  subst hv
  obtain ⟨ff, fg, hD⟩ := H0.out.start #[.int .i64 3, .int .u8 which, .slice A n cp, .int .i64 nn, .int .i64 f, .int .u32 (many : Int)] g4 (by rw [World.size_alloc] at g1; exact g1) g2
  obtain ⟨T, hT⟩ : ∃ T, strOfNums zs = T := ⟨_, rfl⟩
  have hcb := hD.conv_b (by show zs.length ≤ _; omega)
  dsimp only at hcb
  rw [hT] at hcb
  obtain ⟨q0, q3, q4, ql⟩ := dcells hD
  have hlen := hD.len
  have H1 := Lib.hid hD
  have HM := Lib.hid (And.intro hm' (And.intro hT (And.intro g2 g3)))
  have HFo := Lib.hid hform
  clear g1 g2 g3 g4 hD hform hT hm' HB
  obtain ⟨TS, hTS⟩ : ∃ TS, strOfNums (ff.take nn.toNat) = TS := ⟨_, rfl⟩
  have HTS := Lib.hid hTS
  obtain ⟨lt, hlt⟩ : ∃ k, (ff.take nn.toNat).length = k := ⟨_, rfl⟩
  have HLt := Lib.hid hlt
  have HL := Lib.hid hlen.1
  have HD := Lib.hid H1.out.drew
  have HC := Lib.hid ((dcells HD.out).2.1)
  clear hTS hlt
  go_wp2_with fail
  refine wp_region_held_drew (S := (fun W => W.cell? ⟨w.heap.size, 3, none⟩ = some (.int .i64 nn))) (by kernel_rfl) HC.out (fun hHeld => ?_)
  refine wpAnyH_take (i := 0) (oi := { dst := some 81, op := Op.move (Operand.tmp 0), type := 24, pos := "law.go:75", after := #[], guard := none }) (v := .pointer (some ⟨c, 0, none⟩)) rfl (by kernel_rfl) (by kernel_rfl) (by kernel_rfl) (fun _ _ _ h => h) (Or.inl ⟨by rfl, by intro w hSw; (try dsimp only at hSw); go_simp⟩) (by assumption) ?_
  try simp only [Act.put, List.setIfInBounds_toArray, List.set_cons_zero, List.set_cons_succ]
  refine wpAnyH_take (i := 1) (oi := { dst := some 82, op := Op.fieldAddr 36 (Operand.tmp 9) 3, type := 0, pos := "law.go:75", after := #[], guard := none }) (v := .pointer (some ⟨w.heap.size, 3, none⟩)) rfl (by kernel_rfl) (by kernel_rfl) (by kernel_rfl) (fun _ _ _ h => h) (Or.inl ⟨by rfl, by intro w hSw; (try dsimp only at hSw); go_simp⟩) (by assumption) ?_
  try simp only [Act.put, List.setIfInBounds_toArray, List.set_cons_zero, List.set_cons_succ]
  refine wpAnyH_take (i := 2) (oi := { dst := some 83, op := Op.load 3 (Operand.tmp 82), type := 3, pos := "law.go:75", after := #[{ on := 1, ground := Ground.data }], guard := none }) (v := .int .i64 nn) rfl (by kernel_rfl) (by kernel_rfl) (by kernel_rfl) (fun _ _ _ h => h) (Or.inl ⟨by rfl, by intro w hSw; (try dsimp only at hSw); go_simp⟩) (by assumption) ?_
  try simp only [Act.put, List.setIfInBounds_toArray, List.set_cons_zero, List.set_cons_succ]
  refine wpAnyH_take (i := 4) (oi := { dst := some 85, op := Op.move (Operand.tmp 2), type := 30, pos := "law.go:75", after := #[], guard := none }) (v := .pointer (some ⟨r, 0, none⟩)) rfl (by kernel_rfl) (by kernel_rfl) (by kernel_rfl) (fun _ _ _ h => h) (Or.inl ⟨by rfl, by intro w hSw; (try dsimp only at hSw); go_simp⟩) (by assumption) ?_
  try simp only [Act.put, List.setIfInBounds_toArray, List.set_cons_zero, List.set_cons_succ]
  refine wpAnyH_take (i := 5) (oi := { dst := some 86, op := Op.fieldAddr 36 (Operand.tmp 9) 3, type := 0, pos := "law.go:75", after := #[], guard := none }) (v := .pointer (some ⟨w.heap.size, 3, none⟩)) rfl (by kernel_rfl) (by kernel_rfl) (by kernel_rfl) (fun _ _ _ h => h) (Or.inl ⟨by rfl, by intro w hSw; (try dsimp only at hSw); go_simp⟩) (by assumption) ?_
  try simp only [Act.put, List.setIfInBounds_toArray, List.set_cons_zero, List.set_cons_succ]
  refine wpAnyH_take (i := 6) (oi := { dst := some 87, op := Op.load 3 (Operand.tmp 86), type := 3, pos := "law.go:75", after := #[{ on := 5, ground := Ground.data }], guard := none }) (v := .int .i64 nn) rfl (by kernel_rfl) (by kernel_rfl) (by kernel_rfl) (fun _ _ _ h => h) (Or.inl ⟨by rfl, by intro w hSw; (try dsimp only at hSw); go_simp⟩) (by assumption) ?_
  try simp only [Act.put, List.setIfInBounds_toArray, List.set_cons_zero, List.set_cons_succ]
  refine wpAnyH_ready (rs := [3]) (by kernel_rfl) (by simp) ?_
  refine (AllReadyH.cons (o := { dst := some 84, op := Op.call { callee := Callee.value (Operand.func 25), args := #[Operand.tmp 81, Operand.tmp 83], argTypes := #[24, 3] }, type := 31, pos := "law.go:75", after := #[{ on := 0, ground := Ground.data }, { on := 2, ground := Ground.data }], guard := none }) rfl (fun K hK => ?_) AllReadyH.nil)
  go_simp
  refine (d_take HD.out nn hnn).mono ?_
  rintro e w5 ⟨v, rfl, hD⟩
  obtain ⟨G, cg, hv, hfg⟩ := hD.form_g
  obtain ⟨ng, hng⟩ : ∃ k, k = (ff.take nn.toNat).length := ⟨_, rfl⟩
  rw [← hng] at hv hfg
  subst hv
  have HG := Lib.hid (And.intro hng (And.intro hfg (show ng ≤ 1048576 by rw [hng]; rw [List.length_take]; have := HL.out; omega)))
  clear hng hfg
  have HD := Lib.hid hD
  clear hD
  have HC := Lib.hid ((dcells HD.out).2.1)
  first | refine hK.out _ _ HC.out (fun hHeld2 => ?_) | (go_wp2_with fail; refine hK.out _ _ HC.out (fun hHeld2 => ?_))
  clear hK K hHeld
  have hHeld := hHeld2
  clear hHeld2
  try simp only [Act.put, List.setIfInBounds_toArray, List.set_cons_zero, List.set_cons_succ]
  refine wpAnyH_ready (rs := [7]) (by kernel_rfl) (by simp) ?_
  refine (AllReadyH.cons (o := { dst := some 88, op := Op.call { callee := Callee.value (Operand.func 31), args := #[Operand.tmp 85, Operand.tmp 87], argTypes := #[30, 3] }, type := 31, pos := "law.go:75", after := #[{ on := 4, ground := Ground.data }, { on := 6, ground := Ground.data }, { on := 3, ground := Ground.chain }], guard := none }) rfl (fun K hK => ?_) AllReadyH.nil)
  go_simp
  refine (d_rtake' HD.out HL.out nn hnn HLt.out).mono ?_
  rintro e w6 ⟨A3, c3, rfl, hD⟩
  have HD := Lib.hid hD
  clear hD
  have HC := Lib.hid ((dcells HD.out).2.1)
  have HC2 := Lib.hid (show (fun W => (fun W => W.cell? ⟨w.heap.size, 3, none⟩ = some (.int .i64 nn)) W ∧ (convert 31 9 (.slice A3 lt c3)).run Try.prog W = .ok (.string TS) W) w6 from And.intro HC.out (HTS.out ▸ HD.out.conv_r))
  first | refine hK.out _ _ HC.out (fun hHeld2 => ?_) | (go_wp2_with fail; refine hK.out _ _ HC.out (fun hHeld2 => ?_))
  clear hK K hHeld
  clear hHeld2
  refine wpAnyH_more (S' := (fun W => (fun W => W.cell? ⟨w.heap.size, 3, none⟩ = some (.int .i64 nn)) W ∧ (convert 31 9 (.slice A3 lt c3)).run Try.prog W = .ok (.string TS) W)) (fun _ h => h.1) HC2.out (fun hHeld => ?_)
  have HC := HC2
  try simp only [Act.put, List.setIfInBounds_toArray, List.set_cons_zero, List.set_cons_succ]
  refine wpAnyH_take (i := 8) (oi := { dst := some 89, op := Op.convert 31 9 (Operand.tmp 88), type := 9, pos := "law.go:75", after := #[{ on := 7, ground := Ground.data }, { on := 9, ground := Ground.gcOnly Departure.lateStores }], guard := none }) (v := .string TS) rfl (by kernel_rfl) (by kernel_rfl) (by kernel_rfl) (fun _ _ _ h => h) (Or.inl ⟨by rfl, by intro w hSw; (try dsimp only at hSw); go_simp⟩) (by assumption) ?_
  try simp only [Act.put, List.setIfInBounds_toArray, List.set_cons_zero, List.set_cons_succ]
  refine wpAnyH_take (i := 9) (oi := { dst := some 14, op := Op.assign (Operand.tmp 84), type := 31, pos := "law.go:75", after := #[{ on := 3, ground := Ground.data }, { on := 7, ground := Ground.chain }, { on := 0, ground := Ground.phase }, { on := 1, ground := Ground.phase }, { on := 2, ground := Ground.phase }, { on := 3, ground := Ground.phase }, { on := 4, ground := Ground.textOnly Departure.lateStores }, { on := 5, ground := Ground.textOnly Departure.lateStores }, { on := 6, ground := Ground.textOnly Departure.lateStores }, { on := 7, ground := Ground.textOnly Departure.lateStoresUnsure }, { on := 8, ground := Ground.textOnly Departure.lateStores }], guard := none }) (v := .slice G ng cg) rfl (by kernel_rfl) (by kernel_rfl) (by kernel_rfl) (fun _ _ _ h => h) (Or.inl ⟨by rfl, by intro w hSw; (try dsimp only at hSw); go_simp⟩) (by assumption) ?_
  try simp only [Act.put, List.setIfInBounds_toArray, List.set_cons_zero, List.set_cons_succ]
  refine wpAnyH_take (i := 10) (oi := { dst := some 15, op := Op.assign (Operand.tmp 89), type := 9, pos := "law.go:75", after := #[{ on := 8, ground := Ground.data }, { on := 9, ground := Ground.chain }, { on := 0, ground := Ground.phase }, { on := 1, ground := Ground.phase }, { on := 2, ground := Ground.phase }, { on := 3, ground := Ground.phase }, { on := 4, ground := Ground.phase }, { on := 5, ground := Ground.phase }, { on := 6, ground := Ground.phase }, { on := 7, ground := Ground.phase }, { on := 8, ground := Ground.phase }, { on := 9, ground := Ground.phase }], guard := none }) (v := .string TS) rfl (by kernel_rfl) (by kernel_rfl) (by kernel_rfl) (fun _ _ _ h => h) (Or.inl ⟨by rfl, by intro w hSw; (try dsimp only at hSw); go_simp⟩) (by assumption) ?_
  try simp only [Act.put, List.setIfInBounds_toArray, List.set_cons_zero, List.set_cons_succ]
  refine wpAnyH_done (by kernel_rfl) ?_ _
  have HF := HD
  have hcg := HF.out.conv_g (by rw [← HG.out.1]; have := HG.out.2.2; omega)
  rw [HTS.out] at hcg
  clear HD HC hHeld

  have HT := Lib.hid (HF.out.dt)
  go_wp2_with fail
  go_loopw [247] (fun i wr => ∃ (k : Nat) (qs : List Int), i = .int .i64 (k : Int) ∧ k ≤ ng ∧ qs.length = ng ∧ DT w0 c d r s (.slice G ng cg) qs (.slice Ab m cb) zs wr) (fun i _ => ng - (intOf i).toNat)
  case atStart => exact ⟨0, _, rfl, Nat.zero_le _, HG.out.1.symm, HT.out⟩
  case round =>
    obtain ⟨ka, ps, rfl, hka, hps, hDT⟩ := hrel
    by_cases hlt : ka < ng
    · obtain ⟨ga, rfl⟩ := HG.out.2.1 (by omega)
      obtain ⟨x, y1, y2, y3, y4⟩ := hDT.at_g (i := ka) (by omega)
      have b0 : decide ((ka : Int) < (ng : Int)) = true := by simp; omega
      have b1 : (ka : Int) < (ng : Int) := by omega
      have hnb := HG.out.2.2
      have HQ := Lib.hid (y4 (IntKind.u8.wrap (x + 1)))
      have HLn := Lib.hid (show (ps.set ka (IntKind.u8.wrap (x + 1))).length = ng by rw [List.length_set]; exact hps)
      clear hDT y4
      go_wp2_with fail
      go_roundw
      case rel => exact ⟨ka + 1, _, by go_num, by omega, HLn.out, HQ.out⟩
      case measure => simp [intOf]; omega
    · have b0 : decide ((ka : Int) < (ng : Int)) = false := by simp; omega
      have b1 : (ng : Int) ≤ (ka : Int) := by omega
      have HT2 := Lib.hid hDT
      clear hDT
      go_wp2_with fail
      go_loopw [261] (fun i wr => ∃ (k : Nat) (qs : List Int), i = .int .i64 (k : Int) ∧ k ≤ m ∧ qs.length = m ∧ DT w0 c d r s (.slice G ng cg) ps (.slice Ab m cb) qs wr) (fun i _ => m - (intOf i).toNat)
      case atStart => exact ⟨0, zs, rfl, Nat.zero_le _, HM.out.1.symm, HT2.out⟩
      case round =>
        obtain ⟨kb, qs, rfl, hkb, hqs, hDT⟩ := hrel
        by_cases hlt : kb < m
        · obtain ⟨gb, rfl⟩ := HFo.out (by omega)
          obtain ⟨x, y1, y2, y3, y4⟩ := hDT.at_b (i := kb) (by omega)
          have b0 : decide ((kb : Int) < (m : Int)) = true := by simp; omega
          have b1 : (kb : Int) < (m : Int) := by omega
          have hmb := HM.out.2.2.2
          have HQ := Lib.hid (y4 (IntKind.u8.wrap (x + 1)))
          have HLn := Lib.hid (show (qs.set kb (IntKind.u8.wrap (x + 1))).length = m by rw [List.length_set]; exact hqs)
          clear hDT y4
          go_wp2_with fail
          go_roundw
          case rel => exact ⟨kb + 1, _, by go_num, by omega, HLn.out, HQ.out⟩
          case measure => simp [intOf]; omega
        · have b0 : decide ((kb : Int) < (m : Int)) = false := by simp; omega
          have b1 : (m : Int) ≤ (kb : Int) := by omega
          have HQ := Lib.hid hDT.du
          clear hDT
          go_wp2_with fail
          go_ret
          exact ⟨rfl, HQ.out⟩
set_option maxRecDepth 100000 in
set_option maxHeartbeats 16000000 in
theorem do_4 {w0 w : World} {c d r s : Nat} (h : Du w0 c d r s w) {A : Option Addr} {n cp : Nat} {z : List Int} (which nn f : Int) (many : Nat) (hs : Src w No2 A n cp z) (hz : Byt z) (hn : n ≤ 3000) (hm : many ≤ 4294967295) (hnn : -9223372036854775808 ≤ nn ∧ nn ≤ 9223372036854775807) (hf : -9223372036854775808 ≤ f ∧ f ≤ 9223372036854775807) :
    Calls Try.prog 11 #[.pointer (some ⟨c, 0, none⟩), .pointer (some ⟨d, 0, none⟩), .pointer (some ⟨r, 0, none⟩), .pointer (some ⟨s, 0, none⟩), .agg #[.int .i64 4, .int .u8 which, .slice A n cp, .int .i64 nn, .int .i64 f, .int .u32 (many : Int)]] w fun e w' => e = .returned (.bool true) ∧ Du w0 c d r s w' := by
  have HB := Lib.hid (fun (W : World) (hW : Kept (fun _ => False) w W) => bytes_any W 4 which nn f many (hs.kept hW) hz hn hm)
  have H0 := Lib.hid h
  clear h hs hz
  go_enter Try.func11, Try.ntmps11
  go_wp2_with fail
  refine (HB.out _ ((Kept.refl _ w).alloc _)).mono ?_
  rintro e w1 ⟨v, zs, rfl, g1, g2, g3, g4⟩
  obtain ⟨Ab, cb, hv, hform⟩ := g1.form
  obtain ⟨m, hm'⟩ : ∃ m, m = zs.length := ⟨_, rfl⟩
  rw [← hm'] at hv hform g3
  subst hv
  obtain ⟨ff, fg, hD⟩ := H0.out.start #[.int .i64 4, .int .u8 which, .slice A n cp, .int .i64 nn, .int .i64 f, .int .u32 (many : Int)] g4 (by rw [World.size_alloc] at g1; exact g1) g2
  obtain ⟨T, hT⟩ : ∃ T, strOfNums zs = T := ⟨_, rfl⟩
  have hcb := hD.conv_b (by show zs.length ≤ _; omega)
  dsimp only at hcb
  rw [hT] at hcb
  obtain ⟨q0, q3, q4, ql⟩ := dcells hD
  have hlen := hD.len
  have H1 := Lib.hid hD
  have HM := Lib.hid (And.intro hm' (And.intro hT (And.intro g2 g3)))
  have HFo := Lib.hid hform
  clear g1 g2 g3 g4 hD hform hT hm' HB
  obtain ⟨TS, hTS⟩ : ∃ TS, strOfNums (cpy ff f nn) = TS := ⟨_, rfl⟩
  have HTS := Lib.hid hTS
  obtain ⟨lt, hlt⟩ : ∃ k, (ff.take nn.toNat).length = k := ⟨_, rfl⟩
  have HLt := Lib.hid hlt
  have HL := Lib.hid hlen.1
  have HD := Lib.hid H1.out.drew
  have HC := Lib.hid (And.intro (dcells HD.out).2.1 (dcells HD.out).2.2.1)
  clear hTS hlt
  go_wp2_with fail
  refine wp_region_held_drew (S := (fun W => W.cell? ⟨w.heap.size, 3, none⟩ = some (.int .i64 nn) ∧ W.cell? ⟨w.heap.size, 4, none⟩ = some (.int .i64 f))) (by kernel_rfl) HC.out (fun hHeld => ?_)
  refine wpAnyH_take (i := 0) (oi := { dst := some 92, op := Op.move (Operand.tmp 0), type := 24, pos := "law.go:77", after := #[], guard := none }) (v := .pointer (some ⟨c, 0, none⟩)) rfl (by kernel_rfl) (by kernel_rfl) (by kernel_rfl) (fun _ _ _ h => h) (Or.inl ⟨by rfl, by intro w hSw; (try dsimp only at hSw); go_simp⟩) (by assumption) ?_
  try simp only [Act.put, List.setIfInBounds_toArray, List.set_cons_zero, List.set_cons_succ]
  refine wpAnyH_take (i := 1) (oi := { dst := some 93, op := Op.fieldAddr 36 (Operand.tmp 9) 4, type := 0, pos := "law.go:77", after := #[], guard := none }) (v := .pointer (some ⟨w.heap.size, 4, none⟩)) rfl (by kernel_rfl) (by kernel_rfl) (by kernel_rfl) (fun _ _ _ h => h) (Or.inl ⟨by rfl, by intro w hSw; (try dsimp only at hSw); go_simp⟩) (by assumption) ?_
  try simp only [Act.put, List.setIfInBounds_toArray, List.set_cons_zero, List.set_cons_succ]
  refine wpAnyH_take (i := 2) (oi := { dst := some 94, op := Op.load 3 (Operand.tmp 93), type := 3, pos := "law.go:77", after := #[{ on := 1, ground := Ground.data }], guard := none }) (v := .int .i64 f) rfl (by kernel_rfl) (by kernel_rfl) (by kernel_rfl) (fun _ _ _ h => h) (Or.inl ⟨by rfl, by intro w hSw; (try dsimp only at hSw); go_simp⟩) (by assumption) ?_
  try simp only [Act.put, List.setIfInBounds_toArray, List.set_cons_zero, List.set_cons_succ]
  refine wpAnyH_take (i := 3) (oi := { dst := some 95, op := Op.fieldAddr 36 (Operand.tmp 9) 3, type := 0, pos := "law.go:77", after := #[], guard := none }) (v := .pointer (some ⟨w.heap.size, 3, none⟩)) rfl (by kernel_rfl) (by kernel_rfl) (by kernel_rfl) (fun _ _ _ h => h) (Or.inl ⟨by rfl, by intro w hSw; (try dsimp only at hSw); go_simp⟩) (by assumption) ?_
  try simp only [Act.put, List.setIfInBounds_toArray, List.set_cons_zero, List.set_cons_succ]
  refine wpAnyH_take (i := 4) (oi := { dst := some 96, op := Op.load 3 (Operand.tmp 95), type := 3, pos := "law.go:77", after := #[{ on := 3, ground := Ground.data }], guard := none }) (v := .int .i64 nn) rfl (by kernel_rfl) (by kernel_rfl) (by kernel_rfl) (fun _ _ _ h => h) (Or.inl ⟨by rfl, by intro w hSw; (try dsimp only at hSw); go_simp⟩) (by assumption) ?_
  try simp only [Act.put, List.setIfInBounds_toArray, List.set_cons_zero, List.set_cons_succ]
  refine wpAnyH_take (i := 6) (oi := { dst := some 98, op := Op.move (Operand.tmp 2), type := 30, pos := "law.go:77", after := #[], guard := none }) (v := .pointer (some ⟨r, 0, none⟩)) rfl (by kernel_rfl) (by kernel_rfl) (by kernel_rfl) (fun _ _ _ h => h) (Or.inl ⟨by rfl, by intro w hSw; (try dsimp only at hSw); go_simp⟩) (by assumption) ?_
  try simp only [Act.put, List.setIfInBounds_toArray, List.set_cons_zero, List.set_cons_succ]
  refine wpAnyH_take (i := 7) (oi := { dst := some 99, op := Op.fieldAddr 36 (Operand.tmp 9) 4, type := 0, pos := "law.go:77", after := #[], guard := none }) (v := .pointer (some ⟨w.heap.size, 4, none⟩)) rfl (by kernel_rfl) (by kernel_rfl) (by kernel_rfl) (fun _ _ _ h => h) (Or.inl ⟨by rfl, by intro w hSw; (try dsimp only at hSw); go_simp⟩) (by assumption) ?_
  try simp only [Act.put, List.setIfInBounds_toArray, List.set_cons_zero, List.set_cons_succ]
  refine wpAnyH_take (i := 8) (oi := { dst := some 100, op := Op.load 3 (Operand.tmp 99), type := 3, pos := "law.go:77", after := #[{ on := 7, ground := Ground.data }], guard := none }) (v := .int .i64 f) rfl (by kernel_rfl) (by kernel_rfl) (by kernel_rfl) (fun _ _ _ h => h) (Or.inl ⟨by rfl, by intro w hSw; (try dsimp only at hSw); go_simp⟩) (by assumption) ?_
  try simp only [Act.put, List.setIfInBounds_toArray, List.set_cons_zero, List.set_cons_succ]
  refine wpAnyH_take (i := 9) (oi := { dst := some 101, op := Op.fieldAddr 36 (Operand.tmp 9) 3, type := 0, pos := "law.go:77", after := #[], guard := none }) (v := .pointer (some ⟨w.heap.size, 3, none⟩)) rfl (by kernel_rfl) (by kernel_rfl) (by kernel_rfl) (fun _ _ _ h => h) (Or.inl ⟨by rfl, by intro w hSw; (try dsimp only at hSw); go_simp⟩) (by assumption) ?_
  try simp only [Act.put, List.setIfInBounds_toArray, List.set_cons_zero, List.set_cons_succ]
  refine wpAnyH_take (i := 10) (oi := { dst := some 102, op := Op.load 3 (Operand.tmp 101), type := 3, pos := "law.go:77", after := #[{ on := 9, ground := Ground.data }], guard := none }) (v := .int .i64 nn) rfl (by kernel_rfl) (by kernel_rfl) (by kernel_rfl) (fun _ _ _ h => h) (Or.inl ⟨by rfl, by intro w hSw; (try dsimp only at hSw); go_simp⟩) (by assumption) ?_
  try simp only [Act.put, List.setIfInBounds_toArray, List.set_cons_zero, List.set_cons_succ]
  refine wpAnyH_ready (rs := [5]) (by kernel_rfl) (by simp) ?_
  refine (AllReadyH.cons (o := { dst := some 97, op := Op.call { callee := Callee.value (Operand.func 26), args := #[Operand.tmp 92, Operand.tmp 94, Operand.tmp 96], argTypes := #[24, 3, 3] }, type := 31, pos := "law.go:77", after := #[{ on := 0, ground := Ground.data }, { on := 2, ground := Ground.data }, { on := 4, ground := Ground.data }], guard := none }) rfl (fun K hK => ?_) AllReadyH.nil)
  go_simp
  refine (d_copy HD.out f nn hf hnn).mono ?_
  rintro e w5 ⟨v, rfl, hD⟩
  obtain ⟨G, cg, hv, hfg⟩ := hD.form_g
  obtain ⟨ng, hng⟩ : ∃ k, k = (cpy ff f nn).length := ⟨_, rfl⟩
  rw [← hng] at hv hfg
  subst hv
  have HG := Lib.hid (And.intro hng (And.intro hfg (show ng ≤ 1048576 by rw [hng]; exact cpy_le _ f nn HL.out)))
  clear hng hfg
  have HD := Lib.hid hD
  clear hD
  have HC := Lib.hid (And.intro (dcells HD.out).2.1 (dcells HD.out).2.2.1)
  first | refine hK.out _ _ HC.out (fun hHeld2 => ?_) | (go_wp2_with fail; refine hK.out _ _ HC.out (fun hHeld2 => ?_))
  clear hK K hHeld
  have hHeld := hHeld2
  clear hHeld2
  try simp only [Act.put, List.setIfInBounds_toArray, List.set_cons_zero, List.set_cons_succ]
  refine wpAnyH_ready (rs := [11]) (by kernel_rfl) (by simp) ?_
  refine (AllReadyH.cons (o := { dst := some 103, op := Op.call { callee := Callee.value (Operand.func 32), args := #[Operand.tmp 98, Operand.tmp 100, Operand.tmp 102], argTypes := #[30, 3, 3] }, type := 31, pos := "law.go:77", after := #[{ on := 6, ground := Ground.data }, { on := 8, ground := Ground.data }, { on := 10, ground := Ground.data }, { on := 5, ground := Ground.chain }], guard := none }) rfl (fun K hK => ?_) AllReadyH.nil)
  go_simp
  refine (d_rcopy HD.out HL.out f nn hf hnn).mono ?_
  rintro e w6 ⟨A3, k3, c3, rfl, hD⟩
  have HD := Lib.hid hD
  clear hD
  have HC := Lib.hid (And.intro (dcells HD.out).2.1 (dcells HD.out).2.2.1)
  have HC2 := Lib.hid (show (fun W => (fun W => W.cell? ⟨w.heap.size, 3, none⟩ = some (.int .i64 nn) ∧ W.cell? ⟨w.heap.size, 4, none⟩ = some (.int .i64 f)) W ∧ (convert 31 9 (.slice A3 k3 c3)).run Try.prog W = .ok (.string TS) W) w6 from And.intro HC.out (HTS.out ▸ HD.out.conv_r))
  first | refine hK.out _ _ HC.out (fun hHeld2 => ?_) | (go_wp2_with fail; refine hK.out _ _ HC.out (fun hHeld2 => ?_))
  clear hK K hHeld
  clear hHeld2
  refine wpAnyH_more (S' := (fun W => (fun W => W.cell? ⟨w.heap.size, 3, none⟩ = some (.int .i64 nn) ∧ W.cell? ⟨w.heap.size, 4, none⟩ = some (.int .i64 f)) W ∧ (convert 31 9 (.slice A3 k3 c3)).run Try.prog W = .ok (.string TS) W)) (fun _ h => h.1) HC2.out (fun hHeld => ?_)
  have HC := HC2
  try simp only [Act.put, List.setIfInBounds_toArray, List.set_cons_zero, List.set_cons_succ]
  refine wpAnyH_take (i := 12) (oi := { dst := some 104, op := Op.convert 31 9 (Operand.tmp 103), type := 9, pos := "law.go:77", after := #[{ on := 11, ground := Ground.data }, { on := 13, ground := Ground.gcOnly Departure.lateStores }], guard := none }) (v := .string TS) rfl (by kernel_rfl) (by kernel_rfl) (by kernel_rfl) (fun _ _ _ h => h) (Or.inl ⟨by rfl, by intro w hSw; (try dsimp only at hSw); go_simp⟩) (by assumption) ?_
  try simp only [Act.put, List.setIfInBounds_toArray, List.set_cons_zero, List.set_cons_succ]
  refine wpAnyH_take (i := 13) (oi := { dst := some 14, op := Op.assign (Operand.tmp 97), type := 31, pos := "law.go:77", after := #[{ on := 5, ground := Ground.data }, { on := 11, ground := Ground.chain }, { on := 0, ground := Ground.phase }, { on := 1, ground := Ground.phase }, { on := 2, ground := Ground.phase }, { on := 3, ground := Ground.phase }, { on := 4, ground := Ground.phase }, { on := 5, ground := Ground.phase }, { on := 6, ground := Ground.textOnly Departure.lateStores }, { on := 7, ground := Ground.textOnly Departure.lateStores }, { on := 8, ground := Ground.textOnly Departure.lateStores }, { on := 9, ground := Ground.textOnly Departure.lateStores }, { on := 10, ground := Ground.textOnly Departure.lateStores }, { on := 11, ground := Ground.textOnly Departure.lateStoresUnsure }, { on := 12, ground := Ground.textOnly Departure.lateStores }], guard := none }) (v := .slice G ng cg) rfl (by kernel_rfl) (by kernel_rfl) (by kernel_rfl) (fun _ _ _ h => h) (Or.inl ⟨by rfl, by intro w hSw; (try dsimp only at hSw); go_simp⟩) (by assumption) ?_
  try simp only [Act.put, List.setIfInBounds_toArray, List.set_cons_zero, List.set_cons_succ]
  refine wpAnyH_take (i := 14) (oi := { dst := some 15, op := Op.assign (Operand.tmp 104), type := 9, pos := "law.go:77", after := #[{ on := 12, ground := Ground.data }, { on := 13, ground := Ground.chain }, { on := 0, ground := Ground.phase }, { on := 1, ground := Ground.phase }, { on := 2, ground := Ground.phase }, { on := 3, ground := Ground.phase }, { on := 4, ground := Ground.phase }, { on := 5, ground := Ground.phase }, { on := 6, ground := Ground.phase }, { on := 7, ground := Ground.phase }, { on := 8, ground := Ground.phase }, { on := 9, ground := Ground.phase }, { on := 10, ground := Ground.phase }, { on := 11, ground := Ground.phase }, { on := 12, ground := Ground.phase }, { on := 13, ground := Ground.phase }], guard := none }) (v := .string TS) rfl (by kernel_rfl) (by kernel_rfl) (by kernel_rfl) (fun _ _ _ h => h) (Or.inl ⟨by rfl, by intro w hSw; (try dsimp only at hSw); go_simp⟩) (by assumption) ?_
  try simp only [Act.put, List.setIfInBounds_toArray, List.set_cons_zero, List.set_cons_succ]
  refine wpAnyH_done (by kernel_rfl) ?_ _
  have HF := HD
  have hcg := HF.out.conv_g (by rw [← HG.out.1]; have := HG.out.2.2; omega)
  rw [HTS.out] at hcg
  clear HD HC hHeld

  have HT := Lib.hid (HF.out.dt)
  go_wp2_with fail
  go_loopw [247] (fun i wr => ∃ (k : Nat) (qs : List Int), i = .int .i64 (k : Int) ∧ k ≤ ng ∧ qs.length = ng ∧ DT w0 c d r s (.slice G ng cg) qs (.slice Ab m cb) zs wr) (fun i _ => ng - (intOf i).toNat)
  case atStart => exact ⟨0, _, rfl, Nat.zero_le _, HG.out.1.symm, HT.out⟩
  case round =>
    obtain ⟨ka, ps, rfl, hka, hps, hDT⟩ := hrel
    by_cases hlt : ka < ng
    · obtain ⟨ga, rfl⟩ := HG.out.2.1 (by omega)
      obtain ⟨x, y1, y2, y3, y4⟩ := hDT.at_g (i := ka) (by omega)
      have b0 : decide ((ka : Int) < (ng : Int)) = true := by simp; omega
      have b1 : (ka : Int) < (ng : Int) := by omega
      have hnb := HG.out.2.2
      have HQ := Lib.hid (y4 (IntKind.u8.wrap (x + 1)))
      have HLn := Lib.hid (show (ps.set ka (IntKind.u8.wrap (x + 1))).length = ng by rw [List.length_set]; exact hps)
      clear hDT y4
      go_wp2_with fail
      go_roundw
      case rel => exact ⟨ka + 1, _, by go_num, by omega, HLn.out, HQ.out⟩
      case measure => simp [intOf]; omega
    · have b0 : decide ((ka : Int) < (ng : Int)) = false := by simp; omega
      have b1 : (ng : Int) ≤ (ka : Int) := by omega
      have HT2 := Lib.hid hDT
      clear hDT
      go_wp2_with fail
      go_loopw [261] (fun i wr => ∃ (k : Nat) (qs : List Int), i = .int .i64 (k : Int) ∧ k ≤ m ∧ qs.length = m ∧ DT w0 c d r s (.slice G ng cg) ps (.slice Ab m cb) qs wr) (fun i _ => m - (intOf i).toNat)
      case atStart => exact ⟨0, zs, rfl, Nat.zero_le _, HM.out.1.symm, HT2.out⟩
      case round =>
        obtain ⟨kb, qs, rfl, hkb, hqs, hDT⟩ := hrel
        by_cases hlt : kb < m
        · obtain ⟨gb, rfl⟩ := HFo.out (by omega)
          obtain ⟨x, y1, y2, y3, y4⟩ := hDT.at_b (i := kb) (by omega)
          have b0 : decide ((kb : Int) < (m : Int)) = true := by simp; omega
          have b1 : (kb : Int) < (m : Int) := by omega
          have hmb := HM.out.2.2.2
          have HQ := Lib.hid (y4 (IntKind.u8.wrap (x + 1)))
          have HLn := Lib.hid (show (qs.set kb (IntKind.u8.wrap (x + 1))).length = m by rw [List.length_set]; exact hqs)
          clear hDT y4
          go_wp2_with fail
          go_roundw
          case rel => exact ⟨kb + 1, _, by go_num, by omega, HLn.out, HQ.out⟩
          case measure => simp [intOf]; omega
        · have b0 : decide ((kb : Int) < (m : Int)) = false := by simp; omega
          have b1 : (m : Int) ≤ (kb : Int) := by omega
          have HQ := Lib.hid hDT.du
          clear hDT
          go_wp2_with fail
          go_ret
          exact ⟨rfl, HQ.out⟩
end Go.Proofs.Ytkhkhjkacibocaa
