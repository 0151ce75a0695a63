/-
  The image's words: numbers, bytes in two digits each.
-/
import Derived.Test.YtlephnfepofbbaaGreatDoorMvTextW
import Derived.Lib.ItoaWalk
import Derived.Lib.ItoaMem
namespace Go.Proofs.YtlephnfepofbbaaGreatDoor
open Go.RowKit Go.Sort Go.Lib
variable {E : Prop}

set_option maxHeartbeats 6400000 in
set_option maxRecDepth 100000 in
theorem fmtU_in {N : Nat} (u : Nat) (hu64 : u < 18446744073709551616) (w : World) (hE : EnvP E N w) : Calls Tryz.prog 97 #[.int .u64 (u : Int), .int .i64 10] w fun e w' => e = .returned (.string ⟨(Lib.decDigits u).toArray⟩) ∧ Below w.heap.size w w' := by
  by_cases hu : u < 100
  · have HS := Lib.hid (Any.internal_strconv_small { Tryz.laysM288 with } u hu w)
    clear hE
    go_enter Tryz.func97, Tryz.ntmps97
    go_wp2_with fail
    refine HS.out.mono ?_
    rintro e w' ⟨rfl, rfl⟩
    go_wp2_with fail
    go_ret
    exact ⟨rfl, Below.refl _ _⟩
  · have hu1 : 1 ≤ u := by omega
    have hnd20 : Lib.nDigits u ≤ 20 := by have := Lib.numDigits_eq u hu1 hu64; split at this <;> omega
    have hal : Tryz.prog.arrayLen 159 = 24 := by kernel_rfl
    have hsl : ∀ W, (Instr.sliceAt 159 (.pointer (some ⟨w.heap.size, 0, none⟩)) none (some (.int .i64 (Lib.nDigits u : Int))) none).run Tryz.prog W = .ok (.slice (some ⟨w.heap.size, 0, none⟩) (Lib.nDigits u) 24) W := fun W => by
      rw [run_sliceAt_array_h W 159 ⟨w.heap.size, 0, none⟩ (by kernel_rfl) .i64 (Lib.nDigits u : Int) (by omega) (by rw [hal]; omega)]
      go_simp
    have hH0 := Lib.holds_zero0 w 159 (Lib.nDigits u) (by omega)
    have hfmt := Any.internal_strconv_formatBase10 { Tryz.laysM288 with } w.heap.size 0 24 u (Array.replicate (Lib.nDigits u) 0) (w.alloc (.cells Lib.zeros24 159)) hH0 (by rw [Array.size_replicate]; exact Lib.lt_pow_nDigits u) hu64 (by rw [Array.size_replicate]; omega)
    rw [Array.size_replicate] at hfmt
    have HH0 := Lib.hid hH0
    have HF := Lib.hid hfmt
    have HD := Lib.hid (Any.internal_strconv_numDigits { Tryz.laysM288 with } u hu1 hu64 _ (Lib.tabIs_alloc hE.p.here (.cells Lib.zeros24 159)))
    have iu : (100 : Int) ≤ (u : Int) := by omega
    clear hH0 hal hfmt hE
    go_enter Tryz.func97, Tryz.ntmps97
    go_wp2_with fail
    refine HD.out.mono ?_
    rintro e w' ⟨rfl, rfl⟩
    go_wp2_with fail
    refine HF.out.mono ?_
    rintro e w' ⟨rfl, k, v', dk, rfl, hF⟩
    have hcv : (convert 23 9 (.slice (some ⟨w.heap.size, 0, none⟩) (Lib.nDigits u) 24)).run Tryz.prog ((putRow (fun (b : UInt8) => Value.int .u8 (b.toNat : Int)) (w.alloc (.cells Lib.zeros24 159)) w.heap.size 0 dk).drewN k) = .ok (.string ⟨(Lib.decDigits u).toArray⟩) ((putRow (fun (b : UInt8) => Value.int .u8 (b.toNat : Int)) (w.alloc (.cells Lib.zeros24 159)) w.heap.size 0 dk).drewN k) := by
      have h := run_convert_bytes_back (P := Tryz.prog) ((putRow (fun (b : UInt8) => Value.int .u8 (b.toNat : Int)) (w.alloc (.cells Lib.zeros24 159)) w.heap.size 0 dk).drewN k) 23 9 5 ⟨w.heap.size, 0, none⟩ 24 (Lib.decDigits u) Tryz.underlying23 Tryz.underlying5 Tryz.underlying9 (fun j hj => by
        rw [Lib.row_is_numeral hF j hj, Lib.add_plain, World.cell?_drewN]
        exact cell?_putRow (fun (b : UInt8) => Value.int .u8 (b.toNat : Int)) _ w.heap.size 0 _ dk HH0.out (by rw [hF.size, Array.size_replicate]) j (by rw [hF.size]; rw [Lib.decDigits_length] at hj; exact hj))
      rw [Lib.decDigits_length] at h
      exact h
    obtain ⟨os, eo⟩ := Lib.fin_at w (.cells Lib.zeros24 159) dk k 0
    have HB := Lib.hid (show Below w.heap.size w ((putRow (fun (b : UInt8) => Value.int .u8 (b.toNat : Int)) (w.alloc (.cells Lib.zeros24 159)) w.heap.size 0 dk).drewN k) by rw [eo]; exact Lib.below_grow w.heap.size w (Nat.le_refl _) k os)
    clear eo
    go_wp2_with fail
    go_ret
    exact ⟨rfl, HB.out⟩
theorem fmtU_any {N : Nat} (u : Nat) (hu64 : u < 18446744073709551616) (w : World) (hE : EnvP E N w) : Calls Tryz.prog 50 #[.int .u64 (u : Int), .int .i64 10] w fun e w' => e = .returned (.string ⟨(Lib.decDigits u).toArray⟩) ∧ Below w.heap.size w w' := by
  have H := Lib.hid (fmtU_in u hu64 w hE)
  clear hE
  go_enter Tryz.func50, Tryz.ntmps50
  go_wp2_with fail
  refine H.out.mono ?_
  rintro e w1 ⟨rfl, hb⟩
  have HB := Lib.hid hb
  clear hb
  go_wp2_with fail
  go_ret
  exact ⟨rfl, HB.out⟩
def numS (n : Nat) : ByteArray := (⟨#[32]⟩ : ByteArray) ++ ⟨(decI (n : Int)).toArray⟩
theorem number_any {N : Nat} (n : Nat) (h1 : n ≤ 9223372036854775807) (w : World) (hE : EnvP E N w) : Calls Tryz.prog 52 #[.int .i64 (n : Int)] w fun e w' => e = .returned (.string (numS n)) ∧ Below w.heap.size w w' := by
  have H := Lib.hid (itoa_any (n : Int) (by omega) (by omega) w hE)
  have hl : (decI (n : Int)).length ≤ 20 := decI_len (by omega) (by omega)
  obtain ⟨T, hT⟩ : ∃ T : ByteArray, T = ⟨(decI (n : Int)).toArray⟩ := ⟨_, rfl⟩
  have hs : T.size ≤ 20 := by rw [hT]; simpa [ByteArray.size] using hl
  have e0 : numS n = (⟨#[32]⟩ : ByteArray) ++ T := by unfold numS; rw [hT]
  rw [e0]
  rw [← hT] at H
  clear hE hl hT e0
  go_enter Tryz.func52, Tryz.ntmps52
  go_wp2_with fail
  refine H.out.mono ?_
  rintro e w1 ⟨rfl, hb⟩
  have HB := Lib.hid hb
  clear hb
  go_wp2_with fail
  go_ret
  exact ⟨rfl, HB.out⟩
set_option maxRecDepth 100000 in
set_option maxHeartbeats 8000000 in
theorem hex_any (b : List UInt8) (v : Value) (w : World) (hx : SrcB (Lt w.heap.size) w v b) (hl : b.length ≤ 1000) : Calls Tryz.prog 128 #[v] w fun e w' => e = .returned (.string ⟨(hexB b).toArray⟩) ∧ Below w.heap.size w w' := by
  obtain ⟨A, c, rfl, a1, a2, a3⟩ := hx.form
  have HX := Lib.hid hx
  obtain ⟨n, hn⟩ : ∃ n, b.length = n := ⟨_, rfl⟩
  rw [hn] at a1 hl ⊢
  have HN := Lib.hid hn
  have HL := Lib.hid hl
  obtain ⟨R, hR⟩ : ∃ R, hexB b = R := ⟨_, rfl⟩
  rw [hR]
  have HR := Lib.hid hR
  clear hx hn hl hR a3
  go_enter Tryz.func128, Tryz.ntmps128
  go_wp2_with fail
  go_loopw [3, 8] (fun o i wr => ∃ (j : Nat) (t : List UInt8), j ≤ n ∧ i = .int .i64 j ∧ Hid (t = hexB (b.take j)) ∧ Hid (OwB w.heap.size wr o t) ∧ Hid (Below w.heap.size w wr)) (fun _ i _ => n - (RowKit.intOf i).toNat)
  case atStart => exact ⟨0, [], Nat.zero_le _, rfl, Lib.hid rfl, Lib.hid (OwB.nil _ _), Lib.hid (Below.refl _ _)⟩
  case round =>
    obtain ⟨j, t, hj, rfl, HT, HO, HB⟩ := hrel
    by_cases hlt : j < n
    · have hlt' : (j : Int) < (n : Int) := by omega
      have hjl : j < b.length := by have := HN.out; omega
      obtain ⟨g, off, rfl, hg, hg2, hc⟩ := HX.out.at_ (k := j) hjl
      have hc := (HB.out.cell (p := ⟨g, off + j, none⟩) hg).trans hc
      obtain ⟨z, hz⟩ : ∃ z, b[j] = z := ⟨_, rfl⟩
      rw [hz] at hc
      have htl : t.length ≤ 2000 := by
        rw [HT.out, hex_len]
        have h2 : (b.take j).length ≤ j := List.length_take_le _ _
        have := HL.out
        omega
      have HTL := Lib.hid htl
      have HT2 : Hid (t ++ [hexd (z.toNat / 16), hexd (z.toNat % 16)] = hexB (b.take (j + 1))) := Lib.hid (by
        rw [List.take_add_one, List.getElem?_eq_getElem hjl, hz, Option.toList_some, hexB_snoc, HT.out])
      clear hz hg hg2 htl
      obtain ⟨x1, hx1⟩ : ∃ x, hexd (z.toNat / 16) = x := ⟨_, rfl⟩
      obtain ⟨x2, hx2⟩ : ∃ x, hexd (z.toNat % 16) = x := ⟨_, rfl⟩
      have i1 := digits_run (z.toNat / 16) (by have := UInt8.toNat_lt z; omega) ((z.toNat : Int) / 16) (by omega)
      have i2 := digits_run (z.toNat % 16) (by omega) _ (and15 z)
      rw [hx1] at i1 HT2
      rw [hx2] at i2 HT2
      clear hx1 hx2
      go_wp2_with fail
      have HO5 := Lib.hid (show OwB w.heap.size ((wr.alloc (.cells #[.int .u8 (x1.toNat : Int), .int .u8 (x2.toNat : Int)] 5)).drew) u3 t from (HO.out.alloc _).same (fun _ _ _ => rfl))
      have HB5 := Lib.hid (show Below w.heap.size w ((wr.alloc (.cells #[.int .u8 (x1.toNat : Int), .int .u8 (x2.toNat : Int)] 5)).drew) from (HB.out.alloc HB.out.size _).drew)
      have hbk : Blk ((wr.alloc (.cells #[.int .u8 (x1.toNat : Int), .int .u8 (x2.toNat : Int)] 5)).drew) wr.heap.size 5 #[.int .u8 (x1.toNat : Int), .int .u8 (x2.toNat : Int)] := (Blk.new wr _ _)
      have HBK := Lib.hid hbk
      clear hbk
      have hsh : RB.shows ((wr.alloc (.cells #[.int .u8 (x1.toNat : Int), .int .u8 (x2.toNat : Int)] 5)).drew) (some ⟨wr.heap.size, 0, none⟩) [x1, x2] := fun _ => ⟨wr.heap.size, 0, rfl, HBK.out.lt, fun i x hx k hk => by
        obtain rfl : k = 0 := by have : k < 1 := hk; omega
        have h1 := HBK.out.cell i
        match i, hx with
        | 0, hx => have : x1 = x := by simpa using hx
                   rw [← this]; exact h1
        | 1, hx => have : x2 = x := by simpa using hx
                   rw [← this]; exact h1⟩
      have HSH := Lib.hid hsh
      clear hsh
      go_region_law ((refine RowK.step_append (R := RB) (by rfl) _ _ (by rfl) w.heap.size u3 _ [x1, x2] (by rfl) (rb_own.2 HO5.out) ⟨wr.heap.size, 0, none⟩ 2 2 rfl (by rfl) HSH.out (by omega) (by have := HL.out; have := HTL.out; simp; omega) HB5.out.size (wr.heap.size + 1) (by simp) ?_
                      intro gg cap w6 h6 hgrow hat hlt6
                      have H6 := Lib.hid (rb_own.1 h6)
                      have HB6 := Lib.hid (HB5.out.trans (own_grown HO5.out HB5.out.size hgrow).b)))
      clear i1 i2
      all_goals
        go_wp2_with fail
        go_roundw
        case rel => exact ⟨j + 1, t ++ [x1, x2], by omega, by go_num, HT2, Lib.hid (by have := H6.out; simpa using this), HB6⟩
        case measure => simp [RowKit.intOf]; omega
    · obtain rfl : j = n := by omega
      have hlt' : ¬ (j : Int) < (j : Int) := by omega
      have hT2 : t = R := by rw [HT.out, List.take_of_length_le (by have := HN.out; omega), HR.out]
      rw [hT2] at HO
      have hcv := HO.out.str
      clear hT2
      go_wp2_with fail
      go_ret
      exact ⟨rfl, HB.out⟩
end Go.Proofs.YtlephnfepofbbaaGreatDoor
