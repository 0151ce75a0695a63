/-
  The document's line: a step's text.
-/
import Derived.Test.YtlephnfepofbbaaGreatDoorMvRefDig
import Derived.Test.YtlephnfepofbbaaGreatDoorMtBase
import Derived.BigRegion
import Derived.Deep.CutBlock
import Derived.Deep.Cut
import Derived.Deep.DeepCutAuto
namespace Go.Proofs.YtlephnfepofbbaaGreatDoor
open Go.RowKit

set_option maxRecDepth 100000 in
theorem slice_run (k : Nat) (hk : k < 16) (x y : Int) (hx : x = (k : Int)) (hy : y = (k : Int) + 1) (V : World) : (Instr.slice 9 (.string ⟨#[48, 49, 50, 51, 52, 53, 54, 55, 56, 57, 97, 98, 99, 100, 101, 102]⟩) (some (.int .i64 x)) (some (.int .i64 y)) none).run Tryz.prog V = .ok (.string ⟨#[hexd k]⟩) V := by
  subst hx hy
  have hc : k = 0 ∨ k = 1 ∨ k = 2 ∨ k = 3 ∨ k = 4 ∨ k = 5 ∨ k = 6 ∨ k = 7 ∨ k = 8 ∨ k = 9 ∨ k = 10 ∨ k = 11 ∨ k = 12 ∨ k = 13 ∨ k = 14 ∨ k = 15 := by omega
  rcases hc with rfl | rfl | rfl | rfl | rfl | rfl | rfl | rfl | rfl | rfl | rfl | rfl | rfl | rfl | rfl | rfl <;> rfl
theorem sz_ok {a b : ByteArray} (h : a.size + b.size ≤ 100000000) : ¬ (9223372036854775807 : Int) < ((a.size + b.size : Nat) : Int) := by omega
theorem dl_app (a b : ByteArray) : (a ++ b).data.toList = a.data.toList ++ b.data.toList := by rw [ByteArray.data_append, Array.toList_append]
theorem sz_of {s : ByteArray} {l : List UInt8} (h : s.data.toList = l) : s.size = l.length := by rw [Lib.size_eq, h]
theorem rdigI_any (z : Int) (h0 : 0 ≤ z) (h1 : z ≤ 9223372036854775807) (w : World) : Calls Tryz.prog 91 #[.int .u64 z] w fun e w' => e = .returned (.string ⟨(decI z).toArray⟩) ∧ Below w.heap.size w w' := by
  obtain ⟨n, rfl⟩ : ∃ n : Nat, z = n := ⟨z.toNat, by omega⟩
  have := rdigits_any n (by omega) w
  unfold decI; rwa [Int.toNat_natCast]

set_option maxRecDepth 100000 in
set_option maxHeartbeats 8000000 in
theorem rline_any (x : St) (hok : stOk x = true) (hwf : x.Wf) (ov mv : Value) (w : World) (hx : StepV (Lt w.heap.size) w ov mv x) :
    Calls Tryz.prog 46 #[.agg #[.int .u64 (x.t : Int), .bool x.intr, ov, mv]] w fun e w' => e = .returned (.string ⟨(lineB x).toArray⟩) ∧ Below w.heap.size w w' := by
  obtain ⟨hO, hM⟩ := hx
  obtain ⟨A, c, rfl, a1, a2, a3⟩ := hO.form
  obtain ⟨F, d, rfl, b1, b2, b3⟩ := hM.form
  obtain ⟨s1, s2, s3, s4⟩ := stOk_parts hok
  have hw3 := hwf.2.2
  have ht := hwf.1
  have hlen := line_len x hok hwf
  obtain ⟨t, intr, ord, ms⟩ := x
  simp only [] at a1 b1 s1 s2 s3 s4 hw3 ht hO hM ⊢
  obtain ⟨D, hD⟩ : ∃ D, Lib.decDigits t = D := ⟨_, rfl⟩
  have hR : lineB ⟨t, intr, ord, ms⟩ = ((wStep ++ 32 :: D) ++ (if intr = true then 32 :: wIntr else [])) ++ ((if ord = [] then [] else (32 :: wOrder) ++ (32 :: ordB ord)) ++ ms.flatMap fun m => sp (moveWs m)) := by
    rw [line_eq, hD]; simp
  rw [hR] at hlen ⊢
  obtain ⟨H0, hH0⟩ : ∃ H0, (wStep ++ 32 :: D) ++ (if intr = true then 32 :: wIntr else []) = H0 := ⟨_, rfl⟩
  rw [hH0] at hlen ⊢
  obtain ⟨R, hRR⟩ : ∃ R, H0 ++ ((if ord = [] then [] else (32 :: wOrder) ++ (32 :: ordB ord)) ++ ms.flatMap fun m => sp (moveWs m)) = R := ⟨_, rfl⟩
  rw [hRR] at hlen ⊢
  have HRR := Lib.hid hRR
  clear hRR
  obtain ⟨n, hn⟩ : ∃ n, ord.length = n := ⟨_, rfl⟩
  obtain ⟨k, hk⟩ : ∃ k, ms.length = k := ⟨_, rfl⟩
  rw [hn] at a1 s2 hO ⊢
  rw [hk] at b1 s1 hM ⊢
  obtain ⟨W, hW⟩ : ∃ W, w.alloc (.cells #[.int .u64 (t : Int), .bool intr, .slice A n c, .slice F k d] 36) = W := ⟨_, rfl⟩
  have hbw : Below w.heap.size w W := by rw [← hW]; exact (Below.refl _ _).alloc (Nat.le_refl _) _
  have hsz : w.heap.size < W.heap.size := by rw [← hW]; simp
  have hbl : Blk W w.heap.size 36 #[.int .u64 (t : Int), .bool intr, .slice A n c, .slice F k d] := by rw [← hW]; exact Blk.new _ _ _
  have HDG := Lib.hid (rdigits_any t ht W)
  rw [hD] at HDG
  have k0 := hbl.cell 0
  simp at k0
  have HBL := Lib.hid hbl
  have HBW := Lib.hid hbw
  have HW := Lib.hid hW
  have HO := Lib.hid (And.intro hO s3)
  have HM := Lib.hid (And.intro hM (And.intro s4 hw3))
  have HN := Lib.hid hn
  have HK := Lib.hid hk
  have HH0 := Lib.hid hH0
  have HLEN := Lib.hid hlen
  have hDl : D.length ≤ 20 := by rw [← hD]; exact dec_len t (by omega)
  have sA : ¬ (9223372036854775807 : Int) < (((⟨#[115, 116, 101, 112, 32]⟩ : ByteArray).size + (⟨D.toArray⟩ : ByteArray).size : Nat) : Int) := sz_ok (by
    have h1 : (⟨#[115, 116, 101, 112, 32]⟩ : ByteArray).size = 5 := rfl
    have h2 : (⟨D.toArray⟩ : ByteArray).size = D.length := by rw [Lib.size_eq]
    omega)
  have HDL := Lib.hid hDl
  clear hO hM a3 b3 hok hwf s3 s4 hw3 hD hn hk hW hbl hbw hR hH0 hlen hDl
  go_enter Tryz.func46, Tryz.ntmps46
  go_wp2_with fail
  rw [HW.out]
  refine HDG.out.mono ?_
  rintro e w1 ⟨rfl, hb1⟩
  have HB1 := Lib.hid hb1
  have k1 := (HBL.out.same (hb1.block _ hsz)).cell 1
  simp at k1
  clear hb1 k0
  obtain ⟨S0, hS0⟩ : ∃ S0, (⟨#[115, 116, 101, 112, 32]⟩ : ByteArray) ++ ⟨D.toArray⟩ = S0 := ⟨_, rfl⟩
  have hs0 : S0.data.toList = wStep ++ 32 :: D := by rw [← hS0, dl_app]; rfl
  have hz0 : S0.size ≤ 30 := by rw [sz_of hs0]; have := HDL.out; simp [wStep]; omega
  have HS0 := Lib.hid (And.intro hS0 hs0)
  have sB : ¬ (9223372036854775807 : Int) < ((S0.size + (⟨#[32, 105, 110, 116, 114]⟩ : ByteArray).size : Nat) : Int) := sz_ok (by
    have h1 : (⟨#[32, 105, 110, 116, 114]⟩ : ByteArray).size = 5 := rfl
    omega)
  clear hS0 hs0 hz0
  go_upto_if 17 with fail
  rw [HS0.out.1]
  go_cut [3] (fun s3 wx => ∃ S : ByteArray, s3 = .string S ∧ Hid (S.data.toList = H0) ∧ wx = w1)
  case first =>
    cases intr with
    | true =>
      go_wp2_with fail
      go_meet
      case rel => exact ⟨_, rfl, Lib.hid (by rw [dl_app, HS0.out.2, ← HH0.out, if_pos trivial]; rfl), rfl⟩
    | false =>
      go_wp2_with fail
      go_meet
      case rel => exact ⟨_, rfl, Lib.hid (by rw [HS0.out.2, ← HH0.out, if_neg (by simp), List.append_nil]), rfl⟩
  case rest =>
    obtain ⟨S1, rfl, HS1, rfl⟩ := hcut
    clear k1 sA sB
    have HH0L : Hid (H0.length ≤ 105000) := Lib.hid (by have h1 := HLEN.out; rw [← HRR.out, List.length_append] at h1; omega)
    go_wp2_with fail
    go_loopw [3, 4] (fun o i wr => ∃ (j : Nat) (S : ByteArray), j ≤ n ∧ i = .int .i64 j ∧ o = .string S ∧ Hid (S.data.toList = H0 ++ (if j = 0 then [] else (32 :: wOrder) ++ (32 :: ordB (ord.take j)))) ∧ Hid (Below W.heap.size W wr)) (fun _ i _ => n - (intOf i).toNat)
    case atStart => exact ⟨0, S1, Nat.zero_le _, rfl, rfl, Lib.hid (by rw [HS1.out]; simp), HB1⟩
    case round =>
      obtain ⟨j, S, hj, rfl, rfl, HS, HB⟩ := hrel
      have k2 := (HBL.out.same (HB.out.block _ hsz)).cell 2
      simp at k2
      by_cases hlt : j < n
      · have hlt' : (j : Int) < (n : Int) := by omega
        have hjl : j < ord.length := by have := HN.out; omega
        obtain ⟨g, off, rfl, hg, hg2, hc⟩ := HO.out.1.at_ (k := j) hjl
        have HBw : Hid (Below w.heap.size w wr) := Lib.hid (HBW.out.trans (HB.out.mono HBW.out.size))
        have hc := (HBw.out.cell (p := ⟨g, off + j, none⟩) hg).trans hc
        obtain ⟨z, hz⟩ : ∃ z, ord[j] = z := ⟨_, rfl⟩
        have hzr := HO.out.2 z (by rw [← hz]; exact List.getElem_mem _)
        have hz0 := hzr.1
        have hz1 := hzr.2
        have hSl : S.size ≤ 110000 := by
          rw [sz_of HS.out, List.length_append]
          have h1 := HH0L.out
          have h2 := ordB_len (ord.take j) (fun n hn => HO.out.2 n (List.mem_of_mem_take hn))
          have h3 : (ord.take j).length ≤ j := List.length_take_le _ _
          split
          · simp; omega
          · simp [wOrder]; omega
        rw [hz] at hc
        have HDG := Lib.hid (rdigI_any z hz0 (by omega) wr)
        have hdl := decI_len hz0 (show z ≤ 9223372036854775807 by omega)
        obtain ⟨dz, hdz⟩ : ∃ dz, decI z = dz := ⟨_, rfl⟩
        rw [hdz] at HDG hdl
        have hdzs : (⟨dz.toArray⟩ : ByteArray).size = dz.length := by rw [Lib.size_eq]
        by_cases h0 : j = 0
        · have h0' : ((j : Int) == 0) = true := by rw [h0]; rfl
          have s7 : (⟨#[32, 111, 114, 100, 101, 114, 32]⟩ : ByteArray).size = 7 := rfl
          have sC := sz_ok (a := S) (b := ⟨#[32, 111, 114, 100, 101, 114, 32]⟩) (by omega)
          have sD := sz_ok (a := S ++ ⟨#[32, 111, 114, 100, 101, 114, 32]⟩) (b := ⟨dz.toArray⟩) (by rw [ByteArray.size_append]; omega)
          have HX : Hid ((S ++ ⟨#[32, 111, 114, 100, 101, 114, 32]⟩ ++ ⟨dz.toArray⟩).data.toList = H0 ++ (if j + 1 = 0 then [] else (32 :: wOrder) ++ (32 :: ordB (ord.take (j + 1))))) := Lib.hid (by
            rw [dl_app, dl_app, HS.out, if_pos h0, if_neg (by omega), List.take_add_one, List.getElem?_eq_getElem hjl, hz, h0]
            simp [ordB, joinW, hdz, wOrder])
          clear hz hg hg2 hzr hdl hdz hdzs s7 hSl h0
          go_wp2_with (go_at_call 91; refine HDG.out.mono ?_; rintro e w2 ⟨rfl, hb2⟩; have HB2 := Lib.hid hb2; clear hb2)
          go_roundw
          case rel => exact ⟨j + 1, _, by omega, by go_num, rfl, HX, Lib.hid (HB.out.trans (HB2.out.mono HB.out.size))⟩
          case measure => simp [intOf]; omega
        · have h0' : ((j : Int) == 0) = false := by rw [beq_eq_false_iff_ne]; omega
          have s7 : (⟨#[44]⟩ : ByteArray).size = 1 := rfl
          have sC := sz_ok (a := S) (b := ⟨#[44]⟩) (by omega)
          have sD := sz_ok (a := S ++ ⟨#[44]⟩) (b := ⟨dz.toArray⟩) (by rw [ByteArray.size_append]; omega)
          have HX : Hid ((S ++ ⟨#[44]⟩ ++ ⟨dz.toArray⟩).data.toList = H0 ++ (if j + 1 = 0 then [] else (32 :: wOrder) ++ (32 :: ordB (ord.take (j + 1))))) := Lib.hid (by
            rw [dl_app, dl_app, HS.out, if_neg h0, if_neg (by omega), List.take_add_one, List.getElem?_eq_getElem hjl, hz, Option.toList_some, ordB_snoc _ _ (fun e => by have := congrArg List.length e; rw [List.length_take, Nat.min_eq_left (by omega)] at this; exact h0 this)]
            simp [hdz])
          clear hz hg hg2 hzr hdl hdz hdzs s7 hSl h0
          go_wp2_with (go_at_call 91; refine HDG.out.mono ?_; rintro e w2 ⟨rfl, hb2⟩; have HB2 := Lib.hid hb2; clear hb2)
          go_roundw
          case rel => exact ⟨j + 1, _, by omega, by go_num, rfl, HX, Lib.hid (HB.out.trans (HB2.out.mono HB.out.size))⟩
          case measure => simp [intOf]; omega
      · obtain rfl : j = n := by omega
        have hlt' : ¬ (j : Int) < (j : Int) := by omega
        obtain ⟨H1, hH1⟩ : ∃ H1, H0 ++ (if ord = [] then [] else (32 :: wOrder) ++ (32 :: ordB ord)) = H1 := ⟨_, rfl⟩
        have HS2 : Hid (S.data.toList = H1) := Lib.hid (by
          rw [HS.out, ← hH1, List.take_of_length_le (by have := HN.out; omega)]
          congr 1
          by_cases h : ord = []
          · rw [if_pos h, if_pos (by rw [← HN.out, h]; rfl)]
          · rw [if_neg h, if_neg (fun e => h (List.eq_nil_of_length_eq_zero (by rw [HN.out]; exact e)))])
        have HRM : Hid (R = H1 ++ ms.flatMap fun m => sp (moveWs m)) := Lib.hid (by rw [← HRR.out, ← hH1]; simp)
        have HH1L : Hid (H1.length ≤ 105000) := Lib.hid (by have h1 := HLEN.out; rw [HRM.out, List.length_append] at h1; omega)
        clear hH1
        go_wp2_with fail
        clear k2
        go_loopw [3, 5] (fun o i wq => ∃ (l : Nat) (S : ByteArray), l ≤ k ∧ i = .int .i64 l ∧ o = .string S ∧ Hid (S.data.toList = H1 ++ (ms.take l).flatMap fun m => sp (moveWs m)) ∧ Hid (Below W.heap.size W wq)) (fun _ i _ => k - (intOf i).toNat)
        case atStart => exact ⟨0, S, Nat.zero_le _, rfl, rfl, Lib.hid (by rw [HS2.out]; simp), HB⟩
        case round =>
          obtain ⟨l, S3, hl, rfl, rfl, HS3, HB3⟩ := hrel
          have k3 := (HBL.out.same (HB3.out.block _ hsz)).cell 3
          simp at k3
          by_cases hlk : l < k
          · have hlt2 : (l : Int) < (k : Int) := by omega
            have hll : l < ms.length := by have := HK.out; omega
            obtain ⟨g, off, dv, rfl, hg, hg2, ⟨q0, q1, q2, q3⟩, hS⟩ := HM.out.1.at_ (k := l) hll
            have HBw : Hid (Below w.heap.size w wr) := Lib.hid (HBW.out.trans (HB3.out.mono HBW.out.size))
            have q0 := (HBw.out.cell (p := ⟨g, off + l * 4, none⟩) hg).trans q0
            have q1 := (HBw.out.cell (p := ⟨g, off + l * 4 + 1, none⟩) hg).trans q1
            have q2 := (HBw.out.cell (p := ⟨g, off + l * 4 + 2, none⟩) hg).trans q2
            have q3 := (HBw.out.cell (p := ⟨g, off + l * 4 + 3, none⟩) hg).trans q3
            obtain ⟨z, hz⟩ : ∃ z, ms[l] = z := ⟨_, rfl⟩
            have hzm : z ∈ ms := by rw [← hz]; exact List.getElem_mem _
            have hzok := HM.out.2.1 z hzm
            have hzwf := HM.out.2.2 z hzm
            obtain ⟨hop, hw0, hn0, hb1000, _, _, hbE, _⟩ := mvOk_parts hzok
            have hnext : H1 ++ (ms.take (l + 1)).flatMap (fun m => sp (moveWs m)) = (H1 ++ (ms.take l).flatMap (fun m => sp (moveWs m))) ++ sp (moveWs z) := by
              rw [List.take_add_one, List.getElem?_eq_getElem hll, hz, Option.toList_some, List.flatMap_append]; simp
            have hS3l : S3.size ≤ 105000 := by
              rw [sz_of HS3.out, List.length_append]
              have h1 := HLEN.out
              rw [HRM.out, List.length_append] at h1
              have h2 : ((ms.take l).flatMap fun m => sp (moveWs m)).length ≤ (ms.flatMap fun m => sp (moveWs m)).length := by
                conv => rhs; rw [← List.take_append_drop l ms]
                rw [List.flatMap_append, List.length_append]; omega
              omega
            rw [hz] at q0 q1 q2 hS
            obtain ⟨E, e, rfl, e1, e2, e3⟩ := hS.form
            obtain ⟨op, wire, nn, b⟩ := z
            simp only [] at q0 q1 q2 q3 hS e1 hop hw0 hn0 hb1000 hbE
            obtain ⟨nb, hnb⟩ : ∃ nb, b.length = nb := ⟨_, rfl⟩
            rw [hnb] at q3 e1 hb1000 hS
            obtain ⟨wd, hwd⟩ : ∃ x, wordI op = x := ⟨_, rfl⟩
            obtain ⟨dw, hdw⟩ : ∃ x, decI wire = x := ⟨_, rfl⟩
            obtain ⟨dn, hdn⟩ : ∃ x, decI nn = x := ⟨_, rfl⟩
            obtain ⟨pw, hpw⟩ : ∃ x, hasW op = x := ⟨_, rfl⟩
            obtain ⟨pn, hpn⟩ : ∃ x, hasN op = x := ⟨_, rfl⟩
            have hwl : wd.length ≤ 7 := by rw [← hwd]; exact word_size op
            have hdwl : dw.length ≤ 20 := by rw [← hdw]; exact decI_len hw0 hzwf.2.1.2
            have hdnl : dn.length ≤ 20 := by rw [← hdn]; exact decI_len hn0 hzwf.2.2.2
            obtain ⟨B4, hB4⟩ : ∃ B4, (H1 ++ (ms.take l).flatMap (fun m => sp (moveWs m))) ++ 32 :: wd = B4 := ⟨_, rfl⟩
            have HNX : Hid (H1 ++ (ms.take (l + 1)).flatMap (fun m => sp (moveWs m)) = ((B4 ++ (if pw = true then 32 :: dw else [])) ++ (if pn = true then 32 :: dn else [])) ++ (if op = 1 then 32 :: hexB b else [])) := Lib.hid (by
              rw [hnext, ← hB4]
              simp only [sp, moveWs, hwd, hdw, hdn, hpw, hpn]
              split <;> split <;> split <;> simp)
            obtain ⟨V, hV⟩ : ∃ V, wr.alloc (.cells #[.int .i64 op, .int .i64 wire, .int .i64 nn, .slice E nb e] 25) = V := ⟨_, rfl⟩
            have hVb : Below wr.heap.size wr V := by rw [← hV]; exact (Below.refl _ _).alloc (Nat.le_refl _) _
            have hVs : wr.heap.size < V.heap.size := by rw [← hV]; simp
            have hVk : Blk V wr.heap.size 25 #[.int .i64 op, .int .i64 wire, .int .i64 nn, .slice E nb e] := by rw [← hV]; exact Blk.new _ _ _
            have HWD := Lib.hid (hwd ▸ rword_any op V)
            have HWI := Lib.hid (fun X => hpw ▸ rwire_any op X)
            have HNU := Lib.hid (fun X => hpn ▸ rnumber_any op X)
            have HDW := Lib.hid (fun X => hdw ▸ rdigI_any wire hw0 hzwf.2.1.2 X)
            have HDN := Lib.hid (fun X => hdn ▸ rdigI_any nn hn0 hzwf.2.2.2 X)
            have o0 := hVk.cell 0
            simp at o0
            have HV := Lib.hid hV
            have HVB := Lib.hid (And.intro hVb (And.intro hVs hVk))
            have HSB := Lib.hid hS
            have HNB := Lib.hid hnb
            have HBE := Lib.hid hbE
            have HB4 := Lib.hid hB4
            have hw9 := hzwf.2.1.2
            have hn9 := hzwf.2.2.2
            have hwds : (⟨wd.toArray⟩ : ByteArray).size = wd.length := by rw [Lib.size_eq]
            have hdws : (⟨dw.toArray⟩ : ByteArray).size = dw.length := by rw [Lib.size_eq]
            have hdns : (⟨dn.toArray⟩ : ByteArray).size = dn.length := by rw [Lib.size_eq]
            have h32 : (⟨#[32]⟩ : ByteArray).size = 1 := rfl
            have HSZ := Lib.hid (And.intro hwds (And.intro hdws (And.intro hdns (And.intro h32 (And.intro hwl (And.intro hdwl (And.intro hdnl hS3l)))))))
            have sC := sz_ok (a := S3) (b := ⟨#[32]⟩) (by omega)
            have sD := sz_ok (a := S3 ++ ⟨#[32]⟩) (b := ⟨wd.toArray⟩) (by rw [ByteArray.size_append]; omega)
            clear hz hg hg2 hzm hzok hzwf hnext hS3l hS e2 e3 hnb hwd hdw hdn hpw hpn hwl hdwl hdnl hB4 hV hVb hVs hVk hbE hwds hdws hdns h32
            go_upto_if 63 with (first
              | (go_at_call 92; rw [HV.out]; refine HWD.out.mono ?_; rintro e v1 ⟨rfl, hv1⟩; have HV1 := Lib.hid hv1; have o0 := (HVB.out.2.2.same (hv1.block _ HVB.out.2.1)).cell 0; have o1 := (HVB.out.2.2.same (hv1.block _ HVB.out.2.1)).cell 1; simp at o0 o1; clear hv1)
              | (go_at_call 93; refine (HWI.out _).mono ?_; rintro e v2 ⟨rfl, rfl⟩))
            obtain ⟨S4, hS4⟩ : ∃ S4, S3 ++ ⟨#[32]⟩ ++ ⟨wd.toArray⟩ = S4 := ⟨_, rfl⟩
            have HS4 : Hid (S4.data.toList = B4) := Lib.hid (by rw [← hS4, dl_app, dl_app, HS3.out, ← HB4.out]; simp)
            have hz4 : S4.size ≤ 105010 := by
              obtain ⟨h1, h2, h3, h4, h5, h6, h7, h8⟩ := HSZ.out
              rw [← hS4, ByteArray.size_append, ByteArray.size_append]; omega
            rw [hS4]
            have HZ4 := Lib.hid hz4
            have sE := sz_ok (a := S4) (b := ⟨#[32]⟩) (by have := HSZ.out.2.2.2.1; omega)
            have sF := sz_ok (a := S4 ++ ⟨#[32]⟩) (b := ⟨dw.toArray⟩) (by rw [ByteArray.size_append]; obtain ⟨h1, h2, h3, h4, h5, h6, h7, h8⟩ := HSZ.out; omega)
            clear hS4 hz4 sC sD
            go_cut [3] (fun s3 wx => ∃ S : ByteArray, s3 = .string S ∧ Hid (S.data.toList = B4 ++ (if pw = true then 32 :: dw else [])) ∧ Hid (Below V.heap.size V wx))
            case first =>
              cases pw with
              | true =>
                go_wp2_with (go_at_call 91; refine (HDW.out _).mono ?_; rintro e v2 ⟨rfl, hb2⟩; have HV2 := Lib.hid hb2; clear hb2)
                go_meet
                case rel => exact ⟨_, rfl, Lib.hid (by rw [dl_app, dl_app, HS4.out, if_pos trivial]; simp), Lib.hid (HV1.out.trans (HV2.out.mono HV1.out.size))⟩
              | false =>
                go_wp2_with fail
                go_meet
                case rel => exact ⟨_, rfl, Lib.hid (by rw [HS4.out, if_neg (by simp), List.append_nil]), HV1⟩
            case rest =>
              obtain ⟨S5, rfl, HS5, HV3⟩ := hcut
              obtain ⟨B5, hB5⟩ : ∃ B5, B4 ++ (if pw = true then 32 :: dw else []) = B5 := ⟨_, rfl⟩
              have hz5 : S5.size ≤ 105040 := by
                have h9 : B4.length ≤ 105010 := by rw [← sz_of HS4.out]; exact HZ4.out
                obtain ⟨h1, h2, h3, h4, h5, h6, h7, h8⟩ := HSZ.out
                rw [sz_of HS5.out, List.length_append]
                split <;> simp <;> omega
              rw [hB5] at HS5 HNX
              have HZ5 := Lib.hid hz5
              have sE := sz_ok (a := S5) (b := ⟨#[32]⟩) (by have := HSZ.out.2.2.2.1; omega)
              have sF := sz_ok (a := S5 ++ ⟨#[32]⟩) (b := ⟨dn.toArray⟩) (by rw [ByteArray.size_append]; obtain ⟨h1, h2, h3, h4, h5, h6, h7, h8⟩ := HSZ.out; omega)
              clear o0 o1 hB5 hz5
              have o0 := (HVB.out.2.2.same (HV3.out.block _ HVB.out.2.1)).cell 0
              have o2 := (HVB.out.2.2.same (HV3.out.block _ HVB.out.2.1)).cell 2
              simp at o0 o2
              go_upto_if 74 with (go_at_call 94; refine (HNU.out _).mono ?_; rintro e v4 ⟨rfl, rfl⟩)
              go_cut [3] (fun s3 wx => ∃ S : ByteArray, s3 = .string S ∧ Hid (S.data.toList = B5 ++ (if pn = true then 32 :: dn else [])) ∧ Hid (Below V.heap.size V wx))
              case first =>
                cases pn with
                | true =>
                  go_wp2_with (go_at_call 91; refine (HDN.out _).mono ?_; rintro e v2 ⟨rfl, hb2⟩; have HV2 := Lib.hid hb2; clear hb2)
                  go_meet
                  case rel => exact ⟨_, rfl, Lib.hid (by rw [dl_app, dl_app, HS5.out, if_pos trivial]; simp), Lib.hid (HV3.out.trans (HV2.out.mono HV3.out.size))⟩
                | false =>
                  go_wp2_with fail
                  go_meet
                  case rel => exact ⟨_, rfl, Lib.hid (by rw [HS5.out, if_neg (by simp), List.append_nil]), HV3⟩
              case rest =>
                obtain ⟨S6, rfl, HS6, HV6⟩ := hcut
                obtain ⟨B6, hB6⟩ : ∃ B6, B5 ++ (if pn = true then 32 :: dn else []) = B6 := ⟨_, rfl⟩
                have hz6 : S6.size ≤ 105070 := by
                  have h9 : B5.length ≤ 105040 := by rw [← sz_of HS5.out]; exact HZ5.out
                  obtain ⟨h1, h2, h3, h4, h5, h6, h7, h8⟩ := HSZ.out
                  rw [sz_of HS6.out, List.length_append]
                  split <;> simp <;> omega
                rw [hB6] at HS6 HNX
                have HZ6 := Lib.hid hz6
                have sG := sz_ok (a := S6) (b := ⟨#[32]⟩) (by have := HSZ.out.2.2.2.1; omega)
                clear o0 o2 hB6 hz6 sE sF
                have o0 := (HVB.out.2.2.same (HV6.out.block _ HVB.out.2.1)).cell 0
                simp at o0
                go_upto_if 84 with fail
                go_cut [3] (fun s3 wx => ∃ S : ByteArray, s3 = .string S ∧ Hid (S.data.toList = B6 ++ (if op = 1 then [32] else [])) ∧ Hid (Below V.heap.size V wx))
                case first =>
                  by_cases hop1 : op = 1
                  · have hq : (op == 1) = true := by rw [hop1]; rfl
                    have HOP := Lib.hid hop1
                    have HQ := Lib.hid hq
                    clear hop1 hq
                    rw [HQ.out]
                    go_wp2_with fail
                    go_meet
                    case rel => exact ⟨_, rfl, Lib.hid (by rw [dl_app, HS6.out, if_pos HOP.out]), HV6⟩
                  · have hq : (op == 1) = false := by rw [beq_eq_false_iff_ne]; exact hop1
                    have HOP := Lib.hid hop1
                    have HQ := Lib.hid hq
                    clear hop1 hq
                    rw [HQ.out]
                    go_wp2_with fail
                    go_meet
                    case rel => exact ⟨_, rfl, Lib.hid (by rw [HS6.out, if_neg HOP.out, List.append_nil]), HV6⟩
                case rest =>
                  obtain ⟨S7, rfl, HS7, HV7⟩ := hcut
                  obtain ⟨B7, hB7⟩ : ∃ B7, B6 ++ (if op = 1 then [32] else []) = B7 := ⟨_, rfl⟩
                  have HNX2 : Hid (H1 ++ (ms.take (l + 1)).flatMap (fun m => sp (moveWs m)) = B7 ++ hexB b) := Lib.hid (by
                    rw [HNX.out, ← hB7]
                    by_cases h : op = 1
                    · rw [if_pos h, if_pos h]; simp
                    · rw [if_neg h, if_neg h, HBE.out h]; simp [hexB])
                  have hB7l : B7.length ≤ 105071 := by
                    rw [← hB7, List.length_append, ← sz_of HS6.out]
                    have := HZ6.out
                    split <;> simp <;> omega
                  rw [hB7] at HS7
                  have HB7L := Lib.hid hB7l
                  clear hB7 hB7l o0 sG
                  have HBQ : Hid (∀ X, Below V.heap.size V X → Below W.heap.size W X ∧ Below w.heap.size w X) := Lib.hid (fun X hX => by
                    have h1 := HB3.out.trans ((HVB.out.1.trans (hX.mono HVB.out.1.size)).mono HB3.out.size)
                    exact ⟨h1, HBW.out.trans (h1.mono HBW.out.size)⟩)
                  go_wp2_with fail
                  go_loopw [3, 9] (fun o i wq => ∃ (q : Nat) (S : ByteArray), q ≤ nb ∧ i = .int .i64 q ∧ o = .string S ∧ Hid (S.data.toList = B7 ++ hexB (b.take q)) ∧ Hid (Below V.heap.size V wq)) (fun _ i _ => nb - (intOf i).toNat)
                  case atStart => exact ⟨0, S7, Nat.zero_le _, rfl, rfl, Lib.hid (by rw [HS7.out]; simp [hexB]), HV7⟩
                  case round =>
                    obtain ⟨q, S8, hq, rfl, rfl, HS8, HV8⟩ := hrel
                    have k3b := (HVB.out.2.2.same (HV8.out.block _ HVB.out.2.1)).cell 3
                    simp at k3b
                    by_cases hqn : q < nb
                    · have hqn' : (q : Int) < (nb : Int) := by omega
                      have hq0 : (0 : Int) ≤ (q : Int) := by omega
                      have hql : q < b.length := by have := HNB.out; omega
                      obtain ⟨G, offE, rfl, hG, hG2, hcb⟩ := HSB.out.at_ (k := q) hql
                      have hcb := ((HBQ.out _ HV8.out).2.cell (p := ⟨G, offE + q, none⟩) hG).trans hcb
                      obtain ⟨y, hy⟩ : ∃ y, b[q] = y := ⟨_, rfl⟩
                      rw [hy] at hcb
                      have HNY : Hid (B7 ++ hexB (b.take (q + 1)) = (B7 ++ hexB (b.take q)) ++ [hexd (y.toNat / 16), hexd (y.toNat % 16)]) := Lib.hid (by
                        rw [List.take_add_one, List.getElem?_eq_getElem hql, hy, Option.toList_some, hexB_snoc]; simp)
                      have hz8 : S8.size ≤ 108000 := by
                        rw [sz_of HS8.out, List.length_append, hex_len]
                        have h2 : (b.take q).length ≤ q := List.length_take_le _ _
                        have := HB7L.out
                        omega
                      have HZ8 := Lib.hid hz8
                      clear hy hG hG2 hz8
                      go_wp2_with fail
                      go_region
                      go_wp2_with fail
                      obtain ⟨d1, hd1⟩ : ∃ d, y.toNat / 16 = d := ⟨_, rfl⟩
                      obtain ⟨d2, hd2⟩ : ∃ d, y.toNat % 16 = d := ⟨_, rfl⟩
                      have hy256 := UInt8.toNat_lt y
                      have d1l : d1 < 16 := by omega
                      have d2l : d2 < 16 := by omega
                      have ed1 : ((y.toNat : Int) / 16 % 256) = (d1 : Int) := by omega
                      have ed2 : ((y.toNat : Int) % 16) = (d2 : Int) := by omega
                      rw [ed1, ed2]
                      rw [hd1, hd2] at HNY
                      obtain ⟨V9, hV9⟩ : ∃ V9, (wr.alloc (.cells #[.int .u8 (d1 : Int), .int .u8 (d2 : Int)] 5)).drew = V9 := ⟨_, rfl⟩
                      have hk9 : Blk V9 wr.heap.size 5 #[.int .u8 (d1 : Int), .int .u8 (d2 : Int)] := by rw [← hV9]; exact Blk.new wr _ _
                      have hb9 : Below wr.heap.size wr V9 := by rw [← hV9]; exact ((Below.refl _ wr).alloc (Nat.le_refl _) _).trans ⟨rfl, rfl, rfl, Nat.le_refl _, fun _ _ => rfl⟩
                      rw [hV9]
                      have c0 := hk9.cell 0
                      have c1 := hk9.cell 1
                      simp at c0 c1
                      have HB9 := Lib.hid hb9
                      obtain ⟨x1, hx1⟩ : ∃ x, hexd d1 = x := ⟨_, rfl⟩
                      obtain ⟨x2, hx2⟩ : ∃ x, hexd d2 = x := ⟨_, rfl⟩
                      have r1 := slice_run d1 d1l (d1 : Int) ((d1 : Int) + 1) rfl rfl
                      have r2 := slice_run d2 d2l (d2 : Int) ((d2 : Int) + 1) rfl rfl
                      rw [hx1] at r1 HNY
                      rw [hx2] at r2 HNY
                      have f10 : (0 : Int) ≤ (d1 : Int) := by omega
                      have f11 : (d1 : Int) < 16 := by omega
                      have f20 : (0 : Int) ≤ (d2 : Int) := by omega
                      have f21 : (d2 : Int) < 16 := by omega
                      have sx1 : (⟨#[x1]⟩ : ByteArray).size = 1 := rfl
                      have sx2 : (⟨#[x2]⟩ : ByteArray).size = 1 := rfl
                      have sM := sz_ok (a := S8) (b := ⟨#[x1]⟩) (by have := HZ8.out; omega)
                      have HX1 : Hid ((S8 ++ ⟨#[x1]⟩).data.toList = (B7 ++ hexB (b.take q)) ++ [x1] ∧ (S8 ++ ⟨#[x1]⟩).size ≤ 108001) := Lib.hid ⟨by rw [dl_app, HS8.out], by rw [ByteArray.size_append]; have := HZ8.out; omega⟩
                      clear hd1 hd2 hy256 ed1 ed2 hV9 hk9 hb9 hx1 hx2 d1l d2l hcb k3b sx1
                      go_loop [3, 108] (fun o i => ∃ (u : Nat) (S : ByteArray), u ≤ 2 ∧ i = .int .i64 u ∧ o = .string S ∧ Hid ((u = 0 ∧ S = S8) ∨ (u = 1 ∧ S = S8 ++ ⟨#[x1]⟩) ∨ (u = 2 ∧ S.data.toList = (B7 ++ hexB (b.take q)) ++ [x1, x2]))) (fun _ i => 2 - (intOf i).toNat)
                      case atStart => exact ⟨0, S8, by omega, rfl, rfl, Lib.hid (.inl ⟨rfl, rfl⟩)⟩
                      case round =>
                        obtain ⟨u, S9, hu, rfl, rfl, HU⟩ := hrel
                        rcases HU.out with ⟨hu0, hS⟩ | ⟨hu1, hS⟩ | ⟨hu2, hS⟩
                        · subst hu0 hS
                          go_wp2_with fail
                          go_round
                          case rel => exact ⟨1, _, by omega, by go_num, rfl, Lib.hid (.inr (.inl ⟨rfl, rfl⟩))⟩
                          case measure => simp [intOf]
                        · subst hu1 hS
                          have sN := sz_ok (a := S8 ++ ⟨#[x1]⟩) (b := ⟨#[x2]⟩) (by have := HX1.out.2; omega)
                          clear sx2
                          go_wp2_with fail
                          go_round
                          case rel => exact ⟨2, _, by omega, by go_num, rfl, Lib.hid (.inr (.inr ⟨rfl, by rw [dl_app, HX1.out.1]; simp⟩))⟩
                          case measure => simp [intOf]
                        · subst hu2
                          have HSS := Lib.hid hS
                          clear hS HU sx2
                          go_wp2_with fail
                          go_roundw
                          case rel => exact ⟨q + 1, S9, by omega, by go_num, rfl, Lib.hid (by rw [HSS.out, HNY.out]), Lib.hid (HV8.out.trans (HB9.out.mono HV8.out.size))⟩
                          case measure => simp [intOf]; omega
                    · obtain rfl : q = nb := by omega
                      have hqn' : ¬ (q : Int) < (q : Int) := by omega
                      have HE9 : Hid (S8.data.toList = H1 ++ (ms.take (l + 1)).flatMap fun m => sp (moveWs m)) := Lib.hid (by rw [HS8.out, HNX2.out, List.take_of_length_le (by have := HNB.out; omega)])
                      go_wp2_with fail
                      go_roundw
                      case rel => exact ⟨l + 1, S8, by omega, by go_num, rfl, HE9, Lib.hid (HBQ.out _ HV8.out).1⟩
                      case measure => simp [intOf]; omega
          · obtain rfl : l = k := by omega
            have hlt2 : ¬ (l : Int) < (l : Int) := by omega
            have HE : Hid (S3.data.toList = R) := Lib.hid (by rw [HS3.out, HRM.out, List.take_of_length_le (by have := HK.out; omega)])
            go_wp2_with fail
            go_ret
            exact ⟨ret_str (ba_ext (by rw [HE.out])), HBW.out.trans (HB3.out.mono HBW.out.size)⟩
end Go.Proofs.YtlephnfepofbbaaGreatDoor
