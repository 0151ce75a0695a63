/-
  The document's reader of a line.
-/
import Derived.Test.YtlephnfepofbbaaDoorMvRefReadM
import Derived.Deep.CutBlock
import Derived.Deep.DeepCutAuto
namespace Go.Proofs.YtlephnfepofbbaaDoor
open Go.RowKit Go.Shelf Go.Maps Go.ChangeMaps

set_option maxRecDepth 100000 in
set_option maxHeartbeats 16000000 in
theorem read_any (s : ByteArray) (hs : s.size ≤ 100000) (w : World) :
    Calls Tryd.prog 21 #[.string s] w (ReadR w (readR s.data.toList)) := by
  obtain ⟨O, hO⟩ : ∃ O, readR s.data.toList = O := ⟨_, rfl⟩
  rw [hO]
  have HO := Lib.hid hO
  have hlen := split_len 32 s.data.toList
  rw [← Lib.size_eq] at hlen
  have hpc : ∀ p ∈ splitB 32 s.data.toList, p.length ≤ 100000 := fun p hp => by
    have := split_piece 32 _ p hp
    rw [← Lib.size_eq] at this; omega
  have HPC := Lib.hid hpc
  have hW := rwords_any s hs (w.alloc (.cells #[.int .u64 0, .bool false, .slice none 0 0, .slice none 0 0] 30))
  have HW := Lib.hid hW
  have HS := Lib.hid hs
  have HL := Lib.hid hlen
  clear hO hpc hW hs hlen
  go_enter Tryd.func21, Tryd.ntmps21
  go_upto_if 18 with (go_at_call 40; refine HW.out.mono ?_; rintro e W1 ⟨v, ws, rfl, hrow, hlw, hb1⟩; obtain ⟨n, hn⟩ : ∃ n, ws.length = n := ⟨_, rfl⟩; obtain ⟨A, c, rfl, ha1, ha2, ha3⟩ := RowK.own_shows hrow; rw [hn] at ha3 hrow ⊢; have HROW := Lib.hid hrow; have HLW := Lib.hid hlw; have HB1 := Lib.hid hb1; have HN := Lib.hid hn; clear hrow hlw hb1 ha1 ha2 hn)
  have hbB : Blk W1 w.heap.size 30 #[.int .u64 0, .bool false, .slice none 0 0, .slice none 0 0] := (Blk.new w _ _).same (HB1.out.block _ (by simp))
  have hle : w.heap.size + 1 ≤ W1.heap.size := by have := HB1.out.size; simpa using this
  have hbel : Below w.heap.size w W1 := ((Below.refl _ w).alloc (Nat.le_refl _) _).trans (HB1.out.mono (by simp))
  obtain ⟨V, hV⟩ : ∃ V, W1.alloc (.cells #[.int .u64 0, .bool false, .slice none 0 0, .slice none 0 0] 30) = V := ⟨_, rfl⟩
  have hVb : Below W1.heap.size W1 V := by rw [← hV]; exact (Below.refl _ _).alloc (Nat.le_refl _) _
  have hVg : Blk V W1.heap.size 30 #[.int .u64 0, .bool false, .slice none 0 0, .slice none 0 0] := by rw [← hV]; exact Blk.new _ _ _
  have hbV : Blk V w.heap.size 30 #[.int .u64 0, .bool false, .slice none 0 0, .slice none 0 0] := hbB.same (hVb.block _ (by omega))
  have hwV : Below w.heap.size w V := hbel.trans (hVb.mono (by omega))
  have hVs : W1.heap.size < V.heap.size := hVg.lt
  have hrow : RW.own V (w.heap.size + 1) (.slice A n c) ws := words_cells (by have := HROW.out; rw [World.size_alloc] at this; exact this) (Nat.le_refl _) hVb
  rw [hV]
  obtain ⟨g, hg⟩ : ∃ g, W1.heap.size = g := ⟨_, rfl⟩
  have hrg : ∀ k, (Value.slice A n c).ownBlock = some k → k < g := fun k e => by rw [← hg]; exact (RowK.own_lt HROW.out e).1
  rw [hg] at hVb hVg hle hVs ⊢
  have hRS : RS g V ⟨0, false, [], []⟩ V := ⟨Below.refl _ _, hVs, none, 0, none, 0, hVg, ⟨RowK.own_nil _ _, ⟨[], rfl, RowK.own_nil _ _, fun p hp => by cases hp⟩, OwB.nil _ _⟩⟩
  have hRet : ∀ (x : St) (W' : World) (A : Option Addr) (a c : Nat) (B : Option Addr) (b d : Nat), Below g V W' → Blk (lay4 W' w.heap.size (.int .u64 (x.t : Int)) (.bool x.intr) (.slice A a c) (.slice B b d)) w.heap.size 30 #[.int .u64 (x.t : Int), .bool x.intr, .slice A a c, .slice B b d] ∧
      Below w.heap.size w (lay4 W' w.heap.size (.int .u64 (x.t : Int)) (.bool x.intr) (.slice A a c) (.slice B b d)) := fun x W' A a c B b d hb => by
    have q1 := hbV.same (hb.block _ (by omega))
    exact ⟨by simpa [lay4] using (((q1.set_ 0 _).set_ 1 _).set_ 2 _).set_ 3 _, ((((hwV.trans (hb.mono (by omega))).setCell (Nat.le_refl _) _).setCell (Nat.le_refl _) _).setCell (Nat.le_refl _) _).setCell (Nat.le_refl _) _⟩
  have HRET := Lib.hid hRet
  have HRS0 := Lib.hid hRS
  have HBV := Lib.hid hbV
  have HG := Lib.hid (And.intro hle hVs)
  clear hbB hbel hVb hwV HB1 hV hVs hRet hg HROW hRS
  have hn2 : n ≤ 100001 := by have h1 := HL.out; have h2 := HLW.out; have h3 := HN.out; have := HS.out; rw [← h2] at h1; simp [lw] at h1; omega
  by_cases h2 : n < 2
  · have h2' : (n : Int) < 2 := by omega
    have HON : Hid (O = none) := Lib.hid (by
      rw [← HO.out]
      unfold readR candR
      rw [← HLW.out, if_pos (by have := HN.out; simp [lw]; omega)])
    have HX : Hid (Blk (lay4 V w.heap.size (.int .u64 0) (.bool false) (.slice none 0 0) (.slice none 0 0)) w.heap.size 30 #[.int .u64 0, .bool false, .slice none 0 0, .slice none 0 0] ∧ Below w.heap.size w (lay4 V w.heap.size (.int .u64 0) (.bool false) (.slice none 0 0) (.slice none 0 0))) := Lib.hid (HRET.out ⟨0, false, [], []⟩ V none 0 0 none 0 0 (Below.refl _ _))
    have k0 := hVg.cell 0
    have k1 := hVg.cell 1
    have k2 := hVg.cell 2
    have k3 := hVg.cell 3
    have kl := hVg.lt
    have e0 := hbV.cell 0
    have e1 := hbV.cell 1
    have e2 := hbV.cell 2
    have e3 := hbV.cell 3
    have e4 := hbV.frozen 0
    have e5 := hbV.frozen 1
    have e6 := hbV.frozen 2
    have e7 := hbV.frozen 3
    have el := hbV.lt
    clear h2 hVg hbV hrow hrg hle hn2 ha3
    go_wp2_with fail
    have d0 := HX.out.1.cell 0
    have d1 := HX.out.1.cell 1
    have d2 := HX.out.1.cell 2
    have d3 := HX.out.1.cell 3
    unfold lay4 at d0 d1 d2 d3
    refine bodyPost_ret (v := .tuple #[.agg #[.int .u64 0, .bool false, .slice none 0 0, .slice none 0 0], .bool false]) (by simp [results, Tryd.results21, go_sem, d0, d1, d2, d3]) rfl ?_
    rw [HON.out]
    exact ⟨HX.out.2, 0, false, none, 0, 0, none, 0, 0, rfl⟩
  have h2' : ¬ (n : Int) < 2 := by omega
  obtain ⟨gw, rfl, hgw, hlies⟩ : ∃ gw, A = some ⟨gw, 0, none⟩ ∧ gw < g ∧ ∀ W', Below g V W' → ∀ i t, ws[i]? = some t → W'.cell? ⟨gw, i, none⟩ = some (.string t) := by
    rcases RowK.own_form hrow with ⟨e, e2⟩ | ⟨gw, cc, e, e1, e2, e3, hl⟩
    · injection e with _ e _; omega
    · injection e with ea eb ec
      subst ea
      have hlt := hrg gw rfl
      refine ⟨gw, rfl, hlt, fun W' hb i t ht => ?_⟩
      have := hl i t ht 0 (by decide)
      rw [hb.cell (p := ⟨gw, i, none⟩) hlt]
      simpa [RW] using this
  have HC := Lib.hid hlies
  have hgn : ¬ gw = g := by omega
  have hgn2 : ¬ g = gw := by omega
  have k0 := hVg.cell 0
  have kf := hVg.frozen 0
  have kl := hVg.lt
  have hsz : ∀ t ∈ ws, t.size ≤ 100000 := fun t ht => by
    rw [Lib.size_eq]
    exact HPC.out _ (by rw [← HLW.out]; exact List.mem_map.2 ⟨t, ht, rfl⟩)
  have HSZ := Lib.hid hsz
  obtain ⟨t1, ht1⟩ : ∃ t1, ws[1]? = some t1 := ⟨_, List.getElem?_eq_getElem (by have := HN.out; omega)⟩
  have c1 := hlies V (Below.refl _ _) 1 t1 ht1
  have hv := fun X => rvalue_any t1 (hsz t1 (List.mem_of_getElem? ht1)) X
  obtain ⟨T, hT⟩ : ∃ T, valR 0 t1.data.toList = T := ⟨_, rfl⟩
  rw [hT] at hv
  have HVAL := Lib.hid hv
  have HT : Hid (valR 0 ((lw ws).getD 1 []) = T) := Lib.hid (by rw [lw_get ws 1 t1 ht1, hT])
  obtain ⟨V2, hV2⟩ : ∃ V2, V.setCell ⟨g, 0, none⟩ (.int .u64 (T : Int)) = V2 := ⟨_, rfl⟩
  have hR2 : RS g V ⟨T, false, [], []⟩ V2 := by rw [← hV2]; exact HRS0.out.ticks T
  have HR2 := Lib.hid hR2
  have HV2 := Lib.hid hV2
  clear hlies hsz hv hT hR2 hV2 HRS0 hbV hVg hrow hrg h2 ht1 hle
  go_upto_region 7 with (go_at_call 41; refine (HVAL.out _).mono ?_; rintro e w' ⟨rfl, rfl⟩)
  rw [HV2.out]
  obtain ⟨B1, hB1⟩ : ∃ B1, decide (2 < n ∧ (lw ws).getD 2 [] = wIntr) = B1 := ⟨_, rfl⟩
  have HB1 := Lib.hid hB1
  clear hB1 k0 kf kl c1
  go_cut [35] (fun cc wx => cc = .bool B1 ∧ wx = V2)
  case first =>
    by_cases n2 : 2 < n
    · have n2' : (2 : Int) < (n : Int) := by omega
      obtain ⟨t2, ht2⟩ : ∃ t2, ws[2]? = some t2 := ⟨_, List.getElem?_eq_getElem (by have := HN.out; omega)⟩
      have c2 := HC.out V2 HR2.out.l 2 t2 ht2
      have hq : (t2.toList == [105, 110, 116, 114]) = B1 := by
        rw [seq_eq, ← HB1.out, lw_get ws 2 t2 ht2]
        simp [n2, wIntr]
      clear n2 ht2
      go_wp2_with fail
      go_meet
      case rel => exact ⟨rfl, rfl⟩
    · have n2' : ¬ (2 : Int) < (n : Int) := by omega
      have hq : B1 = false := by
        rw [← HB1.out]
        exact decide_eq_false (fun e => n2 e.1)
      have HQ := Lib.hid hq
      clear n2 hq
      go_wp2_with fail
      go_meet
      case rel => exact ⟨by rw [HQ.out], rfl⟩
  case rest =>
    obtain ⟨rfl, rfl⟩ := hcut
    go_upto_if 35 with fail
    go_cut [6] (fun aa wx => ∃ p : Nat, aa = .int .i64 (p : Int) ∧ 2 ≤ p ∧ p ≤ 3 ∧ p ≤ n ∧ Hid ((if 2 < n ∧ (lw ws).getD 2 [] = wIntr then (true, 3) else (false, 2)) = (B1, p)) ∧ Hid (RS g V ⟨T, B1, [], []⟩ wx))
    case first =>
      obtain ⟨_, _, A1, a1, A2, a2, hb1, _⟩ := HR2.out
      have k1 := hb1.cell 1
      have kf := hb1.frozen 1
      have kl := hb1.lt
      clear hb1
      cases B1 with
      | true =>
        go_wp2_with fail
        go_meet
        case rel => exact ⟨3, rfl, by omega, by omega, by have := (of_decide_eq_true HB1.out).1; omega, Lib.hid (by rw [if_pos (of_decide_eq_true HB1.out)]), Lib.hid HR2.out.intr⟩
      | false =>
        go_wp2_with fail
        go_meet
        case rel => exact ⟨2, rfl, by omega, by omega, by omega, Lib.hid (by rw [if_neg (of_decide_eq_false HB1.out)]), HR2⟩
    case rest =>
      obtain ⟨p, rfl, p2, p3, pn, HP, HR3⟩ := hcut
      have hpw : IntKind.i64.wrap ((p : Int) + 1) = (p : Int) + 1 := IntWalk.i64_in _ (by omega)
      obtain ⟨B2, hB2⟩ : ∃ B2, decide (p + 1 < n ∧ (lw ws).getD p [] = wOrder) = B2 := ⟨_, rfl⟩
      have HB2 := Lib.hid hB2
      clear hB2
      go_upto_region 10 with fail
      go_cut [50] (fun cc wx => cc = .bool B2 ∧ wx = wc)
      case first =>
        by_cases n2 : p + 1 < n
        · have n2' : (p : Int) + 1 < (n : Int) := by omega
          have n3' : (p : Int) < (n : Int) := by omega
          have p0 : (0 : Int) ≤ (p : Int) := by omega
          obtain ⟨t2, ht2⟩ : ∃ t2, ws[p]? = some t2 := ⟨_, List.getElem?_eq_getElem (by have := HN.out; omega)⟩
          have c2 := HC.out wc HR3.out.l p t2 ht2
          have hq : (t2.toList == [111, 114, 100, 101, 114]) = B2 := by
            rw [seq_eq, ← HB2.out, lw_get ws p t2 ht2]
            simp [n2, wOrder]
          clear n2 ht2
          go_wp2_with fail
          go_meet
          case rel => exact ⟨rfl, rfl⟩
        · have n2' : ¬ (p : Int) + 1 < (n : Int) := by omega
          have hq : B2 = false := by
            rw [← HB2.out]
            exact decide_eq_false (fun e => n2 e.1)
          have HQ := Lib.hid hq
          clear n2 hq
          go_wp2_with fail
          go_meet
          case rel => exact ⟨by rw [HQ.out], rfl⟩
      case rest =>
        obtain ⟨rfl, rfl⟩ := hcut
        go_upto_if 50 with fail
        go_cut [6, 7, 8, 9] (fun aa bb cc dd wx => ∃ (q : Nat) (ord : List Int), aa = .int .i64 (q : Int) ∧ q ≤ n ∧ 2 ≤ q ∧ Hid ((if p + 1 < n ∧ (lw ws).getD p [] = wOrder then ((splitB 44 ((lw ws).getD (p + 1) [])).map smallR, p + 2) else ([], p)) = (ord, q)) ∧ Hid (RS g V ⟨T, B1, ord, []⟩ wx))
        case first =>
          cases B2 with
          | false =>
            go_wp2_with fail
            go_meet
            case rel => exact ⟨p, [], rfl, by omega, by omega, Lib.hid (by rw [if_neg (of_decide_eq_false HB2.out)]), HR3⟩
          | true =>
            have hb2 := of_decide_eq_true HB2.out
            obtain ⟨t2, ht2⟩ : ∃ t2, ws[p + 1]? = some t2 := ⟨_, List.getElem?_eq_getElem (by have := HN.out; omega)⟩
            obtain ⟨L, hL⟩ : ∃ L, t2.size = L := ⟨_, rfl⟩
            have hl : t2.data.toList.length = L := by rw [← Lib.size_eq, hL]
            have hLs : L ≤ 100000 := by rw [← hL]; exact HSZ.out t2 (List.mem_of_getElem? ht2)
            obtain ⟨OT, hOT⟩ : ∃ OT, (splitB 44 t2.data.toList).map smallR = OT := ⟨_, rfl⟩
            have HOT : Hid ((if p + 1 < n ∧ (lw ws).getD p [] = wOrder then ((splitB 44 ((lw ws).getD (p + 1) [])).map smallR, p + 2) else ([], p)) = (OT, p + 2)) := Lib.hid (by
              rw [if_pos hb2, lw_get ws (p + 1) t2 ht2, hOT])
            have HST := Lib.hid (OrdW.start hOT)
            have HLL := Lib.hid hl
            have HT2 := Lib.hid ht2
            have hpn : (p : Int) + 1 < (n : Int) := by have := hb2.1; omega
            have p0 : (0 : Int) ≤ (p : Int) + 1 := by omega
            have hpw2 : IntKind.i64.wrap ((p : Int) + 2) = (p : Int) + 2 := IntWalk.i64_in _ (by omega)
            clear hb2 hOT hl ht2
            go_wp2_with fail
            go_loopw [7, 8, 9] (fun f i _ wr => ∃ (fr j : Nat) (acc : List Int), f = .int .i64 fr ∧ i = .int .i64 j ∧ j ≤ L + 1 ∧ Hid (OrdW t2.data.toList OT fr j acc) ∧ Hid (acc.length ≤ j) ∧ Hid (RS g V ⟨T, B1, acc, []⟩ wr)) (fun _ i _ _ => L + 2 - (intOf i).toNat)
            case atStart => exact ⟨0, 0, [], rfl, rfl, by omega, HST, Lib.hid (Nat.le_refl _), HR3⟩
            case round =>
              obtain ⟨fr, j, acc, rfl, rfl, hj, HOW, HAL, HR⟩ := hrel
              have c2 := HC.out wr HR.out.l (p + 1) t2 HT2.out
              have j0 : (0 : Int) ≤ (j : Int) := by omega
              have hjw : IntKind.i64.wrap ((j : Int) + 1) = (j : Int) + 1 := IntWalk.i64_in _ (by omega)
              have hLL := HLL.out
              obtain ⟨hl, hs, A1, a1, A2, a2, hb, hrw⟩ := HR.out
              have k2 := hb.cell 2
              have k4 := hb.frozen 2
              have kl := hb.lt
              have HRL := Lib.hid (And.intro hl hs)
              have HBL := Lib.hid hb
              have HRW := Lib.hid hrw
              clear hl hs hb hrw
              by_cases hle : j ≤ L
              · have hle' : (j : Int) ≤ (L : Int) := by omega
                by_cases hlt : j < L
                · have hne : ¬ (j : Int) = (L : Int) := by omega
                  have hne2 : ((j : Int) == (L : Int)) = false := beq_eq_false_iff_ne.2 hne
                  have hlt' : (j : Int) < (L : Int) := by omega
                  obtain ⟨c, hc⟩ : ∃ c, t2.data.toList[j]? = some c := ⟨_, List.getElem?_eq_getElem (by omega)⟩
                  have i1 := str_run t2 j c hc (j : Int) rfl
                  by_cases h44 : c = 44
                  · subst h44
                    obtain ⟨hfr, ho2⟩ := HOW.out.comma (by omega) hc
                    have HO2 := Lib.hid ho2
                    have hsl := slice_str_run t2 fr j hfr (by omega)
                    obtain ⟨P, hP⟩ : ∃ P, t2.extract fr j = P := ⟨_, rfl⟩
                    rw [hP] at hsl
                    have hPd : P.data.toList = (t2.data.toList.take j).drop fr := by rw [← hP, ext_slice]
                    have hsm := fun X => rsmall_any P (by rw [← hP, ByteArray.size_extract]; omega) X
                    rw [hPd] at hsm
                    obtain ⟨z, hz⟩ : ∃ z, smallR ((t2.data.toList.take j).drop fr) = z := ⟨_, rfl⟩
                    rw [hz] at hsm HO2
                    have HSM := Lib.hid hsm
                    have hfr' : (fr : Int) ≤ (j : Int) := by omega
                    have fr0 : (0 : Int) ≤ (fr : Int) := by omega
                    clear hsm hz hPd hP ho2 hc hlt hle hLL HOW
                    go_wp2_with (first
                      | (go_at_call 42; refine (HSM.out _).mono ?_; rintro e w' ⟨rfl, rfl⟩)
                      | (at_builtin; refine RowK.append (R := RI) rfl _ _ rfl (g + 1) _ acc [z] rfl (RowK.own_below HRW.out.ord ((Below.refl _ _).alloc (Nat.le_refl _) _)) (some ⟨wr.heap.size, 0, none⟩) 1 1 rfl rfl (fun _ => ⟨_, 0, rfl, by simp, RowK.lies_new (R := RI) wr z _⟩) (fun e => by cases e) (by have := HAL.out; simp; omega) (by have := HRL.out.1.size; have := HRL.out.2; simp; omega) ?_; intro v1 w1 h1 hg1 hat; obtain ⟨A3, c3, rfl, _, _, _⟩ := RowK.own_shows h1; have HAD := Lib.hid (RS.addO (x := ⟨T, B1, acc, []⟩) HRL.out.1 HRL.out.2 HBL.out HRW.out h1 hg1); have q3 := HAD.out.1.cell 2; have q4 := HAD.out.1.frozen 2; have q5 := HAD.out.1.lt; clear h1 hg1 hat))
                    go_roundw
                    case rel => exact ⟨j + 1, j + 1, acc ++ [z], by go_num, by go_num, by omega, HO2, Lib.hid (by have := HAL.out; simp; omega), Lib.hid (by have h : RS g V ⟨T, B1, acc ++ [z], []⟩ (w1.setCell ⟨g, 2, none⟩ (.slice A3 (acc ++ [z]).length c3)) := HAD.out.2; rw [List.length_append] at h; exact h)⟩
                    case measure => simp [intOf] <;> omega
                  · have hn1 : ((c.toNat : Int) == 44) = false := by
                      rw [beq_eq_false_iff_ne]
                      exact fun e => h44 (u8_eq (by have : (44 : UInt8).toNat = 44 := rfl; omega))
                    have hn2 : ¬ (c.toNat : Int) = 44 := fun e => h44 (u8_eq (by have : (44 : UInt8).toNat = 44 := rfl; omega))
                    have HO2 := Lib.hid (HOW.out.more (by omega) hc h44)
                    clear hc hlt hle hLL HOW h44
                    go_wp2_with fail
                    go_roundw
                    case rel => exact ⟨fr, j + 1, acc, rfl, by go_num, by omega, HO2, Lib.hid (by have := HAL.out; omega), HR⟩
                    case measure => simp [intOf] <;> omega
                · obtain rfl : j = L := by omega
                  have how := HOW.out
                  rw [← hLL] at how
                  obtain ⟨hfr, ho2⟩ := how.last
                  rw [hLL] at hfr ho2
                  have HO2 := Lib.hid ho2
                  have hsl := slice_str_run t2 fr j hfr (by omega)
                  obtain ⟨P, hP⟩ : ∃ P, t2.extract fr j = P := ⟨_, rfl⟩
                  rw [hP] at hsl
                  have hPd : P.data.toList = (t2.data.toList.take j).drop fr := by rw [← hP, ext_slice]
                  have hsm := fun X => rsmall_any P (by rw [← hP, ByteArray.size_extract]; omega) X
                  rw [hPd] at hsm
                  obtain ⟨z, hz⟩ : ∃ z, smallR ((t2.data.toList.take j).drop fr) = z := ⟨_, rfl⟩
                  rw [hz] at hsm HO2
                  have HSM := Lib.hid hsm
                  have hfr' : (fr : Int) ≤ (j : Int) := by omega
                  have fr0 : (0 : Int) ≤ (fr : Int) := by omega
                  clear hsm hz hPd hP ho2 hlt hle hLL HOW how
                  go_wp2_with (first
                    | (go_at_call 42; refine (HSM.out _).mono ?_; rintro e w' ⟨rfl, rfl⟩)
                    | (at_builtin; refine RowK.append (R := RI) rfl _ _ rfl (g + 1) _ acc [z] rfl (RowK.own_below HRW.out.ord ((Below.refl _ _).alloc (Nat.le_refl _) _)) (some ⟨wr.heap.size, 0, none⟩) 1 1 rfl rfl (fun _ => ⟨_, 0, rfl, by simp, RowK.lies_new (R := RI) wr z _⟩) (fun e => by cases e) (by have := HAL.out; simp; omega) (by have := HRL.out.1.size; have := HRL.out.2; simp; omega) ?_; intro v1 w1 h1 hg1 hat; obtain ⟨A3, c3, rfl, _, _, _⟩ := RowK.own_shows h1; have HAD := Lib.hid (RS.addO (x := ⟨T, B1, acc, []⟩) HRL.out.1 HRL.out.2 HBL.out HRW.out h1 hg1); have q3 := HAD.out.1.cell 2; have q4 := HAD.out.1.frozen 2; have q5 := HAD.out.1.lt; clear h1 hg1 hat))
                  go_roundw
                  case rel => exact ⟨j + 1, j + 1, acc ++ [z], by go_num, by go_num, by omega, HO2, Lib.hid (by have := HAL.out; simp; omega), Lib.hid (by have h : RS g V ⟨T, B1, acc ++ [z], []⟩ (w1.setCell ⟨g, 2, none⟩ (.slice A3 (acc ++ [z]).length c3)) := HAD.out.2; rw [List.length_append] at h; exact h)⟩
                  case measure => simp [intOf] <;> omega
              · have hle' : ¬ (j : Int) ≤ (L : Int) := by omega
                have HAC : Hid (acc = OT) := Lib.hid (HOW.out.end_ (by omega))
                clear hle hLL HOW
                go_wp2_with fail
                go_meet
                case rel => exact ⟨p + 2, OT, by go_num, by omega, by omega, HOT, Lib.hid (by rw [← HAC.out]; exact HR.out)⟩
        case rest =>
          obtain ⟨q, ord, rfl, q2, q1, HQO, HR4⟩ := hcut
          have hll : (lw ws).length = n := by rw [lw_len]; exact HN.out
          have hHead : headR (lw ws) = (⟨T, B1, ord, []⟩, q) := by
            have e1 := HP.out
            have e2 := HQO.out
            unfold headR
            rw [HT.out, hll]
            simp only [e1]
            by_cases h : p + 1 < n ∧ (lw ws).getD p [] = wOrder
            · rw [if_pos h] at e2 ⊢
              injection e2 with e2 e3
              rw [e2, e3]
            · rw [if_neg h] at e2 ⊢
              injection e2 with e2 e3
              rw [← e2, e3]
          have hNone : movesR n ((lw ws).drop q) [] = none → O = none := fun h => by
            rw [← HO.out]
            refine read_none ?_
            rw [← HLW.out]
            exact cand_none (by rw [hll]; omega) hHead (by rw [hll]; exact h)
          have hSome : ∀ ms, movesR n ((lw ws).drop q) [] = some ms → St.In ⟨T, B1, ord, ms⟩ ∧ O = if stOk ⟨T, B1, ord, ms⟩ = true ∧ lineB ⟨T, B1, ord, ms⟩ = s.data.toList then some ⟨T, B1, ord, ms⟩ else none := fun ms h => by
            have hc := cand_some (by rw [hll]; omega) hHead (by rw [hll]; exact h)
            refine ⟨candR_in hc, ?_⟩
            rw [← HO.out]
            refine read_some ?_
            rw [← HLW.out]; exact hc
          obtain ⟨MS, hMS⟩ : ∃ MS, movesR n ((lw ws).drop q) [] = MS := ⟨_, rfl⟩
          rw [hMS] at hNone hSome
          have HNO := Lib.hid hNone
          have HSO := Lib.hid hSome
          have HMS := Lib.hid hMS
          clear hHead hMS hNone hSome hll
          go_wp2_with fail
          go_loopw [6, 10, 11] (fun a _ _ wr => ∃ (j : Nat) (acc : List Mv), a = .int .i64 j ∧ j ≤ n ∧ 2 ≤ j ∧ Hid (movesR n ((lw ws).drop j) acc = MS) ∧ Hid (acc.length ≤ j) ∧ Hid (RS g V ⟨T, B1, ord, acc⟩ wr)) (fun a _ _ _ => n - (intOf a).toNat)
          case atStart => exact ⟨q, [], rfl, by omega, by omega, HMS, Lib.hid (Nat.zero_le _), HR4⟩
          case round =>
            obtain ⟨j, acc, rfl, hj, j2, HMV, HAL, HR⟩ := hrel
            have j0 : (0 : Int) ≤ (j : Int) := by omega
            by_cases hlt : j < n
            · have hlt' : (j : Int) < (n : Int) := by omega
              have hjc : (j : Int) ≤ (n : Int) := by omega
              have hnc : (n : Int) ≤ (c : Int) := by omega
              have hN := HN.out
              have hne : (lw ws).drop j ≠ [] := fun e => by
                have h := congrArg List.length e
                rw [List.length_drop, lw_len, hN] at h
                simp at h; omega
              have hwds : Wds wr (some ⟨gw, j, none⟩) (n - j) (ws.drop j) := ⟨by rw [List.length_drop, hN], ⟨gw, j, rfl, Nat.lt_of_lt_of_le (Nat.lt_trans hgw HG.out.2) HR.out.l.size, fun i t ht => HC.out wr HR.out.l (j + i) t (by rw [List.getElem?_drop] at ht; exact ht)⟩, fun t ht => HSZ.out t (List.mem_of_mem_drop ht)⟩
              have hmc := rmove_any (some ⟨gw, j, none⟩) (n - j) (c - j) (ws.drop j) wr hwds (by omega) (by omega) (by omega)
              have hle := (moveR_le _ hne).1
              have hstep := movesR_step (f := n) (acc := acc) hne (by rw [List.length_drop, lw_len, hN]; omega)
              rw [HMV.out] at hstep
              rw [lw_drop] at hmc
              rw [List.length_drop, lw_len, hN] at hle
              obtain ⟨m, k, hr⟩ : ∃ m k, moveR ((lw ws).drop j) = (m, k) := ⟨_, _, rfl⟩
              rw [hr] at hmc hstep hle
              simp only [] at hstep hle
              have HMC := Lib.hid hmc
              by_cases hk : k = 0
              · subst hk
                rw [if_pos rfl] at hstep
                have HON := Lib.hid (HNO.out hstep)
                clear hstep hmc hwds hne hr hle hN
                go_wp2_with (go_at_call 43; refine HMC.out.mono ?_; rintro e w2 ⟨A4, c4, rfl, hob, hbb⟩; have HR5 := Lib.hid (HR.out.under hbb); obtain ⟨hl5, hs5, A1, a1, A2, a2, hb5, hrw5⟩ := HR.out.under hbb; have hbr := HBV.out.same ((HR.out.under hbb).l.block _ (by have := HG.out; omega)); have e0 := hb5.cell 0; have e1 := hb5.cell 1; have e2 := hb5.cell 2; have e3 := hb5.cell 3; have el := hb5.lt; have r0 := hbr.cell 0; have r1 := hbr.cell 1; have r2 := hbr.cell 2; have r3 := hbr.cell 3; have r4 := hbr.frozen 0; have r5 := hbr.frozen 1; have r6 := hbr.frozen 2; have r7 := hbr.frozen 3; have rl := hbr.lt; clear hl5 hs5 hb5 hrw5 hbr hob hbb)
                have HX := HRET.out ⟨T, B1, ord, acc⟩ w2 A1 ord.length a1 A2 acc.length a2 (HR5.out.l)
                have hal := HX.1.alloc (.cells #[.int .i64 m.op, .int .i64 m.wire, .int .i64 m.n, .slice A4 m.b.length c4] 44)
                have hbl := HX.2.alloc HX.2.size (.cells #[.int .i64 m.op, .int .i64 m.wire, .int .i64 m.n, .slice A4 m.b.length c4] 44)
                have d0 := hal.cell 0
                have d1 := hal.cell 1
                have d2 := hal.cell 2
                have d3 := hal.cell 3
                unfold lay4 at d0 d1 d2 d3 hbl
                refine bodyPost_ret (v := .tuple #[.agg #[.int .u64 (T : Int), .bool B1, .slice A1 ord.length a1, .slice A2 acc.length a2], .bool false]) (by simp [results, Tryd.results21, go_sem, d0, d1, d2, d3]) rfl ?_
                rw [HON.out]
                exact ⟨hbl, T, B1, A1, ord.length, a1, A2, acc.length, a2, rfl⟩
              · rw [if_neg hk] at hstep
                have hk' : ¬ (k : Int) = 0 := by omega
                have HST := Lib.hid hstep
                have HLE := Lib.hid hle
                have hw : IntKind.i64.wrap ((j : Int) + (k : Int)) = (j : Int) + (k : Int) := IntWalk.i64_in _ (by omega)
                clear hstep hmc hwds hne hr hle hN hk
                go_wp2_with (first
                  | (go_at_call 43; refine HMC.out.mono ?_; rintro e w2 ⟨A4, c4, rfl, hob, hbb⟩; have HR5 := Lib.hid (HR.out.under hbb); obtain ⟨hl5, hs5, A1, a1, A2, a2, hb5, hrw5⟩ := HR.out.under hbb; obtain ⟨ps, eps, hps, hys⟩ := hrw5.mvs; have hpl : ps.length = acc.length := (by have e := congrArg List.length eps; simpa using e); obtain ⟨lm, hlm⟩ : ∃ lm, (ps ++ [(⟨m, A4, c4⟩ : Ms)]).length = lm := ⟨_, rfl⟩; obtain ⟨lo, hlo⟩ : ∃ lo, ord.length = lo := ⟨_, rfl⟩; obtain ⟨la, hla⟩ : ∃ la, acc.length = la := ⟨_, rfl⟩; have hgs : g + 1 ≤ wr.heap.size := (by have := HG.out; have := HR.out.l.size; omega); have hob2 := row_own_more hob hgs; have e3 : w2.cell? ⟨g, 3, none⟩ = some (.slice A2 la a2) := (hb5.cell 3).trans (by rw [← hla]; rfl); have el := hb5.lt; have HF := Lib.hid (And.intro hl5 (And.intro hs5 (And.intro hb5 (And.intro hrw5 (And.intro eps (And.intro hps (And.intro hys (And.intro hob2 (And.intro hlm hpl))))))))); have HGS := Lib.hid hgs; have hbz := hbb.size; have HLA := Lib.hid hla; have hps2 : RM.own w2 (g + 1) (.slice A2 la a2) ps := (by rw [← HLA.out]; exact HF.out.2.2.2.2.2.1); have HPS2 := Lib.hid hps2; clear hps2; clear hl5 hs5 hb5 hrw5 eps hps hys hob hob2 hgs hlm hpl hlo hbb hla)
                  | (at_builtin; refine RowK.append (R := RM) rfl _ _ rfl (g + 1) _ ps [⟨m, A4, c4⟩] rfl (RowK.own_below (RowK.own_below HPS2.out ((Below.refl _ w2).alloc (Nat.le_refl _) _)) ((Below.refl _ _).alloc (Nat.le_refl _) _)) (some ⟨w2.heap.size + 1, 0, none⟩) 1 1 rfl rfl (fun _ => ⟨_, 0, rfl, by simp, by have h := RowK.lies_new (R := RM) (w2.alloc (.cells #[.int .i64 m.op, .int .i64 m.wire, .int .i64 m.n, .slice A4 m.b.length c4] 44)) ⟨m, A4, c4⟩ 44; rw [World.size_alloc] at h; exact h⟩) (fun e => by cases e) (by have h := HF.out.2.2.2.2.2.2.2.2.2; have := HAL.out; simp; omega) (by have := HGS.out; simp; omega) ?_; intro v1 w1 h1 hg1 hat; obtain ⟨A3, c3, rfl, _, _, _⟩ := RowK.own_shows h1; rw [HF.out.2.2.2.2.2.2.2.2.1] at h1 ⊢; rw [← HLA.out] at hg1; have HAD := Lib.hid (RS.addM (x := ⟨T, B1, ord, acc⟩) (p := ⟨m, A4, c4⟩) (ps := ps) (HF.out.1.alloc (Nat.le_trans (Nat.le_of_lt HF.out.2.1) HF.out.1.size) (.cells #[.int .i64 m.op, .int .i64 m.wire, .int .i64 m.n, .slice A4 m.b.length c4] 44)) HF.out.2.1 (HF.out.2.2.1.alloc (.cells #[.int .i64 m.op, .int .i64 m.wire, .int .i64 m.n, .slice A4 m.b.length c4] 44)) (HF.out.2.2.2.1.alloc (.cells #[.int .i64 m.op, .int .i64 m.wire, .int .i64 m.n, .slice A4 m.b.length c4] 44)) HF.out.2.2.2.2.1 (RowK.own_below HF.out.2.2.2.2.2.1 ((Below.refl _ w2).alloc (Nat.le_refl _) _)) (fun q hq => (HF.out.2.2.2.2.2.2.1 q hq).alloc _) (HF.out.2.2.2.2.2.2.2.1.alloc _) HF.out.2.2.2.2.2.2.2.2.1 h1 hg1); have q3 := HAD.out.1.cell 3; have q4 := HAD.out.1.frozen 3; have q5 := HAD.out.1.lt; clear h1 hg1 hat))
                go_roundw
                case rel => exact ⟨j + k, acc ++ [m], by go_num, by have := HLE.out; omega, by omega, Lib.hid (by rw [HST.out, List.drop_drop]), Lib.hid (by have := HAL.out; simp; omega), Lib.hid HAD.out.2⟩
                case measure => simp [intOf] <;> omega
            · obtain rfl : j = n := by omega
              have hlt' : ¬ (j : Int) < (j : Int) := by omega
              have hMV := HMV.out
              rw [List.drop_eq_nil_of_le (by rw [lw_len]; have := HN.out; omega), movesR_nil] at hMV
              obtain ⟨hin, hso⟩ := HSO.out acc hMV.symm
              have HIN := Lib.hid hin
              have HOO := Lib.hid hso
              obtain ⟨hl5, hs5, A1, a1, A2, a2, hb5, hrw5⟩ := HR.out
              have hMay := rMay_any ⟨T, B1, ord, acc⟩ _ _ wr hrw5.step
              have HMAY := Lib.hid hMay
              have e0 := hb5.cell 0
              have e1 := hb5.cell 1
              have e2 := hb5.cell 2
              have e3 := hb5.cell 3
              have el := hb5.lt
              have HB5 := Lib.hid (And.intro hl5 (And.intro hs5 (And.intro hb5 hrw5)))
              clear hMV hin hso hl5 hs5 hb5 hrw5 hMay
              go_upto_region 27 with (go_at_call 6; refine HMAY.out.mono ?_; rintro e w2 ⟨rfl, hbb⟩; have HBB := Lib.hid hbb; clear hbb)
              have HR6 := Lib.hid ((RS.mk HB5.out.1 HB5.out.2.1 ⟨A1, a1, A2, a2, HB5.out.2.2.1, HB5.out.2.2.2⟩ : RS g V ⟨T, B1, ord, acc⟩ wr).under HBB.out)
              have hb6 := HB5.out.2.2.1.same (HBB.out.block _ HB5.out.2.2.1.lt)
              have hrw6 := HB5.out.2.2.2.below HBB.out
              have hbr6 := HBV.out.same (HR6.out.l.block _ (by have := HG.out; omega))
              have HM6 := Lib.hid (And.intro hb6 (And.intro hrw6 hbr6))
              have p0 := hb6.cell 0
              have p1 := hb6.cell 1
              have p2' := hb6.cell 2
              have p3' := hb6.cell 3
              have pl := hb6.lt
              have r0 := hbr6.cell 0
              have r1 := hbr6.cell 1
              have r2 := hbr6.cell 2
              have r3 := hbr6.cell 3
              have r4 := hbr6.frozen 0
              have r5 := hbr6.frozen 1
              have r6 := hbr6.frozen 2
              have r7 := hbr6.frozen 3
              have rl := hbr6.lt
              have hm2 : Tryd.prog.follows .mixedOrders = true := by kernel_rfl
              cases hok : stOk ⟨T, B1, ord, acc⟩ with
              | false =>
                have HON : Hid (O = none) := Lib.hid (by rw [HOO.out, if_neg (fun e => by rw [hok] at e; cases e.1)])
                have HX := Lib.hid (HRET.out ⟨T, B1, ord, acc⟩ w2 A1 ord.length a1 A2 acc.length a2 HR6.out.l)
                clear hb6 hrw6 hbr6 hok e0 e1 e2 e3 el
                go_region
                go_wp2_with fail
                have hdr : Blk (lay4 w2 w.heap.size (.int .u64 (T : Int)) (.bool B1) (.slice A1 ord.length a1) (.slice A2 acc.length a2)).drew w.heap.size 30 #[.int .u64 (T : Int), .bool B1, .slice A1 ord.length a1, .slice A2 acc.length a2] := HX.out.1
                have d0 := hdr.cell 0
                have d1 := hdr.cell 1
                have d2 := hdr.cell 2
                have d3 := hdr.cell 3
                have hbl := HX.out.2.drew
                unfold lay4 at d0 d1 d2 d3 hbl
                refine bodyPost_ret (v := .tuple #[.agg #[.int .u64 (T : Int), .bool B1, .slice A1 ord.length a1, .slice A2 acc.length a2], .bool false]) (by simp [results, Tryd.results21, go_sem, d0, d1, d2, d3]) rfl ?_
                rw [HON.out]
                exact ⟨hbl, T, B1, A1, ord.length, a1, A2, acc.length, a2, rfl⟩
              | true =>
                have hwf := St.wf_of hok HIN.out
                obtain ⟨LN, hLN⟩ : ∃ LN : ByteArray, (⟨(lineB ⟨T, B1, ord, acc⟩).toArray⟩ : ByteArray) = LN := ⟨_, rfl⟩
                have hln : ∀ X, Below w2.heap.size w2 X → Calls Tryd.prog 17 #[.agg #[.int .u64 (T : Int), .bool B1, .slice A1 ord.length a1, .slice A2 acc.length a2]] X fun e w' => e = .returned (.string LN) ∧ Below X.heap.size X w' := fun X hX => by
                  rw [← hLN]
                  exact rline_any ⟨T, B1, ord, acc⟩ hok hwf _ _ X (hrw6.below hX).step
                have HLN := Lib.hid hln
                obtain ⟨BB, hBB⟩ : ∃ BB, decide (LN.data.toList = s.data.toList) = BB := ⟨_, rfl⟩
                have hq : (LN.toList == s.toList) = BB := by rw [Lib.toList_data s, seq_eq, hBB]
                have HOR : Hid ((BB = true → O = some ⟨T, B1, ord, acc⟩) ∧ (BB = false → O = none)) := Lib.hid (by
                  have hd : LN.data.toList = lineB ⟨T, B1, ord, acc⟩ := by rw [← hLN]
                  rw [HOO.out]
                  refine ⟨fun e => ?_, fun e => ?_⟩
                  · rw [e, hd] at hBB
                    rw [if_pos ⟨hok, of_decide_eq_true hBB⟩]
                  · rw [e, hd] at hBB
                    rw [if_neg (fun h => of_decide_eq_false hBB h.2)])
                clear hb6 hrw6 hbr6 hok e0 e1 e2 e3 el hwf hln hBB hLN
                go_region_with (go_at_call 17; refine (HLN.out _ (by first | exact Below.refl _ _ | exact (Below.refl _ _).drew)).mono ?_; rintro e w3 ⟨rfl, hb3⟩; have q6 := HM6.out.2.2.same (hb3.block _ HM6.out.2.2.lt); have r0 := q6.cell 0; have r1 := q6.cell 1; have r2 := q6.cell 2; have r3 := q6.cell 3; have r4 := q6.frozen 0; have r5 := q6.frozen 1; have r6 := q6.frozen 2; have r7 := q6.frozen 3; have rl := q6.lt; have y6 := HM6.out.1.same (hb3.block _ HM6.out.1.lt); have y0 := y6.cell 0; have y1 := y6.cell 1; have y2 := y6.cell 2; have y3 := y6.cell 3; have yl := y6.lt; have HB3 := Lib.hid hb3; clear hb3 q6 y6)
                all_goals
                  go_wp2_with fail
                  have hb23 : Below w2.heap.size w2 w3 := ((Below.refl _ w2).drew).trans HB3.out
                  have HX := HRET.out ⟨T, B1, ord, acc⟩ w3 A1 ord.length a1 A2 acc.length a2 (HR6.out.under hb23).l
                  have hrw7 := ((((HM6.out.2.1.below hb23).set (g := w.heap.size) (by have := HG.out; omega) 0 (.int .u64 (T : Int))).set (g := w.heap.size) (by have := HG.out; omega) 1 (.bool B1)).set (g := w.heap.size) (by have := HG.out; omega) 2 (.slice A1 ord.length a1)).set (g := w.heap.size) (by have := HG.out; omega) 3 (.slice A2 acc.length a2)
                  have d0 := HX.1.cell 0
                  have d1 := HX.1.cell 1
                  have d2 := HX.1.cell 2
                  have d3 := HX.1.cell 3
                  have hbl := HX.2
                  unfold lay4 at d0 d1 d2 d3 hbl
                  refine bodyPost_ret (v := .tuple #[.agg #[.int .u64 (T : Int), .bool B1, .slice A1 ord.length a1, .slice A2 acc.length a2], .bool BB]) (by simp [results, Tryd.results21, go_sem, d0, d1, d2, d3]) rfl ?_
                  cases BB with
                  | true =>
                    rw [HOR.out.1 rfl]
                    exact ⟨hbl, _, _, rfl, hrw7.more (by have := HG.out; omega)⟩
                  | false =>
                    rw [HOR.out.2 rfl]
                    exact ⟨hbl, T, B1, A1, ord.length, a1, A2, acc.length, a2, rfl⟩
end Go.Proofs.YtlephnfepofbbaaDoor
