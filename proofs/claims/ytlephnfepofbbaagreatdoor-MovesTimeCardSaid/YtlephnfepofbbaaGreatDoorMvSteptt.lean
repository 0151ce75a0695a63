/-
  The writer of a step, one of its four ways.
-/
import Derived.Test.YtlephnfepofbbaaGreatDoorMvStepH
namespace Go.Proofs.YtlephnfepofbbaaGreatDoor
open Go.RowKit
variable {E : Prop}

set_option maxRecDepth 100000 in
set_option maxHeartbeats 8000000 in
theorem appendStep_tt (B : Nat) (v ov mv : Value) (bs : List UInt8) (t : Nat) (ord : List Int) (ms : List Mo) (hord : ord ≠ []) (hok : stOk ⟨t, true, ord, ms⟩ = true) (hwf : St.Wf ⟨t, true, ord, ms⟩) (w : World) (hown : OwB B w v bs) (hE : EnvP E B w) (hx : StepV (Lt B) w ov mv ⟨t, true, ord, ms⟩) (hl : bs.length ≤ 50000000) :
    Calls Tryz.prog 43 #[v, .agg #[.int .u64 (t : Int), .bool true, ov, mv]] w (AppP B w bs (lineB ⟨t, true, ord, ms⟩ ++ [10])) := by
  obtain ⟨hO, hM⟩ := hx
  obtain ⟨A, c, rfl, a1, a2, a3⟩ := hO.form
  obtain ⟨F, d, rfl, b1, b2, b3⟩ := hM.form
  obtain ⟨s1, s2, s3, s4⟩ := stOk_parts hok
  have hw3 := hwf.2.2
  have ht := hwf.1
  simp only [] at a1 b1 s1 s2 s3 s4 hw3 ht hO hM ⊢
  obtain ⟨D, hD⟩ : ∃ D, Lib.decDigits t = D := ⟨_, rfl⟩
  have hDl : D.length ≤ 20 := by rw [← hD]; exact dec_len t (by omega)
  obtain ⟨O, hOo⟩ : ∃ O, ordB ord = O := ⟨_, rfl⟩
  have hOl : O.length ≤ 1100 := by rw [← hOo]; have := ordB_len ord s3; omega
  have HR : Hid (lineB ⟨t, true, ord, ms⟩ = (wStep ++ 32 :: D ++ 32 :: wIntr ++ 32 :: wOrder ++ 32 :: O) ++ ms.flatMap fun m => sp (moveWs m)) := Lib.hid (by
    rw [line_eq, hD, hOo]
    simp only []
    rw [if_pos trivial, if_neg hord]
    simp)
  generalize lineB ⟨t, true, ord, ms⟩ = R at HR ⊢
  obtain ⟨n, hn⟩ : ∃ n, ord.length = n := ⟨_, rfl⟩
  obtain ⟨k, hk⟩ : ∃ k, ms.length = k := ⟨_, rfl⟩
  rw [hn] at a1 s2 hO ⊢
  rw [hk] at b1 s1 hM ⊢
  have hS := wr_new hown hE 36 #[.int .u64 (t : Int), .bool true, .slice A n c, .slice F k d]
  have HS := Lib.hid hS
  have HL := Lib.hid (And.intro hl (And.intro hDl hOl))
  have HO := Lib.hid (And.intro hO s3)
  have HM := Lib.hid (And.intro hM (And.intro s4 hw3))
  have HD := Lib.hid hD
  have HOO := Lib.hid hOo
  have HN := Lib.hid hn
  have HK := Lib.hid hk
  have HNE := Lib.hid hord
  have hn0 : 0 < n := by have : 0 < ord.length := List.length_pos_iff.2 hord; omega
  have hn1 : decide (0 < n) = true := decide_eq_true hn0
  have hn2 : decide ((0 : Int) < (n : Int)) = true := decide_eq_true (by omega)
  clear hown hE hl hS a3 b3 hok hwf hO hM s3 s4 hw3 hD hOo hn hord hk hDl hOl
  go_enter Tryz.func43, Tryz.ntmps43
  go_wp2_with (at_builtin; refine app_str rfl _ _ rfl B v bs rfl HS.out.own ⟨#[115, 116, 101, 112]⟩ rfl (by have := HL.out.1; show bs.length + 4 ≤ _; omega) HS.out.env.le ?_; intro v1 w1 h1 hb1; have H1 := Lib.hid (HS.out.app (by decide) h1 hb1); have H1a := Lib.hid (H1.out.alloc (.cells #[.int .u8 32] 5)); clear h1 hb1; refine Hid.out ?_)
  refine Lib.hid ?_
  go_wp2_with (at_builtin; refine app_one rfl _ _ rfl B v1 _ rfl H1a.out.own 32 w1.heap.size rfl (cell_of_row _ _ 0 _ _ (0, 0) (heap_alloc_new w1 _)) (by have := HL.out.1; simp; omega) H1a.out.env.le ?_; intro v2 w2 h2 hb2; have H2 := Lib.hid (H1a.out.app (by decide) h2 hb2); clear h2 hb2; refine Hid.out ?_)
  refine Lib.hid ?_
  have k0 := H2.out.blk.cell 0
  have k1 := H2.out.blk.cell 1
  simp at k0 k1
  have HU := Lib.hid (appUint_any B v2 _ t ht w2 H2.out.own H2.out.env.le (by have := HL.out.1; simp; omega) H2.out.env)
  go_wp2_with (go_at_call 87; refine HU.out.mono ?_; rintro e w3 ⟨v3, rfl, h3, hb3⟩; have H3 := Lib.hid (H2.out.app (by decide) h3 hb3); clear h3 hb3 k0 k1; refine Hid.out ?_)
  refine Lib.hid ?_
  have k0 := H3.out.blk.cell 0
  have k1 := H3.out.blk.cell 1
  have k2 := H3.out.blk.cell 2
  have k3 := H3.out.blk.cell 3
  simp at k0 k1 k2 k3
  have HA4 := Lib.hid (H3.out.word (by decide) ⟨#[105, 110, 116, 114]⟩ [105, 110, 116, 114] rfl (by have := HL.out; simp [HD.out]; omega))
  go_wp2_with (go_at_call 88; refine HA4.out.mono ?_; rintro e w4 ⟨v4, rfl, h4⟩; clear k0 k1 k2 k3; have H4 := Lib.hid h4; clear h4; have k2 := H4.out.blk.cell 2; have k3 := H4.out.blk.cell 3; simp at k2 k3; refine Hid.out ?_)
  refine Lib.hid ?_
  have HA5 := Lib.hid (H4.out.word (by decide) ⟨#[111, 114, 100, 101, 114]⟩ [111, 114, 100, 101, 114] rfl (by have := HL.out; simp [HD.out]; omega))
  go_wp2_with (go_at_call 88; refine HA5.out.mono ?_; rintro e w5 ⟨v5, rfl, h5⟩; clear k2 k3; have H5 := Lib.hid h5; clear h5; have k2 := H5.out.blk.cell 2; have k3 := H5.out.blk.cell 3; simp at k2 k3; refine Hid.out ?_)
  refine Lib.hid ?_
  have HA6 := Lib.hid (appendOrder_any B v5 _ _ ord HNE.out w5 H5.out.own H5.out.env.le H5.out.env (HO.out.1.below H5.out.fr.b) (by have := HN.out; omega) HO.out.2 (by have := HL.out; simp [HD.out]; omega))
  go_wp2_with (go_at_call 89; refine HA6.out.mono ?_; rintro e w6 ⟨v6, rfl, h6, hb6⟩; clear k2 k3; have H6 := Lib.hid (H5.out.app (by decide) h6 hb6); clear h6 hb6; have k3 := H6.out.blk.cell 3; simp at k3; refine Hid.out ?_)
  refine Lib.hid ?_
  obtain ⟨bh, hbh⟩ : ∃ bh, bh = bs ++ (wStep ++ 32 :: D ++ 32 :: wIntr ++ 32 :: wOrder ++ 32 :: O) := ⟨_, rfl⟩
  have HS7 : Hid (Wrt E B w.heap.size 36 #[.int .u64 (t : Int), .bool true, .slice A n c, .slice F k d] w w6 v6 bh) := Lib.hid (by have := H6.out; rw [hbh]; simpa [HD.out, HOO.out, wStep, wIntr, wOrder] using this)
  have hbl : bh.length ≤ 50001500 := by have := HL.out; rw [hbh]; simp [wStep, wIntr, wOrder]; omega
  have HBH := Lib.hid hbh
  have HBL := Lib.hid hbl
  clear hbh hbl
  go_wp2_with fail
  clear k3
  go_loopw [0, 33] (fun o i wr => ∃ (j : Nat) (T : List UInt8), j ≤ k ∧ i = .int .i64 j ∧ Hid (T = (ms.take j).flatMap fun m => sp (moveWs m)) ∧ Hid (Wrt E B w.heap.size 36 #[.int .u64 (t : Int), .bool true, .slice A n c, .slice F k d] w wr o (bh ++ T))) (fun _ i _ => k - (intOf i).toNat)
  case atStart => exact ⟨0, [], Nat.zero_le _, rfl, Lib.hid rfl, Lib.hid (by rw [List.append_nil]; exact HS7.out)⟩
  case round =>
    obtain ⟨j, T, hj, rfl, HT, HSr⟩ := hrel
    by_cases hlt : j < k
    · have hlt' : (j : Int) < (k : Int) := by omega
      have hjl : j < ms.length := by have := HK.out; omega
      obtain ⟨g, off, dv, rfl, hg, hg2, ⟨q0, q1, q2, q3⟩, hSm⟩ := HM.out.1.at_ (k := j) hjl
      have q0 := (HSr.out.fr.b.cell (p := ⟨g, off + j * 4, none⟩) hg).trans q0
      have q1 := (HSr.out.fr.b.cell (p := ⟨g, off + j * 4 + 1, none⟩) hg).trans q1
      have q2 := (HSr.out.fr.b.cell (p := ⟨g, off + j * 4 + 2, none⟩) hg).trans q2
      have q3 := (HSr.out.fr.b.cell (p := ⟨g, off + j * 4 + 3, none⟩) hg).trans q3
      obtain ⟨z, hz⟩ : ∃ z, ms[j] = z := ⟨_, rfl⟩
      have hzm : z ∈ ms := by rw [← hz]; exact List.getElem_mem _
      have hT2 : T ++ sp (moveWs z) = (ms.take (j + 1)).flatMap fun m => sp (moveWs m) := by
        rw [List.take_add_one, List.getElem?_eq_getElem hjl, hz, Option.toList_some, List.flatMap_append, HT.out]; simp
      have hTl : T.length ≤ 103000 := by
        rw [HT.out]
        have h1 := movesB_len (ms.take j) (fun m hm => HM.out.2.1 m (List.mem_of_mem_take hm)) (fun m hm => HM.out.2.2 m (List.mem_of_mem_take hm))
        have h2 : (ms.take j).length ≤ j := List.length_take_le _ _
        omega
      rw [hz] at q0 q1 q2 hSm
      obtain ⟨E, e, rfl, e1, e2, e3⟩ := hSm.form
      have HC := Lib.hid (appendMove_any B u0 (.slice E z.b.length e) _ z (HM.out.2.1 z hzm) (HM.out.2.2 z hzm) (wr.alloc (.cells #[.int .i64 z.op, .int .i64 z.wire, .int .i64 z.n, .slice E z.b.length e] 25)) (HSr.out.alloc _).own (HSr.out.alloc _).env (hSm.below ((HSr.out.alloc _).fr.b)) (by have := HBL.out; simp; omega))
      have HT2 := Lib.hid hT2
      clear hz hg hg2 hT2 hTl hSm e1 e2 e3 hzm
      go_wp2_with (go_at_call 90; refine HC.out.mono ?_; rintro e w8 ⟨v8, rfl, h8, hb8⟩; have H8 := Lib.hid ((HSr.out.alloc _).app (by decide) h8 hb8); clear h8 hb8)
      go_roundw
      case rel => exact ⟨j + 1, _, by omega, by go_num, HT2, Lib.hid (by have := H8.out; rwa [List.append_assoc] at this)⟩
      case measure => simp [intOf]; omega
    · obtain rfl : j = k := by omega
      have hlt' : ¬ (j : Int) < (j : Int) := by omega
      have hTl : T.length ≤ 103000 := by
        rw [HT.out]
        have h1 := movesB_len (ms.take j) (fun m hm => HM.out.2.1 m (List.mem_of_mem_take hm)) (fun m hm => HM.out.2.2 m (List.mem_of_mem_take hm))
        have h2 : (ms.take j).length ≤ j := List.length_take_le _ _
        omega
      have HTL := Lib.hid hTl
      have HT2 : Hid (T = ms.flatMap fun m => sp (moveWs m)) := Lib.hid (by rw [HT.out, List.take_of_length_le (by have := HK.out; omega)])
      clear hTl
      go_wp2_with (at_builtin; refine app_one rfl _ _ rfl B _ _ rfl (HSr.out.alloc _).own 10 wr.heap.size rfl (cell_of_row _ _ 0 _ _ (0, 0) (heap_alloc_new wr _)) (by have := HBL.out; have := HTL.out; simp; omega) (HSr.out.alloc _).env.le ?_; intro v9 w9 h9 hb9; have H9 := Lib.hid ((HSr.out.alloc _).app (by decide) h9 hb9); clear h9 hb9)
      go_ret
      exact ⟨_, rfl, by have := H9.out.own; rw [HBH.out, HT2.out] at this; rw [HR.out]; simpa using this, H9.out.fr⟩
end Go.Proofs.YtlephnfepofbbaaGreatDoor
