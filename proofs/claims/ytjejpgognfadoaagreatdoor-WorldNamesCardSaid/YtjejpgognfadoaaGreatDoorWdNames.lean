/-
  WorldNames.
-/
import Derived.Test.YtjejpgognfadoaaGreatDoorWdNm
namespace Go.Proofs.YtjejpgognfadoaaGreatDoor
open Go.RowKit Go.Shelf Go.Maps Go.ChangeMaps

set_option maxRecDepth 100000 in
set_option maxHeartbeats 8000000 in
theorem wnames_any (w : World) : Calls Tryz.prog 3 #[] w fun x w' => x = .returned (.bool true) ∧ Below w.heap.size w w' := by
  have kc := fun (w : World) (C : Array Value) (n c : Nat) => Lib.run_convert_bytes_const (P := Tryz.prog) w 29 5 C n c Tryz.underlying29 Tryz.underlying5
  have fl3 := field_hup
  have fl1 := field_in
  go_enter Tryz.func3, Tryz.ntmps3
  go_wp2_with fail
  refine (Oq.new (Nat.le_refl _) (Below.refl _ w)).mono ?_
  rintro e w1 ⟨p, rfl, O⟩
  have HO := Lib.hid O
  clear O
  have HT := Lib.hid (HO.out.go fun D h => h.outer 4 (by omega) (by omega) (by decide) frees_new)
  clear HO
  go_wp2_with fail
  refine HT.out.mono ?_
  rintro e w2 ⟨rfl, O⟩
  have HO := Lib.hid (show Oq w.heap.size w p (Z1 q0) _ _ _ w2 from O)
  clear O HT
  have HT := Lib.hid (HO.out.go fun D h => h.putC (n := 0) (Z1_out q0_out) q0_can [100] (1, 2) (by decide) (by decide) q1_put)
  clear HO
  go_wp2_with fail
  refine HT.out.mono ?_
  rintro e w3 ⟨rfl, O⟩
  have HO := Lib.hid (show Oq w.heap.size w p (Z1 q1) _ _ _ w3 from O)
  clear O HT
  have HT := Lib.hid (HO.out.read (n := 0) (Z1_fd q1) (Z1_get q1) 9 (by decide) (by decide) q1_read)
  clear HO
  go_wp2_with fail
  refine HT.out.mono ?_
  rintro e w4 ⟨vb, rfl, O⟩
  have HO := Lib.hid (show Oq w.heap.size w p (Z1 q2) _ _ _ w4 from O)
  clear O HT
  have HT := Lib.hid (HO.out.read (n := 0) (Z1_fd q2) (Z1_get q2) 9 (by decide) (by decide) q2_read)
  clear HO
  go_wp2_with fail
  refine HT.out.mono ?_
  rintro e w5 ⟨vn, rfl, O⟩
  have HO := Lib.hid (show Oq w.heap.size w p (Z1 q2) _ _ _ w5 from O)
  clear O HT
  have HT := Lib.hid (HO.out.go fun D h => h.peerShut (n := 0) (Z1_out q2_out) (by decide))
  clear HO
  go_wp2_with fail
  refine HT.out.mono ?_
  rintro e w6 ⟨rfl, O⟩
  have HO := Lib.hid (show Oq w.heap.size w p (Z1 q3) _ _ _ w6 from O)
  clear O HT
  have HT := Lib.hid (HO.out.read (n := 0) (Z1_fd q3) (Z1_get q3) 9 (by decide) (by decide) q3_read)
  clear HO
  go_wp2_with fail
  refine HT.out.mono ?_
  rintro e w7 ⟨vm, rfl, O⟩
  have HO := Lib.hid (show Oq w.heap.size w p (Z1 q3) _ _ _ w7 from O)
  clear O HT
  have HT := Lib.hid (HO.out.go fun D h => h.writeC (n := 0) (Z1_fd q3) (Z1_get q3) [49, 50, 51, 52, 53] (5, 6) (by decide) (by decide) q3_write)
  clear HO
  go_wp2_with fail
  refine HT.out.mono ?_
  rintro e w8 ⟨rfl, O⟩
  have HO := Lib.hid (show Oq w.heap.size w p (Z1 q4) _ _ _ w8 from O)
  clear O HT
  have HT := Lib.hid (HO.out.take (n := 0) (Z1_out q4_out) q4_can 2 (by decide) (by decide) q4_take)
  clear HO
  go_wp2_with fail
  refine HT.out.mono ?_
  rintro e w9 ⟨vc, rfl, O⟩
  have HO := Lib.hid (show Oq w.heap.size w p (Z1 q5) _ _ _ w9 from O)
  clear O HT
  have HT := Lib.hid (HO.out.go fun D h => h.ready (n := 0) (Z1_fd q5) (Z1_get q5) q5_ready)
  clear HO
  unfold rdyV at HT
  go_wp2_with fail
  refine HT.out.mono ?_
  rintro e w10 ⟨rfl, O⟩
  have HO := Lib.hid (show Oq w.heap.size w p (Z1 q5) _ _ _ w10 from O)
  clear O HT
  have HO := Lib.hid (HO.out.alloc #[.bool true, .bool true, .bool true, .bool false, .bool false, .int .u64 2, .int .u64 1] 37)
  have HT := Lib.hid (HO.out.go fun D h => h.peerClose (n := 0) (Z1_out q5_out) (by decide))
  clear HO
  go_wp2_with fail
  refine HT.out.mono ?_
  rintro e w11 ⟨rfl, O⟩
  have HO := Lib.hid (show Oq w.heap.size w p (Z1 q6) _ _ _ w11 from O)
  clear O HT
  have HT := Lib.hid (HO.out.go fun D h => h.writeC (n := 0) (Z1_fd q6) (Z1_get q6) [49] (1, 2) (by decide) (by decide) q6_write)
  clear HO
  go_wp2_with fail
  refine HT.out.mono ?_
  rintro e w12 ⟨rfl, O⟩
  have HO := Lib.hid (show Oq w.heap.size w p (Z1 q6) _ _ _ w12 from O)
  clear O HT
  have hQ := HO.out.q
  have hs1 := rowB_str hQ.1.1.1.1.2
  have hs2 := rowB_str hQ.1.2
  rw [show strOfNums [100] = ⟨#[100]⟩ from by decide] at hs1
  rw [show strOfNums [49, 50] = ⟨#[49, 50]⟩ from by decide] at hs2
  have hb := hQ.2
  have lb := hb.lt
  have c6 := hb.cell 6
  simp at c6
  clear kc hQ hb
  have HT := Lib.hid (HO.out.go fun D h => h.ready (n := 0) (Z1_fd q6) (Z1_get q6) q6_ready)
  clear HO
  unfold rdyV at HT
  go_wp2_with fail
  refine HT.out.mono ?_
  rintro e w13 ⟨rfl, O⟩
  have HO := Lib.hid (show Oq w.heap.size w p (Z1 q6) _ _ _ w13 from O)
  clear O HT
  clear hs1 hs2 lb c6
  have HO := Lib.hid (show Oq w.heap.size w p (Z1 q6) 900 All (fun _ => True) w13 from HO.out.rest (by decide))
  have HT := Lib.hid (HO.out.listen 1 (by omega) (by omega) (by decide) ((congrArg (·[0]?) (frees_F (Z1 q6) rfl)).trans fr1))
  clear HO
  go_wp2_with fail
  refine HT.out.mono ?_
  rintro e w14 ⟨rfl, O⟩
  have HO := Lib.hid (show Oq w.heap.size w p (Z2 q6) _ _ _ w14 from O)
  clear O HT
  have HT := Lib.hid (HO.out.connect (i := 1) (x := y0) rfl rfl (by decide) (by decide) rfl 9 (by omega) (by omega) (by decide) (by decide))
  clear HO
  go_wp2_with fail
  refine HT.out.mono ?_
  rintro e w15 ⟨rfl, O⟩
  have HO := Lib.hid (show Oq w.heap.size w p (Z3 q6) _ _ _ w15 from O)
  clear O HT
  have HT := Lib.hid (HO.out.connect2 (i := 1) (x := y1) rfl (by decide) (by decide) rfl rfl 9 (by omega) (by omega))
  clear HO
  go_wp2_with fail
  refine HT.out.mono ?_
  rintro e w16 ⟨rfl, O⟩
  have HO := Lib.hid (show Oq w.heap.size w p (Z3 q6) _ _ _ w16 from O)
  clear O HT
  have HT := Lib.hid (HO.out.accept (n := 1) (i := 1) (j := 2) (k := false) (l := []) (x := y1) (y := outW 9) rfl rfl rfl (by decide) (by decide) ((congrArg (·[0]?) (frees_F (Z3 q6) rfl)).trans fr2) rfl (by decide))
  clear HO
  go_wp2_with fail
  refine HT.out.mono ?_
  rintro e w17 ⟨rfl, O⟩
  have HO := Lib.hid (show Oq w.heap.size w p (Z4 q6) _ _ _ w17 from O)
  clear O HT
  have HT := Lib.hid (HO.out.go fun D h => h.pair 8 (by omega) (by omega) (by decide) ((congrArg (·[0]?) (frees_F (Z4 q6) rfl)).trans fr3) ((congrArg (·[1]?) (frees_F (Z4 q6) rfl)).trans fr3'))
  clear HO
  go_wp2_with fail
  refine HT.out.mono ?_
  rintro e w18 ⟨rfl, O⟩
  have HO := Lib.hid (show Oq w.heap.size w p (Z5 q6 v0 T.new none) _ _ _ w18 from O)
  clear O HT
  have HT := Lib.hid (HO.out.notice (a := 3) (b := 4) (i := 3) (k := false) (x := v0) (Z5_fd3 _ _ _ _) (Z5_fd4 _ _ _ _) (Z5_get _ _ _ _) (fun j => by cases j <;> rfl) (by decide) t_le.1 (Z5_notice q6))
  clear HO
  go_wp2_with fail
  refine HT.out.mono ?_
  rintro e w19 ⟨rfl, O⟩
  have HO := Lib.hid (show Oq w.heap.size w p (Z5 q6 v1 T.new (some (3, false))) _ _ _ w19 from O)
  clear O HT
  have HT := Lib.hid (HO.out.handle 2 true (by decide) (Z5_ntc _ (by rfl) _) t_le.1 (Z5_handle q6))
  clear HO
  rw [show code 2 = 0 from by decide] at HT
  go_wp2_with fail
  refine HT.out.mono ?_
  rintro e w20 ⟨rfl, O⟩
  have HO := Lib.hid (show Oq w.heap.size w p (Z5 q6 v2 t1 (some (3, false))) _ _ _ w20 from O)
  clear O HT
  have HT := Lib.hid (HO.out.raise 2 (by decide) (Z5_ntc _ (by rfl) _) t_le.2.1 (Z5_raise q6))
  clear HO
  rw [show code 2 = 0 from by decide] at HT
  go_wp2_with fail
  refine HT.out.mono ?_
  rintro e w21 ⟨rfl, O⟩
  have HO := Lib.hid (show Oq w.heap.size w p (Z5 q6 v3 t2 (some (3, false))) _ _ _ w21 from O)
  clear O HT
  have HT := Lib.hid (HO.out.raise 2 (by decide) (Z5_ntc _ (by rfl) _) t_le.2.2 (Z5_raise2 q6))
  clear HO
  rw [show code 2 = 0 from by decide] at HT
  go_wp2_with fail
  refine HT.out.mono ?_
  rintro e w22 ⟨rfl, O⟩
  have HO := Lib.hid (show Oq w.heap.size w p (Z5 q6 v3 t3 (some (3, false))) _ _ _ w22 from O)
  clear O HT
  have HT := Lib.hid (HO.out.go fun D h => h.ready (n := 3) (Z5_fd3 _ _ _ _) (Z5_get _ _ _ _) v3_ready)
  clear HO
  unfold rdyV at HT
  go_wp2_with fail
  refine HT.out.mono ?_
  rintro e w23 ⟨rfl, O⟩
  have HO := Lib.hid (show Oq w.heap.size w p (Z5 q6 v3 t3 (some (3, false))) _ _ _ w23 from O)
  clear O HT
  have HT := Lib.hid (HO.out.signals (by decide) (Z5_ntc _ (by rfl) _) (Z5_signals q6) t3_pend)
  clear HO
  go_wp2_with fail
  refine HT.out.mono ?_
  rintro e w24 ⟨v, rfl, O⟩
  have HO := Lib.hid (show Oq w.heap.size w p (Z5 q6 v4 t3.idle (some (3, false))) _ _ _ w24 from O)
  obtain ⟨g, c, rfl, lg, x0, x1⟩ := rc_at2 O.q.2 (i := 0) (x := (2, 2)) rfl
  simp at x0 x1
  have ec := eq_22
  clear O HT
  have HT := Lib.hid (HO.out.go fun D h => h.ready (n := 3) (Z5_fd3 _ _ _ _) (Z5_get _ _ _ _) v4_ready)
  clear HO
  unfold rdyV at HT
  go_wp2_with fail
  refine HT.out.mono ?_
  rintro e w25 ⟨rfl, O⟩
  have HO := Lib.hid (show Oq w.heap.size w p (Z5 q6 v4 t3.idle (some (3, false))) _ _ _ w25 from O)
  clear O HT
  clear ec lg x0 x1
  have HO := Lib.hid (HO.out.alloc #[.pointer none] 48)
  have HU := Lib.hid (un_nil (w25.alloc (.cells #[.pointer none] 48)))
  have HZ := Lib.hid (un_zero HO.out.q.2)
  have er := eq_rdy0
  obtain ⟨wz, hwz⟩ : ∃ wz, wz = w25.alloc (.cells #[.pointer none] 48) := ⟨_, rfl⟩
  have HW := Lib.hid hwz
  rw [← hwz] at HO HU HZ
  have HP := Lib.hid (un_pipe HU.out 1)
  clear hwz
  go_wp2_with fail
  rw [← HW.out]
  refine HP.out.mono ?_
  rintro e w1 ⟨rfl, rfl⟩
  have HT := Lib.hid (un_listen HZ.out 99)
  go_wp2_with fail
  refine HT.out.mono ?_
  rintro e w1 ⟨rfl, rfl⟩
  go_wp2_with fail
  refine (un_put HU.out 0 (.slice none 0 0)).mono ?_
  rintro e w1 ⟨rfl, rfl⟩
  go_wp2_with fail
  refine (un_connect HZ.out 0 0).mono ?_
  rintro e w1 ⟨rfl, rfl⟩
  go_wp2_with fail
  refine (un_pass HZ.out 9).mono ?_
  rintro e w1 ⟨rfl, rfl⟩
  go_wp2_with fail
  refine (un_close HU.out 0).mono ?_
  rintro e w1 ⟨rfl, rfl⟩
  go_wp2_with fail
  refine (un_raise HZ.out 1).mono ?_
  rintro e w1 ⟨rfl, rfl⟩
  go_wp2_with fail
  refine (un_notice HU.out 0 1).mono ?_
  rintro e w1 ⟨rfl, rfl⟩
  go_wp2_with fail
  refine (un_reset HU.out 0).mono ?_
  rintro e w1 ⟨rfl, rfl⟩
  go_wp2_with fail
  refine (un_now HZ.out).mono ?_
  rintro e w1 ⟨rfl, rfl⟩
  go_wp2_with fail
  refine (un_fds HU.out).mono ?_
  rintro e w1 ⟨rfl, rfl⟩
  go_wp2_with fail
  refine (un_image HU.out).mono ?_
  rintro e w1 ⟨rfl, rfl⟩
  go_wp2_with fail
  refine (un_signals HZ.out).mono ?_
  rintro e w1 ⟨rfl, rfl⟩
  go_wp2_with fail
  refine (nil_ready wz 0).mono ?_
  rintro e w2 ⟨rfl, hk⟩
  unfold rdy0
  have HO := Lib.hid (HO.out.grew (hk.below (fun _ e => e.elim) (Nat.le_refl _)))
  clear hk
  go_wp2_with fail
  refine (walive_any w2).mono ?_
  rintro e w3 ⟨rfl, hb⟩
  have HE := Lib.hid (HO.out.grew hb).bel
  clear hb
  go_wp2_with fail
  go_ret
  exact ⟨rfl, HE.out⟩
end Go.Proofs.YtjejpgognfadoaaGreatDoor
