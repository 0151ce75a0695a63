/-
  The reader's part: a word that begins a part of the step.
-/
import Derived.Test.YtlephnfepofbbaaGreatDoorMvMeth
namespace Go.Proofs.YtlephnfepofbbaaGreatDoor
open Go.RowKit Go.Shelf Go.Maps Go.ChangeMaps

def tabA : Array Value := #[.string ⟨#[]⟩, .string ⟨#[112, 117, 116]⟩, .string ⟨#[116, 97, 107, 101]⟩, .string ⟨#[115, 104, 117, 116]⟩, .string ⟨#[99, 108, 111, 115, 101]⟩, .string ⟨#[114, 101, 115, 101, 116]⟩, .string ⟨#[99, 111, 110, 110, 101, 99, 116]⟩, .string ⟨#[114, 97, 105, 115, 101]⟩]
theorem tab_run (j : Nat) (hj : j < 8) : ∃ K : ByteArray, K.data.toList = wordN j ∧ ∀ V, (Instr.index 154 (.agg #[.string ⟨#[]⟩, .string ⟨#[112, 117, 116]⟩, .string ⟨#[116, 97, 107, 101]⟩, .string ⟨#[115, 104, 117, 116]⟩, .string ⟨#[99, 108, 111, 115, 101]⟩, .string ⟨#[114, 101, 115, 101, 116]⟩, .string ⟨#[99, 111, 110, 110, 101, 99, 116]⟩, .string ⟨#[114, 97, 105, 115, 101]⟩]) (.int .i64 (j : Int))).run Tryz.prog V = .ok (.string K) V := by
  have hc : j = 0 ∨ j = 1 ∨ j = 2 ∨ j = 3 ∨ j = 4 ∨ j = 5 ∨ j = 6 ∨ j = 7 := by omega
  rcases hc with rfl | rfl | rfl | rfl | rfl | rfl | rfl | rfl
  · exact ⟨⟨(wordN 0).toArray⟩, rfl, fun V => by kernel_rfl⟩
  · exact ⟨⟨(wordN 1).toArray⟩, rfl, fun V => by kernel_rfl⟩
  · exact ⟨⟨(wordN 2).toArray⟩, rfl, fun V => by kernel_rfl⟩
  · exact ⟨⟨(wordN 3).toArray⟩, rfl, fun V => by kernel_rfl⟩
  · exact ⟨⟨(wordN 4).toArray⟩, rfl, fun V => by kernel_rfl⟩
  · exact ⟨⟨(wordN 5).toArray⟩, rfl, fun V => by kernel_rfl⟩
  · exact ⟨⟨(wordN 6).toArray⟩, rfl, fun V => by kernel_rfl⟩
  · exact ⟨⟨(wordN 7).toArray⟩, rfl, fun V => by kernel_rfl⟩
theorem opOf_none {s : List UInt8} (h : ∀ k, 1 ≤ k → k < 8 → s ≠ wordN k) : opOf s = none := by
  cases ho : opOf s with
  | none => rfl
  | some k => obtain ⟨h1, h2, h3⟩ := opOf_some ho; exact absurd h1 (h k h2 (by omega))
theorem opOf_is {s : List UInt8} {k : Nat} (h1 : 1 ≤ k) (h2 : k < 8) (h : s = wordN k) : opOf s = some k := by rw [h]; exact opOf_word k h1 (by omega)
set_option maxRecDepth 100000 in
set_option maxHeartbeats 16000000 in
theorem part_loop (N g nx : Nat) (hnx : nx = 3 ∨ nx = 4 ∨ nx = 5) (st : St) (mv : Mo) (hmv : st.mv.length ≤ 50) (s : ByteArray) (w : World) (hE : RdE N g w) (hR : Rdm N g nx st mv w)
    (h1 : ¬ (s.data.toList = wIntr ∧ nx = 3)) (h2 : ¬ (s.data.toList = wOrder ∧ nx ≠ 5)) :
    Calls Tryz.prog 78 #[.pointer (some ⟨g, 0, none⟩), .string s] w (MethR N g nx w (match opOf s.data.toList with | some k => fromR 6 st ⟨(k : Int), 0, 0, []⟩ | none => none)) := by
  have c0 : w.cell? ⟨g, 0, none⟩ = some (.int .i64 (nx : Int)) := by
    obtain ⟨ov, mvv, dv, b1, r1⟩ := hR
    exact b1.cell 0
  have gl : g < w.heap.size := by
    obtain ⟨ov, mvv, dv, b1, r1⟩ := hR
    exact b1.lt
  obtain ⟨o, ho⟩ : ∃ o, opOf s.data.toList = o := ⟨_, rfl⟩
  rw [ho]
  have HOP := Lib.hid ho
  have HE := Lib.hid hE
  have HR := Lib.hid hR
  have HM := Lib.hid hmv
  obtain ⟨t1, t2, t3, t4, t5, t6, t7, t0⟩ := hE.env.w
  obtain ⟨bI, hI⟩ : ∃ b, (s.toList == [105, 110, 116, 114]) = b := ⟨_, rfl⟩
  obtain ⟨bO, hO⟩ : ∃ b, (s.toList == [111, 114, 100, 101, 114]) = b := ⟨_, rfl⟩
  have hI' : decide (s.data.toList = wIntr) = bI := by rw [← hI, seq_eq]; rfl
  have hO' : decide (s.data.toList = wOrder) = bO := by rw [← hO, seq_eq]; rfl
  have hcase : (nx = 3 ∧ bI = false ∧ bO = false) ∨ (nx = 4 ∧ bI = true ∧ bO = false) ∨ (nx = 4 ∧ bI = false ∧ bO = false) ∨ (nx = 5 ∧ bI = true ∧ bO = false) ∨ (nx = 5 ∧ bI = false ∧ bO = true) ∨ (nx = 5 ∧ bI = false ∧ bO = false) := by
    have hx : ¬ (bI = true ∧ bO = true) := fun e => by
      rw [← hI', ← hO'] at e
      have a := of_decide_eq_true e.1
      have b := of_decide_eq_true e.2
      rw [a] at b; revert b; decide
    cases bI <;> cases bO <;> rcases hnx with rfl | rfl | rfl <;> simp_all
  clear hE hR hmv ho h1 h2 hI' hO' hnx
  rcases hcase with ⟨hq, rfl, rfl⟩ | ⟨hq, rfl, rfl⟩ | ⟨hq, rfl, rfl⟩ | ⟨hq, rfl, rfl⟩ | ⟨hq, rfl, rfl⟩ | ⟨hq, rfl, rfl⟩
  all_goals
    rw [hq] at c0
    clear hq
    go_enter Tryz.func78, Tryz.ntmps78
    go_wp2_with fail
    clear hI hO c0 t1 t2 t3 t4 t5 t6 t7 t0
    go_loop [32] (fun i => ∃ j : Nat, j ≤ 8 ∧ i = .int .i64 j ∧ Hid (∀ k, 1 ≤ k → k < j → s.data.toList ≠ wordN k)) (fun i => 8 - (intOf i).toNat)
    case atStart => exact ⟨0, by omega, rfl, Lib.hid (fun k h1 h2 => by omega)⟩
    case round =>
      obtain ⟨j, hj, rfl, HN⟩ := hrel
      by_cases hlt : j < 8
      · have hlt' : (j : Int) < 8 := by omega
        obtain ⟨K, hK, hrun⟩ := tab_run j hlt
        obtain ⟨f, hf⟩ : ∃ f, fldF (j : Int) = f := ⟨_, rfl⟩
        have hF := fields_any (j : Int) w HE.out.env.f
        rw [hf] at hF
        have HF := Lib.hid hF
        clear hF
        by_cases hj0 : j = 0
        · have hf0 : f = 0 := by rw [← hf, hj0]; rfl
          subst hf0
          have HN2 : Hid (∀ k, 1 ≤ k → k < j + 1 → s.data.toList ≠ wordN k) := Lib.hid (fun k h1 h2 => by omega)
          clear hf hj0 hK
          go_wp2_with (go_at_call 57; refine HF.out.mono ?_; rintro e w' ⟨rfl, rfl⟩)
          go_round
          case rel => exact ⟨j + 1, by omega, by go_num, HN2⟩
          case measure => simp [intOf]; omega
        · have hf0 : ¬ f = 0 := by
            rw [← hf]
            have hc : j = 1 ∨ j = 2 ∨ j = 3 ∨ j = 4 ∨ j = 5 ∨ j = 6 ∨ j = 7 := by omega
            rcases hc with rfl | rfl | rfl | rfl | rfl | rfl | rfl <;> decide
          have HJ := Lib.hid hj0
          by_cases hw : s.data.toList = wordN j
          · have hc : (s.toList == K.toList) = true := by rw [seq_eq, Lib.toList_data, hK]; exact decide_eq_true hw
            have ho2 : o = some j := by rw [← HOP.out]; exact opOf_is (by omega) hlt hw
            subst ho2
            obtain ⟨ov, mvv, dv, b1, r1⟩ := HR.out
            have c5 := b1.cell 5
            have c6 := b1.cell 6
            have c7 := b1.cell 7
            have c8 := b1.cell 8
            have z5 := b1.frozen 5
            have z6 := b1.frozen 6
            have z7 := b1.frozen 7
            have z8 := b1.frozen 8
            have HF1 : Hid (Fs N g w ((((w.setCell ⟨g, 5, none⟩ (.int .i64 (j : Int))).setCell ⟨g, 6, none⟩ (.int .i64 0)).setCell ⟨g, 7, none⟩ (.int .i64 0)).setCell ⟨g, 8, none⟩ (.slice none 0 0))) := Lib.hid ((((Fs.set _ _ _).trans (Fs.set _ _ _)).trans (Fs.set _ _ _)).trans (Fs.set _ _ _))
            have HR2 : Hid (Rdm N g nx st ⟨(j : Int), 0, 0, []⟩ ((((w.setCell ⟨g, 5, none⟩ (.int .i64 (j : Int))).setCell ⟨g, 6, none⟩ (.int .i64 0)).setCell ⟨g, 7, none⟩ (.int .i64 0)).setCell ⟨g, 8, none⟩ (.slice none 0 0))) := Lib.hid ⟨ov, mvv, _, by simpa using (((b1.set_ 5 (.int .i64 (j : Int))).set_ 6 (.int .i64 0)).set_ 7 (.int .i64 0)).set_ 8 (.slice none 0 0), ((((show Rws N ov mvv (.slice none 0 0) st.ord st.mv [] w from ⟨r1.ord, r1.mvs, OwB.nil _ _⟩).set HE.out.lt _ _).set HE.out.lt _ _).set HE.out.lt _ _).set HE.out.lt _ _⟩
            have HOPS : Hid (1 ≤ (j : Int) ∧ (j : Int) ≤ 7) := Lib.hid (by omega)
            clear hf hj0 hK hw r1 b1
            go_wp2_with (first
              | (go_at_call 57; refine HF.out.mono ?_; rintro e w' ⟨rfl, rfl⟩)
              | (go_at_call 115; refine (from_any N g nx 6 (by omega) st ⟨(j : Int), 0, 0, []⟩ _ HOPS.out HM.out (HE.out.on HF1.out) HR2.out).mono ?_; intro e w2 hm; obtain ⟨v, rfl⟩ := hm.ret; have HM2 := Lib.hid hm; clear hm))
            go_ret
            exact HM2.out.pre HF1.out
          · have hc : (s.toList == K.toList) = false := by rw [seq_eq, Lib.toList_data, hK]; exact decide_eq_false hw
            have HN2 : Hid (∀ k, 1 ≤ k → k < j + 1 → s.data.toList ≠ wordN k) := Lib.hid (fun k h1 h2 => by
              by_cases e : k = j
              · rw [e]; exact hw
              · exact HN.out k h1 (by omega))
            clear hf hj0 hK hw
            go_wp2_with (go_at_call 57; refine HF.out.mono ?_; rintro e w' ⟨rfl, rfl⟩)
            go_round
            case rel => exact ⟨j + 1, by omega, by go_num, HN2⟩
            case measure => simp [intOf]; omega
      · obtain rfl : j = 8 := by omega
        have ho2 : o = none := by rw [← HOP.out]; exact opOf_none HN.out
        subst ho2
        have hlt' : ¬ ((8 : Nat) : Int) < 8 := by omega
        go_wp2_with fail
        go_ret
        exact ⟨Fs.refl _ _ _, rfl, HR.out.x⟩
set_option maxRecDepth 100000 in
set_option maxHeartbeats 8000000 in
theorem part_any (N g nx : Nat) (hnx : nx = 3 ∨ nx = 4 ∨ nx = 5) (st : St) (mv : Mo) (hmv : st.mv.length ≤ 50) (s : ByteArray) (w : World) (hE : RdE N g w) (hR : Rdm N g nx st mv w) :
    Calls Tryz.prog 78 #[.pointer (some ⟨g, 0, none⟩), .string s] w (MethR N g nx w (rdW ⟨nx, st, mv⟩ s.data.toList)) := by
  have e0 : rdW ⟨nx, st, mv⟩ s.data.toList = partR ⟨nx, st, mv⟩ s.data.toList := by
    unfold rdW
    simp only []
    rw [if_neg (by omega), if_neg (by omega), if_neg (by omega), if_neg (by omega), if_neg (by omega), if_neg (by omega)]
  rw [e0]
  clear e0
  unfold partR
  simp only []
  obtain ⟨ov, mvv, dv, b1, r1⟩ := hR
  have c0 := b1.cell 0
  have c2 := b1.cell 2
  have z2 := b1.frozen 2
  have gl := b1.lt
  have hR : Rdm N g nx st mv w := ⟨ov, mvv, dv, b1, r1⟩
  by_cases h1 : s.data.toList = wIntr ∧ nx = 3
  · rw [if_pos h1]
    obtain ⟨h1, hq⟩ := h1
    have hI : (s.toList == [105, 110, 116, 114]) = true := by rw [seq_eq]; exact decide_eq_true h1
    have HF := Lib.hid (Fs.set (N := N) (g := g) w 2 (.bool true))
    have HR2 : Hid (Rdm N g nx { st with intr := true } mv (w.setCell ⟨g, 2, none⟩ (.bool true))) := Lib.hid ⟨ov, mvv, dv, by simpa using b1.set_ 2 (.bool true), r1.set hE.lt _ _⟩
    rw [hq] at c0
    clear h1 hq b1 r1 hR hE hmv hnx
    go_enter Tryz.func78, Tryz.ntmps78
    go_wp2_with fail
    go_ret
    exact ⟨HF.out, rfl, HR2.out⟩
  rw [if_neg h1]
  by_cases h2 : s.data.toList = wOrder ∧ nx ≠ 5
  · rw [if_pos h2]
    obtain ⟨h2, hq⟩ := h2
    have hO : (s.toList == [111, 114, 100, 101, 114]) = true := by rw [seq_eq]; exact decide_eq_true h2
    have hI : (s.toList == [105, 110, 116, 114]) = false := by
      rw [seq_eq, h2]; decide
    have hc : nx = 3 ∨ nx = 4 := by omega
    have HR := Lib.hid hR
    clear h1 h2 hq b1 r1 hR hE hmv hnx c2 z2
    rcases hc with hq | hq
    all_goals
      rw [hq] at c0
      clear hq
      go_enter Tryz.func78, Tryz.ntmps78
      go_wp2_with fail
      go_ret
      exact ⟨Fs.refl _ _ _, rfl, HR.out⟩
  rw [if_neg h2]
  exact part_loop N g nx hnx st mv hmv s w hE hR h1 h2
end Go.Proofs.YtlephnfepofbbaaGreatDoor
