/-
  The reader's methods start, ticks, field.
-/
import Derived.Test.YtlephnfepofbbaaGreatDoorMvFrom
namespace Go.Proofs.YtlephnfepofbbaaGreatDoor
open Go.RowKit Go.Shelf Go.Maps Go.ChangeMaps

theorem seq_eq (s : ByteArray) (l : List UInt8) : (s.toList == l) = decide (s.data.toList = l) := by
  rw [Lib.toList_data]
  by_cases h : s.data.toList = l
  · simp [h]
  · rw [decide_eq_false h, beq_eq_false_iff_ne]; exact h
theorem MethR.ret {N g nx : Nat} {w w' : World} {o : Option Rd} {e : Ending} (h : MethR N g nx w o e w') : ∃ v, e = .returned (.int .i64 v) := by
  cases o with
  | none => exact ⟨_, h.2.1⟩
  | some r => exact ⟨_, h.2.1⟩
theorem MethR.pre {N g nx : Nat} {w w1 w' : World} {o : Option Rd} {e : Ending} (h : MethR N g nx w1 o e w') (f : Fs N g w w1) : MethR N g nx w o e w' := ⟨f.trans h.1, h.2⟩
theorem start_any (N g : Nat) (st : St) (mv : Mo) (s : ByteArray) (w : World) (hR : Rdm N g 0 st mv w) :
    Calls Tryz.prog 74 #[.pointer (some ⟨g, 0, none⟩), .string s] w (MethR N g 0 w (rdW ⟨0, st, mv⟩ s.data.toList)) := by
  have HR := Lib.hid hR
  clear hR
  by_cases h : s.data.toList = wStep
  · have e : rdW ⟨0, st, mv⟩ s.data.toList = some ⟨1, st, mv⟩ := by unfold rdW; rw [if_pos rfl, if_pos h]
    have h1 : (s.toList == [115, 116, 101, 112]) = true := by rw [seq_eq]; exact decide_eq_true h
    rw [e]
    clear e h
    go_enter Tryz.func74, Tryz.ntmps74
    go_wp2_with fail
    go_ret
    exact ⟨Fs.refl _ _ _, rfl, HR.out⟩
  · have e : rdW ⟨0, st, mv⟩ s.data.toList = none := by unfold rdW; rw [if_pos rfl, if_neg h]
    have h1 : (s.toList == [115, 116, 101, 112]) = false := by rw [seq_eq]; exact decide_eq_false h
    rw [e]
    clear e h
    go_enter Tryz.func74, Tryz.ntmps74
    go_wp2_with fail
    go_ret
    exact ⟨Fs.refl _ _ _, rfl, HR.out.x⟩
set_option maxRecDepth 100000 in
set_option maxHeartbeats 8000000 in
theorem ticks_any (N g : Nat) (st : St) (mv : Mo) (s : ByteArray) (hs : s.size ≤ 20000000) (w : World) (hE : RdE N g w) (hR : Rdm N g 1 st mv w) :
    Calls Tryz.prog 75 #[.pointer (some ⟨g, 0, none⟩), .string s] w (MethR N g 1 w (rdW ⟨1, st, mv⟩ s.data.toList)) := by
  have hN := num_any 64 (.inr rfl) s (by omega) w (hE.env.e trivial)
  have e0 : rdW ⟨1, st, mv⟩ s.data.toList = (numP 64 s.data.toList).elim none (fun n => some ⟨3, { st with t := n }, mv⟩) := by
    unfold rdW
    rw [if_neg (by simp), if_pos rfl]
    cases numP 64 s.data.toList <;> rfl
  rw [e0]
  obtain ⟨o, ho⟩ : ∃ o, numP 64 s.data.toList = o := ⟨_, rfl⟩
  rw [ho] at hN ⊢
  have HN := Lib.hid hN
  have HE := Lib.hid hE
  have HR := Lib.hid hR
  clear ho e0 hN hE hR
  cases o with
  | none =>
    go_enter Tryz.func75, Tryz.ntmps75
    go_wp2_with (go_at_call 112; refine HN.out.mono ?_; rintro e w1 ⟨rfl, hb⟩; have HB := Lib.hid hb; clear hb)
    go_ret
    exact ⟨Fs.of HB.out, rfl, (HR.out.quiet HB.out).x⟩
  | some n =>
    go_enter Tryz.func75, Tryz.ntmps75
    go_wp2_with (go_at_call 112; refine HN.out.mono ?_; rintro e w1 ⟨rfl, hb⟩; have HB := Lib.hid hb; have h1 := HR.out.quiet hb; obtain ⟨ov, mvv, dv, b1, r1⟩ := h1; have R1 := Lib.hid r1; have B1 := Lib.hid b1; have c1 := b1.cell 1; have z1 := b1.frozen 1; have l1 := b1.lt; clear hb r1 b1)
    go_ret
    exact ⟨(Fs.of HB.out).trans (Fs.set _ _ _), rfl, ov, mvv, dv, by simpa using B1.out.set_ 1 (.int .u64 (n : Int)), R1.out.set HE.out.lt _ _⟩
theorem row_own_more {w : World} {B B' : Nat} {v : Value} {bs : List UInt8} (h : OwB B' w v bs) (hB : B ≤ B') : OwB B w v bs := by
  refine ⟨h.1, ?_⟩
  rcases h.2 with h2 | ⟨g, cap, cur, rfl, hb, r⟩
  · exact .inl h2
  · exact .inr ⟨g, cap, cur, rfl, Nat.le_trans hB hb, r⟩
set_option maxRecDepth 100000 in
set_option maxHeartbeats 8000000 in
theorem field6_any (N g : Nat) (st : St) (mv : Mo) (hop : 1 ≤ mv.op ∧ mv.op ≤ 7) (hmv : st.mv.length ≤ 50) (s : ByteArray) (hs : s.size ≤ 20000000) (w : World) (hE : RdE N g w) (hR : Rdm N g 6 st mv w) :
    Calls Tryz.prog 77 #[.pointer (some ⟨g, 0, none⟩), .string s] w (MethR N g 6 w (rdW ⟨6, st, mv⟩ s.data.toList)) := by
  have hN := int_any s (by omega) w (hE.env.e trivial)
  have e0 : rdW ⟨6, st, mv⟩ s.data.toList = (numP 63 s.data.toList).elim none (fun n => fromR 7 st { mv with wire := (n : Int) }) := by
    unfold rdW
    simp only []
    cases numP 63 s.data.toList <;> simp
  rw [e0]
  obtain ⟨o, ho⟩ : ∃ o, numP 63 s.data.toList = o := ⟨_, rfl⟩
  rw [ho] at hN ⊢
  have c0 : w.cell? ⟨g, 0, none⟩ = some (.int .i64 6) := by
    obtain ⟨ov, mvv, dv, b1, r1⟩ := hR
    exact b1.cell 0
  have HN := Lib.hid hN
  have HE := Lib.hid hE
  have HR := Lib.hid hR
  have HO := Lib.hid hop
  have HM := Lib.hid hmv
  clear ho e0 hN hE hR hop hmv
  cases o with
  | none =>
    go_enter Tryz.func77, Tryz.ntmps77
    go_wp2_with (go_at_call 113; refine HN.out.mono ?_; rintro e w1 ⟨rfl, hb⟩; have HB := Lib.hid hb; have h1 := HR.out.quiet hb; obtain ⟨ov, mvv, dv, b1, r1⟩ := h1; have B1 := Lib.hid b1; have c1 := b1.cell 6; have z1 := b1.frozen 6; have l1 := b1.lt; clear hb r1 b1)
    go_ret
    exact ⟨(Fs.of HB.out).trans (Fs.set _ _ _), rfl, _, B1.out.set_ 6 _, by simp⟩
  | some n =>
    go_enter Tryz.func77, Tryz.ntmps77
    go_wp2_with (first
      | (go_at_call 113; refine HN.out.mono ?_; rintro e w1 ⟨rfl, hb⟩; have HF1 := Lib.hid ((Fs.of (N := N) (g := g) hb).trans (Fs.set _ 6 (.int .i64 (n : Int)))); have h1 := HR.out.quiet hb; obtain ⟨ov, mvv, dv, b1, r1⟩ := h1; have c1 := b1.cell 6; have c2 := b1.cell 0; have z1 := b1.frozen 6; have l1 := b1.lt; have HR2 : Hid (Rdm N g 6 st { mv with wire := (n : Int) } (w1.setCell ⟨g, 6, none⟩ (.int .i64 (n : Int)))) := Lib.hid ⟨ov, mvv, dv, by simpa using b1.set_ 6 (.int .i64 (n : Int)), r1.set HE.out.lt _ _⟩; clear hb r1 b1 c0)
      | (go_at_call 115; refine (from_any N g 6 7 (by omega) st { mv with wire := (n : Int) } _ HO.out HM.out (HE.out.on HF1.out) HR2.out).mono ?_; intro e w2 hm; obtain ⟨v, rfl⟩ := hm.ret; have HM2 := Lib.hid hm; clear hm))
    go_ret
    exact HM2.out.pre HF1.out
set_option maxRecDepth 100000 in
set_option maxHeartbeats 8000000 in
theorem field7_any (N g : Nat) (st : St) (mv : Mo) (hop : 1 ≤ mv.op ∧ mv.op ≤ 7) (hmv : st.mv.length ≤ 50) (s : ByteArray) (hs : s.size ≤ 20000000) (w : World) (hE : RdE N g w) (hR : Rdm N g 7 st mv w) :
    Calls Tryz.prog 77 #[.pointer (some ⟨g, 0, none⟩), .string s] w (MethR N g 7 w (rdW ⟨7, st, mv⟩ s.data.toList)) := by
  have hN := int_any s (by omega) w (hE.env.e trivial)
  have e0 : rdW ⟨7, st, mv⟩ s.data.toList = (numP 63 s.data.toList).elim none (fun n => fromR 8 st { mv with n := (n : Int) }) := by
    unfold rdW
    simp only []
    cases numP 63 s.data.toList <;> simp
  rw [e0]
  obtain ⟨o, ho⟩ : ∃ o, numP 63 s.data.toList = o := ⟨_, rfl⟩
  rw [ho] at hN ⊢
  have c0 : w.cell? ⟨g, 0, none⟩ = some (.int .i64 7) := by
    obtain ⟨ov, mvv, dv, b1, r1⟩ := hR
    exact b1.cell 0
  have HN := Lib.hid hN
  have HE := Lib.hid hE
  have HR := Lib.hid hR
  have HO := Lib.hid hop
  have HM := Lib.hid hmv
  clear ho e0 hN hE hR hop hmv
  cases o with
  | none =>
    go_enter Tryz.func77, Tryz.ntmps77
    go_wp2_with (go_at_call 113; refine HN.out.mono ?_; rintro e w1 ⟨rfl, hb⟩; have HB := Lib.hid hb; have h1 := HR.out.quiet hb; obtain ⟨ov, mvv, dv, b1, r1⟩ := h1; have B1 := Lib.hid b1; have c1 := b1.cell 7; have z1 := b1.frozen 7; have l1 := b1.lt; clear hb r1 b1)
    go_ret
    exact ⟨(Fs.of HB.out).trans (Fs.set _ _ _), rfl, _, B1.out.set_ 7 _, by simp⟩
  | some n =>
    go_enter Tryz.func77, Tryz.ntmps77
    go_wp2_with (first
      | (go_at_call 113; refine HN.out.mono ?_; rintro e w1 ⟨rfl, hb⟩; have HF1 := Lib.hid ((Fs.of (N := N) (g := g) hb).trans (Fs.set _ 7 (.int .i64 (n : Int)))); have h1 := HR.out.quiet hb; obtain ⟨ov, mvv, dv, b1, r1⟩ := h1; have c1 := b1.cell 7; have c2 := b1.cell 0; have z1 := b1.frozen 7; have l1 := b1.lt; have HR2 : Hid (Rdm N g 7 st { mv with n := (n : Int) } (w1.setCell ⟨g, 7, none⟩ (.int .i64 (n : Int)))) := Lib.hid ⟨ov, mvv, dv, by simpa using b1.set_ 7 (.int .i64 (n : Int)), r1.set HE.out.lt _ _⟩; clear hb r1 b1 c0)
      | (go_at_call 115; refine (from_any N g 7 8 (by omega) st { mv with n := (n : Int) } _ HO.out HM.out (HE.out.on HF1.out) HR2.out).mono ?_; intro e w2 hm; obtain ⟨v, rfl⟩ := hm.ret; have HM2 := Lib.hid hm; clear hm))
    go_ret
    exact HM2.out.pre HF1.out
set_option maxRecDepth 100000 in
set_option maxHeartbeats 8000000 in
theorem field8_any (N g : Nat) (st : St) (mv : Mo) (hop : 1 ≤ mv.op ∧ mv.op ≤ 7) (hmv : st.mv.length ≤ 50) (s : ByteArray) (hs : s.size ≤ 20000000) (w : World) (hE : RdE N g w) (hR : Rdm N g 8 st mv w) :
    Calls Tryz.prog 77 #[.pointer (some ⟨g, 0, none⟩), .string s] w (MethR N g 8 w (rdW ⟨8, st, mv⟩ s.data.toList)) := by
  have hN := data_any s w hs
  have e0 : rdW ⟨8, st, mv⟩ s.data.toList = (dataP s.data.toList).elim none (fun b => fromR 9 st { mv with b := b }) := by
    unfold rdW
    simp only []
    cases dataP s.data.toList <;> simp
  rw [e0]
  obtain ⟨o, ho⟩ : ∃ o, dataP s.data.toList = o := ⟨_, rfl⟩
  rw [ho] at hN ⊢
  have c0 : w.cell? ⟨g, 0, none⟩ = some (.int .i64 8) := by
    obtain ⟨ov, mvv, dv, b1, r1⟩ := hR
    exact b1.cell 0
  have HN := Lib.hid hN
  have HE := Lib.hid hE
  have HR := Lib.hid hR
  have HO := Lib.hid hop
  have HM := Lib.hid hmv
  clear ho e0 hN hE hR hop hmv
  cases o with
  | none =>
    go_enter Tryz.func77, Tryz.ntmps77
    go_wp2_with (go_at_call 114; refine HN.out.mono ?_; rintro e w1 ⟨dd, rfl, ho2, hb⟩; obtain ⟨DA, dc, rfl, dh1, dh2⟩ := ho2.form; have HB := Lib.hid hb; have h1 := HR.out.quiet hb; obtain ⟨ov, mvv, dv, b1, r1⟩ := h1; have B1 := Lib.hid b1; have c1 := b1.cell 8; have z1 := b1.frozen 8; have l1 := b1.lt; clear hb r1 b1 ho2 dh1 dh2)
    go_ret
    exact ⟨(Fs.of HB.out).trans (Fs.set _ _ _), rfl, _, B1.out.set_ 8 _, by simp⟩
  | some b =>
    go_enter Tryz.func77, Tryz.ntmps77
    go_wp2_with (first
      | (go_at_call 114; refine HN.out.mono ?_; rintro e w1 ⟨dd, rfl, ho2, hb⟩; obtain ⟨DA, dc, rfl, dh1, dh2⟩ := ho2.form; have HF1 := Lib.hid ((Fs.of (N := N) (g := g) hb).trans (Fs.set _ 8 (.slice DA b.length dc))); have h1 := HR.out.quiet hb; obtain ⟨ov, mvv, dv, b1, r1⟩ := h1; have c1 := b1.cell 8; have c2 := b1.cell 0; have z1 := b1.frozen 8; have l1 := b1.lt; have HR2 : Hid (Rdm N g 8 st { mv with b := b } (w1.setCell ⟨g, 8, none⟩ (.slice DA b.length dc))) := Lib.hid ⟨ov, mvv, _, by simpa using b1.set_ 8 (.slice DA b.length dc), (show Rws N ov mvv (.slice DA b.length dc) st.ord st.mv b w1 from ⟨r1.ord, r1.mvs, row_own_more ho2 HE.out.le⟩).set HE.out.lt _ _⟩; clear hb r1 b1 c0 ho2 dh1 dh2)
      | (go_at_call 115; refine (from_any N g 8 9 (by omega) st { mv with b := b } _ HO.out HM.out (HE.out.on HF1.out) HR2.out).mono ?_; intro e w2 hm; obtain ⟨v, rfl⟩ := hm.ret; have HM2 := Lib.hid hm; clear hm))
    go_ret
    exact HM2.out.pre HF1.out
end Go.Proofs.YtlephnfepofbbaaGreatDoor
