/-
  A script's first step is taken, with its moves.
-/
import Derived.Test.YtlephnfepofbbaaGreatDoorMtMake
namespace Go.Proofs.YtlephnfepofbbaaGreatDoor
open Go.RowKit Go.Shelf Go.Maps Go.ChangeMaps

theorem Sh.ofOwn {D : Nat → Prop} {W : World} {B : Nat} {e : TypeId} {size : Nat} {v : Value} {n : Nat} {zs : List Value} (h : W.ownsRow B e size v n zs) (hD : OwnD D v) : Sh D W v n zs := by
  obtain ⟨A, c, e', h1, h2, h3, h4⟩ := sh_own h
  refine ⟨A, c, e', h1, h2, h3, fun h0 => ?_⟩
  obtain ⟨g, off, e2, _, hg, hc⟩ := h4 h0
  rcases h.2 with ⟨e3, hn⟩ | ⟨g', cap, cur, e3, _⟩
  · omega
  · have e4 := e'.symm.trans e3
    injection e4 with e5
    rw [e2] at e5
    injection e5 with e5
    injection e5 with e5 e6 _
    subst e5 e6
    exact ⟨g, 0, e2, hD g (by rw [e3]; rfl), hg, hc⟩
theorem RwsD.srcM {N : Nat} {D : Nat → Prop} {ov mvv dv : Value} {ord : List Int} {ms : List Mo} {b : List UInt8} {W : World} (h : RwsD N D ov mvv dv ord ms b W) : SrcM D W mvv ms := by
  obtain ⟨_, _, ⟨ps, e, h2, h3⟩, h4, _, _⟩ := h
  refine ⟨ps.map fun p => (p.m, p.v), ?_, ?_, fun q hq => ?_⟩
  · rw [← e, List.map_map]; rfl
  · have := Sh.ofOwn h2 h4
    rw [rm_all] at this
    rw [List.length_map]; exact this
  · obtain ⟨p, hp, rfl⟩ := List.mem_map.1 hq
    exact Sh.ofOwn (h3 p hp).1 (h3 p hp).2
theorem mkL_snoc (S : Ws) (ms : List Mo) (m : Mo) : mkL S (ms ++ [m]) = mkMo (mkL S ms) m := by
  unfold mkL; rw [List.foldl_append]; rfl
set_option maxRecDepth 100000 in
set_option maxHeartbeats 8000000 in
theorem mtake_any {B0 : Nat} {W0 : World} {p : Nat} {S : Ws} {N : Nat} {D D2 : Nat → Prop} {kb : Nat} {w : World} {x : St} {r : List St} {o : List Int} (h : Sk D kb w (x :: r) o) (ho : Od B0 W0 p S N D2 w) (hD : ∀ b, D b → D2 b) (hB : ∀ b, D b → B0 ≤ b) (h1 : OneS S) (hok : stOk x = true) (hwf : x.Wf) (hT : ∀ W, Below B0 W0 W → TabF W) (hN : N ≤ 800000000) :
    Calls Tryz.prog 83 #[.pointer (some ⟨kb, 0, none⟩), .pointer (some ⟨p, 0, none⟩)] w fun e w' => e = .returned (.bool x.intr) ∧ Od B0 W0 p (mkL S x.mv) (N + 60000) D2 w' ∧ Sk D kb w' r x.ord ∧ ∀ b, D2 b → ¬ D b → w'.heap[b]? = w.heap[b]? := by
  obtain ⟨g, off, c, cs, ov, A, B, a, b, ps, hb, q1, q2, q3, q4, q5, q6, ⟨k0, k1, k2, k3⟩, q7, q8, q9, q10, q11⟩ := Sk.head h
  obtain ⟨A', hrun, hA1, hA2⟩ := cut1_steps g off r.length c q1 q2
  have c0 : w.cell? ⟨kb, 0, none⟩ = some (.slice (some ⟨g, off, none⟩) (r.length + 1) c) := hb.cell 0
  have c1 : w.cell? ⟨kb, 1, none⟩ = some ov := hb.cell 1
  have f0 := hb.frozen 0
  have f1 := hb.frozen 1
  have l0 := hb.lt
  have g0 := q5.frozen off
  have g1 := q5.frozen (off + 1)
  have g2 := q5.frozen (off + 2)
  have g3 := q5.frozen (off + 3)
  have l1 := q5.lt
  have hne : ¬ kb = g := fun e => by
    subst e
    have := kind_ne hb (show w.heap[kb]? = some (.cells cs 36 (0, 0)) from q5)
    revert this; decide
  have hne2 : ¬ g = kb := fun e => hne e.symm
  have hr : (0 : Int) < (r.length : Int) + 1 := by omega
  have HH := Lib.hid (take_world ho hD hB hb q1 q2 q3 q4 q5 q6 q7 q8 q9 hne hA1 hA2)
  have HP := Lib.hid (And.intro h1 (And.intro hok (And.intro hwf (And.intro hT hN))))
  obtain ⟨nm, hnm⟩ : ∃ nm, nm = x.mv.length := ⟨_, rfl⟩
  rw [← hnm] at k3
  have HNM := Lib.hid hnm
  clear h ho hb q5 q7 q8 q9 q10 q11 hA1 h1 hok hwf hT hN hnm
  go_enter Tryz.func83, Tryz.ntmps83
  go_wp2_with fail
  change Code.wp _ _ _ _ ((tkW w kb g off c A' A r.length x.ord.length a).alloc (.cells #[.int .u64 (x.t : Int), .bool x.intr, .slice A x.ord.length a, .slice B nm b] 36))
  have hts : (tkW w kb g off c A' A r.length x.ord.length a).heap.size = w.heap.size := by simp [tkW]
  have HF := Lib.hid (show Od B0 W0 p S N (fun k => k = w.heap.size ∨ D2 k) ((tkW w kb g off c A' A r.length x.ord.length a).alloc (.cells #[.int .u64 (x.t : Int), .bool x.intr, .slice A x.ord.length a, .slice B nm b] 36)) ∧ Sk D kb ((tkW w kb g off c A' A r.length x.ord.length a).alloc (.cells #[.int .u64 (x.t : Int), .bool x.intr, .slice A x.ord.length a, .slice B nm b] 36)) r x.ord ∧ RwsD 0 D (.slice A x.ord.length a) (.slice B nm b) (.slice none 0 0) x.ord x.mv [] ((tkW w kb g off c A' A r.length x.ord.length a).alloc (.cells #[.int .u64 (x.t : Int), .bool x.intr, .slice A x.ord.length a, .slice B nm b] 36)) ∧ Blk ((tkW w kb g off c A' A r.length x.ord.length a).alloc (.cells #[.int .u64 (x.t : Int), .bool x.intr, .slice A x.ord.length a, .slice B nm b] 36)) w.heap.size 36 #[.int .u64 (x.t : Int), .bool x.intr, .slice A x.ord.length a, .slice B nm b] ∧ ∀ k, D2 k → ¬ D k → ((tkW w kb g off c A' A r.length x.ord.length a).alloc (.cells #[.int .u64 (x.t : Int), .bool x.intr, .slice A x.ord.length a, .slice B nm b] 36)).heap[k]? = w.heap[k]? by
    obtain ⟨hO, hS, hR, hK⟩ := HH.out
    rw [← HNM.out] at hR
    have hal : ∀ k, D2 k → ((tkW w kb g off c A' A r.length x.ord.length a).alloc (.cells #[.int .u64 (x.t : Int), .bool x.intr, .slice A x.ord.length a, .slice B nm b] 36)).heap[k]? = (tkW w kb g off c A' A r.length x.ord.length a).heap[k]? := fun k hk => Below.heap_alloc _ _ _ (hO.lt hk)
    have ha := hO.alloc (.cells #[.int .u64 (x.t : Int), .bool x.intr, .slice A x.ord.length a, .slice B nm b] 36)
    have hb := Blk.new (tkW w kb g off c A' A r.length x.ord.length a) 36 #[.int .u64 (x.t : Int), .bool x.intr, .slice A x.ord.length a, .slice B nm b]
    rw [hts] at ha hb
    exact ⟨ha, hS.same fun k hk => hal k (hD k hk), hR.same fun k hk => hal k (hD k hk), hb, fun k h1 h2 => (hal k h1).trans (hK k h1 h2)⟩)
  generalize (tkW w kb g off c A' A r.length x.ord.length a).alloc (.cells #[.int .u64 (x.t : Int), .bool x.intr, .slice A x.ord.length a, .slice B nm b] 36) = W1 at HF ⊢
  clear hts HH c0 c1 f0 f1 l0 g0 g1 g2 g3 l1 k0 k1 k2 k3 hne hne2 hr hA2 hrun q1 q2
  go_loopw [36] (fun i wr => ∃ j : Nat, i = .int .i64 (j : Int) ∧ j ≤ nm ∧ Hid (Od B0 W0 p (mkL S (x.mv.take j)) (N + 1010 * j) (fun k => k = w.heap.size ∨ D2 k) wr) ∧ Hid (∀ k, (k = w.heap.size ∨ D2 k) → wr.heap[k]? = W1.heap[k]?)) (fun i _ => nm - (intOf i).toNat)
  case atStart => exact ⟨0, rfl, Nat.zero_le _, Lib.hid HF.out.1, Lib.hid fun _ _ => rfl⟩
  case round =>
    obtain ⟨j, rfl, hj, HO, HK⟩ := hrel
    have hnm50 : nm ≤ 50 := by rw [HNM.out]; exact (stOk_parts HP.out.2.1).1
    have hbx := HF.out.2.2.2.1.same (HK.out _ (Or.inl rfl))
    have cb : wr.cell? ⟨w.heap.size, 1, none⟩ = some (.bool x.intr) := hbx.cell 1
    have lb := hbx.lt
    clear hbx
    by_cases hlt : j < nm
    · have hlt' : (j : Int) < (nm : Int) := by omega
      have b0 : (0 : Int) ≤ (j : Int) := by omega
      have hjl : j < x.mv.length := by have := HNM.out; omega
      have hR := HF.out.2.2.1.same (fun k hk => HK.out k (Or.inr (hD k hk)))
      obtain ⟨g2, off2, dv, rfl, hg, hg2, ⟨m0, m1, m2, m3⟩, hsb⟩ := hR.srcM.at_ (k := j) hjl
      obtain ⟨E2, e2, rfl, _, _, _⟩ := hsb.form
      obtain ⟨m, hm⟩ : ∃ m, m = x.mv[j] := ⟨_, rfl⟩
      rw [← hm] at m0 m1 m2 m3 hsb
      obtain ⟨nb, hnb⟩ : ∃ nb, nb = m.b.length := ⟨_, rfl⟩
      rw [← hnb] at m3 hsb
      have hmem : m ∈ x.mv := hm ▸ List.getElem_mem hjl
      have hod := HO.out.alloc (.cells #[.int .i64 m.op, .int .i64 m.wire, .int .i64 m.n, .slice E2 nb e2] 25)
      have HM := Lib.hid (make_any hod (mkL_one _ HP.out.1) m (.slice E2 nb e2) ((stOk_parts HP.out.2.1).2.2.2 m hmem) (HP.out.2.2.1.2.2 m hmem) (HP.out.2.2.2.1 _ hod.bel) ((hsb.weak (fun k _ hk => Or.inr (Or.inr (hD k hk)))).same (fun k hk hl => Below.heap_alloc _ _ _ hl) (by simp)) (by have := HP.out.2.2.2.2; omega))
      have HX := Lib.hid (And.intro hm hnb)
      clear hod hsb hR hmem hm hnb hg
      go_wp2_with (go_at_call 8; refine HM.out.mono ?_; rintro e w2 ⟨⟨a1, a2, rfl⟩, hmm⟩; have HMM := Lib.hid hmm; clear hmm)
      go_roundw
      case rel =>
        obtain ⟨y1, y2, y3⟩ := HMM.out
        refine ⟨j + 1, by go_num, by omega, Lib.hid ?_, Lib.hid fun k hk => (y2 k (Or.inr hk)).trans ((Below.heap_alloc _ _ _ (HO.out.lt hk)).trans (HK.out k hk))⟩
        have e : x.mv.take (j + 1) = x.mv.take j ++ [m] := by rw [HX.out.1, List.take_succ_eq_append_getElem hjl]
        rw [e, mkL_snoc]
        exact (y1.less (fun k hk => Or.inr hk)).more (by omega)
      case measure => simp [intOf]; omega
    · obtain rfl : j = nm := by omega
      have hlt' : ¬ (j : Int) < (j : Int) := by omega
      go_wp2_with fail
      go_ret
      have e : x.mv.take j = x.mv := List.take_of_length_le (by have := HNM.out; omega)
      have ho := HO.out
      rw [e] at ho
      refine ⟨rfl, (ho.less fun k hk => Or.inr hk).more (by omega), HF.out.2.1.same fun k hk => HK.out k (Or.inr (hD k hk)), fun k h1 h2 => (HK.out k (Or.inr h1)).trans (HF.out.2.2.2.2 k h1 h2)⟩
end Go.Proofs.YtlephnfepofbbaaGreatDoor
