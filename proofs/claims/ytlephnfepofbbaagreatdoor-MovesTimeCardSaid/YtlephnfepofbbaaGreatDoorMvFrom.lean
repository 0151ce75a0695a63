/-
  The reader's from: the next field of a move, or its end.
-/
import Derived.Test.YtlephnfepofbbaaGreatDoorMvRdm
namespace Go.Proofs.YtlephnfepofbbaaGreatDoor
open Go.RowKit Go.Shelf Go.Maps Go.ChangeMaps

theorem fld_w (op : Int) (h : 1 ≤ op ∧ op ≤ 7) : (bits .and .i64 (fldF op) 1 == 0) = !hasW op ∧ (bits .and .i64 (fldF op) 2 == 0) = !hasN op ∧ (bits .and .i64 (fldF op) 4 == 0) = !decide (op = 1) := by
  have hc : op = 1 ∨ op = 2 ∨ op = 3 ∨ op = 4 ∨ op = 5 ∨ op = 6 ∨ op = 7 := by omega
  rcases hc with rfl | rfl | rfl | rfl | rfl | rfl | rfl <;> exact ⟨by kernel_rfl, by kernel_rfl, by kernel_rfl⟩
set_option maxRecDepth 100000 in
set_option maxHeartbeats 8000000 in
theorem from_any (N g nx next : Nat) (hnext : next = 6 ∨ next = 7 ∨ next = 8 ∨ next = 9) (st : St) (mv : Mo) (w : World) (hop : 1 ≤ mv.op ∧ mv.op ≤ 7) (hmv : st.mv.length ≤ 50) (hE : RdE N g w) (hR : Rdm N g nx st mv w) :
    Calls Tryz.prog 115 #[.pointer (some ⟨g, 0, none⟩), .int .i64 (next : Int)] w (MethR N g nx w (fromR next st mv)) := by
  obtain ⟨p1, p2, p3⟩ := fld_w mv.op hop
  obtain ⟨f, hf⟩ : ∃ f, fldF mv.op = f := ⟨_, rfl⟩
  have hF := fields_any mv.op w hE.env.f
  rw [hf] at p1 p2 p3 hF
  obtain ⟨o, ho⟩ : ∃ o, fromR next st mv = o := ⟨_, rfl⟩
  rw [ho]
  unfold fromR at ho
  have HR := Lib.hid hR
  have HE := Lib.hid hE
  have HF := Lib.hid hF
  obtain ⟨ov, mvv, dv, hb, hrow⟩ := hR
  obtain ⟨ps, eps, hM, hD⟩ := hrow.mvs
  obtain ⟨A, c, rfl, a1, a2, a3⟩ := RowK.own_shows hM
  obtain ⟨B, d, rfl, b1, b2⟩ := hrow.dat.form
  have c4 := hb.cell 4
  have c5 := hb.cell 5
  have c6 := hb.cell 6
  have c7 := hb.cell 7
  have c8 := hb.cell 8
  simp at c4 c5 c6 c7 c8
  obtain ⟨L, hL⟩ : ∃ L, ps.length = L := ⟨_, rfl⟩
  have hL2 : st.mv.length = L := by rw [← eps, List.length_map, hL]
  rw [hL] at c4
  rw [hL2] at ho hmv
  have hA : RM.own ((w.alloc (.cells #[.int .i64 mv.op, .int .i64 mv.wire, .int .i64 mv.n, .slice B mv.b.length d] 25)).drew) N (.slice A L c) ps ∧
      RM.shows ((w.alloc (.cells #[.int .i64 mv.op, .int .i64 mv.wire, .int .i64 mv.n, .slice B mv.b.length d] 25)).drew) (some ⟨w.heap.size, 0, none⟩) [⟨mv, B, d⟩] ∧
      N ≤ ((w.alloc (.cells #[.int .i64 mv.op, .int .i64 mv.wire, .int .i64 mv.n, .slice B mv.b.length d] 25)).drew).heap.size ∧
      ∀ gg cap w3, RM.own w3 N (.slice (some ⟨gg, 0, none⟩) (ps.length + 1) cap) (ps ++ [⟨mv, B, d⟩]) → ((w.alloc (.cells #[.int .i64 mv.op, .int .i64 mv.wire, .int .i64 mv.n, .slice B mv.b.length d] 25)).drew).grownBy w3 (Value.slice A L c).ownBlock →
        Blk w3 g 127 #[.int .i64 (nx : Int), .int .u64 (st.t : Int), .bool st.intr, ov, .slice A L c, .int .i64 mv.op, .int .i64 mv.wire, .int .i64 mv.n, .slice B mv.b.length d] ∧
        MethR N g nx w (some ⟨5, { st with mv := st.mv ++ [mv] }, mv⟩) (.returned (.int .i64 5)) (w3.setCell ⟨g, 4, none⟩ (.slice (some ⟨gg, 0, none⟩) (ps.length + 1) cap)) := by
    have hbw : Below w.heap.size w ((w.alloc (.cells #[.int .i64 mv.op, .int .i64 mv.wire, .int .i64 mv.n, .slice B mv.b.length d] 25)).drew) := ((Below.refl _ _).alloc (Nat.le_refl _) _).drew
    have hM1 := RowK.own_below hM hbw
    rw [hL] at hM1
    refine ⟨hM1, fun _ => ⟨w.heap.size, 0, rfl, by simp, RowK.lies_new (R := RM) w ⟨mv, B, d⟩ _⟩, Nat.le_trans hE.le hbw.size, fun gg cap w3 hO hgr => ?_⟩
    have hf := Fs.grown (g := g) hM1 hgr
    have hf0 := (Fs.of (N := N) (g := g) hbw).trans hf
    have hblk := (hb.same (hbw.block _ hb.lt)).same (hgr.block g (Nat.lt_of_lt_of_le hb.lt hbw.size) (fun e => by have := (RowK.own_lt hM1 e.symm).2; have := hE.lt; omega))
    rw [hL] at hblk
    refine ⟨hblk, hf0.trans (Fs.set _ _ _), rfl, ov, _, _, by simpa using hblk.set_ 4 _, ?_⟩
    have hrw := hrow.below hbw
    rw [hL] at hrw
    exact (hrw.mvg (p := ⟨mv, B, d⟩) eps hM1 (fun p hp => (hD p hp).below hbw) hrw.dat hO hgr).set hE.lt _ _
  have HA := Lib.hid hA
  clear hA
  have HB := Lib.hid hb
  have hgl := hb.lt
  have HLL := Lib.hid (And.intro hL hL2)
  clear hrow eps hM hD hb hE hF hf hL a3 b1 b2
  rcases hnext with rfl | rfl | rfl | rfl
  · change Calls _ _ #[_, .int .i64 6] _ _
    cases hW : hasW mv.op with
    | true =>
      rw [if_pos ⟨by omega, hW⟩] at ho
      subst ho
      rw [hW] at p1
      have p1 : (bits .and .i64 f 1 == 0) = false := p1
      clear p2 p3 hW hop
      go_enter Tryz.func115, Tryz.ntmps115
      go_wp2_with fail
      refine HF.out.mono ?_
      rintro e w' ⟨rfl, rfl⟩
      go_wp2_with fail
      go_ret
      exact ⟨Fs.refl _ _ _, rfl, HR.out⟩
    | false =>
      have hN : hasN mv.op = true := by
        have h7 : mv.op = 7 := by
          unfold hasW at hW
          simp at hW; omega
        rw [h7]; rfl
      rw [if_neg (by rw [hW]; simp), if_pos ⟨by omega, hN⟩] at ho
      subst ho
      rw [hW] at p1
      rw [hN] at p2
      have p1 : (bits .and .i64 f 1 == 0) = true := p1
      have p2 : (bits .and .i64 f 2 == 0) = false := p2
      clear p3 hW hN hop
      go_enter Tryz.func115, Tryz.ntmps115
      go_wp2_with fail
      refine HF.out.mono ?_
      rintro e w' ⟨rfl, rfl⟩
      go_wp2_with fail
      go_ret
      exact ⟨Fs.refl _ _ _, rfl, HR.out⟩
  · change Calls _ _ #[_, .int .i64 7] _ _
    cases hN : hasN mv.op with
    | true =>
      rw [if_neg (by omega), if_pos ⟨by omega, hN⟩] at ho
      subst ho
      rw [hN] at p2
      have p2 : (bits .and .i64 f 2 == 0) = false := p2
      clear p1 p3 hN hop
      go_enter Tryz.func115, Tryz.ntmps115
      go_wp2_with fail
      refine HF.out.mono ?_
      rintro e w' ⟨rfl, rfl⟩
      go_wp2_with fail
      go_ret
      exact ⟨Fs.refl _ _ _, rfl, HR.out⟩
    | false =>
      by_cases h1 : mv.op = 1
      · rw [if_neg (by omega), if_neg (by rw [hN]; simp), if_pos ⟨by omega, h1⟩] at ho
        subst ho
        rw [hN] at p2
        rw [decide_eq_true h1] at p3
        have p2 : (bits .and .i64 f 2 == 0) = true := p2
        have p3 : (bits .and .i64 f 4 == 0) = false := p3
        clear p1 hN hop h1
        go_enter Tryz.func115, Tryz.ntmps115
        go_wp2_with fail
        refine HF.out.mono ?_
        rintro e w' ⟨rfl, rfl⟩
        go_wp2_with fail
        go_ret
        exact ⟨Fs.refl _ _ _, rfl, HR.out⟩
      · rw [if_neg (by omega), if_neg (by rw [hN]; simp), if_neg (fun e => h1 e.2)] at ho
        rw [hN] at p2
        rw [decide_eq_false h1] at p3
        have p2 : (bits .and .i64 f 2 == 0) = true := p2
        have p3 : (bits .and .i64 f 4 == 0) = true := p3
        clear p1 hN hop h1
        by_cases h50 : L = 50
        · subst h50
          rw [if_pos rfl] at ho
          subst ho
          go_enter Tryz.func115, Tryz.ntmps115
          go_wp2_with fail
          refine HF.out.mono ?_
          rintro e w' ⟨rfl, rfl⟩
          go_wp2_with fail
          go_ret
          exact ⟨Fs.refl _ _ _, rfl, HR.out.x⟩
        · rw [if_neg h50] at ho
          subst ho
          have h50' : ¬ (L : Int) = 50 := by omega
          clear h50
          go_enter Tryz.func115, Tryz.ntmps115
          go_wp2_with fail
          refine HF.out.mono ?_
          rintro e w' ⟨rfl, rfl⟩
          go_wp2_with fail
          go_region_law ((refine RowK.step_append (R := RM) (by rfl) _ _ (by rfl) N (.slice A L c) ps [⟨mv, B, d⟩] (by rfl) HA.out.1 ⟨w.heap.size, 0, none⟩ 1 1 rfl (by rfl) HA.out.2.1 (by omega) (by have := HLL.out.1; simp; omega) HA.out.2.2.1 (w.heap.size + 1) (by simp) ?_
                          intro gg cap w3 O3 hgrow hat hlt
                          have F3 := HA.out.2.2.2 _ _ _ O3 hgrow
                          have b3 := F3.1
                          have F3 := Lib.hid F3
                          have fz := b3.frozen 4
                          have cz := b3.cell 4
                          have lq := b3.lt))
          all_goals
            go_wp2_with fail
            go_ret
            exact F3.out.2
  · change Calls _ _ #[_, .int .i64 8] _ _
    rw [if_neg (by omega), if_neg (by omega)] at ho
    by_cases h1 : mv.op = 1
    · rw [if_pos ⟨by omega, h1⟩] at ho
      subst ho
      rw [decide_eq_true h1] at p3
      have p3 : (bits .and .i64 f 4 == 0) = false := p3
      clear p1 p2 hop h1
      go_enter Tryz.func115, Tryz.ntmps115
      go_wp2_with fail
      refine HF.out.mono ?_
      rintro e w' ⟨rfl, rfl⟩
      go_wp2_with fail
      go_ret
      exact ⟨Fs.refl _ _ _, rfl, HR.out⟩
    · rw [if_neg (fun e => h1 e.2)] at ho
      rw [decide_eq_false h1] at p3
      have p3 : (bits .and .i64 f 4 == 0) = true := p3
      clear p1 p2 hop h1
      by_cases h50 : L = 50
      · subst h50
        rw [if_pos rfl] at ho
        subst ho
        go_enter Tryz.func115, Tryz.ntmps115
        go_wp2_with fail
        refine HF.out.mono ?_
        rintro e w' ⟨rfl, rfl⟩
        go_wp2_with fail
        go_ret
        exact ⟨Fs.refl _ _ _, rfl, HR.out.x⟩
      · rw [if_neg h50] at ho
        subst ho
        have h50' : ¬ (L : Int) = 50 := by omega
        clear h50
        go_enter Tryz.func115, Tryz.ntmps115
        go_wp2_with fail
        refine HF.out.mono ?_
        rintro e w' ⟨rfl, rfl⟩
        go_wp2_with fail
        go_region_law ((refine RowK.step_append (R := RM) (by rfl) _ _ (by rfl) N (.slice A L c) ps [⟨mv, B, d⟩] (by rfl) HA.out.1 ⟨w.heap.size, 0, none⟩ 1 1 rfl (by rfl) HA.out.2.1 (by omega) (by have := HLL.out.1; simp; omega) HA.out.2.2.1 (w.heap.size + 1) (by simp) ?_
                        intro gg cap w3 O3 hgrow hat hlt
                        have F3 := HA.out.2.2.2 _ _ _ O3 hgrow
                        have b3 := F3.1
                        have F3 := Lib.hid F3
                        have fz := b3.frozen 4
                        have cz := b3.cell 4
                        have lq := b3.lt))
        all_goals
          go_wp2_with fail
          go_ret
          exact F3.out.2
  · change Calls _ _ #[_, .int .i64 9] _ _
    rw [if_neg (by omega), if_neg (by omega), if_neg (by omega)] at ho
    clear p1 p2 p3 hop
    by_cases h50 : L = 50
    · subst h50
      rw [if_pos rfl] at ho
      subst ho
      go_enter Tryz.func115, Tryz.ntmps115
      go_wp2_with fail
      refine HF.out.mono ?_
      rintro e w' ⟨rfl, rfl⟩
      go_wp2_with fail
      go_ret
      exact ⟨Fs.refl _ _ _, rfl, HR.out.x⟩
    · rw [if_neg h50] at ho
      subst ho
      have h50' : ¬ (L : Int) = 50 := by omega
      clear h50
      go_enter Tryz.func115, Tryz.ntmps115
      go_wp2_with fail
      refine HF.out.mono ?_
      rintro e w' ⟨rfl, rfl⟩
      go_wp2_with fail
      go_region_law ((refine RowK.step_append (R := RM) (by rfl) _ _ (by rfl) N (.slice A L c) ps [⟨mv, B, d⟩] (by rfl) HA.out.1 ⟨w.heap.size, 0, none⟩ 1 1 rfl (by rfl) HA.out.2.1 (by omega) (by have := HLL.out.1; simp; omega) HA.out.2.2.1 (w.heap.size + 1) (by simp) ?_
                      intro gg cap w3 O3 hgrow hat hlt
                      have F3 := HA.out.2.2.2 _ _ _ O3 hgrow
                      have b3 := F3.1
                      have F3 := Lib.hid F3
                      have fz := b3.frozen 4
                      have cz := b3.cell 4
                      have lq := b3.lt))
      all_goals
        go_wp2_with fail
        go_ret
        exact F3.out.2
end Go.Proofs.YtlephnfepofbbaaGreatDoor
