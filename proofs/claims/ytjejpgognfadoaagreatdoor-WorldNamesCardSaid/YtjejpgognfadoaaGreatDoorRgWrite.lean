/-
  circle.write: bytes laid into the places from a number on.
-/
import Derived.Test.YtjejpgognfadoaaGreatDoorRgFold
import Derived.Test.YtjejpgognfadoaaGreatDoorCmLow
import Derived.Laws.CopyOwn
namespace Go.Proofs.YtjejpgognfadoaaGreatDoor
open Go.RowKit Go.Shelf Go.Maps Go.ChangeMaps

attribute [local go_sem] Oper.semAt_some

theorem infoB : (Tryz.prog.info? 5).map (·.size) = some 1 := by kernel_rfl
theorem add_plain (b o j : Nat) : (⟨b, o, none⟩ : Addr).add j = ⟨b, o + j, none⟩ := by unfold Addr.add; split <;> simp_all

/-- copy into a row that is known whole. -/
theorem copy_into (W : World) (g off len cap : Nat) (A : Option Addr) (n c : Nat) (ps cs : List Int) (hg : W.heap[g]? = some (.cells (encB ps).toArray 5 (0, 0))) (hfit : off + len ≤ ps.length) (hlen : cs.length = min len n)
    (hsrc : 0 < cs.length → ∃ b o, A = some ⟨b, o, none⟩ ∧ ∀ j z, cs[j]? = some z → W.cell? ⟨b, o + j, none⟩ = some (.int .u8 z)) :
    ∃ W2, (∀ ty, (Builtin.copy_ #[29, 29] ty #[.slice (some ⟨g, off, none⟩) len cap, .slice A n c]).run Tryz.prog W = .ok (.int .i64 (cs.length : Int)) W2) ∧
      W2.heap[g]? = some (.cells (encB (splice ps off cs)).toArray 5 (0, 0)) ∧ Kept (fun k => k = g) W W2 ∧ W2.heap.size = W.heap.size ∧ W2.drawn = W.drawn := by
  by_cases h0 : cs.length = 0
  · obtain rfl : cs = [] := List.eq_nil_of_length_eq_zero h0
    refine ⟨W, fun ty => ?_, by rw [splice_nil]; exact hg, Kept.refl _ _, rfl, rfl⟩
    have := run_copy_none (P := Tryz.prog) W 29 29 ty 5 (some ⟨g, off, none⟩) A len cap n c Tryz.underlying29 infoB (by show min n len = 0; simp at hlen; omega)
    exact this
  · obtain ⟨b, o, rfl, hc⟩ := hsrc (by omega)
    have hlt : g < W.heap.size := (Array.getElem?_eq_some_iff.1 hg).1
    refine ⟨W.setRow g ((encB ps).toArray.toList.take off ++ encB cs ++ (encB ps).toArray.toList.drop (off + (encB cs).length)).toArray, fun ty => ?_, ?_, ⟨rfl, rfl, rfl, by simp [World.setRow], fun k _ hk => setRow_other W g k _ hk⟩, by simp [World.setRow], rfl⟩
    · have := run_copy_row (P := Tryz.prog) W 29 29 ty 5 g off len cap ⟨b, o, none⟩ n c (encB ps).toArray 5 (encB cs) Tryz.underlying29 infoB hg (by rw [encB_length, hlen]; exact Nat.min_comm _ _) (fun j v hj => by
        rw [encB_get] at hj
        cases hz : cs[j]? with
        | none => rw [hz] at hj; cases hj
        | some z => rw [hz] at hj; cases hj; rw [add_plain]; exact hc j z hz) (by rw [encB_length]; simp [encB_length]; omega) (encB_one cs)
      rw [this]; simp [goInt, encB_length]
    · rw [setRow_heap W g _ _ 5 _ hg]
      congr 3
      simp [splice, encB]

/-- What is left of a slice behind a cut. -/
theorem cut_run (b o n c m : Nat) (A : Option Addr) (h1 : m ≤ n) (h2 : n ≤ c) (hc : c ≤ 9223372036854775807) (hA : A = none → c = 0) (hs : 0 < n → A = some ⟨b, o, none⟩) (hsp : ∀ a, A = some a → a.spot = none) :
    ∃ A', (∀ W, (Instr.slice 29 (.slice A n c) (some (.int .i64 (m : Int))) none none).run Tryz.prog W = .ok (.slice A' (n - m) (c - m)) W) ∧ (A' = none → c - m = 0) ∧ (0 < n - m → A' = some ⟨b, o + m, none⟩) ∧ (∀ a, A' = some a → a.spot = none) ∧ (m = 0 → A' = A) := by
  have b0 : (0 : Int) ≤ (m : Int) := by omega
  have b1 : (m : Int) ≤ (n : Int) := by omega
  have b2 : (m : Int) ≤ (c : Int) := by omega
  have b3 : (n : Int) ≤ (c : Int) := by omega
  cases A with
  | none =>
    obtain rfl : c = 0 := hA rfl
    obtain rfl : n = 0 := by omega
    obtain rfl : m = 0 := by omega
    exact ⟨none, fun W => (by go_simp), fun _ => rfl, fun h => (by omega), (fun a h => by cases h), fun _ => rfl⟩
  | some a =>
    obtain ⟨ab, ao, sp⟩ := a
    obtain rfl : sp = none := hsp _ rfl
    refine ⟨if c = m then some ⟨ab, ao, none⟩ else some ⟨ab, ao + m, none⟩, fun W => (by go_simp), (fun h => by split at h <;> (cases h)), fun h => ?_, (fun a h => by split at h <;> (cases h; rfl)), (fun h => by subst h; split <;> rfl)⟩
    have e := hs (by omega)
    rw [if_neg (by omega)]
    cases e; rfl

/-- What lies between two rounds of laying. -/
def WrI (w0 : World) (N g bB b o c : Nat) (ps zs : List Int) {L : Nat} (pre : List (Pc L)) (W : World) : Prop :=
  N ≤ W.heap.size ∧ W.heap[g]? = some (.cells (encB (wfold ps zs pre).1).toArray 5 (0, 0)) ∧ Kept (fun k => k = g) w0 W ∧
  ∃ d A', d ≤ zs.length ∧ (wfold ps zs pre).2 = zs.drop d ∧ Boxed W bB 29 (.slice A' (zs.length - d) (c - d)) ∧ (A' = none → c - d = 0) ∧ (0 < zs.length - d → A' = some ⟨b, o + d, none⟩) ∧ (∀ a, A' = some a → a.spot = none)
theorem WrI.low (w0 : World) (N g bB b o c : Nat) (ps zs : List Int) (L : Nat) (hg : g < N) (hb : bB < N) (h0 : w0.heap.size ≤ N) : Low N (WrI w0 N g bB b o c ps zs (L := L)) := by
  rintro pre W ⟨h1, h2, h3, d, A', h4, h5, h6, h7, h8, h9⟩
  exact ⟨h1, fun W' s => ⟨s.size, (s.block g hg).trans h2, h3.sameTo s h0, d, A', h4, h5, (s.block bB hb).trans h6, h7, h8, h9⟩⟩

set_option maxRecDepth 100000 in
set_option maxHeartbeats 4000000 in
theorem write_any (w : World) (cb g f : Nat) (cap inn out : Value) (ps zs : List Int) (A : Option Addr) (b o c : Nat)
    (hblk : Blk w cb 104 #[cap, .slice (some ⟨g, 0, none⟩) ps.length ps.length, inn, out]) (hrow : w.heap[g]? = some (.cells (encB ps).toArray 5 (0, 0)))
    (hL : ps.length ≤ 65536) (hz : zs.length ≤ ps.length) (h0 : 0 < zs.length) (hf : f ≤ 1000000000) (hc : zs.length ≤ c) (hcm : c ≤ 9223372036854775807)
    (hA : A = some ⟨b, o, none⟩) (hbg : b ≠ g) (hbl : b < w.heap.size) (hsrc : ∀ i z, zs[i]? = some z → w.cell? ⟨b, o + i, none⟩ = some (.int .u8 z)) :
    Calls Tryz.prog 95 #[.pointer (some ⟨cb, 0, none⟩), .int .u64 (f : Int), .slice A zs.length c] w fun e w' =>
      e = .returned (.tuple #[]) ∧ w'.heap[g]? = some (.cells (encB (laidB ps f zs)).toArray 5 (0, 0)) ∧ Kept (fun k => k = g) w w' := by
  refine (callsIn_wide (n := 4)).1 ?_
  subst hA
  have hgl : g < w.heap.size := (Array.getElem?_eq_some_iff.1 hrow).1
  have hcl := hblk.lt
  have hcg : cb ≠ g := fun e => by
    subst e; unfold Blk at hblk; rw [hrow] at hblk; injection hblk with h1; injection h1 with _ ht; revert ht; decide
  obtain ⟨Y, hY⟩ : ∃ Y, (((w.alloc (.cells #[.slice (some ⟨b, o, none⟩) zs.length c] 29)).alloc (.cells #[.pointer (some ⟨cb, 0, none⟩)] 100)).alloc (.cells #[.int .u64 (f : Int)] 35)).alloc (.cells #[.int .i64 (zs.length : Int)] 3) = Y := ⟨_, rfl⟩
  have hkY : Kept (fun _ => False) w Y := by rw [← hY]; exact ((((Kept.refl _ w).alloc _).alloc _).alloc _).alloc _
  have hYz : Y.heap.size = w.heap.size + 1 + 1 + 1 + 1 := by rw [← hY]; simp
  have bb : Boxed Y w.heap.size 29 (.slice (some ⟨b, o, none⟩) zs.length c) := by rw [← hY]; exact (((Boxed.new w _ _).alloc _).alloc _).alloc _
  have hseg : SegAt Y (w.heap.size + 1 + 2) (w.heap.size + 1 + 1) (w.heap.size + 1) cb g ps.length f zs.length cap inn out := by
    rw [← hY]
    have x1 := ((Boxed.new (w.alloc (.cells #[.slice (some ⟨b, o, none⟩) zs.length c] 29)) 100 (.pointer (some ⟨cb, 0, none⟩))).alloc (.cells #[.int .u64 (f : Int)] 35)).alloc (.cells #[.int .i64 (zs.length : Int)] 3)
    have x2 := (Boxed.new ((w.alloc (.cells #[.slice (some ⟨b, o, none⟩) zs.length c] 29)).alloc (.cells #[.pointer (some ⟨cb, 0, none⟩)] 100)) 35 (.int .u64 (f : Int))).alloc (.cells #[.int .i64 (zs.length : Int)] 3)
    have x3 := Boxed.new (((w.alloc (.cells #[.slice (some ⟨b, o, none⟩) zs.length c] 29)).alloc (.cells #[.pointer (some ⟨cb, 0, none⟩)] 100)).alloc (.cells #[.int .u64 (f : Int)] 35)) 3 (.int .i64 (zs.length : Int))
    simp only [World.size_alloc] at x1 x2 x3
    exact ⟨x3, x2, x1, (((hblk.alloc _).alloc _).alloc _).alloc _⟩
  have hI0 : WrI w Y.heap.size g w.heap.size b o c ps zs (L := ps.length) [] Y :=
    ⟨Nat.le_refl _, (hkY.block g hgl (fun e => e)).trans hrow, hkY.mono (fun _ _ e => e.elim), 0, some ⟨b, o, none⟩, Nat.zero_le _, rfl, by simpa using bb, (fun e => by cases e), (fun _ => rfl), (fun a e => by cases e; rfl)⟩
  have HW := Lib.hid (And.intro hsrc (And.intro hrow hblk))
  have HY := Lib.hid hY
  clear hY hsrc hrow hblk
  refine callsIn_of_wp_marks Tryz.func95 rfl trivial ?_ rfl
  simp only [Tryz.ntmps95, List.size_toArray, List.length_cons, List.length_nil, Nat.reduceAdd, Nat.reduceSub, Array.replicate_succ, Array.replicate_zero, List.push_toArray, List.append_toArray, List.nil_append, List.cons_append]
  gi_wp2_with (refine ⟨trivial, ?_⟩; gi_at_call 103; refine (callsIn_wide.2 (segments_any _ cb f zs.length)).mono ?_; rintro e w' ⟨rfl, rfl⟩)
  rw [HY.out]
  refine rangeFunc_low (n := 4) (by omega) (gf := 106) (lb := #[.pointer (some ⟨w.heap.size + 1 + 2, 0, none⟩), .pointer (some ⟨w.heap.size + 1 + 1, 0, none⟩), .pointer (some ⟨w.heap.size + 1, 0, none⟩)]) rfl (enters_of Tryz.func106 (by kernel_rfl) rfl)
    (fun x : Pc ps.length => #[.slice (some ⟨g, x.off, none⟩) x.len (ps.length - x.off)]) (fun i => i = w.heap.size + 1 + 2 ∨ i = w.heap.size + 1 + 1 ∨ i = w.heap.size + 1 ∨ i = cb)
    (segs_ch 3 (by omega) _ _ _ _ _ _ _ _ _ _ _ hL hz h0 hf _ (fun X Z i hk hi hl => hk.block i (by rcases hi with e | e | e | e <;> omega) hi) Y hseg) (fun _ => rfl)
    (WrI w Y.heap.size g w.heap.size b o c ps zs) (fun _ _ _ => False) (WrI.low _ _ _ _ _ _ _ _ _ _ (by omega) (by omega) (by omega)) (fun _ _ _ h => h.elim) hI0 ?act ?assign ?body ?done ?stop
  case assign =>
    intro l x W K hK
    gi_wp2
    exact hK
  case body =>
    rintro l pre x W ⟨i1, i2, i3, d, A', i4, i5, i6, i7, i8, i9⟩ hlt
    have hxl := x.le
    have hwl := (wfold_len ps zs (L := ps.length) rfl pre).1
    have hnl : (zs.drop d).length = zs.length - d := by rw [List.length_drop]
    have hms : (wfold ps zs pre).2.length = zs.length - d := by rw [i5, hnl]
    obtain ⟨m, hm⟩ : ∃ m, m = min x.len (zs.length - d) := ⟨_, rfl⟩
    have hcs : ((zs.drop d).take m).length = m := by rw [List.length_take, hnl]; omega
    obtain ⟨W2, hcp, r1, r2, r3, r4⟩ := copy_into W.drew g x.off x.len (ps.length - x.off) A' (zs.length - d) (c - d) (wfold ps zs pre).1 ((zs.drop d).take m) i2 (by omega) (by rw [hcs, hm]) (fun hpos => ⟨b, o + d, i8 (by omega), fun j z hj => by
      rw [List.getElem?_take] at hj
      split at hj
      · rw [List.getElem?_drop] at hj
        have := HW.out.1 _ _ hj
        rw [show o + d + j = o + (d + j) by omega]
        exact (World.cell?_of_block (a := ⟨b, _, none⟩) (i3.block b hbl hbg)).trans this
      · cases hj⟩)
    rw [hcs] at hcp
    obtain ⟨A2, hcut, t1, t2, t3, -⟩ := cut_run b (o + d) (zs.length - d) (c - d) m A' (by omega) (by omega) (by omega) i7 i8 i9
    have c1 := i6.cell
    have f1 := i6.frozen
    have bx2 : Boxed W2 w.heap.size 29 (.slice A' (zs.length - d) (c - d)) := (r2.block w.heap.size i6.lt (by omega)).trans i6
    have c2 := bx2.cell
    have f2 := bx2.frozen
    have l2 := bx2.lt
    have hcpi := hcp 3
    have HE := Lib.hid (show lowPost Y.heap.size (fun i => i = w.heap.size + 1 + 2 ∨ i = w.heap.size + 1 + 1 ∨ i = w.heap.size + 1 ∨ i = cb) (WrI w Y.heap.size g w.heap.size b o c ps zs) (fun _ _ _ => False) (pre ++ [x]) W .normal { tmps := #[], defers := [] } (W2.setCell ⟨w.heap.size, 0, none⟩ (.slice A2 (zs.length - d - m) (c - d - m))) from by
      refine ⟨⟨by simp only [World.setCell, Array.size_modify, r3]; exact Nat.le_refl _, fun k o' hk hko ho => ?_⟩, ⟨by simp only [World.setCell, Array.size_modify, r3]; exact Nat.le_refl _, fun k hk hp => ?_⟩, ⟨by simp only [World.setCell, Array.size_modify, r3]; exact i1, ?_, ?_, d + m, A2, by omega, ?_, ?_, ?_, ?_, t3⟩⟩
      · exact (Below.heap_setCell _ _ _ _ (show k ≠ w.heap.size by omega)).trans ((r2.block k (Array.getElem?_eq_some_iff.1 hko).1 (by omega)).trans hko)
      · exact (Below.heap_setCell _ _ _ _ (show k ≠ w.heap.size by omega)).trans (r2.block k (Nat.lt_of_lt_of_le hk i1) (by omega))
      · rw [wfold_snoc]
        unfold wstep
        simp only []
        rw [i5, hnl, ← hm]
        exact (Below.heap_setCell _ _ _ _ (show g ≠ w.heap.size by omega)).trans r1
      · exact (i3.trans (Kept.refl _ W).drew |>.trans r2).setCell_new (Nat.le_refl _) _
      · rw [wfold_snoc]
        unfold wstep
        simp only []
        rw [i5, hnl, ← hm, List.drop_drop]
      · rw [← Nat.sub_sub, ← Nat.sub_sub]; exact bx2.set _
      · rw [← Nat.sub_sub]; exact t1
      · rw [← Nat.sub_sub, ← Nat.add_assoc]; exact t2)
    have hmx : Tryz.prog.follows .mixedOrders = true := by kernel_rfl
    clear hcp r1 r2 r3 r4 i1 i2 i3 i5 i6 i7 i8 i9 hxl hwl hnl hms hm hcs t1 t2 t3 bx2
    gi_wp2_with fail
    gi_region_with_o (fail)
    all_goals exact HE.out
  case done =>
    rintro D xs W hD rfl ⟨i1, i2, i3, _⟩ hK
    rw [wfold_pieces ps zs f hz] at i2
    refine ⟨by simp, .inl ⟨_, _, rfl, run_takeDeferred hK, ?_⟩⟩
    exact ⟨_, results_none rfl _ _ _, rfl, (World.putObj_heap_other (by omega)).trans i2, i3.os, i3.tape, i3.output, by simpa [World.putObj] using i3.size, fun k hk hf => (World.putObj_heap_other (by omega)).trans (i3.block k hk hf)⟩
  case stop =>
    rintro D c pre W _ _ h _
    exact h.elim
set_option maxRecDepth 100000 in
set_option maxHeartbeats 4000000 in
theorem write_none (w : World) (cb f : Nat) (A : Option Addr) (c : Nat) :
    Calls Tryz.prog 95 #[.pointer (some ⟨cb, 0, none⟩), .int .u64 (f : Int), .slice A 0 c] w fun e w' => e = .returned (.tuple #[]) ∧ Kept (fun _ => False) w w' := by
  refine (callsIn_wide (n := 4)).1 ?_
  obtain ⟨Y, hY⟩ : ∃ Y, (((w.alloc (.cells #[.slice A 0 c] 29)).alloc (.cells #[.pointer (some ⟨cb, 0, none⟩)] 100)).alloc (.cells #[.int .u64 (f : Int)] 35)).alloc (.cells #[.int .i64 (0 : Int)] 3) = Y := ⟨_, rfl⟩
  have hkY : Kept (fun _ => False) w Y := by rw [← hY]; exact ((((Kept.refl _ w).alloc _).alloc _).alloc _).alloc _
  have hYz : Y.heap.size = w.heap.size + 1 + 1 + 1 + 1 := by rw [← hY]; simp
  have hseg : Boxed Y (w.heap.size + 1 + 2) 3 (.int .i64 0) := by
    rw [← hY]
    have x3 := Boxed.new (((w.alloc (.cells #[.slice A 0 c] 29)).alloc (.cells #[.pointer (some ⟨cb, 0, none⟩)] 100)).alloc (.cells #[.int .u64 (f : Int)] 35)) 3 (.int .i64 (0 : Int))
    simp only [World.size_alloc] at x3
    exact x3
  have HY := Lib.hid hY
  clear hY
  refine callsIn_of_wp_marks Tryz.func95 rfl trivial ?_ rfl
  simp only [Tryz.ntmps95, List.size_toArray, List.length_cons, List.length_nil, Nat.reduceAdd, Nat.reduceSub, Array.replicate_succ, Array.replicate_zero, List.push_toArray, List.append_toArray, List.nil_append, List.cons_append]
  gi_wp2_with (refine ⟨trivial, ?_⟩; gi_at_call 103; refine (callsIn_wide.2 (segments_any _ cb f 0)).mono ?_; rintro e w' ⟨rfl, rfl⟩)
  rw [HY.out]
  refine rangeFunc_low (n := 4) (by omega) (gf := 106) (lb := #[.pointer (some ⟨w.heap.size + 1 + 2, 0, none⟩), .pointer (some ⟨w.heap.size + 1 + 1, 0, none⟩), .pointer (some ⟨w.heap.size + 1, 0, none⟩)]) rfl (enters_of Tryz.func106 (by kernel_rfl) rfl)
    (fun x : Pc 0 => #[.slice (some ⟨0, x.off, none⟩) x.len (0 - x.off)]) (fun i => i = w.heap.size + 1 + 2)
    (segs_none_ch 3 (by omega) _ _ _ 0 f 0 _ Y hseg) (fun _ => rfl)
    (fun _ W => Y.heap.size ≤ W.heap.size ∧ Kept (fun _ => False) w W) (fun _ _ _ => False) (fun pre W h => ⟨h.1, fun W' s => ⟨s.size, h.2.sameTo s (by omega)⟩⟩) (fun _ _ _ h => h.elim) ⟨Nat.le_refl _, hkY⟩ ?act ?assign ?body ?done ?stop
  case assign =>
    intro l x W K hK
    gi_wp2
    exact hK
  case body => exact fun _ pre _ _ _ h => by omega
  case done =>
    rintro D xs W hD _ ⟨i1, i3⟩ hK
    refine ⟨by simp, .inl ⟨_, _, rfl, run_takeDeferred hK, ?_⟩⟩
    exact ⟨_, results_none rfl _ _ _, rfl, i3.os, i3.tape, i3.output, by simpa [World.putObj] using i3.size, fun k hk hf => (World.putObj_heap_other (by omega)).trans (i3.block k hk hf)⟩
  case stop =>
    rintro D c pre W _ _ h _
    exact h.elim
end Go.Proofs.YtjejpgognfadoaaGreatDoor
