/-
  circle.first: the first n bytes, in a new row.
-/
import Derived.Test.YtjejpgognfadoaaGreatDoorRgWrite
import Derived.Laws.MakeOwn
import Derived.Scope
namespace Go.Proofs.YtjejpgognfadoaaGreatDoor
open Go.RowKit Go.Shelf Go.Maps Go.ChangeMaps

attribute [local go_sem] Oper.semAt_some

theorem splice_buf (acc cs : List Int) (k : Nat) (h : cs.length ≤ k) : splice (acc ++ List.replicate k 0) acc.length cs = (acc ++ cs) ++ List.replicate (k - cs.length) 0 := by
  unfold splice
  rw [List.take_left, show acc.length + cs.length = acc.length + cs.length from rfl, List.drop_append, List.drop_of_length_le (by omega), List.nil_append, List.append_assoc]
  congr 2
  rw [List.drop_replicate]
  congr 1; omega

theorem made_run (n : Nat) (hn : n ≤ 65536) (w : World) : (Instr.makeSlice 29 (.int .i64 (n : Int)) (.int .i64 (n : Int))).run Tryz.prog w = .ok (.slice (some ⟨w.heap.size, 0, none⟩) n n) (w.alloc (.cells (encB (List.replicate n 0)).toArray 5)) := by
  obtain ⟨i, hi, h1, h2, h3⟩ := info_parts (show (Tryz.prog.info? 5).map (fun i => (i.zero, i.size, i.bytes)) = some (some (.int .u8 0), 1, 1) by kernel_rfl)
  have := run_make (P := Tryz.prog) w 29 5 i (.int .u8 0) Tryz.underlying29 hi h1 .i64 .i64 (n : Int) (n : Int) (by omega) (Int.le_refl _) (by rw [h3]; omega) (by omega)
  rw [this, h2]
  have e : madeCells (Value.cells (.int .u8 0)) ((n : Int).toNat * 1) = (encB (List.replicate n 0)).toArray := by
    apply Array.toList_inj.1
    refine List.ext_getElem? fun j => ?_
    simp [madeCells, encB, Value.cells]
    by_cases hj : j < n
    · simp [hj, Array.getElem?_range, List.getElem?_replicate, Nat.mod_one]
    · simp [hj, List.getElem?_replicate]
  rw [e]
  simp

/-- What lies between two rounds of gathering. -/
structure FiI (w0 : World) (N gb bN bB bD n : Nat) (ps : List Int) {L : Nat} (pre : List (Pc L)) (W : World) : Prop where
  size : N ≤ W.heap.size
  row : W.heap[gb]? = some (.cells (encB (ffold n ps pre ++ List.replicate (n - (ffold n ps pre).length) 0)).toArray 5 (0, 0))
  k : Kept (fun _ => False) w0 W
  hn : Boxed W bN 3 (.int .i64 (n : Int))
  hb : Boxed W bB 29 (.slice (some ⟨gb, 0, none⟩) n n)
  hd : Boxed W bD 3 (.int .i64 ((ffold n ps pre).length : Int))
theorem FiI.low (w0 : World) (N gb bN bB bD n : Nat) (ps : List Int) (L : Nat) (hg : gb < N) (h1 : bN < N) (h2 : bB < N) (h3 : bD < N) (h0 : w0.heap.size ≤ N) : Low N (FiI w0 N gb bN bB bD n ps (L := L)) :=
  fun _ _ h => ⟨h.size, fun _ s => ⟨s.size, (s.block gb hg).trans h.row, h.k.sameTo s h0, (s.block bN h1).trans h.hn, (s.block bB h2).trans h.hb, (s.block bD h3).trans h.hd⟩⟩

theorem first_end {w0 W : World} {N gb bN bB bD n L D : Nat} {ps bs : List Int} {pre : List (Pc L)} (h : FiI w0 N gb bN bB bD n ps pre W) (hf : ffold n ps pre = bs.take n) (hn : n ≤ bs.length) (hD : N ≤ D) (hg : gb < N := by omega) (h0 : w0.heap.size ≤ N := by omega) (o : Obj) :
    (W.putObj D o).heap[gb]? = some (.cells (encB (bs.take n)).toArray 5 (0, 0)) ∧ Kept (fun _ => False) w0 (W.putObj D o) := by
  have hl : (bs.take n).length = n := by rw [List.length_take]; omega
  refine ⟨?_, h.k.os, h.k.tape, h.k.output, by simpa [World.putObj] using h.k.size, fun k hk hf => (World.putObj_heap_other (by omega)).trans (h.k.block k hk hf)⟩
  have := h.row
  rw [hf, hl, Nat.sub_self, List.replicate_zero, List.append_nil] at this
  exact (World.putObj_heap_other (by omega)).trans this

set_option maxRecDepth 100000 in
set_option maxHeartbeats 4000000 in
theorem first_any {w : World} {B cb cap inn out : Nat} {v : Value} {ps bs : List Int} (h : Cst w B cb cap v ps bs inn out) (n : Nat) (hn : n ≤ bs.length) (h0 : 0 < bs.length) :
    Calls Tryz.prog 96 #[.pointer (some ⟨cb, 0, none⟩), .int .i64 (n : Int)] w fun e w' =>
      ∃ gb, e = .returned (.slice (some ⟨gb, 0, none⟩) n n) ∧ w.heap.size ≤ gb ∧ w'.heap[gb]? = some (.cells (encB (bs.take n)).toArray 5 (0, 0)) ∧ Kept (fun _ => False) w w' := by
  refine (callsIn_wide (n := 4)).1 ?_
  have hL := h.lies.1
  have hcap := h.le
  have hbig := h.big
  have hsm := h.sm
  have hin := h.hin
  obtain ⟨g, rfl, hBg, hgr⟩ : ∃ g, v = .slice (some ⟨g, 0, none⟩) ps.length ps.length ∧ B ≤ g ∧ w.heap[g]? = some (.cells (encB ps).toArray 5 (0, 0)) := by
    rcases h.row with ⟨_, e⟩ | h
    · rw [e] at hL; simp at hL; rw [hL] at h0; simp at h0
    · exact h
  have hgl : g < w.heap.size := (Array.getElem?_eq_some_iff.1 hgr).1
  obtain ⟨Z, hZ⟩ : ∃ Z, (((w.alloc (.cells #[.int .i64 (n : Int)] 3)).alloc (.cells (encB (List.replicate n 0)).toArray 5)).alloc (.cells #[.slice (some ⟨w.heap.size + 1, 0, none⟩) n n] 29)).alloc (.cells #[.int .i64 0] 3) = Z := ⟨_, rfl⟩
  have hmk := made_run n (by omega)
  have c3 := h.blk.cell 3
  simp at c3
  have hcl := h.blk.lt
  have HW := Lib.hid (And.intro h hgr)
  have HZ := Lib.hid hZ
  clear h hgr hZ
  refine callsIn_of_wp_marks Tryz.func96 rfl trivial ?_ rfl
  simp only [Tryz.ntmps96, List.size_toArray, List.length_cons, List.length_nil, Nat.reduceAdd, Nat.reduceSub, Array.replicate_succ, Array.replicate_zero, List.push_toArray, List.append_toArray, List.nil_append, List.cons_append]
  gi_wp2
  refine wpIn_wide.2 (wp_scope_straight ((wpIn_wide (n := 4)).1 ?_))
  gi_wp2
  rw [HZ.out]
  refine wpIn_label ?_
  have hkZ : Kept (fun _ => False) w Z := by rw [← HZ.out]; exact ((((Kept.refl _ w).alloc _).alloc _).alloc _).alloc _
  have hZz : Z.heap.size = w.heap.size + 1 + 1 + 1 + 1 := by rw [← HZ.out]; simp
  have hCZ : Cst Z B cb cap (.slice (some ⟨g, 0, none⟩) ps.length ps.length) ps bs inn out := HW.out.1.kept hkZ (fun _ _ e => e)
  have d3 := hCZ.blk.cell 3
  simp at d3
  have dl := hCZ.blk.lt
  have HL := Lib.hid (length_any (hCZ.drewN 1))
  have HC := Lib.hid (And.intro hkZ hCZ)
  clear hCZ hkZ c3
  gi_wp2_with fail
  have hmx : Tryz.prog.follows .mixedOrders = true := by kernel_rfl
  refine wpIn_mono (Q := onlyN fun a' w' => a' = { tmps := #[.pointer (some ⟨cb, 0, none⟩), .int .i64 (n : Int), undef, .pointer (some ⟨w.heap.size, 0, none⟩), .slice none 0 0, .pointer (some ⟨w.heap.size + 1 + 1, 0, none⟩), .pointer (some ⟨w.heap.size + 1 + 1 + 1, 0, none⟩), undef, .int .i64 (n : Int), .slice (some ⟨w.heap.size + 1, 0, none⟩) n n, .pointer (some ⟨cb, 0, none⟩), .pointer (some ⟨cb, 0, none⟩), .pointer (some ⟨cb, 0, none⟩), .pointer (some ⟨cb, 3, none⟩), .int .u64 (out : Int), .pointer (some ⟨cb, 0, none⟩), .int .i64 (bs.length : Int), .func (.func 106) #[] #[.pointer (some ⟨w.heap.size + 1 + 1 + 1 + 1 + 2, 0, none⟩), .pointer (some ⟨w.heap.size + 1 + 1 + 1 + 1 + 1, 0, none⟩), .pointer (some ⟨w.heap.size + 1 + 1 + 1 + 1, 0, none⟩)], undef, undef, undef, undef, undef, undef, undef, undef, undef, undef, undef, undef], defers := [] } ∧
    ∃ n1, w' = (((Z.drewN n1).alloc (.cells #[.pointer (some ⟨cb, 0, none⟩)] 100)).alloc (.cells #[.int .u64 (out : Int)] 35)).alloc (.cells #[.int .i64 (bs.length : Int)] 3)) ?region ?rest
  case region =>
    gi_region_with_o (first
      | (refine ⟨trivial, ?_⟩; gi_at_call 70; refine (callsIn_wide.2 HL.out).mono ?_; rintro e w' ⟨rfl, n1, rfl⟩)
      | (refine ⟨trivial, ?_⟩; gi_at_call 103; refine (callsIn_wide.2 (segments_any _ cb out bs.length)).mono ?_; rintro e w' ⟨rfl, rfl⟩))
    all_goals exact ⟨rfl, _, rfl⟩
  case rest =>
    rintro e a' w' hR
    cases e with
    | ret => exact hR.elim
    | exit _ => exact hR.elim
    | goto _ => exact hR.elim
    | panic _ => exact hR.elim
    | outgrown => exact hR.elim
    | normal =>
      obtain ⟨rfl, n1, rfl⟩ := hR
      gi_wp2
      obtain ⟨V, hV⟩ : ∃ V, (((Z.drewN n1).alloc (.cells #[.pointer (some ⟨cb, 0, none⟩)] 100)).alloc (.cells #[.int .u64 (out : Int)] 35)).alloc (.cells #[.int .i64 (bs.length : Int)] 3) = V := ⟨_, rfl⟩
      have hkV : Kept (fun _ => False) Z V := by rw [← hV]; exact ((((Kept.refl _ Z).drewN n1).alloc _).alloc _).alloc _
      have hVz : V.heap.size = w.heap.size + 1 + 1 + 1 + 1 + 1 + 1 + 1 := by rw [← hV]; simp [hZz]
      have z1 : Boxed Z w.heap.size 3 (.int .i64 (n : Int)) := by rw [← HZ.out]; exact (((Boxed.new w _ _).alloc _).alloc _).alloc _
      have z2 : Blk Z (w.heap.size + 1) 5 (encB (List.replicate n 0)).toArray := by
        rw [← HZ.out]
        have := ((Blk.new (w.alloc (.cells #[.int .i64 (n : Int)] 3)) 5 (encB (List.replicate n 0)).toArray).alloc (.cells #[.slice (some ⟨w.heap.size + 1, 0, none⟩) n n] 29)).alloc (.cells #[.int .i64 0] 3)
        simp only [World.size_alloc] at this
        exact this
      have z3 : Boxed Z (w.heap.size + 1 + 1) 29 (.slice (some ⟨w.heap.size + 1, 0, none⟩) n n) := by
        rw [← HZ.out]
        have := (Boxed.new ((w.alloc (.cells #[.int .i64 (n : Int)] 3)).alloc (.cells (encB (List.replicate n 0)).toArray 5)) 29 (.slice (some ⟨w.heap.size + 1, 0, none⟩) n n)).alloc (.cells #[.int .i64 0] 3)
        simp only [World.size_alloc] at this
        exact this
      have z4 : Boxed Z (w.heap.size + 1 + 1 + 1) 3 (.int .i64 0) := by
        rw [← HZ.out]
        have := Boxed.new (((w.alloc (.cells #[.int .i64 (n : Int)] 3)).alloc (.cells (encB (List.replicate n 0)).toArray 5)).alloc (.cells #[.slice (some ⟨w.heap.size + 1, 0, none⟩) n n] 29)) 3 (.int .i64 0)
        simp only [World.size_alloc] at this
        exact this
      have up : ∀ {k : Nat} {o : Obj}, Z.heap[k]? = some o → V.heap[k]? = some o := fun {k o} e => (hkV.block k (Array.getElem?_eq_some_iff.1 e).1 (fun e => e)).trans e
      have hI0 : FiI w V.heap.size (w.heap.size + 1) w.heap.size (w.heap.size + 1 + 1) (w.heap.size + 1 + 1 + 1) n ps (L := ps.length) [] V :=
        ⟨Nat.le_refl _, by have := up z2; simpa [ffold] using this, HC.out.1.trans hkV, up z1, up z3, up z4⟩
      have hseg : SegAt V (w.heap.size + 1 + 1 + 1 + 1 + 2) (w.heap.size + 1 + 1 + 1 + 1 + 1) (w.heap.size + 1 + 1 + 1 + 1) cb g ps.length out bs.length (.int .i64 (cap : Int)) (.int .u64 (inn : Int)) (.int .u64 (out : Int)) := by
        rw [← hV]
        have x1 := ((Boxed.new (Z.drewN n1) 100 (.pointer (some ⟨cb, 0, none⟩))).alloc (.cells #[.int .u64 (out : Int)] 35)).alloc (.cells #[.int .i64 (bs.length : Int)] 3)
        have x2 := (Boxed.new ((Z.drewN n1).alloc (.cells #[.pointer (some ⟨cb, 0, none⟩)] 100)) 35 (.int .u64 (out : Int))).alloc (.cells #[.int .i64 (bs.length : Int)] 3)
        have x3 := Boxed.new (((Z.drewN n1).alloc (.cells #[.pointer (some ⟨cb, 0, none⟩)] 100)).alloc (.cells #[.int .u64 (out : Int)] 35)) 3 (.int .i64 (bs.length : Int))
        simp only [World.size_alloc, show (Z.drewN n1).heap.size = Z.heap.size from rfl, hZz] at x1 x2 x3
        exact ⟨x3, x2, x1, (((HC.out.2.drewN n1).blk.alloc _).alloc _).alloc _⟩
      have hrowV : Kept (fun _ => False) w V := HC.out.1.trans hkV
      have HV := Lib.hid hV
      clear hV up z1 z2 z3 z4 d3
      rw [HV.out]
      have hcg : cb < w.heap.size := hcl
      refine rangeFunc_low (n := 4) (by omega) (gf := 106) (lb := #[.pointer (some ⟨w.heap.size + 1 + 1 + 1 + 1 + 2, 0, none⟩), .pointer (some ⟨w.heap.size + 1 + 1 + 1 + 1 + 1, 0, none⟩), .pointer (some ⟨w.heap.size + 1 + 1 + 1 + 1, 0, none⟩)]) rfl (enters_of Tryz.func106 (by kernel_rfl) rfl)
        (fun x : Pc ps.length => #[.slice (some ⟨g, x.off, none⟩) x.len (ps.length - x.off)]) (fun i => i = w.heap.size + 1 + 1 + 1 + 1 + 2 ∨ i = w.heap.size + 1 + 1 + 1 + 1 + 1 ∨ i = w.heap.size + 1 + 1 + 1 + 1 ∨ i = cb)
        (segs_ch 3 (by omega) _ _ _ _ _ _ _ _ _ _ _ (by omega) hL h0 (by omega) _ (fun X Y i hk hi hl => hk.block i (by rcases hi with e | e | e | e <;> omega) hi) V hseg) (fun _ => rfl)
        (fun pre W => FiI w V.heap.size (w.heap.size + 1) w.heap.size (w.heap.size + 1 + 1) (w.heap.size + 1 + 1 + 1) n ps pre W ∧ ((ffold n ps pre).length < n ∨ (ffold n ps pre).length = 0))
        (fun c pre W => c = .exit 0 ∧ FiI w V.heap.size (w.heap.size + 1) w.heap.size (w.heap.size + 1 + 1) (w.heap.size + 1 + 1 + 1) n ps pre W ∧ (ffold n ps pre).length = n)
        (fun pre W h => ⟨h.1.size, fun W' s => ⟨((FiI.low _ _ _ _ _ _ _ _ _ (by omega) (by omega) (by omega) (by omega) (by omega)) pre W h.1).2 W' s, h.2⟩⟩)
        (fun c pre W h => ⟨h.2.1.size, fun W' s => ⟨h.1, ((FiI.low _ _ _ _ _ _ _ _ _ (by omega) (by omega) (by omega) (by omega) (by omega)) pre W h.2.1).2 W' s, h.2.2⟩⟩) ⟨hI0, .inr rfl⟩ ?act ?assign ?body ?done ?stop
      case assign =>
        intro l x W K hK
        gi_wp2
        exact hK
      case body =>
        rintro l pre x W ⟨⟨i1, i2, i3, i4, i5, i6⟩, i7⟩ hlt
        have hxl := x.le
        have hal := ffold_len n ps (L := ps.length) rfl pre
        obtain ⟨acc, hacc⟩ : ∃ acc, acc = ffold n ps pre := ⟨_, rfl⟩
        rw [← hacc] at i2 i6 i7 hal
        obtain ⟨k, hk⟩ : ∃ k, k = acc.length := ⟨_, rfl⟩
        rw [← hk] at i2 i6 i7 hal
        obtain ⟨m, hm⟩ : ∃ m, m = min x.len (n - k) := ⟨_, rfl⟩
        have hle : k + m ≤ n := by omega
        have hcs : ((ps.drop x.off).take m).length = m := by rw [List.length_take, List.length_drop]; omega
        have hst : ffold n ps (pre ++ [x]) = acc ++ (ps.drop x.off).take m := by
          rw [ffold_snoc, ← hacc]; unfold fstep; rw [← hk, ← hm]
        have hstl : (ffold n ps (pre ++ [x])).length = k + m := by rw [hst, List.length_append, hcs, hk]
        obtain ⟨A2, hcut, t1, t2, t3, t4⟩ := cut_run (w.heap.size + 1) 0 n n k (some ⟨w.heap.size + 1, 0, none⟩) hal (Nat.le_refl _) (by omega) (fun e => by cases e) (fun _ => rfl) (fun a e => by cases e; rfl)
        have hA2 : A2 = some ⟨w.heap.size + 1, k, none⟩ := by
          rcases i7 with h | h
          · have := t2 (by omega); simpa using this
          · rw [t4 h, h]
        subst hA2
        have hbl : (acc ++ List.replicate (n - k) 0).length = n := by simp; omega
        obtain ⟨W2, hcp, r1, r2, r3, r4⟩ := copy_into W.drew (w.heap.size + 1) k (n - k) (n - k) (some ⟨g, x.off, none⟩) x.len (ps.length - x.off) (acc ++ List.replicate (n - k) 0) ((ps.drop x.off).take m) i2 (by omega) (by rw [hcs, hm, Nat.min_comm]) (fun hpos => ⟨g, x.off, rfl, fun j z hj => by
          rw [List.getElem?_take] at hj
          split at hj
          · rw [List.getElem?_drop] at hj
            have hb : Blk W.drew g 5 (encB ps).toArray := (i3.block g hgl (fun e => e)).trans HW.out.2
            rw [hb.cell]
            simp [encB, hj]
          · cases hj⟩)
        rw [hcs] at hcp
        have hsb := splice_buf acc ((ps.drop x.off).take m) (n - k) (by rw [hcs]; omega)
        rw [← hk, hcs, ← hst] at hsb
        have c1 := i6.cell
        have b1 := i5.cell
        have bd2 : Boxed W2 (w.heap.size + 1 + 1 + 1) 3 (.int .i64 (k : Int)) := (r2.block _ i6.lt (by omega)).trans i6
        have bb2 : Boxed W2 (w.heap.size + 1 + 1) 29 (.slice (some ⟨w.heap.size + 1, 0, none⟩) n n) := (r2.block _ i5.lt (by omega)).trans i5
        have bn2 : Boxed W2 w.heap.size 3 (.int .i64 (n : Int)) := (r2.block _ i4.lt (by omega)).trans i4
        have c2 := bd2.cell
        have f2 := bd2.frozen
        have l2 := bd2.lt
        have hcpi := hcp 3
        have e5 : IntKind.i64.wrap ((k : Int) + (m : Int)) = ((k + m : Nat) : Int) := by rw [IntWalk.i64_in _ (by omega)]; omega
        have x3 : FiI w V.heap.size (w.heap.size + 1) w.heap.size (w.heap.size + 1 + 1) (w.heap.size + 1 + 1 + 1) n ps (pre ++ [x]) (W2.setCell ⟨w.heap.size + 1 + 1 + 1, 0, none⟩ (.int .i64 ((k + m : Nat) : Int))) := by
          refine ⟨by simp only [World.setCell, Array.size_modify, r3]; exact i1, ?_, ?_, ?_, ?_, ?_⟩
          · rw [hstl, show n - (k + m) = n - k - m by omega, ← hsb]
            exact (Below.heap_setCell _ _ _ _ (by simp)).trans r1
          · exact Kept.setCell_new ((i3.trans (Kept.refl _ W).drew).andThen r2 (fun i hi e => by omega)) (by simp; omega) _
          · exact (Below.heap_setCell _ _ _ _ (by show w.heap.size ≠ w.heap.size + 1 + 1 + 1; omega)).trans bn2
          · exact (Below.heap_setCell _ _ _ _ (by show w.heap.size + 1 + 1 ≠ w.heap.size + 1 + 1 + 1; omega)).trans bb2
          · rw [hstl]; exact bd2.set _
        have hkf : KeepsFrom V.heap.size W (W2.setCell ⟨w.heap.size + 1 + 1 + 1, 0, none⟩ (.int .i64 ((k + m : Nat) : Int))) ∧ KpL V.heap.size (fun i => i = w.heap.size + 1 + 1 + 1 + 1 + 2 ∨ i = w.heap.size + 1 + 1 + 1 + 1 + 1 ∨ i = w.heap.size + 1 + 1 + 1 + 1 ∨ i = cb) W (W2.setCell ⟨w.heap.size + 1 + 1 + 1, 0, none⟩ (.int .i64 ((k + m : Nat) : Int))) := by
          refine ⟨⟨by simp only [World.setCell, Array.size_modify, r3]; exact Nat.le_refl _, fun q o' hq hqo ho => ?_⟩, ⟨by simp only [World.setCell, Array.size_modify, r3]; exact Nat.le_refl _, fun q hq hp => ?_⟩⟩
          · exact (Below.heap_setCell _ _ _ _ (show q ≠ w.heap.size + 1 + 1 + 1 by omega)).trans ((r2.block q (Array.getElem?_eq_some_iff.1 hqo).1 (by omega)).trans hqo)
          · exact (Below.heap_setCell _ _ _ _ (show q ≠ w.heap.size + 1 + 1 + 1 by omega)).trans (r2.block q (Nat.lt_of_lt_of_le hq i1) (by omega))
        obtain ⟨W3, hW3⟩ : ∃ W3, W2.setCell ⟨w.heap.size + 1 + 1 + 1, 0, none⟩ (.int .i64 ((k + m : Nat) : Int)) = W3 := ⟨_, rfl⟩
        rw [hW3] at x3 hkf
        have g1 := x3.hd.cell
        rw [hstl] at g1
        have g2 := x3.hn.cell
        have HX := Lib.hid (And.intro x3 (And.intro hkf hstl))
        have hmx : Tryz.prog.follows .mixedOrders = true := by kernel_rfl
        have HG := Lib.hid (And.intro g1 g2)
        have H3 := Lib.hid hW3
        clear hcp r1 r2 r3 r4 i1 i2 i3 i4 i5 i6 hst hsb hbl hm hcs t1 t2 t3 t4 bd2 bb2 bn2 x3 hkf hstl hk hacc g1 g2 hW3
        gi_wp2_with fail
        refine wpIn_mono (Q := onlyN fun a' w' => (∃ t7 t17 t18 t19 t20 t21 t22 t23 t24 t25, a' = { tmps := #[.pointer (some ⟨cb, 0, none⟩), .int .i64 (n : Int), undef, .pointer (some ⟨w.heap.size, 0, none⟩), .slice none 0 0, .pointer (some ⟨w.heap.size + 1 + 1, 0, none⟩), .pointer (some ⟨w.heap.size + 1 + 1 + 1, 0, none⟩), t7, .int .i64 (n : Int), .slice (some ⟨w.heap.size + 1, 0, none⟩) n n, .pointer (some ⟨cb, 0, none⟩), .pointer (some ⟨cb, 0, none⟩), .pointer (some ⟨cb, 0, none⟩), .pointer (some ⟨cb, 3, none⟩), .int .u64 (out : Int), .pointer (some ⟨cb, 0, none⟩), .int .i64 (bs.length : Int), t17, t18, t19, t20, t21, t22, t23, t24, t25, undef, undef, undef, undef], defers := [] }) ∧ w' = W3) ?region ?rest
        case region =>
          gi_region_with_o (fail)
          all_goals exact ⟨⟨_, _, _, _, _, _, _, _, _, _, rfl⟩, H3.out⟩
        case rest =>
          rintro e a' w' hR
          cases e with
          | ret => exact hR.elim
          | exit _ => exact hR.elim
          | goto _ => exact hR.elim
          | panic _ => exact hR.elim
          | outgrown => exact hR.elim
          | normal =>
            obtain ⟨⟨t7, t17, t18, t19, t20, t21, t22, t23, t24, t25, rfl⟩, rfl⟩ := hR
            obtain ⟨g1, g2⟩ := HG.out
            clear c1 b1 c2 f2 hcpi hcut
            by_cases hbr : k + m = n
            · have hq : (((k + m : Nat) : Int) == (n : Int)) = true := by simp; omega
              have HB := Lib.hid hbr
              clear hbr
              gi_wp2
              exact ⟨HX.out.2.1.1, rfl, HX.out.1, HX.out.2.2.trans HB.out⟩
            · have hq : (((k + m : Nat) : Int) == (n : Int)) = false := by simp; omega
              gi_wp2
              exact ⟨HX.out.2.1.1, HX.out.2.1.2, HX.out.1, .inl (by rw [HX.out.2.2]; omega)⟩
      case done =>
        rintro D xs W hD hxs ⟨h, _⟩ hK
        have hf := (ffold_pieces HW.out.1.lies n hn).1
        rw [← hxs] at hf
        have hb := h.hb.cell
        have HE := Lib.hid (first_end h hf hn hD (by omega) (by omega))
        clear h hf
        gi_wp2
        rw [Exit.noGoto_ret]
        refine ⟨by simp, .inl ⟨_, _, rfl, run_takeDeferred hK, ?_⟩⟩
        exact ⟨_, results_tmp rfl _ _ _, _, rfl, by omega, HE.out _⟩
      case stop =>
        rintro D c pre W hD ⟨r, hr⟩ ⟨rfl, h, h2⟩ hK
        have hf := (ffold_pieces HW.out.1.lies n hn).2 pre r hr h2
        have hb := h.hb.cell
        have HE := Lib.hid (first_end h hf hn hD (by omega) (by omega))
        clear h hf h2
        gi_wp2
        rw [Exit.noGoto_ret]
        refine ⟨by simp, .inl ⟨_, _, rfl, run_takeDeferred hK, ?_⟩⟩
        exact ⟨_, results_tmp rfl _ _ _, _, rfl, by omega, HE.out _⟩
set_option maxRecDepth 100000 in
set_option maxHeartbeats 4000000 in
theorem first_none {w : World} {B cb cap inn out : Nat} {v : Value} {ps : List Int} (h : Cst w B cb cap v ps [] inn out) :
    Calls Tryz.prog 96 #[.pointer (some ⟨cb, 0, none⟩), .int .i64 0] w fun e w' =>
      ∃ gb, e = .returned (.slice (some ⟨gb, 0, none⟩) 0 0) ∧ w.heap.size ≤ gb ∧ Kept (fun _ => False) w w' := by
  refine (callsIn_wide (n := 4)).1 ?_
  have hsm := h.sm
  have hin := h.hin
  obtain ⟨Z, hZ⟩ : ∃ Z, (((w.alloc (.cells #[.int .i64 0] 3)).alloc (.cells #[] 5)).alloc (.cells #[.slice (some ⟨w.heap.size + 1, 0, none⟩) 0 0] 29)).alloc (.cells #[.int .i64 0] 3) = Z := ⟨_, rfl⟩
  have hmk : ∀ w : World, (Instr.makeSlice 29 (.int .i64 0) (.int .i64 0)).run Tryz.prog w = .ok (.slice (some ⟨w.heap.size, 0, none⟩) 0 0) (w.alloc (.cells #[] 5)) := made_run 0 (by omega)
  have c3 := h.blk.cell 3
  simp at c3
  have hcl := h.blk.lt
  have HW := Lib.hid h
  have HZ := Lib.hid hZ
  clear h hZ
  refine callsIn_of_wp_marks Tryz.func96 rfl trivial ?_ rfl
  simp only [Tryz.ntmps96, List.size_toArray, List.length_cons, List.length_nil, Nat.reduceAdd, Nat.reduceSub, Array.replicate_succ, Array.replicate_zero, List.push_toArray, List.append_toArray, List.nil_append, List.cons_append]
  gi_wp2
  refine wpIn_wide.2 (wp_scope_straight ((wpIn_wide (n := 4)).1 ?_))
  gi_wp2
  rw [HZ.out]
  refine wpIn_label ?_
  have hkZ : Kept (fun _ => False) w Z := by rw [← HZ.out]; exact ((((Kept.refl _ w).alloc _).alloc _).alloc _).alloc _
  have hZz : Z.heap.size = w.heap.size + 1 + 1 + 1 + 1 := by rw [← HZ.out]; simp
  have hCZ : Cst Z B cb cap v ps [] inn out := HW.out.kept hkZ (fun _ _ e => e)
  have d3 := hCZ.blk.cell 3
  simp at d3
  have dl := hCZ.blk.lt
  have HL := Lib.hid (length_any (hCZ.drewN 1))
  have HC := Lib.hid (And.intro hkZ hCZ)
  clear hCZ hkZ c3
  gi_wp2_with fail
  have hmx : Tryz.prog.follows .mixedOrders = true := by kernel_rfl
  refine wpIn_mono (Q := onlyN fun a' w' => a' = { tmps := #[.pointer (some ⟨cb, 0, none⟩), .int .i64 0, undef, .pointer (some ⟨w.heap.size, 0, none⟩), .slice none 0 0, .pointer (some ⟨w.heap.size + 1 + 1, 0, none⟩), .pointer (some ⟨w.heap.size + 1 + 1 + 1, 0, none⟩), undef, .int .i64 0, .slice (some ⟨w.heap.size + 1, 0, none⟩) 0 0, .pointer (some ⟨cb, 0, none⟩), .pointer (some ⟨cb, 0, none⟩), .pointer (some ⟨cb, 0, none⟩), .pointer (some ⟨cb, 3, none⟩), .int .u64 (out : Int), .pointer (some ⟨cb, 0, none⟩), .int .i64 0, .func (.func 106) #[] #[.pointer (some ⟨w.heap.size + 1 + 1 + 1 + 1 + 2, 0, none⟩), .pointer (some ⟨w.heap.size + 1 + 1 + 1 + 1 + 1, 0, none⟩), .pointer (some ⟨w.heap.size + 1 + 1 + 1 + 1, 0, none⟩)], undef, undef, undef, undef, undef, undef, undef, undef, undef, undef, undef, undef], defers := [] } ∧
    ∃ n1, w' = (((Z.drewN n1).alloc (.cells #[.pointer (some ⟨cb, 0, none⟩)] 100)).alloc (.cells #[.int .u64 (out : Int)] 35)).alloc (.cells #[.int .i64 0] 3)) ?region ?rest
  case region =>
    gi_region_with_o (first
      | (refine ⟨trivial, ?_⟩; gi_at_call 70; refine (callsIn_wide.2 HL.out).mono ?_; rintro e w' ⟨rfl, n1, rfl⟩)
      | (refine ⟨trivial, ?_⟩; gi_at_call 103; refine (callsIn_wide.2 (segments_any _ cb out 0)).mono ?_; rintro e w' ⟨rfl, rfl⟩))
    all_goals exact ⟨rfl, _, rfl⟩
  case rest =>
    rintro e a' w' hR
    cases e with
    | ret => exact hR.elim
    | exit _ => exact hR.elim
    | goto _ => exact hR.elim
    | panic _ => exact hR.elim
    | outgrown => exact hR.elim
    | normal =>
      obtain ⟨rfl, n1, rfl⟩ := hR
      gi_wp2
      obtain ⟨V, hV⟩ : ∃ V, (((Z.drewN n1).alloc (.cells #[.pointer (some ⟨cb, 0, none⟩)] 100)).alloc (.cells #[.int .u64 (out : Int)] 35)).alloc (.cells #[.int .i64 0] 3) = V := ⟨_, rfl⟩
      have hkV : Kept (fun _ => False) Z V := by rw [← hV]; exact ((((Kept.refl _ Z).drewN n1).alloc _).alloc _).alloc _
      have hVz : V.heap.size = w.heap.size + 1 + 1 + 1 + 1 + 1 + 1 + 1 := by rw [← hV]; simp [hZz]
      have z3 : Boxed Z (w.heap.size + 1 + 1) 29 (.slice (some ⟨w.heap.size + 1, 0, none⟩) 0 0) := by
        rw [← HZ.out]
        have := (Boxed.new ((w.alloc (.cells #[.int .i64 0] 3)).alloc (.cells #[] 5)) 29 (.slice (some ⟨w.heap.size + 1, 0, none⟩) 0 0)).alloc (.cells #[.int .i64 0] 3)
        simp only [World.size_alloc] at this
        exact this
      have hseg : Boxed V (w.heap.size + 1 + 1 + 1 + 1 + 2) 3 (.int .i64 0) := by
        rw [← hV]
        have x3 := Boxed.new (((Z.drewN n1).alloc (.cells #[.pointer (some ⟨cb, 0, none⟩)] 100)).alloc (.cells #[.int .u64 (out : Int)] 35)) 3 (.int .i64 0)
        simp only [World.size_alloc, show (Z.drewN n1).heap.size = Z.heap.size from rfl, hZz] at x3
        exact x3
      have hI0 : V.heap.size ≤ V.heap.size ∧ Kept (fun _ => False) w V ∧ Boxed V (w.heap.size + 1 + 1) 29 (.slice (some ⟨w.heap.size + 1, 0, none⟩) 0 0) :=
        ⟨Nat.le_refl _, HC.out.1.trans hkV, (hkV.block _ z3.lt (fun e => e)).trans z3⟩
      have HV := Lib.hid hV
      clear hV z3 d3
      rw [HV.out]
      refine rangeFunc_low (n := 4) (by omega) (gf := 106) (lb := #[.pointer (some ⟨w.heap.size + 1 + 1 + 1 + 1 + 2, 0, none⟩), .pointer (some ⟨w.heap.size + 1 + 1 + 1 + 1 + 1, 0, none⟩), .pointer (some ⟨w.heap.size + 1 + 1 + 1 + 1, 0, none⟩)]) rfl (enters_of Tryz.func106 (by kernel_rfl) rfl)
        (fun x : Pc 0 => #[.slice (some ⟨0, x.off, none⟩) x.len (0 - x.off)]) (fun i => i = w.heap.size + 1 + 1 + 1 + 1 + 2)
        (segs_none_ch 3 (by omega) _ _ _ 0 out 0 _ V hseg) (fun _ => rfl)
        (fun _ W => V.heap.size ≤ W.heap.size ∧ Kept (fun _ => False) w W ∧ Boxed W (w.heap.size + 1 + 1) 29 (.slice (some ⟨w.heap.size + 1, 0, none⟩) 0 0)) (fun _ _ _ => False)
        (fun pre W h => ⟨h.1, fun W' s => ⟨s.size, h.2.1.sameTo s (by omega), (s.block _ (by omega)).trans h.2.2⟩⟩) (fun _ _ _ h => h.elim) hI0 ?act ?assign ?body ?done ?stop
      case assign =>
        intro l x W K hK
        gi_wp2
        exact hK
      case body => exact fun _ pre _ _ _ h => by omega
      case done =>
        rintro D xs W hD hxs ⟨_, h, hb'⟩ hK
        have hb := hb'.cell
        have HE := Lib.hid (fun o => show Kept (fun _ => False) w (W.putObj D o) from ⟨h.os, h.tape, h.output, by simpa [World.putObj] using h.size, fun k hk hf => (World.putObj_heap_other (by omega)).trans (h.block k hk hf)⟩)
        clear h hb'
        gi_wp2
        rw [Exit.noGoto_ret]
        refine ⟨by simp, .inl ⟨_, _, rfl, run_takeDeferred hK, ?_⟩⟩
        exact ⟨_, results_tmp rfl _ _ _, _, rfl, by omega, HE.out _⟩
      case stop =>
        rintro D c pre W _ _ h _
        exact h.elim

end Go.Proofs.YtjejpgognfadoaaGreatDoor
