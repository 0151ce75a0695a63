/-
  clone, the walk.
-/
import Derived.Test.YtlephnfepofbbaaGreatDoorMsClone
namespace Go.Proofs.YtlephnfepofbbaaGreatDoor
open Go.RowKit Go.Shelf Go.Maps Go.ChangeMaps

/-- Inside a round of clone: the copy's box H, its rows behind it; of the moves' data the first k are its own. -/
structure ClI (N H : Nat) (w wr : World) (z : St) (A1 : Option Addr) (c1 : Nat) (A2 : Option Addr) (c2 : Nat) (qs : List Ms) (k : Nat) (wx : World) : Prop where
  map : qs.map Ms.m = z.mv
  own1 : RIn.own wx H (.slice A1 z.ord.length c1) z.ord
  own2 : RM.own wx H (.slice A2 z.mv.length c2) qs
  done : ∀ i q, i < k → qs[i]? = some q → OwB H wx q.v q.m.b
  todo : ∀ i q, k ≤ i → qs[i]? = some q → SrcB (Lt N) w q.v q.m.b
  blk : Blk wx H 36 #[.int .u64 (z.t : Int), .bool z.intr, .slice A1 z.ord.length c1, .slice A2 z.mv.length c2]
  bel : Below H wr wx
theorem ClI.len {N H : Nat} {w wr : World} {z : St} {A1 A2 : Option Addr} {c1 c2 : Nat} {qs : List Ms} {k : Nat} {wx : World} (h : ClI N H w wr z A1 c1 A2 c2 qs k wx) : qs.length = z.mv.length := by rw [← h.map, List.length_map]
theorem ClI.next {N H g : Nat} {w wr : World} {z : St} {A1 : Option Addr} {c1 c2 : Nat} {qs : List Ms} {k : Nat} {wx w' : World} {q : Ms} (h : ClI N H w wr z A1 c1 (some ⟨g, 0, none⟩) c2 qs k wx) (hq : qs[k]? = some q) {A : Option Addr} {a : Nat}
    (ho : OwB wx.heap.size w' (.slice A q.m.b.length a) q.m.b) (hb : Below wx.heap.size wx w') :
    ClI N H w wr z A1 c1 (some ⟨g, 0, none⟩) c2 (qs.set k ⟨q.m, A, a⟩) (k + 1) (w'.setCell ⟨g, k * 4 + 3, none⟩ (.slice A q.m.b.length a)) := by
  have hlen := h.len
  obtain ⟨hk, hqe⟩ := List.getElem?_eq_some_iff.1 hq
  have hH := h.blk.lt
  obtain ⟨cs, fz, hg⟩ := Lib.ownsRow_kind h.own2 g rfl
  have hgl := (Array.getElem?_eq_some_iff.1 hg).1
  have hg' : w'.heap[g]? = some (.cells cs 25 fz) := (hb.block g hgl).trans hg
  have hgb : H ≤ g := (RowK.own_lt h.own2 rfl).2
  have hne : H ≠ g := blk_ne h.blk hg (by decide)
  have o2 : RM.own w' H (.slice (some ⟨g, 0, none⟩) qs.length c2) qs := by rw [hlen]; exact RowK.own_below h.own2 hb
  refine ⟨?_, ?_, ?_, ?_, ?_, ?_, ?_⟩
  · rw [List.map_set, ← h.map]
    refine List.ext_getElem? (fun i => ?_)
    rw [List.getElem?_set]
    split
    · rename_i e
      subst e
      rw [List.length_map, if_pos hk, List.getElem?_map, hq]; rfl
    · rfl
  · exact RowK.own_set_other (RowK.own_below h.own1 hb) hg' (by decide) _ _
  · have := rm_data o2 hq A a
    rw [hlen] at this
    exact this
  · intro i p hi hp
    rw [List.getElem?_set] at hp
    split at hp
    · rename_i e
      subst e
      have : (⟨q.m, A, a⟩ : Ms) = p := by simpa [hk] using hp
      subst this
      exact (row_own_more ho (Nat.le_of_lt hH)).set_other hg' (by decide) _ _
    · exact ((h.done i p (by omega) hp).below hb).set_other hg' (by decide) _ _
  · intro i p hi hp
    rw [List.getElem?_set, if_neg (by omega)] at hp
    exact h.todo i p (by omega) hp
  · exact (h.blk.same (hb.block _ hH)).far (by exact hne) _
  · exact (h.bel.trans (hb.mono (Nat.le_of_lt hH))).setCell (by exact hgb) _
theorem ClI.start {N : Nat} {w wr W2 W4 : World} {z : St} {E F : Option Addr} {e2 f2 : Nat} {A1 A2 : Option Addr} {c1 c2 : Nat} {qs : List Ms} {o : Obj} (hm : qs.map Ms.m = z.mv) (hq : ∀ q ∈ qs, SrcB (Lt N) w q.v q.m.b)
    (o1 : RIn.own W2 (wr.alloc o).heap.size (.slice A1 z.ord.length c1) z.ord) (b2 : Below (wr.alloc o).heap.size (wr.alloc o) W2) (k2 : Blk W2 wr.heap.size 36 #[.int .u64 (z.t : Int), .bool z.intr, .slice E z.ord.length e2, .slice F z.mv.length f2])
    (o2 : RM.own W4 (W2.setCell ⟨wr.heap.size, 2, none⟩ (.slice A1 z.ord.length c1)).heap.size (.slice A2 z.mv.length c2) qs) (b4 : Below (W2.setCell ⟨wr.heap.size, 2, none⟩ (.slice A1 z.ord.length c1)).heap.size (W2.setCell ⟨wr.heap.size, 2, none⟩ (.slice A1 z.ord.length c1)) W4) :
    ClI N wr.heap.size w wr z A1 c1 A2 c2 qs 0 (W4.setCell ⟨wr.heap.size, 3, none⟩ (.slice A2 z.mv.length c2)) := by
  have s2 := k2.lt
  have k3 : Blk (W2.setCell ⟨wr.heap.size, 2, none⟩ (.slice A1 z.ord.length c1)) wr.heap.size 36 #[.int .u64 (z.t : Int), .bool z.intr, .slice A1 z.ord.length c1, .slice F z.mv.length f2] := by simpa using k2.set_ 2 (.slice A1 z.ord.length c1)
  have s3 := k3.lt
  have k4 := k3.same (b4.block _ s3)
  have hw2 : W2.heap[wr.heap.size]? = some (.cells _ _ (0, 0)) := k2
  have hw4 : W4.heap[wr.heap.size]? = some (.cells _ _ (0, 0)) := k4
  refine ⟨hm, ?_, ?_, fun i q hi => by omega, fun i q _ h => hq q (List.mem_of_getElem? h), by simpa using k4.set_ 3 (.slice A2 z.mv.length c2), ?_⟩
  · exact RowK.own_set_other (RowK.own_below (RowK.own_set_other (RowK.own_more o1 (by simp)) hw2 (by decide) _ _) b4) hw4 (by decide) _ _
  · exact RowK.own_set_other (RowK.own_more o2 (Nat.le_of_lt s3)) hw4 (by decide) _ _
  · exact (((((Below.refl wr.heap.size wr).alloc (Nat.le_refl _) o).trans (b2.mono (by simp))).setCell (by exact Nat.le_refl _) _).trans (b4.mono (Nat.le_of_lt s3))).setCell (by exact Nat.le_refl _) _
theorem ClI.drew {N H : Nat} {w wr : World} {z : St} {A1 A2 : Option Addr} {c1 c2 : Nat} {qs : List Ms} {k : Nat} {wx : World} (h : ClI N H w wr z A1 c1 A2 c2 qs k wx) : ClI N H w wr z A1 c1 A2 c2 qs k wx.drew := ⟨h.map, h.own1, h.own2, h.done, h.todo, h.blk, h.bel.drew⟩
theorem ClI.addr {N H : Nat} {w wr : World} {z : St} {A1 A2 : Option Addr} {c1 c2 : Nat} {qs : List Ms} {k : Nat} {wx : World} (h : ClI N H w wr z A1 c1 A2 c2 qs k wx) {q : Ms} (hq : qs[k]? = some q) : ∃ g, A2 = some ⟨g, 0, none⟩ ∧ g < wx.heap.size ∧ ∀ W : World, W.heap[g]? = wx.heap[g]? → W.cell? ⟨g, k * 4 + 3, none⟩ = some q.v ∧ W.frozen? ⟨g, k * 4 + 3, none⟩ = false := by
  have hk := (List.getElem?_eq_some_iff.1 hq).1
  have hlen := h.len
  have ho := h.own2
  rcases RowK.own_form ho with ⟨_, e⟩ | ⟨g, c, e, e1, e2, e3, hl⟩
  · rw [e] at hk; simp at hk
  · injection e with ea eb ec
    refine ⟨g, ea, e2, fun W hW => ⟨?_, ?_⟩⟩
    · have := hl k q hq 3 (by decide)
      rw [Nat.zero_add] at this
      exact (World.cell?_of_block hW).trans this
    · subst ea
      have hf := RowK.own_frozen (xs := qs) (c := c2) (by rw [hlen]; exact ho) (k * 4 + 3)
      obtain ⟨cs, fz, hg⟩ := Lib.ownsRow_kind ho g rfl
      unfold World.frozen? at hf ⊢
      rw [hW]; exact hf
set_option maxRecDepth 100000 in
set_option maxHeartbeats 16000000 in
theorem clone_any (l : List St) (v : Value) (w : World) (hx : SrcS (Lt w.heap.size) w v l) (hf : Fits l) : Calls Tryz.prog 37 #[v] w (CloR l w) := by
  obtain ⟨A, c, rfl, a1, a2, a3⟩ := hx.form
  obtain ⟨n, hn⟩ : ∃ n, l.length = n := ⟨_, rfl⟩
  rw [hn] at a1 hx ⊢
  have HX := Lib.hid hx
  have HN := Lib.hid hn
  have HF := Lib.hid hf
  clear hx hn a3 hf
  go_enter Tryz.func37, Tryz.ntmps37
  go_wp2_with fail
  go_loopw [3, 5, 6, 9] (fun o _ _ i wr => ∃ (j : Nat) (ps : List Ss), j ≤ n ∧ i = .int .i64 j ∧ Hid (ps.map Ss.x = l.take j) ∧ Hid (PsR w.heap.size o ps wr) ∧ Hid (Below w.heap.size w wr)) (fun _ _ _ i _ => n - (intOf i).toNat)
  case atStart => exact ⟨0, [], Nat.zero_le _, rfl, Lib.hid (by simp), Lib.hid (PsR.nil _ _), Lib.hid (Below.refl _ _)⟩
  case round =>
    obtain ⟨j, ps, hj, rfl, HM, HP, HB⟩ := hrel
    obtain ⟨w0, rfl⟩ : ∃ w0, w0 = wr := ⟨_, rfl⟩
    by_cases hlt : j < n
    · have hlt' : (j : Int) < (n : Int) := by omega
      have hjl : j < l.length := by have := HN.out; omega
      have hb := HB.out
      obtain ⟨g, off, ov, mv, rfl, hg, hg2, ⟨q0, q1, q2, q3⟩, hS⟩ := HX.out.at_ (k := j) hjl
      have q0 := (hb.cell (p := ⟨g, off + j * 4, none⟩) hg).trans q0
      have q1 := (hb.cell (p := ⟨g, off + j * 4 + 1, none⟩) hg).trans q1
      have q2 := (hb.cell (p := ⟨g, off + j * 4 + 2, none⟩) hg).trans q2
      have q3 := (hb.cell (p := ⟨g, off + j * 4 + 3, none⟩) hg).trans q3
      obtain ⟨z, hz⟩ : ∃ z, l[j] = z := ⟨_, rfl⟩
      rw [hz] at q0 q1 hS
      have hfz : z.ord.length ≤ 90000000 ∧ z.mv.length ≤ 90000000 ∧ ∀ m ∈ z.mv, m.b.length ≤ 90000000 := HF.out.2 z (by rw [← hz]; exact List.getElem_mem _)
      have hM2 : Hid (l.take (j + 1) = l.take j ++ [z]) := Lib.hid (by rw [List.take_add_one, List.getElem?_eq_getElem hjl, hz]; rfl)
      obtain ⟨qs, F, f2, hqm, rfl, hqn, hqs, hqb⟩ := ms_of hS.2
      have hql : qs.length = z.mv.length := by rw [← hqm, List.length_map]
      rw [hql] at q3 hqs hqn
      obtain ⟨E, e2, rfl, _, _, _⟩ := hS.1.form
      have hO := hS.1
      have HCI := Lib.hid (fun (X : World) (hX : Below w.heap.size w X) => clone_ints z.ord E z.ord.length e2 rfl hfz.1 (sh_nil hO) X (shows_of_sh (R := RIn) (by rw [ri_all]; exact hO.below hX) rfl))
      have HCM := Lib.hid (fun (X : World) (hX : Below w.heap.size w X) => clone_mvs qs F z.mv.length f2 hql.symm hfz.2.1 hqn X (shows_of_sh (R := RM) (hqs.same (fun g hg _ => hX.block g hg) hX.size) hql.symm))
      have HQ := Lib.hid (And.intro hqm (And.intro hqb hfz))
      have HG := Lib.hid hg
      have HQL := Lib.hid hql
      clear hz hg hg2 hS hO hqm hqb hqn hqs hql hfz hb
      go_upto_region 7 with (first
        | (go_at_call 45; refine (HCI.out _ (HB.out.alloc HB.out.size _)).mono ?_; rintro e W2 ⟨v1, rfl, ho1, hb2⟩; obtain ⟨A1, c1, rfl, _, _, _⟩ := RowK.own_shows ho1; have k2 : Blk W2 w0.heap.size 36 #[.int .u64 (z.t : Int), .bool z.intr, .slice E z.ord.length e2, .slice F z.mv.length f2] := (Blk.new w0 _ _).same (hb2.block _ (by simp)); have HK2 := Lib.hid k2; have HO1 := Lib.hid (And.intro ho1 hb2); have x2 := k2.cell 2; have x3 := k2.cell 3; have x4 := k2.frozen 2; have x5 := k2.lt; clear ho1 hb2 k2)
        | (go_at_call 79; have HB3 := Lib.hid (((HB.out.alloc HB.out.size (.cells #[.int .u64 (z.t : Int), .bool z.intr, .slice E z.ord.length e2, .slice F z.mv.length f2] 36)).trans (HO1.out.2.mono (by have := HB.out.size; simp; omega))).setCell (p := ⟨w0.heap.size, 2, none⟩) (by exact HB.out.size) (.slice A1 z.ord.length c1)); refine (HCM.out _ HB3.out).mono ?_; rintro e W4 ⟨v2, rfl, ho2, hb4⟩; obtain ⟨A2, c2, rfl, _, _, _⟩ := RowK.own_shows ho2; rw [HQL.out] at ho2 ⊢; have hbl3 : Blk (W2.setCell ⟨w0.heap.size, 2, none⟩ (.slice A1 z.ord.length c1)) w0.heap.size 36 #[.int .u64 (z.t : Int), .bool z.intr, .slice A1 z.ord.length c1, .slice F z.mv.length f2] := (by simpa using HK2.out.set_ 2 (.slice A1 z.ord.length c1)); have k4 := hbl3.same (hb4.block _ hbl3.lt); have HK4 := Lib.hid k4; have HO2 := Lib.hid (And.intro ho2 hb4); have y3 := k4.cell 3; have y4 := k4.frozen 3; have y5 := k4.lt; clear ho2 hb4 k4 hbl3))
      have HCL := Lib.hid (ClI.start HQ.out.1 HQ.out.2.1 HO1.out.1 HO1.out.2 HK2.out HO2.out.1 HO2.out.2)
      have z3 := (ClI.blk HCL.out).lt
      go_wp2_with fail
      clear x2 x3 x4 x5 y3 y4 y5 z3 q0 q1 q2 q3
      go_loopw [6, 24] (fun _ i wx => ∃ (k : Nat) (qs' : List Ms), k ≤ z.mv.length ∧ i = .int .i64 k ∧ Hid (ClI w.heap.size w0.heap.size w w0 z A1 c1 A2 c2 qs' k wx)) (fun _ i _ => z.mv.length - (intOf i).toNat)
      case atStart => exact ⟨0, qs, Nat.zero_le _, rfl, HCL.out⟩
      case round =>
        obtain ⟨k, qs', hk, rfl, HC⟩ := hrel
        by_cases hkl : k < z.mv.length
        · have hkl' : (k : Int) < (z.mv.length : Int) := by omega
          have k0 : (0 : Int) ≤ (k : Int) := by omega
          obtain ⟨⟨qm, qA, qc⟩, hq⟩ : ∃ q, qs'[k]? = some q := ⟨_, List.getElem?_eq_getElem (by rw [ClI.len HC.out]; exact hkl)⟩
          have hqb : qm.b.length ≤ 90000000 := by
            have hm := ClI.map HC.out
            have : qm ∈ z.mv := by rw [← hm]; exact List.mem_map.2 ⟨_, List.mem_of_getElem? hq, rfl⟩
            exact HQ.out.2.2.2.2 qm this
          have hsrc := ClI.todo HC.out k _ (Nat.le_refl _) hq
          obtain ⟨g2, rfl, hg2, hcell⟩ := ClI.addr HC.out hq
          have HCB := Lib.hid (fun (X : World) (hX : Below w.heap.size w X) => clone_bytes qm.b qA qm.b.length qc rfl hqb (sh_nil hsrc) X (shows_of_sh (R := RU) (by rw [ru_all]; exact hsrc.below hX) rfl))
          have HCEL := Lib.hid hcell
          have HQQ := Lib.hid hq
          have HWX := Lib.hid (HB.out.trans ((ClI.bel HC.out).mono HB.out.size))
          have c0 : wr.cell? ⟨g2, k * 4 + 3, none⟩ = some (.slice qA qm.b.length qc) := (hcell _ rfl).1
          have y0 := (ClI.blk HC.out).cell 3
          have y1 := (ClI.blk HC.out).lt
          have hg3 := hg2
          have hml := HQ.out.2.2.2.1
          have hkw : IntKind.i64.wrap ((k : Int) + 1) = (k : Int) + 1 := IntWalk.i64_in _ (by omega)
          clear hq hqb hsrc hcell
          go_wp2_with fail
          go_region_with (go_at_call 80; refine (HCB.out _ (by first | exact HWX.out | exact HWX.out.drew)).mono ?_; rintro e W' ⟨v', rfl, ho, hb⟩; have hob := ru_own ho; obtain ⟨A', a', rfl, _, _, _⟩ := RowK.own_shows ho; have y2 := ((ClI.blk HC.out).same (hb.block _ y1)).cell 3; have y3 := ((ClI.blk HC.out).same (hb.block _ y1)).lt; have y4 := (HCEL.out W' (hb.block g2 hg3)).1; have y5 := (HCEL.out W' (hb.block g2 hg3)).2; have y6 : g2 < W'.heap.size := Nat.lt_of_lt_of_le hg3 hb.size; have HOB := Lib.hid (And.intro hob hb); clear ho hob hb)
          all_goals
            go_wp2_with fail
            go_roundw
            case rel => exact ⟨k + 1, qs'.set k ⟨qm, A', a'⟩, by omega, by go_num, Lib.hid (ClI.next (ClI.drew HC.out) HQQ.out HOB.out.1 HOB.out.2)⟩
            case measure => simp [intOf] <;> omega
        · obtain rfl : k = z.mv.length := by omega
          have hkl' : ¬ (z.mv.length : Int) < (z.mv.length : Int) := by omega
          have y0 := (ClI.blk HC.out).cell 0
          have y1 := (ClI.blk HC.out).cell 1
          have y2 := (ClI.blk HC.out).cell 2
          have y3 := (ClI.blk HC.out).cell 3
          have y4 := (ClI.blk HC.out).lt
          have hH : w.heap.size ≤ w0.heap.size := HB.out.size
          have HBX := Lib.hid (HB.out.trans ((ClI.bel HC.out).mono HB.out.size))
          have HPX := Lib.hid (HP.out.below (ClI.bel HC.out))
          have HRX : Hid (Rws w.heap.size (.slice A1 z.ord.length c1) (.slice A2 z.mv.length c2) (.slice none 0 0) z.ord z.mv [] wr) := Lib.hid ⟨RowK.own_more (ClI.own1 HC.out) hH, ⟨qs', ClI.map HC.out, RowK.own_more (ClI.own2 HC.out) hH, fun q hq => by
            obtain ⟨i, hi⟩ := List.getElem?_of_mem hq
            have hil := (List.getElem?_eq_some_iff.1 hi).1
            rw [ClI.len HC.out] at hil
            exact row_own_more (ClI.done HC.out i q hil hi) hH⟩, OwB.nil _ _⟩
          have hpl : ps.length ≤ 90000000 := by
            have h1 := congrArg List.length HM.out
            have h2 := HF.out.1
            rw [List.length_map, List.length_take] at h1
            omega
          clear hH hkl
          go_wp2_with (at_builtin; refine RowK.append (R := RT) rfl _ _ rfl w.heap.size _ ps [⟨z, A1, c1, A2, c2⟩] rfl (HPX.out.below ((Below.refl _ _).alloc (Nat.le_refl _) _)).own (some ⟨wr.heap.size, 0, none⟩) 1 1 rfl rfl (fun _ => ⟨_, 0, rfl, by simp, RowK.lies_new (R := RT) wr ⟨z, A1, c1, A2, c2⟩ _⟩) (fun e => by cases e) (by simp; omega) (by have := HBX.out.size; simp; omega) ?_; intro v1 w1 h1 hg1 hat; have HP1 := Lib.hid ((HPX.out.below ((Below.refl _ wr).alloc (Nat.le_refl _) (.cells #[.int .u64 (z.t : Int), .bool z.intr, .slice A1 z.ord.length c1, .slice A2 z.mv.length c2] 36))).more (p := ⟨z, A1, c1, A2, c2⟩) (HRX.out.below ((Below.refl _ wr).alloc (Nat.le_refl _) (.cells #[.int .u64 (z.t : Int), .bool z.intr, .slice A1 z.ord.length c1, .slice A2 z.mv.length c2] 36))) h1 hg1); have HB1 := Lib.hid ((HBX.out.alloc HBX.out.size (.cells #[.int .u64 (z.t : Int), .bool z.intr, .slice A1 z.ord.length c1, .slice A2 z.mv.length c2] 36)).grown hg1 (by have := HBX.out.size; simp; omega) (fun k e => (RowK.own_lt HPX.out.own e).2)); clear h1 hg1 hat)
          go_roundw
          case rel => exact ⟨j + 1, ps ++ [⟨z, A1, c1, A2, c2⟩], by omega, by go_num, Lib.hid (by rw [List.map_append, HM.out, hM2.out]; rfl), HP1, HB1⟩
          case measure => simp [intOf] <;> omega
    · obtain rfl : j = n := by omega
      have hlt' : ¬ (j : Int) < (j : Int) := by omega
      obtain ⟨A0, n0, c0, rfl⟩ := RowK.own_slice HP.out.own
      go_wp2_with fail
      go_ret
      exact ⟨_, ps, rfl, HP.out, by rw [HM.out, List.take_of_length_le (by have := HN.out; omega)], HB.out⟩
end Go.Proofs.YtlephnfepofbbaaGreatDoor
