/-
  Pending and Take: their contracts.
-/
import Derived.Test.YtjejpgognfadoaaGreatDoorSgIter
import Derived.Test.YtjejpgognfadoaaGreatDoorCmColl
namespace Go.Proofs.YtjejpgognfadoaaGreatDoor
open Go.RowKit Go.Maps Go.ChangeMaps Go.Shelf

attribute [local go_sem] Oper.semAt_some

theorem pending_nil (w : World) : Calls Tryz.prog 74 #[.pointer none] w fun x w' => x = .returned (.int .i64 0) ∧ w = w' := by
  refine (callsIn_wide (n := 4)).1 ?_
  refine callsIn_of_wp_marks Tryz.func74 rfl trivial ?_ rfl
  simp only [Tryz.ntmps74, List.size_toArray, List.length_cons, List.length_nil, Nat.reduceAdd, Nat.reduceSub, Array.replicate_succ, Array.replicate_zero, List.push_toArray, List.append_toArray, List.nil_append, List.cons_append]
  gi_wp2
  exact ⟨_, results_tmp rfl _ _ _, rfl, rfl⟩
theorem take_nil (w : World) : Calls Tryz.prog 57 #[.pointer none] w fun x w' => x = .returned (.slice none 0 0) ∧ w = w' := by
  refine (callsIn_wide (n := 4)).1 ?_
  refine callsIn_of_wp_marks Tryz.func57 rfl trivial ?_ rfl
  simp only [Tryz.ntmps57, List.size_toArray, List.length_cons, List.length_nil, Nat.reduceAdd, Nat.reduceSub, Array.replicate_succ, Array.replicate_zero, List.push_toArray, List.append_toArray, List.nil_append, List.cons_append]
  gi_wp2
  exact ⟨_, results_tmp rfl _ _ _, rfl, rfl⟩

section
variable {w : World} {k : Nat} {s : T}
/-- Two boxes laid. -/
theorem two_boxes (w : World) (t u : TypeId) (a b : Value) : ∃ V, V = (w.alloc (.cells #[a] t)).alloc (.cells #[b] u) ∧ Kept (fun _ => False) w V ∧ Boxed V w.heap.size t a ∧ Boxed V (w.heap.size + 1) u b ∧ V.heap.size = w.heap.size + 2 := by
  refine ⟨_, rfl, ((Kept.refl _ w).alloc _).alloc _, (Boxed.new w _ _).alloc _, ?_, by simp⟩
  have := Boxed.new (w.alloc (.cells #[a] t)) u b
  simpa using this

set_option maxRecDepth 100000 in
set_option maxHeartbeats 4000000 in
theorem pending_any (H : Tb w k s) (hle : s.le 2147483647) :
    Calls Tryz.prog 74 #[.pointer (some ⟨k, 0, none⟩)] w fun x w' => x = .returned (.int .i64 (s.sum : Int)) ∧ Below w.heap.size w w' := by
  have HH := Lib.hid H
  have HL := Lib.hid hle
  clear H hle
  refine (callsIn_wide (n := 4)).1 ?_
  refine callsIn_of_wp_marks Tryz.func74 rfl trivial ?_ rfl
  simp only [Tryz.ntmps74, List.size_toArray, List.length_cons, List.length_nil, Nat.reduceAdd, Nat.reduceSub, Array.replicate_succ, Array.replicate_zero, List.push_toArray, List.append_toArray, List.nil_append, List.cons_append]
  gi_wp2_with (refine ⟨trivial, ?_⟩; gi_at_call 76; refine (callsIn_wide.2 (pending_call _ k)).mono ?_; rintro e w1 ⟨rfl, rfl⟩)
  obtain ⟨V, hV, v0, v1, v2, v4⟩ := two_boxes w 3 56 (.int .i64 0) (.pointer (some ⟨k, 0, none⟩))
  rw [← hV]
  have hTV := HH.out.kept v0 (fun e => e)
  have hlt := HH.out.lt
  have hc0 : ColN w w.heap.size 3 (.int .i64 ((sum2 []  : Nat) : Int)) V := ⟨v1, v0.below (fun _ e => e.elim) (Nat.le_refl _)⟩
  clear hV
  refine rangeFunc_o (n := 4) (by omega) (gf := 87) (lb := #[.pointer (some ⟨w.heap.size + 1, 0, none⟩)]) rfl (enters_of Tryz.func87 (by kernel_rfl) rfl)
    (encs := encPr) TCe (fun i => i < w.heap.size ∨ i = w.heap.size + 1) (pend_o 3 (by omega) hTV _ v2 TCe _ V.heap.size ⟨by omega, .inr rfl⟩ ⟨by omega, .inl hlt⟩) (fun _ => rfl)
    (fun pre W => ColN w w.heap.size 3 (.int .i64 (sum2 pre : Int)) W) (fun _ _ _ => False)
    (fun s X Y hi hc => hi.chR hc (by omega)) (fun _ _ _ _ hi _ => hi.elim) hc0 ?round ?done (fun _ _ _ _ hi _ _ => hi.elim)
  case round =>
    rintro l pre x W hz hS ⟨R, hR⟩
    have hsum : sum2 pre + x.2 ≤ 68719476704 := by
      have h1 := T.tot_le HL.out 32
      rw [← T.sum_pend, ← hR, sum2_append] at h1
      have e : sum2 (x :: R) = x.2 + sum2 R := by simp [sum2]
      omega
    have HS := Lib.hid hS
    clear hS hR hc0 hTV v0 v1 v2
    simp only [encPr]
    gi_wp2_with fail
    refine ⟨KeepsFrom.refl _ _, KpO.refl _ _ _ _, fun W2 hc => ?_⟩
    have hS2 := HS.out.chR hc (by omega)
    have cb := hS2.ex.cell
    have lb := hS2.ex.lt
    have fb := hS2.ex.frozen
    obtain ⟨a0, ha0⟩ : ∃ a0, a0 = sum2 pre := ⟨_, rfl⟩
    obtain ⟨x2, hx2⟩ : ∃ x2, x2 = x.2 := ⟨_, rfl⟩
    have hw : IntKind.i64.wrap ((a0 : Int) + (x2 : Int)) = (((a0 + x2 : Nat)) : Int) := by rw [IntKind.wrap_i64]; omega
    have HE := Lib.hid (ColN.step (N := V.heap.size) (Pr := fun i => i < w.heap.size ∨ i = w.heap.size + 1) (T := TCe) hS2 (by omega) (Nat.le_refl _) (fun i hi => by omega) (.int .i64 (sum2 (pre ++ [x]) : Int)))
    have e2 : sum2 (pre ++ [x]) = a0 + x2 := by rw [sum2_append, sum2_one, ha0, hx2]
    rw [e2] at HE
    rw [← ha0] at cb
    have HX := Lib.hid (And.intro ha0 (And.intro hx2 e2))
    rw [← hx2]
    clear hS2 hc ha0 hx2 e2
    gi_wp2_with fail
    refine ⟨HE.out.2.1, HE.out.2.2, ?_⟩
    show ColN w w.heap.size 3 (.int .i64 (sum2 (pre ++ [x]) : Int)) _
    rw [HX.out.2.2]
    exact HE.out.1
  case done =>
    rintro xs W rfl hS hD hz
    have cb := hS.ex.cell
    have lb := hS.ex.lt
    have HE := Lib.hid hS.bel
    clear hS hc0 hTV v0 v1 v2
    gi_wp2_with fail
    refine leaves_marks w.heap.size [V.heap.size] W (by simp) (fun D hD' => by simp at hD'; subst hD'; exact ⟨by omega, hD⟩) (fun W' hc => ⟨_, results_tmp rfl _ _ _, rfl, below_chR HE.out hc.toR (Nat.le_refl _)⟩)

/-- Rows of pairs. -/
def RC : RowK Tryz.prog (Nat × Nat) where
  e := 45
  s := 42
  n := 2
  bytes := 16
  zero := .agg #[.int .i64 0, .int .i64 0]
  enc := fun z => [.int .i64 (z.1 : Int), .int .i64 (z.2 : Int)]
  pos := by decide
  by_ := by decide
  len := fun _ => rfl
  one := fun x u hu => by
    simp at hu
    rcases hu with rfl | rfl <;> rfl
  und := Tryz.underlying42
  info := by kernel_rfl
  zs := by decide

def zeros : Array Value := (cList T.new).toArray
theorem zeros_lit : #[Value.int .i64 0, .int .i64 0, .int .i64 0, .int .i64 0, .int .i64 0, .int .i64 0, .int .i64 0, .int .i64 0, .int .i64 0, .int .i64 0, .int .i64 0, .int .i64 0, .int .i64 0, .int .i64 0, .int .i64 0, .int .i64 0, .int .i64 0, .int .i64 0, .int .i64 0, .int .i64 0, .int .i64 0, .int .i64 0, .int .i64 0, .int .i64 0, .int .i64 0, .int .i64 0, .int .i64 0, .int .i64 0, .int .i64 0, .int .i64 0, .int .i64 0, .int .i64 0] = zeros := rfl
theorem zeros_size : zeros.size = 32 := by simp [zeros, cList_len]
theorem zeros_one : ∀ v ∈ zeros, v.oneCell' = true := fun v hv => by
  obtain ⟨i, _, rfl⟩ := List.mem_map.1 (show v ∈ cList T.new by simpa [zeros] using hv)
  rfl
theorem info45 : (Tryz.prog.info? 97).map (·.size) = some zeros.size := by rw [zeros_size]; kernel_rfl
theorem put_zeros (s : T) : putAt (cellsT s) 32 zeros = cellsT s.idle := by
  unfold putAt
  rw [zeros_size]
  show ((hList s ++ cList s).take 32 ++ cList T.new ++ (hList s ++ cList s).drop (32 + 32)).toArray = (hList s.idle ++ cList s.idle).toArray
  rw [List.take_append_of_le_length (by rw [hList_len]; omega), List.take_of_length_le (by rw [hList_len]; omega), List.drop_eq_nil_of_le (by simp [hList_len, cList_len]), List.append_nil]
  rfl

/-- What Take answers, and leaves. -/
def Taken (w : World) (k : Nat) (s : T) (e : Ending) (w' : World) : Prop := ∃ v, e = .returned v ∧ RC.own w' w.heap.size v (s.pend 32) ∧ Tb w' k s.idle ∧ Kept (fun i => i = k) w w'

set_option maxRecDepth 100000 in
set_option maxHeartbeats 4000000 in
theorem sg_take_any (H : Tb w k s) : Calls Tryz.prog 57 #[.pointer (some ⟨k, 0, none⟩)] w (Taken w k s) := by
  have HH := Lib.hid H
  clear H
  refine (callsIn_wide (n := 4)).1 ?_
  refine callsIn_of_wp_marks Tryz.func57 rfl trivial ?_ rfl
  simp only [Tryz.ntmps57, List.size_toArray, List.length_cons, List.length_nil, Nat.reduceAdd, Nat.reduceSub, Array.replicate_succ, Array.replicate_zero, List.push_toArray, List.append_toArray, List.nil_append, List.cons_append]
  gi_wp2_with (refine ⟨trivial, ?_⟩; gi_at_call 76; refine (callsIn_wide.2 (pending_call _ k)).mono ?_; rintro e w1 ⟨rfl, rfl⟩)
  obtain ⟨V, hV, v0, v1, v2, v4⟩ := two_boxes w 42 56 (.slice none 0 0) (.pointer (some ⟨k, 0, none⟩))
  rw [← hV]
  have hTV := HH.out.kept v0 (fun e => e)
  have hlt := HH.out.lt
  have hc0 : ColR RC w w.heap.size V.heap.size [] V := ⟨⟨_, v1, RowK.own_nil _ _⟩, v0.below (fun _ e => e.elim) (Nat.le_refl _)⟩
  clear hV
  refine rangeFunc_o (n := 4) (by omega) (gf := 87) (lb := #[.pointer (some ⟨w.heap.size + 1, 0, none⟩)]) rfl (enters_of Tryz.func87 (by kernel_rfl) rfl)
    (encs := encPr) TCe (fun i => i < w.heap.size ∨ i = w.heap.size + 1) (pend_o 3 (by omega) hTV _ v2 TCe _ V.heap.size ⟨by omega, .inr rfl⟩ ⟨by omega, .inl hlt⟩) (fun _ => rfl)
    (fun pre W => ColR RC w w.heap.size V.heap.size pre W) (fun _ _ _ => False)
    (fun s X Y hi hc => hi.chR hc (by omega)) (fun _ _ _ _ hi _ => hi.elim) hc0 ?round ?done (fun _ _ _ _ hi _ _ => hi.elim)
  case round =>
    rintro l pre x W hz hS ⟨R, hR⟩
    have hlen : pre.length ≤ 32 := by
      have h1 := T.pend_len s 32
      rw [← hR, List.length_append] at h1
      omega
    have HS := Lib.hid hS
    clear hS hR hc0 hTV v0 v1 v2
    simp only [encPr]
    gi_wp2_with fail
    refine ⟨KeepsFrom.refl _ _, KpO.refl _ _ _ _, fun W2 hc => ?_⟩
    obtain ⟨⟨v, hv, hrow⟩, hB⟩ := HS.out.chR hc (by omega)
    have cb := hv.cell
    have lb := hv.lt
    obtain ⟨x1, x2, rfl⟩ : ∃ x1 x2, x = (x1, x2) := ⟨x.1, x.2, rfl⟩
    have hNw : V.heap.size ≤ W2.heap.size := by have := hc.size; omega
    have b3 : ∀ j, v.ownBlock = some j → V.heap.size ≤ j := fun j e => (RowK.own_lt hrow e).2
    have HB := Lib.hid (And.intro hB (And.intro hv (And.intro hrow (And.intro hlen b3))))
    clear hB hv hrow hc b3
    gi_wp2_with (gi_at_builtin; refine RowK.append_in (R := RC) rfl _ _ rfl V.heap.size v pre (x1, x2) rfl (RowK.own_same HB.out.2.2.1 fun j e => Below.heap_alloc _ _ _ (RowK.own_lt HB.out.2.2.1 e).1) rfl (fun _ => ⟨W2.heap.size, 0, rfl, by simp, RowK.lies_new (R := RC) W2 (x1, x2) 45⟩) (by omega) (by simp; omega) ?_; intro g cap w1 O1 hg1; have i4 : Boxed w1 w.heap.size 42 v := ((hg1.block _ (by simp; omega) (fun e => by have := HB.out.2.2.2.2 _ e.symm; omega)).trans (Below.heap_alloc W2 _ _ lb)).trans HB.out.2.1; have d3 := i4.cell; have df := i4.frozen; have dl := i4.lt; have HG := Lib.hid (And.intro O1 hg1); clear O1 hg1 i4)
    obtain ⟨hB, hv, hrow, hlen, b3⟩ := HB.out
    obtain ⟨k1, k2, k3⟩ := ColR.step (Pr := fun i => i < w.heap.size ∨ i = w.heap.size + 1) hv hrow hB (by omega) (Nat.le_refl _) HG.out.2 HG.out.1 (fun i hi e => by omega)
    exact ⟨k2, k3, k1⟩
  case done =>
    rintro xs W rfl hS hD hz
    obtain ⟨⟨v, hv, hrow⟩, hB⟩ := hS
    have hTW : Tb W k s := HH.out.same (hB.block k hlt)
    obtain ⟨X, hX⟩ : ∃ X, X = W.setRow k (cellsT s.idle) := ⟨_, rfl⟩
    have kX : Kept (fun i => i = k) W X := by rw [hX]; exact kept_setRow W k _
    have tX : Tb X k s.idle := by rw [hX]; exact blk_setRow hTW _
    have bX : Boxed X w.heap.size 42 v := (kX.block _ hv.lt (by omega)).trans hv
    have oX : RC.own X V.heap.size v (s.pend 32) := RowK.own_kept hrow kX (fun i e => by have := (RowK.own_lt hrow e).2; omega)
    have kwX : Kept (fun i => i = k) w X := (Kept.of_below hB).trans kX
    have dX : X.heap[V.heap.size]? = some (.deferred (some [])) := (kX.block _ (by omega) (by omega)).trans hD
    have cb := bX.cell
    have lb := bX.lt
    have lk := hTW.lt
    have hzX : V.heap.size < X.heap.size := (Array.getElem?_eq_some_iff.1 dX).1
    have HE := Lib.hid (show ∀ W', ChO w.heap.size X W' → RC.own W' w.heap.size v (s.pend 32) ∧ Tb W' k s.idle ∧ Kept (fun i => i = k) w W' from fun W' hc => ⟨RowK.own_more (RowK.own_chR oX hc.toR) (by omega), blk_chR tX hc.toR, hc.os.trans kwX.os, hc.tape.trans kwX.tape, hc.output.trans kwX.output, Nat.le_trans kwX.size hc.size, fun i hi hf => (hc.low i (by omega) (Nat.lt_of_lt_of_le hi kwX.size)).trans (kwX.block i hi hf)⟩)
    have HT := Lib.hid hTW
    have HX := Lib.hid hX
    rw [v4] at dX
    have HD := Lib.hid dX
    clear hv hrow hB hTW hX kX tX bX oX kwX dX hc0 hTV v0 v1 v2 hD
    gi_wp2_with (refine wpListIn_store_part rfl _ _ _ rfl rfl (c := zeros) rfl HT.out info45 (by rw [zeros_size, cellsT_size]; decide) zeros_one ?_; rw [put_zeros, ← HX.out])
    exact leaves_marks w.heap.size [w.heap.size + 2] X (by simp) (fun D hD' => by simp at hD'; subst hD'; exact ⟨by omega, HD.out⟩) (fun W' hc => ⟨_, results_tmp rfl _ _ _, v, rfl, HE.out W' hc⟩)
end
end Go.Proofs.YtjejpgognfadoaaGreatDoor
