/-
  queue.remove: the item at a place goes out, and the last one comes to its place.
-/
import Derived.Test.YtncdohbdmpfefaaHpAdd
namespace Go.Proofs.Ytncdohbdmpfefaa
open Go.RowKit Go.Maps Go.ChangeMaps Go.Sort

theorem enc_take (L : List It) : ∀ n, (L.flatMap encIt).take (n * 3) = (L.take n).flatMap encIt := by
  induction L with
  | nil => intro n; simp
  | cons x L ih =>
    intro n
    cases n with
    | zero => simp
    | succ n =>
      have e : (List.flatMap encIt (x :: L)) = .int .i64 x.id :: .int .u64 x.d :: .int .u64 x.n :: L.flatMap encIt := by simp [encIt]
      rw [e, show (n + 1) * 3 = n * 3 + 3 from by omega]
      simp only [List.take_succ_cons, ih n, List.flatMap_cons]
      simp [encIt]
theorem own_take {w : World} {B g n cap : Nat} {e : TypeId} {xs : List Value} (h : w.ownsRow B e 3 (.slice (some ⟨g, 0, none⟩) n cap) n xs) (k : Nat) (hk : k ≤ n) : w.ownsRow B e 3 (.slice (some ⟨g, 0, none⟩) k cap) k (xs.take (k * 3)) := by
  obtain ⟨h1, h2⟩ := h
  rcases h2 with ⟨e, _⟩ | ⟨g', cap', cur, e, hg, hh, hc, hm, hs, ht⟩
  · cases e
  · injection e with e1 e2 e3
    injection e1 with e1
    injection e1 with e1
    subst e1 e3
    refine ⟨by rw [List.length_take, h1]; omega, .inr ⟨g, cap, cur, rfl, hg, hh, by omega, hm, hs, ?_⟩⟩
    rw [← ht, List.take_take]
    congr 1
    omega

theorem itAt_take {L : List It} {k j : Nat} (h : j < k) : itAt (L.take k) j = itAt L j := by
  unfold itAt
  rw [List.getD_eq_getElem?_getD, List.getD_eq_getElem?_getD, List.getElem?_take, if_pos h]
theorem take_last {L : List It} {k : Nat} (h : L.length = k + 1) : L = L.take k ++ [itAt L k] := by
  conv => lhs; rw [← List.take_append_drop k L]
  congr 1
  rw [List.drop_eq_getElem_cons (by omega)]
  have : L.drop (k + 1) = [] := List.drop_eq_nil_of_le (by omega)
  rw [this]
  congr 1
  unfold itAt
  rw [List.getD_eq_getElem?_getD, List.getElem?_eq_getElem (by omega)]
  rfl
theorem uniq_take {L : List It} (h : Uniq L) (k : Nat) : Uniq (L.take k) := by
  unfold Uniq at *
  rw [List.map_take]
  exact (List.take_sublist _ _).nodup h
/-- What is left of the places when an item has gone out at the end. -/
theorem places_pop {L : List It} {f : Int → Option Nat} {k : Nat} (h : Places L f) (hu : Uniq L) (hl : L.length = k + 1) : Places (L.take k) (updF f (itAt L k).id none) := by
  refine ⟨fun j x hx => ?_, fun a v ha => ?_⟩
  · have hj : j < k := by have := (List.getElem?_eq_some_iff.1 hx).1; simp at this; omega
    rw [List.getElem?_take, if_pos hj] at hx
    unfold updF
    rw [if_neg (hu.ne hx (itAt_some (by omega)) (by omega))]
    exact h.at_ j x hx
  · unfold updF at ha
    by_cases e : a = (itAt L k).id
    · rw [if_pos e] at ha; cases ha
    · rw [if_neg e] at ha
      obtain ⟨x, hx, ex⟩ := h.of_ a v ha
      rw [take_last hl] at hx
      rcases List.mem_append.1 hx with hx | hx
      · exact ⟨x, hx, ex⟩
      · simp at hx; subst hx; exact absurd ex.symm e
/-- .. and when it has gone out of the midst, and the last one is laid there. -/
theorem places_mid {L : List It} {f : Int → Option Nat} {k i : Nat} (h : Places L f) (hu : Uniq L) (hl : L.length = k + 1) (hi : i < k) :
    Places ((L.take k).set i (itAt L k)) (updF (updF f (itAt L i).id none) (itAt L k).id (some i)) := by
  have hlt : i < (L.take k).length := by simp; omega
  have hne : (itAt L k).id ≠ (itAt L i).id := hu.ne (itAt_some (by omega)) (itAt_some (by omega)) (by omega)
  refine ⟨fun j x hx => ?_, fun a v ha => ?_⟩
  · have hj : j < k := by have := (List.getElem?_eq_some_iff.1 hx).1; simp at this; omega
    have e := itAt_of hx
    rw [itAt_set _ _ _ _ hlt] at e
    unfold updF
    by_cases ej : j = i
    · rw [if_pos ej] at e; rw [← e, if_pos rfl, ej]
    · rw [if_neg ej, itAt_take hj] at e
      have hx' : L[j]? = some x := by rw [itAt_some (by omega), e]
      rw [if_neg (hu.ne hx' (itAt_some (by omega)) (by omega)), if_neg (hu.ne hx' (itAt_some (by omega)) ej)]
      exact h.at_ j x hx'
  · unfold updF at ha
    have hm : itAt L k ∈ (L.take k).set i (itAt L k) := List.mem_of_getElem? (i := i) (by rw [List.getElem?_set, if_pos rfl, if_pos hlt])
    by_cases e : a = (itAt L k).id
    · exact ⟨_, hm, e.symm⟩
    · rw [if_neg e] at ha
      by_cases e2 : a = (itAt L i).id
      · rw [if_pos e2] at ha; cases ha
      · rw [if_neg e2] at ha
        obtain ⟨x, hx, ex⟩ := h.of_ a v ha
        obtain ⟨j, hj⟩ := List.mem_iff_getElem?.1 hx
        have hjl := (List.getElem?_eq_some_iff.1 hj).1
        have hjk : j ≠ k := fun e3 => e (by rw [← ex, ← itAt_of hj, e3])
        have hji : j ≠ i := fun e3 => e2 (by rw [← ex, ← itAt_of hj, e3])
        refine ⟨x, List.mem_of_getElem? (i := j) ?_, ex⟩
        rw [List.getElem?_set, if_neg (Ne.symm hji), List.getElem?_take, if_pos (by omega)]
        exact hj
theorem perm_mid {L : List It} {k i : Nat} (hl : L.length = k + 1) (hi : i < k) : (itAt L i :: (L.take k).set i (itAt L k)).Perm L := by
  have h := set_perm_cons (L.take k) i (itAt L k) (by simp; omega)
  rw [itAt_take hi] at h
  refine h.trans ?_
  conv => rhs; rw [take_last hl]
  exact (List.perm_append_comm (l₁ := [itAt L k]))
theorem uniq_cons {x : It} {M L : List It} (hu : Uniq L) (p : (x :: M).Perm L) : Uniq M := by
  have := hu.perm p
  unfold Uniq at *
  exact (List.nodup_cons.1 this).2

set_option maxHeartbeats 2000000 in
set_option maxRecDepth 100000 in
theorem remove_any (w : World) (B q m : Nat) (v : Value) (L : List It) (hQ : Que w B q m v L) (i : Nat) (hi : i < L.length) :
    Calls Try.prog 58 #[.pointer (some ⟨q, 0, none⟩), .int .i64 (i : Int)] w fun e w' =>
      e = .returned (.tuple #[]) ∧ ∃ v' L', Que w' B q m v' L' ∧ (itAt L i :: L').Perm L ∧ Kept (Fp q m v) w w' ∧ v'.ownBlock = v.ownBlock := by
  obtain ⟨f, h, hp, hh, hu⟩ := hQ
  obtain ⟨g, cap, rfl, hc, hgl, hgB, hfz, hcell⟩ := h.form (by omega)
  obtain ⟨k, hk⟩ : ∃ k, L.length = k + 1 := ⟨L.length - 1, by omega⟩
  have ql := h.blk.lt
  have c0 := h.blk.cell 0
  have c1 := h.blk.cell 1
  simp at c0 c1
  have f0 := h.blk.frozen 0
  obtain ⟨x, ex⟩ : ∃ x, x = itAt L i := ⟨_, rfl⟩
  obtain ⟨y, ey⟩ : ∃ y, y = itAt L k := ⟨_, rfl⟩
  obtain ⟨x0, _, _⟩ := hcell i _ (itAt_some hi)
  obtain ⟨y0, y1, y2⟩ := hcell k _ (itAt_some (by omega))
  rw [← ex] at x0
  rw [← ey] at y0 y1 y2
  have hK := Lib.hid hk
  have hlk : (L.length : Int) - 1 = (k : Int) := by omega
  have b0 : (0 : Int) ≤ (i : Int) := by omega
  have b1 : (i : Int) < (L.length : Int) := by omega
  have b2 : (0 : Int) ≤ (k : Int) := by omega
  have b3 : (k : Int) < (L.length : Int) := by omega
  have b4 : (k : Int) ≤ (cap : Int) := by omega
  have hxok : x.Ok := by rw [ex]; exact h.ok _ (itAt_mem hi)
  have hyok : y.Ok := by rw [ey]; exact h.ok _ (itAt_mem (by omega))
  have hlen := h.len
  have EX := Lib.hid (And.intro ex ey)
  clear hcell ex ey hk hfz
  go_enter Try.func58, Try.ntmps58
  go_wp2_with fail
  refine wp_still_tail 12 (by kernel_rfl) (by kernel_rfl) ?_
  simp only [List.take_succ_cons, List.take_zero, List.drop_succ_cons, List.drop_zero]
  repeat still_step
  refine wpStill_nil ?_
  obtain ⟨D, hD, hf⟩ := id h.pm
  at_delete
  refine wpList_delete_own _ rfl _ _ 88 3 rfl 3 keyInt Try.underlying88 _ m L.length D rfl ((hD.alloc _).drew) _ _ rfl (keyOf_int_mk Try.underlying3 (wfI hxok.1)) ?_
  intro w1 hown1 hturn
  obtain ⟨n1, n2, n3⟩ := h.ne
  have hk1 : Kept (fun k => k = m) w w1 := (((Kept.refl _ w).alloc _).drew).grown hturn.grown (fun k e _ => by cases e; rfl)
  have hbox : Blk w1 w.heap.size 44 #[.int .i64 y.id, .int .u64 y.d, .int .u64 y.n] := by
    have hb := Blk.new w 44 #[.int .i64 y.id, .int .u64 y.d, .int .u64 y.n]
    refine Blk.same (w := w.alloc (.cells #[.int .i64 y.id, .int .u64 y.d, .int .u64 y.n] 44)) hb (hturn.grown.block w.heap.size (by simp) (fun e => ?_))
    have : w.heap.size = m := by simpa using e
    have := h.pm.lt
    omega
  have hb1 : Blk w1 q 90 #[.slice (some ⟨g, 0, none⟩) L.length cap, .map (some m)] := h.blk.kept hk1 n1
  have hr1 := own_same (w' := w1) h.row (fun j e => hk1.block j (own_lt h.row e).1 (fun e' => n3 (e' ▸ e)))
  have hP1 : Pm w1 m k (updF f x.id none) := by
    refine ⟨_, (own_tight hown1).2.mono ?_, Pm.del hf x.id⟩
    have hs := size_del (k := .int .i64 x.id) (hD.tidy keyInt)
    have hsz := (own_tight hD).1
    have := hK.out
    rw [(hf x.id).1, EX.out.1, hp.at_ i _ (itAt_some hi), Option.isSome_some, if_pos rfl] at hs
    rw [EX.out.1]
    omega
  have hB1 : B ≤ w1.heap.size := Nat.le_trans h.hB hk1.size
  have lq := hb1.lt
  have z0 := hb1.cell 0
  have fz := hb1.frozen 0
  have x0' := hbox.cell 0
  have x1' := hbox.cell 1
  have x2' := hbox.cell 2
  simp at z0 x0' x1' x2'
  have ne1 : w.heap.size ≠ q := by omega
  have ne2 : q ≠ w.heap.size := by omega
  have gq : g ≠ q := fun e => n2 (by rw [e]; rfl)
  have hQ2 : Qst (w1.setCell ⟨q, 0, none⟩ (.slice (some ⟨g, 0, none⟩) k cap)) B q m (.slice (some ⟨g, 0, none⟩) k cap) (L.take k) (updF f x.id none) k := by
    have hK' := hK.out
    have hl : (L.take k).length = k := by simp; omega
    refine ⟨hb1.set_ 0 _, ?_, hP1.same (Below.heap_setCell _ _ _ _ (Ne.symm n1)), h.hq, h.hm, by simpa [World.setCell] using hB1, fun z hz => h.ok z (List.mem_of_mem_take hz), by omega⟩
    rw [hl, ← enc_take]
    refine own_same (own_take hr1 k (by omega)) fun j e => Below.heap_setCell _ _ _ _ ?_
    have : g = j := by simpa [Value.ownBlock] using e
    subst this
    exact gq
  have hk2 : Kept (Fp q m (.slice (some ⟨g, 0, none⟩) L.length cap)) w (w1.setCell ⟨q, 0, none⟩ (.slice (some ⟨g, 0, none⟩) k cap)) := (hk1.mono (fun j _ e => .inr (.inl e))).setCell (p := ⟨q, 0, none⟩) (.inl rfl) _
  have H2 := Lib.hid (And.intro hQ2 hk2)
  have HPP := Lib.hid (And.intro hp (And.intro hh hu))
  clear hQ2 hk2 hP1 hr1 hb1 hbox hk1 hown1 hturn hD hf h c0 c1 f0 x0 y0 y1 y2 hp hh hu
  have hk := hK.out
  by_cases hik : i < k
  · have hne : y.id ≠ x.id := by rw [EX.out.1, EX.out.2]; exact HPP.out.2.2.ne (itAt_some (by omega)) (itAt_some hi) (by omega)
    have hsm : k + (if (updF f x.id none y.id).isSome then 0 else 1) ≤ k := by
      unfold updF
      rw [if_neg hne, EX.out.2, HPP.out.1.at_ k _ (itAt_some (by omega))]
      simp
    have hl : (L.take k).length = k := by simp; omega
    have hpm := perm_mid hk hik
    have hpl := places_mid HPP.out.1 HPP.out.2.2 hk hik
    rw [← EX.out.2] at hpm hpl
    have hu' := uniq_cons HPP.out.2.2 hpm
    rw [← EX.out.1] at hpl
    have HR := Lib.hid (replace_any _ B q m k k _ (L.take k) (updF f x.id none) H2.out.1 i y (by omega) hyok (by omega) (by omega) hsm hu' hpl (rising_start (heap_take HPP.out.2.1 k) i y (by omega)))
    have HM := Lib.hid (And.intro hpm hl)
    have HU := Lib.hid hu'
    clear hne hsm hl hpm hpl hu' hk
    go_wp2_with fail
    refine HR.out.mono ?_
    rintro e w4 ⟨rfl, L', f', hQ', hpm, hpl', hh', hk'⟩
    have hll : L'.length = k := by rw [hpm.length_eq, List.length_set, HM.out.2]
    have hfin : Que w4 B q m (.slice (some ⟨g, 0, none⟩) k cap) L' := ⟨f', by rw [hll]; exact hQ', hpl', hh', HU.out.perm hpm⟩
    have hkk := H2.out.2.andThen hk' (fun j _ e => by
      rcases e with e | e
      · exact .inr (.inl e)
      · exact .inr (.inr e))
    have hend := Lib.hid (And.intro hfin (And.intro ((hpm.cons (itAt L i)).trans HM.out.1) hkk))
    clear hll hfin hkk hpm hQ' hpl' hh' hk'
    go_wp2_with fail
    go_end0
    exact ⟨rfl, _, L', hend.out.1, hend.out.2.1, hend.out.2.2, rfl⟩
  · have hik' : decide (i < k) = false := by simpa using hik
    have eik : i = k := by omega
    have hl : (L.take k).length = k := by simp; omega
    have hfin : Que (w1.setCell ⟨q, 0, none⟩ (.slice (some ⟨g, 0, none⟩) k cap)) B q m (.slice (some ⟨g, 0, none⟩) k cap) (L.take k) := by
      refine ⟨_, by rw [hl]; exact H2.out.1, ?_, heap_take HPP.out.2.1 k, uniq_take HPP.out.2.2 k⟩
      rw [EX.out.1, eik]
      exact places_pop HPP.out.1 HPP.out.2.2 hk
    have hpm : (itAt L i :: L.take k).Perm L := by
      rw [eik]
      conv => rhs; rw [take_last hk]
      exact (List.perm_append_comm (l₁ := [itAt L k]))
    have hend := Lib.hid (And.intro hfin (And.intro hpm H2.out.2))
    clear hl hfin hpm hk eik hik
    go_wp2_with fail
    go_end0
    exact ⟨rfl, _, _, hend.out.1, hend.out.2.1, hend.out.2.2, rfl⟩
end Go.Proofs.Ytncdohbdmpfefaa
