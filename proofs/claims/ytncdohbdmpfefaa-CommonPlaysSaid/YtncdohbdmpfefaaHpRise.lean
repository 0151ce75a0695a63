/-
  queue.rise: the item at a place goes up till the one above it stands ahead.
-/
import Derived.Test.YtncdohbdmpfefaaHpPut
import Derived.Shelf.SlSortCmp.QuietGrown
import Derived.WalkMore
namespace Go.Proofs.Ytncdohbdmpfefaa
open Go.RowKit Go.Maps Go.ChangeMaps Go.Sort

/-- Each item's number has its place, and no other number has one. -/
structure Places (L : List It) (f : Int → Option Nat) : Prop where
  at_ : ∀ j x, L[j]? = some x → f x.id = some j
  of_ : ∀ k v, f k = some v → ∃ x ∈ L, x.id = k
/-- .. but for the item at i, whose number has some place. -/
structure PlacesBut (L : List It) (i : Nat) (f : Int → Option Nat) : Prop where
  at_ : ∀ j x, L[j]? = some x → j ≠ i → f x.id = some j
  is_ : ∀ x ∈ L, (f x.id).isSome = true
  of_ : ∀ k v, f k = some v → ∃ x ∈ L, x.id = k
/-- No two items have one number. -/
def Uniq (L : List It) : Prop := (L.map It.id).Nodup
theorem Uniq.perm {L M : List It} (h : Uniq L) (p : M.Perm L) : Uniq M := (p.map It.id).nodup_iff.2 h
theorem Uniq.ne {L : List It} (h : Uniq L) {i j : Nat} {x y : It} (hx : L[i]? = some x) (hy : L[j]? = some y) (hne : i ≠ j) : x.id ≠ y.id := by
  intro e
  unfold Uniq at h
  obtain ⟨hi, hx⟩ := List.getElem?_eq_some_iff.1 hx
  obtain ⟨hj, hy⟩ := List.getElem?_eq_some_iff.1 hy
  have := (List.nodup_iff_pairwise_ne.1 h)
  rw [List.pairwise_iff_getElem] at this
  rcases Nat.lt_or_gt_of_ne hne with hlt | hlt
  · exact this i j (by simpa using hi) (by simpa using hj) hlt (by simp [hx, hy, e])
  · exact this j i (by simpa using hj) (by simpa using hi) hlt (by simp [hx, hy, e])
theorem Places.but {L : List It} {f : Int → Option Nat} (h : Places L f) (i : Nat) : PlacesBut L i f :=
  ⟨fun j x hx _ => h.at_ j x hx, fun x hx => by obtain ⟨j, hj⟩ := List.mem_iff_getElem?.1 hx; rw [h.at_ j x hj]; rfl, h.of_⟩
theorem PlacesBut.step {L : List It} {i : Nat} {f : Int → Option Nat} (h : PlacesBut L i f) (hu : Uniq L) (p : Nat) (hi : i < L.length) (hp : p < L.length) (hne : i ≠ p) :
    PlacesBut (swp L i p) p (updF f (itAt L p).id (some i)) := by
  refine ⟨fun j x hx hj => ?_, fun x hx => ?_, fun k v hk => ?_⟩
  · have hl : j < (swp L i p).length := (List.getElem?_eq_some_iff.1 hx).1
    have e := itAt_of hx
    rw [swp_at _ _ _ _ hi hp, if_neg hj] at e
    unfold updF
    by_cases ej : j = i
    · rw [if_pos ej] at e
      rw [← e, if_pos rfl, ej]
    · rw [if_neg ej] at e
      have hj' : j < L.length := by rw [swp_len] at hl; exact hl
      have hx' : L[j]? = some x := by rw [itAt_some hj', e]
      rw [if_neg (hu.ne hx' (itAt_some hp) hj)]
      exact h.at_ j x hx' ej
  · have hx' := (swp_perm L i p hi hp).mem_iff.1 hx
    unfold updF
    by_cases e : x.id = (itAt L p).id
    · rw [if_pos e]; rfl
    · rw [if_neg e]; exact h.is_ x hx'
  · unfold updF at hk
    by_cases e : k = (itAt L p).id
    · exact ⟨itAt L p, (swp_perm L i p hi hp).mem_iff.2 (itAt_mem hp), e.symm⟩
    · rw [if_neg e] at hk
      obtain ⟨x, hx, ex⟩ := h.of_ k v hk
      exact ⟨x, (swp_perm L i p hi hp).mem_iff.2 hx, ex⟩
theorem PlacesBut.close {L : List It} {i : Nat} {f : Int → Option Nat} (h : PlacesBut L i f) (hu : Uniq L) (hi : i < L.length) : Places L (updF f (itAt L i).id (some i)) := by
  refine ⟨fun j x hx => ?_, fun k v hk => ?_⟩
  · unfold updF
    by_cases ej : j = i
    · subst ej; rw [itAt_of hx, if_pos rfl]
    · rw [if_neg (hu.ne hx (itAt_some hi) ej)]; exact h.at_ j x hx ej
  · unfold updF at hk
    by_cases e : k = (itAt L i).id
    · exact ⟨itAt L i, itAt_mem hi, e.symm⟩
    · rw [if_neg e] at hk; exact h.of_ k v hk

/-- What a walk reads, in the world and in each that has some draws and blocks more. -/
theorem Qst.cells {w : World} {B q m N g n cap : Nat} {P : List It} {f : Int → Option Nat} (h : Qst w B q m (.slice (some ⟨g, 0, none⟩) n cap) P f N) :
    n = P.length ∧ n ≤ cap ∧ w.cell? ⟨q, 0, none⟩ = some (.slice (some ⟨g, 0, none⟩) n cap) ∧ w.cell? ⟨q, 1, none⟩ = some (.map (some m)) ∧ g < w.heap.size ∧
      ∀ i x, P[i]? = some x → w.cell? ⟨g, i * 3, none⟩ = some (.int .i64 x.id) ∧ w.cell? ⟨g, i * 3 + 1, none⟩ = some (.int .u64 x.d) ∧ w.cell? ⟨g, i * 3 + 2, none⟩ = some (.int .u64 x.n) := by
  have hr := h.row
  have c0 := h.blk.cell 0
  have c1 := h.blk.cell 1
  simp at c0 c1
  rcases hr.2 with ⟨e, _⟩ | ⟨g', cap', cur, e, hg, hh, hc, _⟩
  · cases e
  · injection e with e1 e2 e3
    injection e1 with e1
    injection e1 with e1
    subst e1 e2 e3
    refine ⟨rfl, hc, c0, c1, (Array.getElem?_eq_some_iff.1 hh).1, fun i x hx => ?_⟩
    have hi : i < P.length := (List.getElem?_eq_some_iff.1 hx).1
    obtain ⟨e0, e1, e2⟩ := enc_at P i x hx
    exact ⟨(hr.cellAt _ (by omega)).trans e0, (hr.cellAt _ (by omega)).trans e1, (hr.cellAt _ (by omega)).trans e2⟩

/-- While x rises from i0, now at k: the row holds P', but that x belongs at k. -/
def RiseRel (w : World) (B q m N : Nat) (v : Value) (P P' : List It) (i0 : Nat) (x : It) (k : Nat) (wr : World) : Prop :=
  ∃ f', Qst wr B q m v P' f' N ∧ P'.length = P.length ∧ (P'.set k x).Perm P ∧ PlacesBut (P'.set k x) k f' ∧ Rising (P'.set k x) i0 k ∧ Kept (fun k => k = m ∨ v.ownBlock = some k) w wr ∧
    Blk wr w.heap.size 44 #[.int .i64 x.id, .int .u64 x.d, .int .u64 x.n] ∧ x.Ok ∧ k ≤ i0 ∧ k < P.length

theorem order_grown (x y : It) (w : World) (n : Nat) (os : Array Obj) : Calls Try.prog 83 #[.agg #[.int .i64 x.id, .int .u64 x.d, .int .u64 x.n], .agg #[.int .i64 y.id, .int .u64 y.d, .int .u64 y.n]] (grow (w.drewN n) os) fun e w'' =>
    e = .returned (.int .i64 (ordI x y)) ∧ ∃ p : GrownBy, w'' = grow (w.drewN p.n) p.os := Calls.grown_of (order_any x y _)

section
variable {w wr : World} {B q m N : Nat} {v : Value} {P P' : List It} {i0 k : Nat} {x : It}
theorem rise_grow (h : RiseRel w B q m N v P P' i0 x k wr) (n : Nat) (os : Array Obj) : RiseRel w B q m N v P P' i0 x k (grow (wr.drewN n) os) := by
  obtain ⟨f', hQ, hlP, hperm, hpb, hris, hkw, hbx, r⟩ := h
  have hk : Kept (fun _ => False) wr (grow (wr.drewN n) os) := (Kept.refl _ wr).grow n os
  exact ⟨f', hQ.kept hk (fun _ _ e => e), hlP, hperm, hpb, hris, hkw.grow n os, hbx.kept hk (fun e => e), r⟩

/-- What stands behind the loop: the item is laid where it has come to. -/
theorem rise_exit (h : RiseRel w B q m N v P P' i0 x k wr) (hl : 0 < k → Lt (itAt P' (up k)) x) (hu : Uniq P) (hN : N ≤ 100000) :
    Calls Try.prog 75 #[.pointer (some ⟨q, 0, none⟩), .int .i64 (k : Int), .agg #[.int .i64 x.id, .int .u64 x.d, .int .u64 x.n]] wr fun e w' =>
      e = .returned (.tuple #[]) ∧ ∃ L f', Qst w' B q m v L f' N ∧ L.Perm P ∧ Places L f' ∧ Sinking L i0 ∧ Kept (fun k => k = m ∨ v.ownBlock = some k) w w' := by
  obtain ⟨f', hQ, hlP, hperm, hpb, hris, hkw, hbx, hxok, hki, hkl⟩ := h
  have hk' : k < P'.length := by omega
  have ex : itAt (P'.set k x) k = x := by rw [itAt_set _ _ _ _ hk', if_pos rfl]
  refine (put_any wr B q m N v P' f' hQ k x hk' hxok hN N ?_).mono ?_
  · rw [hpb.is_ x (by have := itAt_mem (L := P'.set k x) (j := k) (by simpa using hk'); rwa [ex] at this)]
    exact Nat.le_refl _
  · rintro e w' ⟨rfl, hQ', hk2⟩
    refine ⟨rfl, P'.set k x, _, hQ', hperm, ?_, ?_, hkw.trans hk2⟩
    · have := hpb.close (hu.perm hperm) (by simpa using hk')
      rwa [ex] at this
    · refine rising_end hris (by simpa using hk') fun h0 => ?_
      rw [ex, itAt_set _ _ _ _ hk', if_neg (by have := up_lt h0; omega)]
      exact hl h0

/-- A round: the item above is laid here. -/
theorem rise_next (h : RiseRel w B q m N v P P' i0 x k wr) (h0 : 0 < k) (hl : ¬ Lt (itAt P' (up k)) x) (hu : Uniq P) (hN : N ≤ 100000) (hnew : v.ownBlock ≠ some w.heap.size) (hm : m < w.heap.size) :
    Calls Try.prog 75 #[.pointer (some ⟨q, 0, none⟩), .int .i64 (k : Int), .agg #[.int .i64 (itAt P' (up k)).id, .int .u64 (itAt P' (up k)).d, .int .u64 (itAt P' (up k)).n]] wr fun e w' =>
      e = .returned (.tuple #[]) ∧ RiseRel w B q m N v P (P'.set k (itAt P' (up k))) i0 x (up k) w' := by
  obtain ⟨f', hQ, hlP, hperm, hpb, hris, hkw, hbx, hxok, hki, hkl⟩ := h
  have hk' : k < P'.length := by omega
  have hul := up_lt h0
  have hp' : up k < P'.length := by omega
  have e1 : itAt (P'.set k x) (up k) = itAt P' (up k) := by rw [itAt_set _ _ _ _ hk', if_neg (by omega)]
  have ex : itAt (P'.set k x) k = x := by rw [itAt_set _ _ _ _ hk', if_pos rfl]
  have hsw : (P'.set k (itAt P' (up k))).set (up k) x = swp (P'.set k x) k (up k) := by
    unfold swp
    rw [e1, ex, List.set_set]
  have hlk : k < (P'.set k x).length := by simpa using hk'
  have hlp : up k < (P'.set k x).length := by simpa using hp'
  refine (put_any wr B q m N v P' f' hQ k (itAt P' (up k)) hk' (hQ.ok _ (itAt_mem hp')) hN N ?_).mono ?_
  · rw [hpb.is_ (itAt P' (up k)) (by have := itAt_mem hlp; rwa [e1] at this)]
    exact Nat.le_refl _
  · rintro e w' ⟨rfl, hQ', hk2⟩
    refine ⟨rfl, _, hQ', by simpa using hlP, ?_, ?_, ?_, hkw.trans hk2, hbx.kept hk2 ?_, hxok, by omega, by omega⟩
    · rw [hsw]; exact (swp_perm _ _ _ hlk hlp).trans hperm
    · rw [hsw, ← e1]; exact hpb.step (hu.perm hperm) (up k) hlk hlp (by omega)
    · rw [hsw]; exact rising_step hris h0 hlk (by rw [e1, ex]; exact hl) hki
    · rintro (e | e)
      · omega
      · exact hnew e
end

set_option maxHeartbeats 2000000 in
set_option maxRecDepth 100000 in
theorem rise_any (w : World) (B q m N : Nat) (v : Value) (P : List It) (f : Int → Option Nat) (h : Qst w B q m v P f N) (i0 : Nat) (hi : i0 < P.length) (hN : N ≤ 100000) (hu : Uniq P) (hp : Places P f) (hR : Rising P i0 i0) :
    Calls Try.prog 76 #[.pointer (some ⟨q, 0, none⟩), .int .i64 (i0 : Int)] w fun e w' =>
      e = .returned (.tuple #[]) ∧ ∃ L f', Qst w' B q m v L f' N ∧ L.Perm P ∧ Places L f' ∧ Sinking L i0 ∧ Kept (fun k => k = m ∨ v.ownBlock = some k) w w' := by
  have mixed : Try.prog.follows .mixedOrders = true := by kernel_rfl
  obtain ⟨g, cap, rfl, hc, hgl, hgB, hfz, hcell⟩ := h.form (by omega)
  have ql := h.blk.lt
  have c0 := h.blk.cell 0
  simp at c0
  have hx := itAt_some hi
  obtain ⟨x, ex⟩ : ∃ x, x = itAt P i0 := ⟨_, rfl⟩
  rw [← ex] at hx
  obtain ⟨x0, x1, x2⟩ := hcell i0 x hx
  clear hcell hfz
  have b0 : (0 : Int) ≤ (i0 : Int) := by omega
  have b1 : (i0 : Int) < (P.length : Int) := by omega
  have hlen := h.len
  have hst : RiseRel w B q m N (.slice (some ⟨g, 0, none⟩) P.length cap) P P i0 x i0 ((w.alloc (.cells #[.int .i64 x.id, .int .u64 x.d, .int .u64 x.n] 44))) := by
    have e : P.set i0 x = P := ext_at (by simp) fun j hj => by
      rw [itAt_set _ _ _ _ hi]
      by_cases e : j = i0
      · rw [if_pos e, e, ex]
      · rw [if_neg e]
    refine ⟨f, h.kept ((Kept.refl (fun _ => False) w).alloc _) (fun _ _ e => e), rfl, by rw [e], by rw [e]; exact hp.but i0, by rw [e]; exact hR, (Kept.refl _ w).alloc _, Blk.new _ _ _, h.ok x (List.mem_of_getElem? hx), Nat.le_refl _, hi⟩
  have HS := Lib.hid hst
  have HM := Lib.hid (And.intro (fun e => by have := (own_lt h.row e).1; omega : (Value.slice (some ⟨g, 0, none⟩) P.length cap).ownBlock ≠ some w.heap.size) h.pm.lt)
  have HH := Lib.hid (And.intro hu (And.intro hN ex))
  clear hst hu hN ex hp hR h hx
  go_enter Try.func76, Try.ntmps76
  refine wp_scope_straight ?_
  go_wp2_with fail
  go_step3
  go_wp2_with fail
  go_loopw [1] (fun i wr => ∃ (k : Nat) (P' : List It), i = .int .i64 (k : Int) ∧ RiseRel w B q m N (.slice (some ⟨g, 0, none⟩) P.length cap) P P' i0 x k wr) (fun i _ => (intOf i).toNat)
  case atStart => exact ⟨i0, P, rfl, HS.out⟩
  case round =>
    obtain ⟨k, P', rfl, hRR⟩ := hrel
    obtain ⟨f', hQ, hlP, -, -, -, hkw, hbx, hxok, hki, hkl⟩ := id hRR
    obtain ⟨-, -, d0, -, hgl', hcells⟩ := hQ.cells
    have bx := hbx.lt
    have k1 : (k : Int) < (P.length : Int) := by omega
    have x0' := hbx.cell 0
    have x1' := hbx.cell 1
    have x2' := hbx.cell 2
    simp at x0' x1' x2'
    by_cases hk0 : k = 0
    · have hd : decide ((0 : Int) < (k : Int)) = false := by simp; omega
      have hd2 : decide (0 < k) = false := by simp; omega
      have HE := Lib.hid (rise_exit hRR (fun h => by omega) HH.out.1 HH.out.2.1)
      clear hk0 hRR hQ hkw hcells
      go_wp2_with (go_at_call 75; refine HE.out.mono ?_; rintro e w4 ⟨rfl, hpost⟩)
      rw [Exit.noGoto_normal]
      go_end0
      exact ⟨rfl, hpost⟩
    · have hul := up_lt (Nat.pos_of_ne_zero hk0)
      have hpl : up k < P'.length := by omega
      obtain ⟨y, ey⟩ : ∃ y, y = itAt P' (up k) := ⟨_, rfl⟩
      have hy := itAt_some hpl
      rw [← ey] at hy
      obtain ⟨y0, y1, y2⟩ := hcells (up k) y hy
      have hdiv : ((k : Int) - 1) / 2 = ((up k : Nat) : Int) := by show _ = (((k - 1) / 2 : Nat) : Int); omega
      have p0 : (0 : Int) ≤ ((up k : Nat) : Int) := by omega
      have p1 : ((up k : Nat) : Int) < (P.length : Int) := by omega
      have k0 : (0 : Int) < (k : Int) := by omega
      have HG := Lib.hid (fun n os => rise_grow hRR n os)
      have HN : Hid ((Value.slice (some ⟨g, 0, none⟩) P.length cap).ownBlock ≠ some w.heap.size ∧ m < w.heap.size) := HM.out
      obtain ⟨p, ep⟩ : ∃ p, p = up k := ⟨_, rfl⟩
      rw [← ep] at hdiv p0 p1 y0 y1 y2 hul
      have E0 := cell_grown (w := wr) (a := ⟨q, 0, none⟩) hQ.blk.lt d0
      have E1 := cell_grown (w := wr) (a := ⟨g, p * 3, none⟩) hgl' y0
      have E2 := cell_grown (w := wr) (a := ⟨g, p * 3 + 1, none⟩) hgl' y1
      have E3 := cell_grown (w := wr) (a := ⟨g, p * 3 + 2, none⟩) hgl' y2
      have E4 := cell_grown (w := wr) (a := ⟨w.heap.size, 0, none⟩) bx x0'
      have E5 := cell_grown (w := wr) (a := ⟨w.heap.size, 1, none⟩) bx x1'
      have E6 := cell_grown (w := wr) (a := ⟨w.heap.size, 2, none⟩) bx x2'
      have HO := Lib.hid (fun n os => order_grown y x wr n os)
      have HYX := Lib.hid (And.intro (ord_lt y x) (And.intro ey (And.intro ep (Nat.pos_of_ne_zero hk0))))
      clear hcells x0' x1' x2' y0 y1 y2 d0 hy c0 ey ep hk0 hQ hkw hRR hbx
      generalize ordI y x = o at HO HYX
      by_cases ho : o < 0
      · have HX := Lib.hid (HYX.out.1.1 ho)
        go_wp2_with fail
        go_quiet_grown ((go_at_call 83; refine HO.out _ _))
        obtain ⟨hlt, ey, ep, hkp⟩ := HYX.out
        have HE := Lib.hid (rise_exit (HG.out nq osq) (fun _ => by rw [← ey]; exact hlt.1 ho) HH.out.1 HH.out.2.1)
        clear hlt ey ep hkp
        go_wp2_with (go_at_call 75; refine HE.out.mono ?_; rintro e w4 ⟨rfl, hpost⟩)
        rw [Exit.noGoto_normal]
        go_end0
        exact ⟨rfl, hpost⟩
      · have ho' : decide (o < 0) = false := by simpa using ho
        go_wp2_with fail
        go_quiet_grown ((go_at_call 83; refine HO.out _ _))
        obtain ⟨hlt, ey, ep, hkp⟩ := HYX.out
        have HE := rise_next (HG.out nq osq) hkp (by rw [← ey]; exact fun h => by have := hlt.2 h; omega) HH.out.1 HH.out.2.1 HN.out.1 HN.out.2
        rw [← ey, ← ep] at HE
        have HE := Lib.hid HE
        clear hlt ey ep hkp
        go_wp2_with (go_at_call 75; refine HE.out.mono ?_; rintro e w4 ⟨rfl, hpost⟩)
        go_roundw
        case rel => exact ⟨p, _, rfl, hpost⟩
        case measure => simp [intOf]; omega
end Go.Proofs.Ytncdohbdmpfefaa
