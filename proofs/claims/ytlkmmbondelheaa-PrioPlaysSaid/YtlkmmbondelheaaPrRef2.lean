/-
  The reference's Put.
-/
import Derived.Test.YtlkmmbondelheaaPrRef
namespace Go.Proofs.Ytlkmmbondelheaa
open Go.RowKit Go.Maps Go.ChangeMaps Go.Shelf

set_option maxRecDepth 100000 in
theorem rput_bad {w : World} {B r many : Nat} {v : Value} {L : List It} (R : Rf w B r many v L) (p k fl c : Int) (h : putOk many p k fl c = false) :
    Calls Try.prog 11 #[.pointer (some ⟨r, 0, none⟩), .int .i64 p, .int .i64 k, .int .i64 fl, .int .i64 c] w fun e w' => e = .returned (.int .i64 2) ∧ w = w' := by
  have c0 : w.cell? ⟨r, 0, none⟩ = some (.int .i64 (many : Int)) := R.blk.cell 0
  have rl := R.blk.lt
  unfold putOk at h
  simp at h
  clear R
  by_cases h1 : p < 0
  · clear h
    go_enter Try.func11, Try.ntmps11
    go_wp2_with fail
    go_ret
    exact ⟨rfl, rfl⟩
  by_cases h2 : (many : Int) ≤ p
  · clear h
    go_enter Try.func11, Try.ntmps11
    go_wp2_with fail
    go_ret
    exact ⟨rfl, rfl⟩
  by_cases h3 : k < 0
  · clear h
    go_enter Try.func11, Try.ntmps11
    go_wp2_with fail
    go_ret
    exact ⟨rfl, rfl⟩
  by_cases h4 : fl < 0
  · clear h
    go_enter Try.func11, Try.ntmps11
    go_wp2_with fail
    go_ret
    exact ⟨rfl, rfl⟩
  · have h5 : c < 0 := h (by omega) (by omega) (by omega) (by omega)
    clear h
    go_enter Try.func11, Try.ntmps11
    go_wp2_with fail
    go_ret
    exact ⟨rfl, rfl⟩

set_option maxHeartbeats 2000000 in
set_option maxRecDepth 100000 in
theorem rput_new {w : World} {B r many : Nat} {v : Value} {L : List It} (R : Rf w B r many v L) (hlen : L.length ≤ 1000) (p k fl c : Int) (hf : i64 fl) (hc : i64 c) (h : putOk many p k fl c = true) (hh : hasI L k = false) (bk : Nat) :
    Calls Try.prog 11 #[.pointer (some ⟨r, 0, none⟩), .int .i64 p, .int .i64 k, .int .i64 fl, .int .i64 c] w fun e w' => e = .returned (.int .i64 0) ∧ ∃ v', Rf w' B r many v' (putL L p.toNat k fl c bk) ∧ RM w w' r v v' := by
  unfold putOk at h
  simp at h
  obtain ⟨h1, h2, h3, h4, h5⟩ := h
  have c0 : w.cell? ⟨r, 0, none⟩ = some (.int .i64 (many : Int)) := R.blk.cell 0
  have c1 : w.cell? ⟨r, 1, none⟩ = some v := R.blk.cell 1
  have fz := R.blk.frozen 1
  have rl := R.blk.lt
  have HFi := Lib.hid (rfind_no R hlen hh)
  obtain ⟨m, hm⟩ : ∃ m : Int, (if (2147483647 : Int) < c then (2147483647 : Int) else c) = m := ⟨_, rfl⟩
  have hx : upIt fl c ⟨k, 0, 0, p.toNat, bk⟩ = ⟨k, fl, m, p.toNat, bk⟩ := by
    unfold upIt addC
    simp only [It.mk.injEq, true_and, and_true]
    refine ⟨bor_zero hf, ?_⟩
    rw [← hm]
    split <;> omega
  rw [put_new hh, hx]
  have ep : ((p.toNat : Nat) : Int) = p := by omega
  have ho : Rf (w.alloc (.cells #[.int .i64 k, .int .i64 fl, .int .i64 m, .int .i64 p] 48)) B r many v L := R.alloc _
  have hs : RI.shows (w.alloc (.cells #[.int .i64 k, .int .i64 fl, .int .i64 m, .int .i64 p] 48)) (some ⟨w.heap.size, 0, none⟩) [⟨k, fl, m, p.toNat, bk⟩] := fun _ => by
    refine ⟨_, 0, rfl, by simp, ?_⟩
    have h1 : RI.lies (w.alloc (.cells #[.int .i64 k, .int .i64 fl, .int .i64 m, .int .i64 ((p.toNat : Nat) : Int)] 48)) w.heap.size 0 [⟨k, fl, m, p.toNat, bk⟩] := RowK.lies_new (R := RI) w ⟨k, fl, m, p.toNat, bk⟩ _
    rw [ep] at h1
    exact h1
  obtain ⟨A0, n0, k0, hv⟩ := RowK.own_slice R.row
  rw [hv] at c1
  have HR := Lib.hid (And.intro R (And.intro hlen (And.intro hs (hv ▸ ho))))
  have HV := Lib.hid hv
  have hB : B ≤ w.heap.size := Nat.le_trans R.hB (Nat.le_of_lt rl)
  clear R hh hx hv ep hs ho
  go_enter Try.func11, Try.ntmps11
  go_wp2_with fail
  refine HFi.out.mono ?_
  rintro e w1 ⟨rfl, rfl⟩
  go_wp2_with (at_builtin; refine RowK.append (R := RI) rfl _ _ rfl B (.slice A0 n0 k0) L [⟨k, fl, m, p.toNat, bk⟩] rfl HR.out.2.2.2.row _ 1 1 rfl rfl HR.out.2.2.1 (fun e => by cases e) (by have := HR.out.2.1; simp; omega) (by simp; omega) ?_; intro u1 w1 O1 hg1 ho1; obtain ⟨A2, n2, c2, hu⟩ := RowK.own_slice O1; subst hu; have F3 := Lib.hid (HR.out.2.2.2.grown hg1 ho1 O1); have b3 := (HR.out.2.2.2.blk.same (hg1.block r (by simp; omega) (fun e => HR.out.2.2.2.ne e.symm))); have d1 := b3.cell 1; have fz1 := b3.frozen 1; have rl1 := b3.lt; clear O1 hg1 ho1 b3)
  go_ret
  exact ⟨rfl, _, F3.out.1, by rw [HV.out]; exact (RM.of_below ((Below.refl _ w).alloc (Nat.le_refl _) _)).trans F3.out.2⟩

theorem put_set {L : List It} {k : Int} {j : Nat} {x : It} (hh : hasI L k = true) (hu : (L.map (·.id)).Nodup) (hj : L[j]? = some x) (hk : x.id = k) {p : Nat} {fl c : Int} {bk : Nat} : putL L p k fl c bk = L.set j (upIt fl c x) := by
  unfold putL
  rw [if_pos hh]
  apply List.ext_getElem?
  intro i
  rw [List.getElem?_map, List.getElem?_set]
  have hjl := (List.getElem?_eq_some_iff.1 hj).1
  by_cases e : j = i
  · subst e
    rw [hj, if_pos rfl, if_pos hjl]
    simp [hk]
  · rw [if_neg e]
    cases hi : L[i]? with
    | none => rfl
    | some y =>
      have : y.id ≠ k := fun e2 => by
        have h2 : (L.map (·.id))[i]? = some y.id := by rw [List.getElem?_map, hi]; rfl
        have h3 : (L.map (·.id))[j]? = some x.id := by rw [List.getElem?_map, hj]; rfl
        rw [e2, ← hk, ← h3] at h2
        have hil := (List.getElem?_eq_some_iff.1 hi).1
        exact e ((List.getElem?_inj (by simpa using hil) hu).1 h2).symm
      simp [this]

set_option maxHeartbeats 2000000 in
set_option maxRecDepth 100000 in
theorem rput_old {w : World} {B r many : Nat} {v : Value} {L : List It} (R : Rf w B r many v L) (hlen : L.length ≤ 1000) (hu : (L.map (·.id)).Nodup) (hok : ∀ x ∈ L, x.Ok many) (p k fl c : Int) (hf : i64 fl) (hc : i64 c) (h : putOk many p k fl c = true) (hh : hasI L k = true) (bk : Nat) :
    Calls Try.prog 11 #[.pointer (some ⟨r, 0, none⟩), .int .i64 p, .int .i64 k, .int .i64 fl, .int .i64 c] w fun e w' => e = .returned (.int .i64 0) ∧ ∃ v', Rf w' B r many v' (putL L p.toNat k fl c bk) ∧ RM w w' r v v' := by
  unfold putOk at h
  simp at h
  obtain ⟨h1, h2, h3, h4, h5⟩ := h
  have c0 : w.cell? ⟨r, 0, none⟩ = some (.int .i64 (many : Int)) := R.blk.cell 0
  have c1 : w.cell? ⟨r, 1, none⟩ = some v := R.blk.cell 1
  have fz := R.blk.frozen 1
  have rl := R.blk.lt
  obtain ⟨x, hxL, hxk⟩ := hasI_iff.1 hh
  obtain ⟨j, hj⟩ := List.mem_iff_getElem?.1 hxL
  have hjl := (List.getElem?_eq_some_iff.1 hj).1
  have hxo := hok x hxL
  have hFi := rfind_some R hlen hu hj
  rw [hxk] at hFi
  have HFi := Lib.hid hFi
  rcases RowK.own_form R.row with ⟨_, rfl⟩ | ⟨g, c', hv, hc', hg, _, hl⟩
  · simp at hxL
  subst hv
  obtain ⟨x0, x1, x2, x3⟩ := ri_cells0 hl hj
  obtain ⟨m, hm⟩ : ∃ m : Int, (if (2147483647 : Int) < c then (2147483647 : Int) else c) = m := ⟨_, rfl⟩
  have m0 : 0 ≤ m ∧ m ≤ 2147483647 := by rw [← hm]; split <;> omega
  obtain ⟨q, hq⟩ : ∃ q : Int, (if (2147483647 : Int) < x.ct + m then (2147483647 : Int) else x.ct + m) = q := ⟨_, rfl⟩
  have hqc : q = addC x.ct c := by
    have := hxo.ct
    unfold addC
    rw [← hq, ← hm]
    split <;> split <;> omega
  have HQ := Lib.hid hqc
  have m1 := m0.1
  have m2 := m0.2
  have t1 := hxo.ct.1
  have t2 := hxo.ct.2
  have b0 : ¬ (j : Int) < 0 := by omega
  have b1 : (0 : Int) ≤ (j : Int) := by omega
  have b2 : (j : Int) < (L.length : Int) := by omega
  have HR := Lib.hid (And.intro R (And.intro hj (And.intro hxk (And.intro hu hlen))))
  have HRL := Lib.hid (fun W (b : Below w.heap.size w W) => RowK.lies_same hl (b.block g hg))
  clear R hh hu hok hxL hj hxk hFi hxo hl m0 hqc
  go_enter Try.func11, Try.ntmps11
  go_wp2_with fail
  refine HFi.out.mono ?_
  rintro e w1 ⟨rfl, rfl⟩
  go_wp2_with fail
  obtain ⟨W, hW⟩ : ∃ W, W = w.alloc (.cells #[.int .i64 x.id, .int .i64 (bits BinOp.or IntKind.i64 x.fl fl), .int .i64 q, .int .i64 (x.pr : Int)] 48) := ⟨_, rfl⟩
  have bW : Below w.heap.size w W := by rw [hW]; exact (Below.refl _ w).alloc (Nat.le_refl _) _
  have RW := HR.out.1.below bW
  have XW : Blk W w.heap.size 48 #[.int .i64 x.id, .int .i64 (bits BinOp.or IntKind.i64 x.fl fl), .int .i64 q, .int .i64 (x.pr : Int)] := by rw [hW]; exact Blk.new _ _ _
  rw [← hW]
  obtain ⟨n, hn⟩ : ∃ n, n = w.heap.size := ⟨_, rfl⟩
  rw [← hn] at XW ⊢
  have HN := Lib.hid (And.intro hn bW)
  have HRW := Lib.hid RW
  clear c0 c1 fz x0 x1 x2 x3 hn
  have hlW := HRL.out W bW
  obtain ⟨x0, x1, x2, x3⟩ := ri_cells0 hlW HR.out.2.1
  have f0 := RowK.own_frozen RW.row (j * 4)
  have f1 := RowK.own_frozen RW.row (j * 4 + 1)
  have f2 := RowK.own_frozen RW.row (j * 4 + 2)
  have f3 := RowK.own_frozen RW.row (j * 4 + 3)
  have gl := Nat.lt_of_lt_of_le hg bW.size
  have c1 := RW.blk.cell 1
  have rl := RW.blk.lt
  simp at c1
  have y0 : W.cell? ⟨n, 0, none⟩ = some (.int .i64 x.id) := XW.cell 0
  have y1 : W.cell? ⟨n, 1, none⟩ = some (.int .i64 (bits BinOp.or IntKind.i64 x.fl fl)) := XW.cell 1
  have y2 : W.cell? ⟨n, 2, none⟩ = some (.int .i64 q) := XW.cell 2
  have y3 : W.cell? ⟨n, 3, none⟩ = some (.int .i64 (x.pr : Int)) := XW.cell 3
  clear hW bW RW XW hlW
  go_still_tail 7, (by kernel_rfl)
  change wpList _ _ _ _ _ W.drew
  go_wp2_with fail
  have R2 := RowK.own_set (x := upIt fl c x) HRW.out.row HR.out.2.1
  have eq : q = addC x.ct c := HQ.out
  go_ret
  refine ⟨rfl, .slice (some ⟨g, 0, none⟩) L.length c', ?_, ?_⟩
  · rw [put_set (hasI_iff.2 ⟨x, List.mem_of_getElem? HR.out.2.1, HR.out.2.2.1⟩) HR.out.2.2.2.1 HR.out.2.1 HR.out.2.2.1, eq]
    have hne : g ≠ r := fun e => HRW.out.ne (by rw [e]; rfl)
    have hb : Blk ((((W.setCell ⟨g, j * 4, none⟩ (.int .i64 x.id)).setCell ⟨g, j * 4 + 1, none⟩ (.int .i64 (bits BinOp.or IntKind.i64 x.fl fl))).setCell ⟨g, j * 4 + 2, none⟩ (.int .i64 (addC x.ct c))).setCell ⟨g, j * 4 + 3, none⟩ (.int .i64 (x.pr : Int))) r 29 #[.int .i64 (many : Int), .slice (some ⟨g, 0, none⟩) L.length c'] :=
      (((HRW.out.blk.far (Ne.symm hne) _).far (Ne.symm hne) _).far (Ne.symm hne) _).far (Ne.symm hne) _
    exact Rf.drew ⟨hb, R2, HRW.out.ne, HRW.out.hB⟩
  · refine ⟨Kept.drew ?_, .inl rfl⟩
    exact ((((Kept.of_below HN.out.2).setCell (p := ⟨g, _, none⟩) (.inr rfl) _).setCell (p := ⟨g, _, none⟩) (.inr rfl) _).setCell (p := ⟨g, _, none⟩) (.inr rfl) _).setCell (p := ⟨g, _, none⟩) (.inr rfl) _

theorem rput_any {w : World} {B r many : Nat} {v : Value} {L : List It} (R : Rf w B r many v L) (hlen : L.length ≤ 1000) (hu : (L.map (·.id)).Nodup) (hok : ∀ x ∈ L, x.Ok many) (p k fl c : Int) (hf : i64 fl) (hc : i64 c) (bk : Nat) :
    Calls Try.prog 11 #[.pointer (some ⟨r, 0, none⟩), .int .i64 p, .int .i64 k, .int .i64 fl, .int .i64 c] w fun e w' => e = .returned (.int .i64 (putE many p k fl c)) ∧ ∃ v', Rf w' B r many v' (putS many L p k fl c bk) ∧ RM w w' r v v' := by
  unfold putE putS
  cases h : putOk many p k fl c with
  | false => exact (rput_bad R p k fl c h).mono fun e w' ⟨he, hw⟩ => by subst hw; exact ⟨he, v, R, Kept.refl _ _, .inl rfl⟩
  | true =>
    cases hh : hasI L k with
    | false => exact rput_new R hlen p k fl c hf hc h hh bk
    | true => exact rput_old R hlen hu hok p k fl c hf hc h hh bk
end Go.Proofs.Ytlkmmbondelheaa
