/-
  A heap: its block and its queue; the calls that tell of it.
-/
import Derived.Test.YtncdohbdmpfefaaHpRemove
namespace Go.Proofs.Ytncdohbdmpfefaa
open Go.RowKit Go.Maps Go.ChangeMaps Go.Sort

theorem zeroInt (w : World) : (zeroValue 3).run Try.prog w = .ok (.int .i64 0) w := by kernel_rfl
theorem Pm.look {w : World} {m N : Nat} {f : Int → Option Nat} (h : Pm w m N f) (k : Int) (hk : -9223372036854775808 ≤ k ∧ k ≤ 9223372036854775807) (ok : Bool) :
    (Instr.lookup 88 (.map (some m)) (.int .i64 k) ok).run Try.prog w = .ok (if ok then .tuple #[.int .i64 (((f k).getD 0 : Nat) : Int), .bool (f k).isSome] else .int .i64 (((f k).getD 0 : Nat) : Int)) w := by
  obtain ⟨D, hD, hf⟩ := h
  have hw0 : (Lit.int .i64 0).wf = true := by decide
  have key : ∀ c : Int, D.atKey (.int .i64 k) (.lit (.int .i64 0)) = .lit (.int .i64 c) → c = (((f k).getD 0 : Nat) : Int) := fun c hc => by
    cases e : f k with
    | some v =>
      rw [(hf k).2 v e] at hc
      injection hc with hc; injection hc with _ hc
      simp [hc]
    | none =>
      have := (hf k).1
      rw [e] at this
      rw [atKey_of_not_has (by simpa using this)] at hc
      injection hc with hc; injection hc with _ hc
      simp [hc]
  cases ok with
  | true =>
    obtain ⟨v, ps, hrun, hv⟩ := hD.look_ok keyInt Try.underlying88 (zeroInt w) (plainElem_int Try.underlying3 hw0) (keyOf_int_mk Try.underlying3 (wfI hk))
    obtain ⟨c, rfl, hc, _⟩ := plainElem_int_inv Try.underlying3 hv
    rw [hrun, (hf k).1, key c (congrArg Prod.fst hc)]
    rfl
  | false =>
    obtain ⟨v, ps, hrun, hv⟩ := hD.lookup keyInt Try.underlying88 (zeroInt w) (plainElem_int Try.underlying3 hw0) (keyOf_int_mk Try.underlying3 (wfI hk))
    obtain ⟨c, rfl, hc, _⟩ := plainElem_int_inv Try.underlying3 hv
    rw [hrun, key c (congrArg Prod.fst hc)]
    rfl

/-- Items in order. -/
def Srt (S : List It) : Prop := S.Pairwise Lt
/-- The heap at block h, with the items S, in order. -/
structure Hp (w : World) (B h q m : Nat) (v : Value) (S : List It) : Prop where
  hb : Blk w h 93 #[.pointer (some ⟨q, 0, none⟩)]
  hB : B ≤ h
  que : ∃ L, Que w B q m v L ∧ L.Perm S
  srt : Srt S

section
variable {w w' : World} {B h q m : Nat} {v : Value} {S : List It}
theorem Hp.same (H : Hp w B h q m v S) (hk : ∀ k, k = h ∨ Fp q m v k → w'.heap[k]? = w.heap[k]?) (hB : B ≤ w'.heap.size) : Hp w' B h q m v S :=
  let ⟨L, hQ, hp⟩ := H.que
  ⟨H.hb.same (hk h (.inl rfl)), H.hB, ⟨L, hQ.same (fun k e => hk k (.inr e)) hB, hp⟩, H.srt⟩
theorem Hp.lt (H : Hp w B h q m v S) {k : Nat} (hk : k = h ∨ Fp q m v k) : k < w.heap.size ∧ B ≤ k := by
  obtain ⟨L, ⟨f, hQ, _⟩, _⟩ := H.que
  rcases hk with rfl | hk
  · exact ⟨H.hb.lt, H.hB⟩
  · exact hQ.lt hk
theorem Hp.base (H : Hp w B h q m v S) : B ≤ w.heap.size := let ⟨_, ⟨_, hQ, _⟩, _⟩ := H.que; hQ.hB
theorem Hp.kept (H : Hp w B h q m v S) {F : Nat → Prop} (k : Kept F w w') (hf : ∀ i, i = h ∨ Fp q m v i → ¬ F i) : Hp w' B h q m v S :=
  H.same (fun i hi => k.block i (H.lt hi).1 (hf i hi)) (Nat.le_trans H.base k.size)
theorem Hp.below (H : Hp w B h q m v S) (hb : Below w.heap.size w w') : Hp w' B h q m v S := H.same (fun i hi => hb.block i (H.lt hi).1) (Nat.le_trans H.base hb.size)
/-- The heap's own block is none of its queue's. -/
theorem Hp.apart (H : Hp w B h q m v S) : ¬ Fp q m v h := by
  obtain ⟨L, ⟨f, hQ, _⟩, _⟩ := H.que
  have hh := H.hb
  unfold Blk at hh
  rintro (e | e | e)
  · subst e
    have hq := hQ.blk
    unfold Blk at hq
    rw [hh] at hq
    injection hq with hq; injection hq with hq
    simp at hq
  · subst e
    obtain ⟨D, ⟨es, clock, hb, _⟩, _⟩ := hQ.pm
    rw [hh] at hb; cases hb
  · rcases hQ.row.2 with ⟨rfl, _⟩ | ⟨g, cap, cur, rfl, _, hg, _⟩
    · cases e
    · cases e
      rw [hh] at hg
      injection hg with hg; injection hg with _ ht
      revert ht; decide
theorem Hp.uniq (H : Hp w B h q m v S) : Uniq S := let ⟨_, ⟨_, _, _, _, hu⟩, hp⟩ := H.que; hu.perm hp.symm
theorem Hp.ok (H : Hp w B h q m v S) : ∀ x ∈ S, x.Ok := fun x hx => let ⟨_, ⟨_, hQ, _⟩, hp⟩ := H.que; hQ.ok x (hp.mem_iff.2 hx)
theorem Hp.len (H : Hp w B h q m v S) : S.length ≤ 100000 := let ⟨_, ⟨_, hQ, _⟩, hp⟩ := H.que; by rw [← hp.length_eq]; exact hQ.len
end

/-- The root of a heap is the first of its items in order. -/
theorem root_first {L : List It} {x : It} {S : List It} (hh : HeapL L) (hp : L.Perm (x :: S)) (hs : Srt (x :: S)) : itAt L 0 = x := by
  have hl : 0 < L.length := by rw [hp.length_eq]; simp
  have h1 : itAt L 0 ∈ x :: S := hp.mem_iff.1 (itAt_mem hl)
  obtain ⟨j, hj⟩ := List.mem_iff_getElem?.1 (hp.mem_iff.2 (List.mem_cons_self (a := x) (l := S)))
  have hjl := (List.getElem?_eq_some_iff.1 hj).1
  have h2 := heap_root hh j hjl
  rw [itAt_of hj] at h2
  rcases List.mem_cons.1 h1 with h1 | h1
  · exact h1
  · exact absurd ((List.pairwise_cons.1 hs).1 _ h1) h2

theorem made_yes (w : World) (h q : Nat) (hb : Blk w h 93 #[.pointer (some ⟨q, 0, none⟩)]) : Calls Try.prog 55 #[.pointer (some ⟨h, 0, none⟩)] w fun e w' => e = .returned (.bool true) ∧ w = w' := by
  have c0 := hb.cell 0
  simp at c0
  go_enter Try.func55, Try.ntmps55
  go_wp2
  go_ret
  exact ⟨rfl, rfl⟩
theorem made_nil (w : World) : Calls Try.prog 55 #[.pointer none] w fun e w' => e = .returned (.bool false) ∧ w = w' := by
  go_enter Try.func55, Try.ntmps55
  go_wp2
  go_ret
  exact ⟨rfl, rfl⟩
theorem made_zero (w : World) (h : Nat) (c0 : w.cell? ⟨h, 0, none⟩ = some (.pointer none)) : Calls Try.prog 55 #[.pointer (some ⟨h, 0, none⟩)] w fun e w' => e = .returned (.bool false) ∧ w = w' := by
  go_enter Try.func55, Try.ntmps55
  go_wp2
  go_ret
  exact ⟨rfl, rfl⟩

section
variable {w : World} {B h q m : Nat} {v : Value} {S : List It}
theorem len_any (H : Hp w B h q m v S) : Calls Try.prog 41 #[.pointer (some ⟨h, 0, none⟩)] w fun e w' => e = .returned (.int .i64 (S.length : Int)) ∧ w = w' := by
  obtain ⟨L, ⟨f, hQ, hp, hh, hu⟩, hpm⟩ := H.que
  obtain ⟨A, c, hv, _⟩ := hQ.slice
  have hM := Lib.hid (made_yes w h q H.hb)
  have c0 := H.hb.cell 0
  have c1 := hQ.blk.cell 0
  simp at c0 c1
  rw [hv] at c1
  have HL := Lib.hid hpm.length_eq
  clear hpm hu hh hp hQ H hv
  go_enter Try.func41, Try.ntmps41
  go_wp2_with (go_at_call 55; refine hM.out.mono ?_; rintro e w' ⟨rfl, rfl⟩)
  go_ret
  exact ⟨by rw [HL.out]; rfl, rfl⟩
theorem len_nil (w : World) : Calls Try.prog 41 #[.pointer none] w fun e w' => e = .returned (.int .i64 0) ∧ w = w' := by
  go_enter Try.func41, Try.ntmps41
  go_wp2_with (go_at_call 55; refine (made_nil _).mono ?_; rintro e w' ⟨rfl, rfl⟩)
  go_ret
  exact ⟨rfl, rfl⟩
theorem len_zero (w : World) (h : Nat) (c0 : w.cell? ⟨h, 0, none⟩ = some (.pointer none)) : Calls Try.prog 41 #[.pointer (some ⟨h, 0, none⟩)] w fun e w' => e = .returned (.int .i64 0) ∧ w = w' := by
  have hM := Lib.hid (made_zero w h c0)
  go_enter Try.func41, Try.ntmps41
  go_wp2_with (go_at_call 55; refine hM.out.mono ?_; rintro e w' ⟨rfl, rfl⟩)
  go_ret
  exact ⟨rfl, rfl⟩

theorem top_some {x : It} (H : Hp w B h q m v (x :: S)) : Calls Try.prog 37 #[.pointer (some ⟨h, 0, none⟩)] w fun e w' =>
    e = .returned (.tuple #[.agg #[.int .i64 x.id, .int .u64 x.d, .int .u64 x.n], .bool true]) ∧ Below w.heap.size w w' := by
  obtain ⟨L, ⟨f, hQ, hp, hh, hu⟩, hpm⟩ := id H.que
  have hl : 0 < L.length := by rw [hpm.length_eq]; simp
  obtain ⟨g, cap, rfl, hc, hgl, hgB, hfz, hcell⟩ := hQ.form hl
  have er := root_first hh hpm H.srt
  obtain ⟨x0, x1, x2⟩ := hcell 0 _ (itAt_some hl)
  rw [er] at x0 x1 x2
  simp only [Nat.zero_mul, Nat.zero_add] at x0 x1 x2
  have hL := Lib.hid (fun o => len_any (H.below ((Below.refl _ w).alloc (Nat.le_refl _) o)))
  have c0 := H.hb.cell 0
  have c1 := hQ.blk.cell 0
  simp at c0 c1
  have l1 := H.hb.lt
  have l2 := hQ.blk.lt
  have l3 : (0 : Int) < (L.length : Int) := by omega
  have hne : (((x :: S).length : Int) == 0) = false := by simp; omega
  clear hpm hu hh hp hQ H hcell hfz er
  go_enter Try.func37, Try.ntmps37
  go_wp2_with (go_at_call 41; refine (hL.out _).mono ?_; rintro e w' ⟨rfl, rfl⟩)
  refine bodyPost_ret (v := .tuple #[.agg #[.int .i64 x.id, .int .u64 x.d, .int .u64 x.n], .bool true]) (by simp [results, Try.results37, go_sem]) rfl ⟨rfl, (Below.refl _ _).alloc (Nat.le_refl _) _⟩
theorem top_none (H : Hp w B h q m v []) : Calls Try.prog 37 #[.pointer (some ⟨h, 0, none⟩)] w fun e w' =>
    e = .returned (.tuple #[.agg #[.int .i64 0, .int .u64 0, .int .u64 0], .bool false]) ∧ Below w.heap.size w w' := by
  have hL := Lib.hid (fun o => (show Calls Try.prog 41 #[.pointer (some ⟨h, 0, none⟩)] (w.alloc o) (fun e w' => e = .returned (.int .i64 0) ∧ w.alloc o = w') from len_any (H.below ((Below.refl _ w).alloc (Nat.le_refl _) o))))
  clear H
  go_enter Try.func37, Try.ntmps37
  go_wp2_with (go_at_call 41; refine (hL.out _).mono ?_; rintro e w' ⟨rfl, rfl⟩)
  exact bodyPost_ret (v := .tuple #[.agg #[.int .i64 0, .int .u64 0, .int .u64 0], .bool false]) (by simp [results, Try.results37, go_sem]) rfl ⟨rfl, (Below.refl _ _).alloc (Nat.le_refl _) _⟩

theorem Pm.alloc {w : World} {m N : Nat} {f : Int → Option Nat} (h : Pm w m N f) (o : Obj) : Pm (w.alloc o) m N f := h.same (Below.heap_alloc _ _ _ h.lt)

set_option maxHeartbeats 1000000 in
theorem find_some {x : It} (H : Hp w B h q m v S) (hx : x ∈ S) : Calls Try.prog 57 #[.pointer (some ⟨h, 0, none⟩), .int .i64 x.id] w fun e w' =>
    e = .returned (.tuple #[.agg #[.int .i64 x.id, .int .u64 x.d, .int .u64 x.n], .bool true]) ∧ Below w.heap.size w w' := by
  obtain ⟨L, ⟨f, hQ, hp, hh, hu⟩, hpm⟩ := id H.que
  obtain ⟨i, hi⟩ := List.mem_iff_getElem?.1 (hpm.mem_iff.2 hx)
  have hil := (List.getElem?_eq_some_iff.1 hi).1
  obtain ⟨g, cap, rfl, hc, hgl, hgB, hfz, hcell⟩ := hQ.form (by omega)
  obtain ⟨x0, x1, x2⟩ := hcell i x hi
  have hM := Lib.hid (fun o => made_yes (w.alloc o) h q (H.hb.alloc o))
  have c0 := H.hb.cell 0
  have c1 := hQ.blk.cell 0
  have c2 := hQ.blk.cell 1
  simp at c0 c1 c2
  have l1 := H.hb.lt
  have l2 := hQ.blk.lt
  have l3 : (0 : Int) ≤ (i : Int) := by omega
  have l4 : (i : Int) < (L.length : Int) := by omega
  have hlk : ∀ o, (Instr.lookup 88 (.map (some m)) (.int .i64 x.id) true).run Try.prog (w.alloc o) = .ok (.tuple #[.int .i64 (i : Int), .bool true]) (w.alloc o) := fun o => by
    have := (hQ.pm.alloc o).look x.id (H.ok x hx).1 true
    rw [hp.at_ i x hi] at this
    exact this
  clear hpm hu hh hp hQ H hcell hfz hi hx
  go_enter Try.func57, Try.ntmps57
  go_wp2_with (go_at_call 55; refine (hM.out _).mono ?_; rintro e w' ⟨rfl, rfl⟩)
  exact bodyPost_ret (v := .tuple #[.agg #[.int .i64 x.id, .int .u64 x.d, .int .u64 x.n], .bool true]) (by simp [results, Try.results57, go_sem]) rfl ⟨rfl, (Below.refl _ _).alloc (Nat.le_refl _) _⟩
set_option maxHeartbeats 1000000 in
theorem find_none {k : Int} (H : Hp w B h q m v S) (hk : -9223372036854775808 ≤ k ∧ k ≤ 9223372036854775807) (hx : ∀ y ∈ S, y.id ≠ k) : Calls Try.prog 57 #[.pointer (some ⟨h, 0, none⟩), .int .i64 k] w fun e w' =>
    e = .returned (.tuple #[.agg #[.int .i64 0, .int .u64 0, .int .u64 0], .bool false]) ∧ Below w.heap.size w w' := by
  obtain ⟨L, ⟨f, hQ, hp, hh, hu⟩, hpm⟩ := id H.que
  have hM := Lib.hid (fun o => made_yes (w.alloc o) h q (H.hb.alloc o))
  have c0 := H.hb.cell 0
  have c2 := hQ.blk.cell 1
  simp at c0 c2
  have l1 := H.hb.lt
  have l2 := hQ.blk.lt
  have hlk : ∀ o, (Instr.lookup 88 (.map (some m)) (.int .i64 k) true).run Try.prog (w.alloc o) = .ok (.tuple #[.int .i64 0, .bool false]) (w.alloc o) := fun o => by
    have := (hQ.pm.alloc o).look k hk true
    rw [place_none hp (fun y hy => hx y (hpm.mem_iff.1 hy))] at this
    exact this
  clear hpm hu hh hp hQ H hx
  go_enter Try.func57, Try.ntmps57
  go_wp2_with (go_at_call 55; refine (hM.out _).mono ?_; rintro e w' ⟨rfl, rfl⟩)
  exact bodyPost_ret (v := .tuple #[.agg #[.int .i64 0, .int .u64 0, .int .u64 0], .bool false]) (by simp [results, Try.results57, go_sem]) rfl ⟨rfl, (Below.refl _ _).alloc (Nat.le_refl _) _⟩
end
end Go.Proofs.Ytncdohbdmpfefaa
