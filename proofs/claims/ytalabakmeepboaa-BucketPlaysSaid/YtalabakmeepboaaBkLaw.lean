/-
  For the laws over buckets: one bucket, or two, that the law made; calls at closed numbers; the chapter's first example.
-/
import Derived.Test.YtalabakmeepboaaBkOps
namespace Go.Proofs.Ytalabakmeepboaa
open Go.RowKit

/-- A bucket that the law made. -/
structure Ob (B : Nat) (W w : World) (k : Nat) (s : S) : Prop where
  a : Bk w k s
  hk : B ≤ k
  bel : Below B W w
/-- Two of them. -/
structure Tb (B : Nat) (W w : World) (k : Nat) (s : S) (j : Nat) (u : S) : Prop where
  a : Bk w k s
  b : Bk w j u
  ne : k ≠ j
  hk : B ≤ k
  hj : B ≤ j
  bel : Below B W w
section
variable {B : Nat} {W w w' : World} {k j : Nat} {s s' u u' : S} {now n : Int}
theorem Psd.bel (h : Psd w k s w') (hk : B ≤ k) (hlt : k < w.heap.size) : Below B w w' := h.2.below (fun i e => by subst e; exact hk) (by omega)
theorem Ob.step (T : Ob B W w k s) (h : Psd w k s' w') : Ob B W w' k s' := ⟨h.1, T.hk, T.bel.trans (h.bel T.hk T.a.lt)⟩
theorem Ob.below (T : Ob B W w k s) (hb : Below w.heap.size w w') : Ob B W w' k s := ⟨T.a.below hb, T.hk, T.bel.trans (hb.mono (by have := T.a.lt; have := T.hk; omega))⟩
theorem Ob.made (hB : W.heap.size = B) {x : Ending} (h : NewAt W s x w') : ∃ k, x = .returned (.tuple #[.pointer (some ⟨k, 0, none⟩), .int .i64 0]) ∧ Ob B W w' k s := by
  obtain ⟨k, e, a, hk, hb⟩ := h
  exact ⟨k, e, a, by omega, hB ▸ hb⟩
theorem Tb.swap (T : Tb B W w k s j u) : Tb B W w j u k s := ⟨T.b, T.a, T.ne.symm, T.hj, T.hk, T.bel⟩
theorem Tb.step (T : Tb B W w k s j u) (h : Psd w k s' w') : Tb B W w' k s' j u := ⟨h.1, T.b.kept h.2 (fun e => T.ne e.symm), T.ne, T.hk, T.hj, T.bel.trans (h.bel T.hk T.a.lt)⟩
theorem Tb.below (T : Tb B W w k s j u) (hb : Below w.heap.size w w') : Tb B W w' k s j u := ⟨T.a.below hb, T.b.below hb, T.ne, T.hk, T.hj, T.bel.trans (hb.mono (by have := T.a.lt; have := T.hk; omega))⟩
theorem Tb.made (T : Ob B W w k s) {x : Ending} (h : NewAt w u x w') : ∃ j, x = .returned (.tuple #[.pointer (some ⟨j, 0, none⟩), .int .i64 0]) ∧ Tb B W w' k s j u := by
  obtain ⟨j, e, b, hj, hb⟩ := h
  have := T.a.lt
  have := T.hk
  have T2 := T.below hb
  exact ⟨j, e, T2.a, b, by omega, T.hk, by omega, T2.bel⟩

theorem Ob.have_ (T : Ob B W w k s) (hn : U now) {v : Int} (hs : s.pass now = s') (hv : s'.t = v) :
    Calls Try.prog 21 #[.pointer (some ⟨k, 0, none⟩), .int .u64 now] w fun x w' => x = .returned (.int .i64 v) ∧ Ob B W w' k s' := by
  subst hs; subst hv
  exact (have_any T.a hn).mono fun _ _ ⟨e, h⟩ => ⟨e, T.step h⟩
theorem Ob.take (T : Ob B W w k s) (hn : U now) (hi : I n) {v : Int} (hv : takeN (s.pass now) n = v) (hs : (s.pass now).less v = s') :
    Calls Try.prog 12 #[.pointer (some ⟨k, 0, none⟩), .int .u64 now, .int .i64 n] w fun x w' => x = .returned (.int .i64 v) ∧ Ob B W w' k s' := by
  subst hs; subst hv
  exact (take_any T.a hn hi).mono fun _ _ ⟨e, h⟩ => ⟨e, T.step h⟩
theorem Ob.bor (T : Ob B W w k s) (hn : U now) (hi : I n) {v : Int} (hv : borN (s.pass now) n = v) (hs : borS (s.pass now) n = s') :
    Calls Try.prog 14 #[.pointer (some ⟨k, 0, none⟩), .int .u64 now, .int .i64 n] w fun x w' => x = .returned (.int .i64 v) ∧ Ob B W w' k s' := by
  subst hs; subst hv
  exact (bor_any T.a hn hi).mono fun _ _ ⟨e, h⟩ => ⟨e, T.step h⟩
theorem Ob.when_ (T : Ob B W w k s) (hn : U now) (hi : I n) {v : Int} (hs : s.pass now = s') (hv : whenN s' now n = v) :
    Calls Try.prog 16 #[.pointer (some ⟨k, 0, none⟩), .int .u64 now, .int .i64 n] w fun x w' => x = .returned (.int .u64 v) ∧ Ob B W w' k s' := by
  subst hs; subst hv
  exact (when_any T.a hn hi).mono fun _ _ ⟨e, h⟩ => ⟨e, T.step h⟩
theorem Ob.set_ (T : Ob B W w k s) (hn : U now) {m e b v : Int} (hv : setN m e b = v) (hs : setS s now m e b = s') :
    Calls Try.prog 18 #[.pointer (some ⟨k, 0, none⟩), .int .u64 now, .agg #[.int .i64 m, .int .u64 e, .int .i64 b]] w fun x w' => x = .returned (.int .i64 v) ∧ Ob B W w' k s' := by
  subst hs; subst hv
  exact (set_any T.a hn).mono fun _ _ ⟨e, h⟩ => ⟨e, T.step h⟩
theorem Tb.have_ (T : Tb B W w k s j u) (hn : U now) :
    Calls Try.prog 21 #[.pointer (some ⟨k, 0, none⟩), .int .u64 now] w fun x w' => x = .returned (.int .i64 (s.pass now).t) ∧ Tb B W w' k (s.pass now) j u :=
  (have_any T.a hn).mono fun _ _ ⟨e, h⟩ => ⟨e, T.step h⟩
theorem Tb.take (T : Tb B W w k s j u) (hn : U now) (hi : I n) :
    Calls Try.prog 12 #[.pointer (some ⟨k, 0, none⟩), .int .u64 now, .int .i64 n] w fun x w' => x = .returned (.int .i64 (takeN (s.pass now) n)) ∧ Tb B W w' k ((s.pass now).less (takeN (s.pass now) n)) j u :=
  (take_any T.a hn hi).mono fun _ _ ⟨e, h⟩ => ⟨e, T.step h⟩
theorem Tb.bor (T : Tb B W w k s j u) (hn : U now) (hi : I n) :
    Calls Try.prog 14 #[.pointer (some ⟨k, 0, none⟩), .int .u64 now, .int .i64 n] w fun x w' => x = .returned (.int .i64 (borN (s.pass now) n)) ∧ Tb B W w' k (borS (s.pass now) n) j u :=
  (bor_any T.a hn hi).mono fun _ _ ⟨e, h⟩ => ⟨e, T.step h⟩
theorem Tb.when_ (T : Tb B W w k s j u) (hn : U now) (hi : I n) :
    Calls Try.prog 16 #[.pointer (some ⟨k, 0, none⟩), .int .u64 now, .int .i64 n] w fun x w' => x = .returned (.int .u64 (whenN (s.pass now) now n)) ∧ Tb B W w' k (s.pass now) j u :=
  (when_any T.a hn hi).mono fun _ _ ⟨e, h⟩ => ⟨e, T.step h⟩
end

theorem few_any (w : World) : Calls Try.prog 22 #[] w fun x w' => x = .returned (.agg #[.int .i64 3, .int .u64 10, .int .i64 8]) ∧ Below w.heap.size w w' := by
  go_enter Try.func22, Try.ntmps22
  go_wp2_with fail
  exact bodyPost_ret (v := .agg #[.int .i64 3, .int .u64 10, .int .i64 8]) (by simp [results, Try.results22, go_sem]) rfl ⟨rfl, (Below.refl _ w).alloc (Nat.le_refl _) _⟩
theorem u_of {n : Int} (h0 : 0 ≤ n) (h1 : n ≤ 18446744073709551615) : U n := ⟨h0, h1⟩

set_option maxRecDepth 100000 in
theorem alive_any (w : World) : Calls Try.prog 23 #[] w fun x w' => x = .returned (.bool true) ∧ Below w.heap.size w w' := by
  go_enter Try.func23, Try.ntmps23
  go_wp2_with fail
  refine (few_any _).mono ?_
  rintro e w1 ⟨rfl, hb⟩
  have HB := Lib.hid hb
  clear hb
  go_wp2_with fail
  refine (new_yes w1 (by decide) (by unfold U; omega)).mono ?_
  rintro e w2 hN
  obtain ⟨k, rfl, T0⟩ := Ob.made rfl hN
  have T : Ob w.heap.size w w2 k (S.fresh 3 10 8 100) := ⟨T0.a, by have := T0.hk; have := HB.out.size; omega, HB.out.trans (T0.bel.mono HB.out.size)⟩
  have HT := Lib.hid (T.take (now := 100) (n := 10) (by unfold U; omega) (by unfold I; omega) (v := 8) (s' := ⟨3, 10, 8, 0, 100⟩) rfl rfl)
  clear hN T0 T
  go_wp2_with fail
  refine HT.out.mono ?_
  rintro e w3 ⟨rfl, T⟩
  have HT := Lib.hid (T.have_ (now := 109) (by unfold U; omega) (s' := ⟨3, 10, 8, 0, 100⟩) (v := 0) rfl rfl)
  clear T
  go_wp2_with fail
  refine HT.out.mono ?_
  rintro e w4 ⟨rfl, T⟩
  have HT := Lib.hid (T.have_ (now := 110) (by unfold U; omega) (s' := ⟨3, 10, 8, 3, 110⟩) (v := 3) rfl rfl)
  clear T
  go_wp2_with fail
  refine HT.out.mono ?_
  rintro e w5 ⟨rfl, T⟩
  have HT := Lib.hid (T.have_ (now := 125) (by unfold U; omega) (s' := ⟨3, 10, 8, 6, 120⟩) (v := 6) rfl rfl)
  clear T
  go_wp2_with fail
  refine HT.out.mono ?_
  rintro e w6 ⟨rfl, T⟩
  have HE := Lib.hid T.bel
  clear T
  go_wp2_with fail
  go_ret
  exact ⟨rfl, HE.out⟩
end Go.Proofs.Ytalabakmeepboaa
