/-
  The program's table and the reference's beside each other.
-/
import Derived.Test.YtiancgjpjfejdaaSgRef2
import Derived.Test.YtiancgjpjfejdaaSgTwo
import Derived.Test.YtiancgjpjfejdaaSgTell
namespace Go.Proofs.Ytiancgjpjfejdaa
open Go.RowKit

theorem cntI_out (l : List Nat) (n m : Int) : cntI (outI l n) m = if m = n then 0 else cntI l m := by
  unfold cntI outI
  rw [List.countP_filter]
  split
  · rename_i h
    subst h
    rw [List.countP_eq_zero]
    intro x _
    by_cases hx : (x : Int) = m <;> simp [hx]
  · rename_i h
    congr 1
    funext x
    by_cases hx : (x : Int) = m
    · have : ¬ (x : Int) = n := fun e => h (hx.symm.trans e)
      simp [hx, h]
    · simp [hx]
theorem cntI_snoc (l : List Nat) (i : Nat) (m : Int) : cntI (l ++ [i]) m = cntI l m + if (i : Int) = m then 1 else 0 := by
  unfold cntI
  rw [List.countP_append]
  by_cases h : (i : Int) = m <;> simp [h]
theorem cntI_pos {l : List Nat} {m : Int} : 0 < cntI l m ↔ ∃ x ∈ l, (x : Int) = m := by
  unfold cntI
  rw [List.countP_pos_iff]
  simp

theorem countP_succ (k : Nat) : ∀ L : List Nat, (L.countP fun x : Nat => decide (x < k + 1)) = (L.countP fun x : Nat => decide (x < k)) + cntI L k
  | [] => rfl
  | x :: L => by
    have ih := countP_succ k L
    unfold cntI at ih ⊢
    rw [List.countP_cons, List.countP_cons, List.countP_cons, ih]
    by_cases h1 : x < k
    · have h2 : x < k + 1 := by omega
      have h3 : ¬ (x : Int) = (k : Int) := by omega
      simp [h1, h2, h3]; omega
    · by_cases h3 : x = k
      · simp [h3]; omega
      · have h2 : ¬ x < k + 1 := by omega
        have h4 : ¬ (x : Int) = (k : Int) := by omega
        simp [h1, h2, h4]

/-- What the reference's lists say is what the table says. -/
structure Rel (s : T) (H L : List Nat) : Prop where
  h : ∀ i : Nat, s.h i = decide (0 < cntI H i)
  c : ∀ i : Nat, s.c i = cntI L i
  inH : ∀ x ∈ H, 1 ≤ x ∧ x ≤ 31
  inL : ∀ x ∈ L, 1 ≤ x ∧ x ≤ 31
section
variable {s : T} {H L : List Nat} {i : Nat} {n : Int}
theorem Rel.new : Rel T.new [] [] := ⟨fun _ => rfl, fun _ => rfl, fun x hx => by simp at hx, fun x hx => by simp at hx⟩
theorem Rel.idle (R : Rel s H L) : Rel s.idle H [] := ⟨R.h, fun _ => rfl, R.inH, fun x hx => by simp at hx⟩
theorem in_out (h : ∀ x ∈ L, 1 ≤ x ∧ x ≤ 31) (n : Int) : ∀ x ∈ outI L n, 1 ≤ x ∧ x ≤ 31 := fun x hx => h x (List.mem_filter.1 hx).1
theorem in_snoc (h : ∀ x ∈ L, 1 ≤ x ∧ x ≤ 31) (h1 : 1 ≤ i) (h2 : i ≤ 31) : ∀ x ∈ L ++ [i], 1 ≤ x ∧ x ≤ 31 := fun x hx => by
  rcases List.mem_append.1 hx with hx | hx
  · exact h x hx
  · rw [List.mem_singleton.1 hx]; exact ⟨h1, h2⟩
theorem Rel.on (R : Rel s H L) (h1 : 1 ≤ i) (h2 : i ≤ 31) : Rel (s.set i true) (outI H i ++ [i]) L := by
  refine ⟨fun j => ?_, R.c, in_snoc (in_out R.inH _) h1 h2, R.inL⟩
  show upd s.h i true j = _
  rw [cntI_snoc, cntI_out]
  by_cases e : j = i
  · subst e
    rw [upd_same]; simp
  · rw [upd_other _ _ e, R.h j, if_neg (by omega), if_neg (by omega)]; rfl
theorem Rel.off (R : Rel s H L) : Rel (s.set i false) (outI H i) (outI L i) := by
  refine ⟨fun j => ?_, fun j => ?_, in_out R.inH _, in_out R.inL _⟩
  · show upd s.h i false j = _
    rw [cntI_out]
    by_cases e : j = i
    · subst e
      rw [upd_same]; simp
    · rw [upd_other _ _ e, R.h j, if_neg (by omega)]
  · show upd s.c i 0 j = _
    rw [cntI_out]
    by_cases e : j = i
    · subst e
      rw [upd_same]; simp
    · rw [upd_other _ _ e, R.c j, if_neg (by omega)]
theorem Rel.raise (R : Rel s H L) (h1 : 1 ≤ i) (h2 : i ≤ 31) : Rel (s.raise i) H (if 0 < cntI H i then L ++ [i] else L) := by
  unfold T.raise
  rw [R.h i]
  by_cases hp : 0 < cntI H (i : Int)
  · rw [if_pos hp, if_pos (by simpa using hp)]
    refine ⟨R.h, fun j => ?_, R.inH, in_snoc R.inL h1 h2⟩
    show upd s.c i (s.c i + 1) j = _
    rw [cntI_snoc]
    by_cases e : j = i
    · subst e
      rw [upd_same, R.c j, if_pos rfl]
    · rw [upd_other _ _ e, R.c j, if_neg (by omega)]; rfl
  · rw [if_neg hp, if_neg (by simpa using hp)]
    exact R
theorem cnt_none (h : ∀ x ∈ L, 1 ≤ x ∧ x ≤ 31) (hn : isSig n = false) : cntI L n = 0 := by
  rcases Nat.eq_zero_or_pos (cntI L n) with e | e
  · exact e
  · obtain ⟨x, hx, rfl⟩ := cntI_pos.1 e
    have := h x hx
    rcases isSig_no.1 hn with h1 | h1 <;> omega
theorem Rel.has (R : Rel s H L) (n : Int) : s.has n = decide (0 < cntI H n) := by
  unfold T.has
  cases hs : isSig n with
  | true =>
    obtain ⟨i, rfl, _, _⟩ := isSig_nat hs
    rw [Bool.true_and]
    exact R.h i
  | false => rw [cnt_none R.inH hs]; rfl
theorem Rel.count (R : Rel s H L) (n : Int) : s.count n = (cntI L n : Int) := by
  unfold T.count
  cases hs : isSig n with
  | true =>
    obtain ⟨i, rfl, _, _⟩ := isSig_nat hs
    show ((s.c i : Nat) : Int) = _
    rw [R.c i]
  | false => rw [cnt_none R.inL hs]; rfl
theorem Rel.tot (R : Rel s H L) : ∀ k : Nat, s.tot k = L.countP fun x : Nat => decide (x < k)
  | 0 => by simp [T.tot]
  | k + 1 => by
    show s.tot k + s.c k = _
    rw [Rel.tot R k, R.c k, countP_succ]
theorem Rel.sum (R : Rel s H L) : s.sum = L.length := by
  have h1 := T.sum_pend s 32
  show sum2 (s.pend 32) = _
  rw [h1, R.tot, List.countP_eq_length]
  intro x hx
  have := R.inL x hx
  simp; omega
theorem Rel.le (R : Rel s H L) {N : Nat} (h : L.length ≤ N) : s.le N := fun i => by rw [R.c i]; exact Nat.le_trans (cntI_le L i) h
end

/-- Both tables, apart. -/
structure PB (w W : World) (k r : Nat) (vh vr : Value) (s : T) (H L : List Nat) : Prop where
  a : Tb W k s
  f : Rf W w.heap.size r vh vr H L
  ne : ¬ Fr r vh vr k
  hk : w.heap.size ≤ k
  bel : Below w.heap.size w W
structure PS (w W : World) (k r : Nat) (vh vr : Value) (s : T) (H L : List Nat) (j : Nat) : Prop where
  b : PB w W k r vh vr s H L
  rel : Rel s H L
  lh : H.length ≤ j
  ll : L.length ≤ j
section
variable {w W W' : World} {k r j : Nat} {vh vr : Value} {s s' : T} {H L H' L' : List Nat} {n : Int} {on : Bool}
theorem PB.below (P : PB w W k r vh vr s H L) (hb : Below W.heap.size W W') : PB w W' k r vh vr s H L := ⟨P.a.below hb, P.f.below hb, P.ne, P.hk, P.bel.trans (hb.mono P.bel.size)⟩
theorem PB.drewN (P : PB w W k r vh vr s H L) (q : Nat) : PB w (W.drewN q) k r vh vr s H L := ⟨P.a.same rfl, P.f.same fun _ _ => rfl, P.ne, P.hk, below_drewN P.bel q⟩
theorem PB.mine (P : PB w W k r vh vr s H L) (h : Tb W' k s') (q : Kept (fun i => i = k) W W') : PB w W' k r vh vr s' H L :=
  ⟨h, P.f.kept q (fun i hi e => by subst e; exact P.ne hi), P.ne, P.hk, P.bel.trans (q.below (fun i e => by subst e; exact P.hk) P.bel.size)⟩
theorem PB.ref (P : PB w W k r vh vr s H L) (h : RefA W w.heap.size r vh vr H' L' W') : ∃ vh' vr', PB w W' k r vh' vr' s H' L' := by
  obtain ⟨vh', vr', R, m⟩ := h
  exact ⟨vh', vr', P.a.kept m.k P.ne, R, fun e => (m.o k e).elim P.ne (fun h => by have := P.a.lt; omega), P.hk, P.bel.trans (m.k.below' (fun i _ hi => (P.f.lt hi).2) P.bel.size)⟩
/-- Another table in the first one's place. -/
theorem PB.other {k' : Nat} {s2 : T} (P : PB w W k r vh vr s H L) (h : Tb W k' s2) (hn : ¬ Fr r vh vr k') (hk : w.heap.size ≤ k') : PB w W k' r vh vr s2 H L := ⟨h, P.f, hn, hk, P.bel⟩
theorem PB.cells (P : PB w W k r vh vr s H L) : ∃ A c A' c', vh = .slice A H.length c ∧ vr = .slice A' L.length c' ∧ RN.shows W A H ∧ RN.shows W A' L ∧ W.cell? ⟨r, 0, none⟩ = some (.slice A H.length c) ∧ W.cell? ⟨r, 1, none⟩ = some (.slice A' L.length c') ∧ r < W.heap.size := by
  obtain ⟨A, c, A', c', e1, e2, h1, h2⟩ := P.f.shows
  obtain ⟨c0, c1, l, _, _⟩ := P.f.cells
  exact ⟨A, c, A', c', e1, e2, h1, h2, e1 ▸ c0, e2 ▸ c1, l⟩
theorem PS.mono (P : PS w W k r vh vr s H L j) : PS w W k r vh vr s H L (j + 1) := ⟨P.b, P.rel, by have := P.lh; omega, by have := P.ll; omega⟩

/-- Handle, by both. -/
theorem PS.handle (P : PS w W k r vh vr s H L j) (hj : j ≤ 1000) (n : Int) (on : Bool) :
    Calls Try.prog 9 #[.pointer (some ⟨k, 0, none⟩), .int .i64 n, .bool on] W fun x W1 => x = .returned (.int .i64 (code n)) ∧
      Calls Try.prog 10 #[.pointer (some ⟨r, 0, none⟩), .int .i64 n, .bool on] W1 fun y W2 => y = .returned (.int .i64 (code n)) ∧ ∃ vh' vr' s' H' L', PS w W2 k r vh' vr' s' H' L' (j + 1) := by
  refine (handle_any P.b.a n on).mono ?_
  rintro x W1 ⟨rfl, h, q⟩
  refine ⟨rfl, ?_⟩
  have P1 := P.b.mine h q
  have hlh := P.lh
  have hll := P.ll
  cases hs : isSig n with
  | false =>
    have e1 : code n = 100 := by unfold code; rw [hs]; rfl
    have e2 : s.handle n on = s := by unfold T.handle; rw [hs]; rfl
    rw [e1]
    rw [e2] at P1
    refine (rhandle_no P1.f hs on).mono ?_
    rintro y W2 ⟨rfl, rfl⟩
    exact ⟨rfl, _, _, _, _, _, P1, P.rel, by omega, by omega⟩
  | true =>
    obtain ⟨i, rfl, h1, h2⟩ := isSig_nat hs
    have e1 : code (i : Int) = 0 := by unfold code; rw [hs]; rfl
    have e2 : s.handle (i : Int) on = s.set i on := by unfold T.handle; rw [hs]; rfl
    rw [e1]
    rw [e2] at P1
    have l1 := outI_len H (i : Int)
    have l2 := outI_len L (i : Int)
    cases on with
    | true =>
      refine (rhandle_on P1.f h1 h2 (by omega)).mono ?_
      rintro y W2 ⟨rfl, hA⟩
      obtain ⟨vh', vr', P2⟩ := P1.ref hA
      exact ⟨rfl, _, _, _, _, _, P2, P.rel.on h1 h2, by simp; omega, by omega⟩
    | false =>
      refine (rhandle_off P1.f h1 h2 (by omega) (by omega)).mono ?_
      rintro y W2 ⟨rfl, hA⟩
      obtain ⟨vh', vr', P2⟩ := P1.ref hA
      exact ⟨rfl, _, _, _, _, _, P2, P.rel.off, by omega, by omega⟩
/-- Raise, by both. -/
theorem PS.raise (P : PS w W k r vh vr s H L j) (hj : j ≤ 1000) (n : Int) :
    Calls Try.prog 11 #[.pointer (some ⟨k, 0, none⟩), .int .i64 n] W fun x W1 => x = .returned (.int .i64 (code n)) ∧
      Calls Try.prog 12 #[.pointer (some ⟨r, 0, none⟩), .int .i64 n] W1 fun y W2 => y = .returned (.int .i64 (code n)) ∧ ∃ vh' vr' s' H' L', PS w W2 k r vh' vr' s' H' L' (j + 1) := by
  have hlh := P.lh
  have hll := P.ll
  refine (raise_any P.b.a n (P.rel.le (N := 2147483646) (by omega))).mono ?_
  rintro x W1 ⟨rfl, h, q⟩
  refine ⟨rfl, ?_⟩
  have P1 := P.b.mine h q
  cases hs : isSig n with
  | false =>
    have e1 : code n = 100 := by unfold code; rw [hs]; rfl
    have e2 : s.rise n = s := by unfold T.rise; rw [hs]; rfl
    rw [e1]
    rw [e2] at P1
    refine (rraise_no P1.f hs).mono ?_
    rintro y W2 ⟨rfl, rfl⟩
    exact ⟨rfl, _, _, _, _, _, P1, P.rel, by omega, by omega⟩
  | true =>
    obtain ⟨i, rfl, h1, h2⟩ := isSig_nat hs
    have e1 : code (i : Int) = 0 := by unfold code; rw [hs]; rfl
    have e2 : s.rise (i : Int) = s.raise i := by unfold T.rise; rw [hs]; rfl
    rw [e1]
    rw [e2] at P1
    refine (rraise_yes P1.f h1 h2 (by omega) (by omega)).mono ?_
    rintro y W2 ⟨rfl, hA⟩
    obtain ⟨vh', vr', P2⟩ := P1.ref hA
    exact ⟨rfl, _, _, _, _, _, P2, P.rel.raise h1 h2, by omega, by split <;> (try rw [List.length_append, List.length_singleton]) <;> omega⟩
end
end Go.Proofs.Ytiancgjpjfejdaa
