/-
  The contract of package fdset's Parse, at every text: the set of the runs that it reads, or the error.
-/
import Derived.Test.YthpinbngggcgcaaDoorSplit
import Derived.Test.YthpinbngggcgcaaDoorOneLaws
namespace Go.Proofs.YthpinbngggcgcaaDoor
open Go.RowKit Go.Shelf

attribute [local go_sem] Oper.semAt_some

/-! ### 1. The iterator's maker -/
/-- What SplitSeq returns: the closure, with three boxes of its own. -/
def RetSplit (w : World) (t : ByteArray) (e : Ending) (w' : World) : Prop := ∃ Bp Bs Bn : Nat, e = .returned (.func (.func 52) #[] #[.pointer (some ⟨Bp, 0, none⟩), .pointer (some ⟨Bs, 0, none⟩), .pointer (some ⟨Bn, 0, none⟩)]) ∧
  (Boxed w' Bp 9 (.string ⟨#[44]⟩) ∧ Boxed w' Bs 9 (.string t) ∧ Boxed w' Bn 3 (.int .i64 0)) ∧ (w.heap.size ≤ Bp ∧ w.heap.size ≤ Bs ∧ w.heap.size ≤ Bn) ∧ (Bp ≠ Bs ∧ Bn ≠ Bs) ∧ Below w.heap.size w w'
theorem splitSeq_any (t : ByteArray) (w : World) : Calls Tryd.prog 48 #[.string t, .string ⟨#[44]⟩, .int .i64 0] w (RetSplit w t) := by
  have hmf : ∀ (fn : Fn) (first cap : Array Value) (w : World), (Instr.makeFunc fn first cap).run Tryd.prog w = .ok (.func fn first cap) w := fun _ _ _ _ => rfl
  go_enter Tryd.func48, Tryd.ntmps48
  go_wp2
  go_ret
  have b1 := ((Boxed.new w 9 (.string t)).alloc (.cells #[.string ⟨#[44]⟩] 9)).alloc (.cells #[.int .i64 0] 3)
  have b2 := (Boxed.new (w.alloc (.cells #[.string t] 9)) 9 (.string ⟨#[44]⟩)).alloc (.cells #[.int .i64 0] 3)
  have b3 := Boxed.new ((w.alloc (.cells #[.string t] 9)).alloc (.cells #[.string ⟨#[44]⟩] 9)) 3 (.int .i64 0)
  simp only [World.size_alloc] at b2 b3
  exact ⟨_, _, _, rfl, ⟨b2, b1, b3⟩, ⟨by omega, by omega, by omega⟩, ⟨by omega, by omega⟩, (((Below.refl _ w).alloc (Nat.le_refl _) _).alloc (by simp) _).alloc (by simp; omega) _⟩
theorem splitSeq_all (t : ByteArray) (w : World) : Calls Tryd.prog 40 #[.string t, .string ⟨#[44]⟩] w (RetSplit w t) := by
  go_enter Tryd.func40, Tryd.ntmps40
  go_wp2_with fail
  refine (splitSeq_any t _).mono ?_
  rintro e w' ⟨Bp, Bs, Bn, rfl, h1, h2, h3, h4⟩
  go_wp2_with fail
  go_ret
  exact ⟨_, _, _, rfl, h1, h2, h3, h4⟩
theorem split_box (n : Nat) (hn : 1 ≤ n) (Bp Bs Bn : Nat) (hne : Bp ≠ Bs ∧ Bn ≠ Bs) (t : ByteArray) (ht : t.size ≤ 100000) (w : World) (h : Boxed w Bp 9 (.string ⟨#[44]⟩) ∧ Boxed w Bs 9 (.string t) ∧ Boxed w Bn 3 (.int .i64 0)) :
    SeqBox n Tryd.prog 52 #[.pointer (some ⟨Bp, 0, none⟩), .pointer (some ⟨Bs, 0, none⟩), .pointer (some ⟨Bn, 0, none⟩)] (fun x : Pc => #[Value.string x.1]) (Kp3 Bp Bs Bn) Bs
      (fun ys => lstOf ys = splitC t.data.toList) (fun pre => lstOf pre <+: splitC t.data.toList) w := fun l J Jx W hW hJ hY h0 =>
  split1_in n hn l Bp Bs Bn hne.1 hne.2 t ht J Jx hJ hY W ((hW _ h.1.lt).trans h.1) ((hW _ h.2.1.lt).trans h.2.1) ((hW _ h.2.2.lt).trans h.2.2) h0

/-! ### 2. What is read so far -/
/-- The pieces so far are the runs rs, and the next must begin at k or later. -/
def Pfx (pre : List Pc) (rs : List (Nat × Nat)) (k : Nat) : Prop := ∀ rest, parseS (lstOf pre ++ rest) 0 = (parseS rest k).map (rs ++ ·)
theorem pfx_nil : Pfx [] [] 0 := fun rest => by
  show parseS rest 0 = _
  cases parseS rest 0 <;> rfl
theorem Pfx.more {pre : List Pc} {rs : List (Nat × Nat)} {k : Nat} (h : Pfx pre rs k) {x : Pc} {f l : Nat} (hx : runP x.1.data.toList = some (f, l)) (hk : k ≤ f) : Pfx (pre ++ [x]) (rs ++ [(f, l)]) (l + 2) := fun rest => by
  rw [lstOf_snoc, List.append_assoc, h]
  have e : parseS ([x.1.data.toList] ++ rest) k = (parseS rest (l + 2)).map ((f, l) :: ·) := by
    show (match runP x.1.data.toList with | some x => if k ≤ x.1 then (parseS rest (x.2 + 2)).map (x :: ·) else none | none => none) = _
    rw [hx]
    dsimp only
    rw [if_pos hk]
  rw [e]
  cases parseS rest (l + 2) with
  | none => rfl
  | some y => simp
theorem Pfx.bad {pre : List Pc} {rs : List (Nat × Nat)} {k : Nat} (h : Pfx pre rs k) {x : Pc} (hx : ∀ f l, runP x.1.data.toList = some (f, l) → ¬ k ≤ f) (rest : List (List UInt8)) : parseS (lstOf (pre ++ [x]) ++ rest) 0 = none := by
  rw [lstOf_snoc, List.append_assoc, h]
  show (match runP x.1.data.toList with | some x => if k ≤ x.1 then (parseS rest (x.2 + 2)).map (x :: ·) else none | none => none).map _ = _
  cases hr : runP x.1.data.toList with
  | none => rfl
  | some y =>
    dsimp only
    rw [if_neg (hx y.1 y.2 hr)]
    rfl
/-- A state of the reading. -/
def StP (pre : List Pc) (rs : List (Nat × Nat)) (k a b : Nat) : Prop := Pfx pre rs k ∧ k ≤ 65 ∧ a < 4294967296 ∧ b < 4294967296 ∧ ∀ n, n < 64 → hasB a b n = inR rs n
theorem stP_nil : StP [] [] 0 0 0 := ⟨pfx_nil, by omega, by omega, by omega, fun n _ => hasB_zero n⟩

/-! ### 3. What lies in memory -/
theorem boxed_keep {A B : World} {row : Option Nat} {k : Nat} {t : TypeId} {v : Value} (h : Boxed A k t v) (hg : A.grownBy B row) (hr : ∀ r, row = some r → ∃ o : Obj, A.heap[r]? = some o ∧ o.isCells = false) : Boxed B k t v :=
  h.kept hg (fun e => by obtain ⟨o, ho, hc⟩ := hr _ e.symm; rw [show A.heap[k]? = _ from h] at ho; cases ho; cases hc)
theorem set_keep {A B : World} {row : Option Nat} {k a b : Nat} (h : IsSet A k a b) (hg : A.grownBy B row) (hr : ∀ r, row = some r → ∃ o : Obj, A.heap[r]? = some o ∧ o.isCells = false) : IsSet B k a b :=
  ⟨cell_kept h.1 hg hr, cell_kept h.2.1 hg hr, (frozen_kept h.1 hg hr).trans h.2.2.1, (frozen_kept h.2.1 hg hr).trans h.2.2.2⟩
theorem boxed_under {A B : World} {k : Nat} {t : TypeId} {v : Value} (h : Boxed A k t v) (hb : Below A.heap.size A B) : Boxed B k t v := (hb.block k h.lt).trans h
theorem keeps_under {A B : World} (hb : Below A.heap.size A B) : KeepsOthers A B := ⟨hb.size, fun k _ hk _ => (hb.block k (Array.getElem?_eq_some_iff.1 hk).1).trans hk⟩
theorem kp3_below {B1 B2 B3 : Nat} {A B : World} (hb : Below A.heap.size A B) : Kp3 B1 B2 B3 A B := fun k _ _ hk => (hb.block k (Array.getElem?_eq_some_iff.1 hk).1).trans hk
theorem kp3_grown {B1 B2 B3 b : Nat} {A B : World} (hg : A.grownBy B (some b)) (h1 : b ≠ B1) (h2 : b ≠ B2) (h3 : b ≠ B3) : Kp3 B1 B2 B3 A B := fun k hk o ho =>
  (hg.block k (Array.getElem?_eq_some_iff.1 ho).1 (fun e => by cases e; rcases hk with h | h | h <;> omega)).trans ho
/-- Parse's four variables: the result's set and error as they were made, the set so far, the least next descriptor. -/
def Vars (h k a b : Nat) (W : World) : Prop := IsSet W h 0 0 ∧ Boxed W (h + 1) 26 (.int .i64 0) ∧ IsSet W (h + 1 + 1) a b ∧ Boxed W (h + 1 + 1 + 1) 3 (.int .i64 (k : Int))
theorem Vars.below {h k a b : Nat} {A B : World} (v : Vars h k a b A) (hb : Below A.heap.size A B) : Vars h k a b B := ⟨v.1.below hb, boxed_under v.2.1 hb, v.2.2.1.below hb, boxed_under v.2.2.2 hb⟩
theorem Vars.keep {h k a b : Nat} {A B : World} {row : Option Nat} (v : Vars h k a b A) (hg : A.grownBy B row) (hr : ∀ r, row = some r → ∃ o : Obj, A.heap[r]? = some o ∧ o.isCells = false) : Vars h k a b B :=
  ⟨set_keep v.1 hg hr, boxed_keep v.2.1 hg hr, set_keep v.2.2.1 hg hr, boxed_keep v.2.2.2 hg hr⟩
theorem Vars.far {h k a b : Nat} {A : World} (v : Vars h k a b A) (c : Nat) (u : Value) (hc : h + 1 + 1 + 1 < c) : Vars h k a b (A.setCell ⟨c, 0, none⟩ u) :=
  ⟨v.1.grown (grownBy_setCell' _ _ _) (fun e => by injection e; omega), v.2.1.other (by omega) _, v.2.2.1.grown (grownBy_setCell' _ _ _) (fun e => by injection e; omega), v.2.2.2.other (by omega) _⟩
theorem Vars.put {h k a b a' b' : Nat} {A B : World} (v : Vars h k a b A) (hg : A.grownBy B (some (h + 1 + 1))) (hs : IsSet B (h + 1 + 1) a' b') : Vars h k a' b' B :=
  ⟨v.1.grown hg (fun e => by injection e; omega), v.2.1.kept hg (fun e => by injection e; omega), hs, v.2.2.2.kept hg (fun e => by injection e; omega)⟩
theorem Vars.least {h k a b : Nat} {A : World} (v : Vars h k a b A) (m : Nat) : Vars h m a b (A.setCell ⟨h + 1 + 1 + 1, 0, none⟩ (.int .i64 (m : Int))) :=
  ⟨v.1.grown (grownBy_setCell' _ _ _) (fun e => by injection e; omega), v.2.1.other (by omega) _, v.2.2.1.grown (grownBy_setCell' _ _ _) (fun e => by injection e; omega), v.2.2.2.set _⟩
end Go.Proofs.YthpinbngggcgcaaDoor
