/-
  Tables of signals as functions: which are handled, how often each is pending; what each call does, and answers.
-/
import Derived.Lib.Hide
namespace Go.Proofs.YtjejpgognfadoaaGreatDoor

/-- A table: which signals are handled, and how often each is pending. -/
structure T where
  h : Nat → Bool
  c : Nat → Nat
def upd {α : Type} (f : Nat → α) (i : Nat) (v : α) : Nat → α := fun j => if j = i then v else f j
theorem upd_same {α : Type} (f : Nat → α) (i : Nat) (v : α) : upd f i v i = v := if_pos rfl
theorem upd_other {α : Type} (f : Nat → α) {i j : Nat} (v : α) (h : j ≠ i) : upd f i v j = f j := if_neg h

def T.new : T := ⟨fun _ => false, fun _ => 0⟩
def T.set (s : T) (i : Nat) (on : Bool) : T := ⟨upd s.h i on, if on then s.c else upd s.c i 0⟩
def T.raise (s : T) (i : Nat) : T := if s.h i then ⟨s.h, upd s.c i (s.c i + 1)⟩ else s
/-- Nothing is pending. -/
def T.idle (s : T) : T := ⟨s.h, fun _ => 0⟩

def isSig (n : Int) : Bool := decide (1 ≤ n ∧ n ≤ 31)
theorem isSig_yes {n : Int} : isSig n = true ↔ 1 ≤ n ∧ n ≤ 31 := by unfold isSig; exact decide_eq_true_iff
theorem isSig_no {n : Int} : isSig n = false ↔ n < 1 ∨ 31 < n := by unfold isSig; rw [decide_eq_false_iff_not]; omega
/-- A signal's number. -/
theorem isSig_nat {n : Int} (h : isSig n = true) : ∃ i : Nat, n = (i : Int) ∧ 1 ≤ i ∧ i ≤ 31 := by
  obtain ⟨h1, h2⟩ := isSig_yes.1 h
  exact ⟨n.toNat, by omega, by omega, by omega⟩
def code (n : Int) : Int := if isSig n then 0 else 100
def T.handle (s : T) (n : Int) (on : Bool) : T := if isSig n then s.set n.toNat on else s
def T.rise (s : T) (n : Int) : T := if isSig n then s.raise n.toNat else s
def T.has (s : T) (n : Int) : Bool := isSig n && s.h n.toNat
def T.count (s : T) (n : Int) : Int := if isSig n then (s.c n.toNat : Int) else 0
/-- What is pending of the first k numbers. -/
def T.pend (s : T) (k : Nat) : List (Nat × Nat) := ((List.range k).filter fun i => s.c i != 0).map fun i => (i, s.c i)
def T.list (s : T) (k : Nat) : List Nat := (List.range k).filter s.h
def sum2 (l : List (Nat × Nat)) : Nat := (l.map (·.2)).sum
def T.sum (s : T) : Nat := sum2 (s.pend 32)
/-- Nothing is pending more than N times. -/
def T.le (s : T) (N : Nat) : Prop := ∀ i, s.c i ≤ N
/-- Place 0 is no signal's. -/
def T.zero (s : T) : Prop := s.h 0 = false ∧ s.c 0 = 0

section
variable {s : T} {i k N M : Nat} {n : Int} {on : Bool}
theorem T.le.mono (h : s.le N) (hN : N ≤ M) : s.le M := fun i => Nat.le_trans (h i) hN
theorem T.le_new (N : Nat) : T.new.le N := fun _ => Nat.zero_le _
theorem T.le_idle (s : T) (N : Nat) : s.idle.le N := fun _ => Nat.zero_le _
theorem T.le_set (h : s.le N) (i : Nat) (on : Bool) : (s.set i on).le N := fun j => by
  unfold T.set
  cases on
  · show upd s.c i 0 j ≤ N
    unfold upd
    split
    · omega
    · exact h j
  · exact h j
theorem T.le_raise (h : s.le N) (i : Nat) : (s.raise i).le (N + 1) := fun j => by
  unfold T.raise
  split
  · show upd s.c i (s.c i + 1) j ≤ N + 1
    unfold upd
    split
    · have := h i; omega
    · have := h j; omega
  · have := h j; omega
theorem T.le_handle (h : s.le N) (n : Int) (on : Bool) : (s.handle n on).le N := by
  unfold T.handle
  split
  · exact T.le_set h _ _
  · exact h
theorem T.le_rise (h : s.le N) (n : Int) : (s.rise n).le (N + 1) := by
  unfold T.rise
  split
  · exact T.le_raise h _
  · exact h.mono (by omega)
theorem T.pend_succ (s : T) (k : Nat) : s.pend (k + 1) = if s.c k = 0 then s.pend k else s.pend k ++ [(k, s.c k)] := by
  unfold T.pend
  rw [List.range_succ, List.filter_append, List.map_append]
  by_cases h : s.c k = 0 <;> simp [h]
theorem T.pend_idle (s : T) (k : Nat) : s.idle.pend k = [] := by
  unfold T.pend T.idle
  simp
theorem T.pend_len (s : T) (k : Nat) : (s.pend k).length ≤ k := by
  unfold T.pend
  rw [List.length_map]
  exact Nat.le_trans (List.length_filter_le _ _) (by simp)
theorem T.list_succ (s : T) (k : Nat) : s.list (k + 1) = if s.h k then s.list k ++ [k] else s.list k := by
  unfold T.list
  rw [List.range_succ, List.filter_append]
  by_cases h : s.h k = true <;> simp [h]
theorem T.list_len (s : T) (k : Nat) : (s.list k).length ≤ k := Nat.le_trans (List.length_filter_le _ _) (by simp)
theorem sum2_append (a b : List (Nat × Nat)) : sum2 (a ++ b) = sum2 a + sum2 b := by simp [sum2]
theorem sum2_one (x : Nat × Nat) : sum2 [x] = x.2 := by simp [sum2]
/-- The sum of the first k counts. -/
def T.tot (s : T) : Nat → Nat
  | 0 => 0
  | k + 1 => s.tot k + s.c k
theorem T.sum_pend (s : T) : ∀ k, sum2 (s.pend k) = s.tot k
  | 0 => rfl
  | k + 1 => by
    rw [T.pend_succ]
    split
    · rename_i h; rw [T.sum_pend s k]; show _ = s.tot k + s.c k; omega
    · rw [sum2_append, sum2_one, T.sum_pend s k]; rfl
theorem T.tot_le (h : s.le N) : ∀ k, s.tot k ≤ k * N
  | 0 => by simp [T.tot]
  | k + 1 => by
    have := T.tot_le h k
    have := h k
    show s.tot k + s.c k ≤ (k + 1) * N
    rw [Nat.succ_mul]; omega
theorem sum2_take (l : List (Nat × Nat)) (k : Nat) : sum2 (l.take k) ≤ sum2 l := by
  conv => rhs; rw [← List.take_append_drop k l, sum2_append]
  omega
end
end Go.Proofs.YtjejpgognfadoaaGreatDoor
