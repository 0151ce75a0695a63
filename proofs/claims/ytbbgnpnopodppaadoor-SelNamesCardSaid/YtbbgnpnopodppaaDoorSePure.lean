/-
  What Select reports, as a function of what is ready.
-/
import Derived.Test.YtbbgnpnopodppaaDoorSeReq
import Derived.Test.YtbbgnpnopodppaaDoorSeBase
namespace Go.Proofs.YtbbgnpnopodppaaDoor
open Go.RowKit Go.Shelf Go.Maps Go.ChangeMaps

def Rdy.r (q : Rdy) : Bool := q.rin || q.hup || q.err
def Rdy.w (q : Rdy) : Bool := q.out || q.hup || q.err
/-- The two sets reported so far. -/
structure Acc where
  r0 : Nat
  r1 : Nat
  s0 : Nat
  s1 : Nat
def Acc.ok (A : Acc) : Prop := A.r0 < 4294967296 ∧ A.r1 < 4294967296 ∧ A.s0 < 4294967296 ∧ A.s1 < 4294967296
def sdR (s : Nat) : Bool := s == 2 || s == 6
def sdW (s : Nat) : Bool := s == 4 || s == 6
def Acc.putR (A : Acc) (n : Nat) (t : Bool) : Acc := if t then { A with r0 := Fs.w0 A.r0 n, r1 := Fs.w1 A.r1 n } else A
def Acc.putW (A : Acc) (n : Nat) (t : Bool) : Acc := if t then { A with s0 := Fs.w0 A.s0 n, s1 := Fs.w1 A.s1 n } else A
def Acc.step (rd : Nat → Rdy) (A : Acc) (x : Nat × Nat) : Acc := (A.putR x.1 (sdR x.2 && (rd x.1).r)).putW x.1 (sdW x.2 && (rd x.1).w)
def selR (rd : Nat → Rdy) (top : Int) : List (Nat × Nat) → Acc → Option Acc
  | [], A => some A
  | x :: xs, A => if top ≤ (x.1 : Int) then some A else if (rd x.1).isOpen then selR rd top xs (A.step rd x) else none
theorem Acc.ok.putR {A : Acc} (h : A.ok) (n : Nat) (t : Bool) : (A.putR n t).ok := by
  unfold Acc.putR
  split
  · exact ⟨Fs.w0_lt n h.1, Fs.w1_lt n h.2.1, h.2.2⟩
  · exact h
theorem Acc.ok.putW {A : Acc} (h : A.ok) (n : Nat) (t : Bool) : (A.putW n t).ok := by
  unfold Acc.putW
  split
  · exact ⟨h.1, h.2.1, Fs.w0_lt n h.2.2.1, Fs.w1_lt n h.2.2.2⟩
  · exact h
theorem Acc.ok.step {A : Acc} (h : A.ok) (rd : Nat → Rdy) (x : Nat × Nat) : (A.step rd x).ok := (h.putR _ _).putW _ _
def Acc.many (A : Acc) : Nat := (Fs.memI A.r0 A.r1).length + (Fs.memI A.s0 A.s1).length
/-- What Select answers. -/
def selV (rd : Nat → Rdy) (top : Int) (a b c d : Nat) : Value := match selR rd top (reqs a b c d) ⟨0, 0, 0, 0⟩ with
  | some A => .tuple #[setV A.r0 A.r1, setV A.s0 A.s1, .int .i64 (A.many : Int), .int .i64 0]
  | none => .tuple #[setV 0 0, setV 0 0, .int .i64 0, .int .i64 110]
theorem readable_any (w : World) (q : Rdy) : Calls Tryd.prog 20 #[rdyV q] w fun e w' => e = .returned (.bool q.r) ∧ Below w.heap.size w w' := by
  obtain ⟨i, r, o, h, e, x, y⟩ := q
  unfold rdyV
  dsimp only
  cases r with
  | true =>
    go_enter Tryd.func20, Tryd.ntmps20
    go_wp2_with fail
    go_ret
    exact ⟨by simp [Rdy.r], (Below.refl _ _).alloc (Nat.le_refl _) _⟩
  | false =>
    cases h <;>
    · go_enter Tryd.func20, Tryd.ntmps20
      go_wp2_with fail
      go_ret
      exact ⟨by simp [Rdy.r], (Below.refl _ _).alloc (Nat.le_refl _) _⟩
theorem writable_any (w : World) (q : Rdy) : Calls Tryd.prog 22 #[rdyV q] w fun e w' => e = .returned (.bool q.w) ∧ Below w.heap.size w w' := by
  obtain ⟨i, r, o, h, e, x, y⟩ := q
  unfold rdyV
  dsimp only
  cases o with
  | true =>
    go_enter Tryd.func22, Tryd.ntmps22
    go_wp2_with fail
    go_ret
    exact ⟨by simp [Rdy.w], (Below.refl _ _).alloc (Nat.le_refl _) _⟩
  | false =>
    cases h <;>
    · go_enter Tryd.func22, Tryd.ntmps22
      go_wp2_with fail
      go_ret
      exact ⟨by simp [Rdy.w], (Below.refl _ _).alloc (Nat.le_refl _) _⟩
end Go.Proofs.YtbbgnpnopodppaaDoor
