/-
  strings.SplitSeq at a byte: the iterator's maker, and what a loop over it needs.
-/
import Derived.Test.YtlephnfepofbbaaGreatDoorMvSplit
namespace Go.Proofs.YtlephnfepofbbaaGreatDoor
open Go.RowKit Go.Shelf

attribute [local go_sem] Oper.semAt_some

/-- What SplitSeq returns: the closure, with three boxes of its own. -/
def RetSplit (c : UInt8) (w : World) (t : ByteArray) (e : Ending) (w' : World) : Prop := ∃ Bp Bs Bn : Nat, e = .returned (.func (.func 137) #[] #[.pointer (some ⟨Bp, 0, none⟩), .pointer (some ⟨Bs, 0, none⟩), .pointer (some ⟨Bn, 0, none⟩)]) ∧
  (Boxed w' Bp 9 (.string ⟨#[c]⟩) ∧ Boxed w' Bs 9 (.string t) ∧ Boxed w' Bn 3 (.int .i64 0)) ∧ (w.heap.size ≤ Bp ∧ w.heap.size ≤ Bs ∧ w.heap.size ≤ Bn) ∧ (Bp ≠ Bs ∧ Bn ≠ Bs) ∧ Below w.heap.size w w'
theorem splitSeq_any (c : UInt8) (t : ByteArray) (w : World) : Calls Tryz.prog 111 #[.string t, .string ⟨#[c]⟩, .int .i64 0] w (RetSplit c w t) := by
  have hmf : ∀ (fn : Fn) (first cap : Array Value) (w : World), (Instr.makeFunc fn first cap).run Tryz.prog w = .ok (.func fn first cap) w := fun _ _ _ _ => rfl
  go_enter Tryz.func111, Tryz.ntmps111
  go_wp2
  go_ret
  have b1 := ((Boxed.new w 9 (.string t)).alloc (.cells #[.string ⟨#[c]⟩] 9)).alloc (.cells #[.int .i64 0] 3)
  have b2 := (Boxed.new (w.alloc (.cells #[.string t] 9)) 9 (.string ⟨#[c]⟩)).alloc (.cells #[.int .i64 0] 3)
  have b3 := Boxed.new ((w.alloc (.cells #[.string t] 9)).alloc (.cells #[.string ⟨#[c]⟩] 9)) 3 (.int .i64 0)
  simp only [World.size_alloc] at b2 b3
  exact ⟨_, _, _, rfl, ⟨b2, b1, b3⟩, ⟨by omega, by omega, by omega⟩, ⟨by omega, by omega⟩, (((Below.refl _ w).alloc (Nat.le_refl _) _).alloc (by simp) _).alloc (by simp; omega) _⟩
theorem splitSeq_all (c : UInt8) (t : ByteArray) (w : World) : Calls Tryz.prog 73 #[.string t, .string ⟨#[c]⟩] w (RetSplit c w t) := by
  go_enter Tryz.func73, Tryz.ntmps73
  go_wp2_with fail
  refine (splitSeq_any c t _).mono ?_
  rintro e w' ⟨Bp, Bs, Bn, rfl, h1, h2, h3, h4⟩
  go_wp2_with fail
  go_ret
  exact ⟨_, _, _, rfl, h1, h2, h3, h4⟩
theorem split_box (c : UInt8) (n : Nat) (hn : 1 ≤ n) (Bp Bs Bn : Nat) (hne : Bp ≠ Bs ∧ Bn ≠ Bs) (t : ByteArray) (ht : t.size ≤ 20000000) (w : World) (h : Boxed w Bp 9 (.string ⟨#[c]⟩) ∧ Boxed w Bs 9 (.string t) ∧ Boxed w Bn 3 (.int .i64 0)) :
    SeqBox n Tryz.prog 137 #[.pointer (some ⟨Bp, 0, none⟩), .pointer (some ⟨Bs, 0, none⟩), .pointer (some ⟨Bn, 0, none⟩)] (fun x : Piece => #[Value.string x.1]) (Kp3 Bp Bs Bn) Bs
      (fun ys => lstOf ys = splitB c t.data.toList) (fun pre => lstOf pre <+: splitB c t.data.toList) w := fun l J Jx W hW hJ hY h0 =>
  split1_in c n hn l Bp Bs Bn hne.1 hne.2 t ht J Jx hJ hY W ((hW _ h.1.lt).trans h.1) ((hW _ h.2.1.lt).trans h.2.1) ((hW _ h.2.2.lt).trans h.2.2) h0
theorem keeps_under {A B : World} (hb : Below A.heap.size A B) : KeepsOthers A B := ⟨hb.size, fun k _ hk _ => (hb.block k (Array.getElem?_eq_some_iff.1 hk).1).trans hk⟩
theorem kp3_under {B1 B2 B3 : Nat} {A B : World} (hb : Below A.heap.size A B) : Kp3 B1 B2 B3 A B := fun k _ _ hk => (hb.block k (Array.getElem?_eq_some_iff.1 hk).1).trans hk
theorem below_endL {w w' w'' : World} (h : Below w.heap.size w w') (k : Below w'.heap.size w' w'') : Below w.heap.size w w'' := h.trans (k.mono h.size)
end Go.Proofs.YtlephnfepofbbaaGreatDoor
