/-
  The document's move of words.
-/
import Derived.Test.YtlephnfepofbbaaDoorMvRefWords
import Derived.Test.YtlephnfepofbbaaDoorMvRefChk
import Derived.Test.YtlephnfepofbbaaDoorMvMeth
import Derived.Deep.RegionWith
namespace Go.Proofs.YtlephnfepofbbaaDoor
open Go.RowKit Go.Shelf Go.Maps Go.ChangeMaps

/-- Words that a slice shows. -/
structure Wds (W : World) (A : Option Addr) (n : Nat) (ws : List ByteArray) : Prop where
  len : ws.length = n
  sh : ∃ g off, A = some ⟨g, off, none⟩ ∧ g < W.heap.size ∧ ∀ i s, ws[i]? = some s → W.cell? ⟨g, off + i, none⟩ = some (.string s)
  sz : ∀ s ∈ ws, s.size ≤ 100000
theorem Wds.below {W W' : World} {A : Option Addr} {n : Nat} {ws : List ByteArray} (h : Wds W A n ws) (k : Below W.heap.size W W') : Wds W' A n ws := by
  obtain ⟨h1, ⟨g, off, e, hg, hc⟩, h3⟩ := h
  exact ⟨h1, ⟨g, off, e, Nat.lt_of_lt_of_le hg k.size, fun i s hs => (k.cell (p := ⟨g, off + i, none⟩) hg).trans (hc i s hs)⟩, h3⟩
theorem lw_get (ws : List ByteArray) (i : Nat) (s : ByteArray) (h : ws[i]? = some s) : (lw ws).getD i [] = s.data.toList := by
  unfold lw
  rw [List.getD_eq_getElem?_getD, List.getElem?_map, h]; rfl
theorem lw_len (ws : List ByteArray) : (lw ws).length = ws.length := by simp [lw]

/-- A move in the making: the words' number so far. -/
def MvA (N : Nat) (W : World) (g : Nat) (m : Mv) : Prop := ∃ A c, Blk W g 44 #[.int .i64 m.op, .int .i64 m.wire, .int .i64 m.n, .slice A m.b.length c] ∧ OwB N W (.slice A m.b.length c) m.b
/-- What move returns. -/
def MoveR (w : World) (r : Mv × Nat) (e : Ending) (w' : World) : Prop := ∃ A c, e = .returned (.tuple #[.agg #[.int .i64 r.1.op, .int .i64 r.1.wire, .int .i64 r.1.n, .slice A r.1.b.length c], .int .i64 (r.2 : Int)]) ∧ OwB w.heap.size w' (.slice A r.1.b.length c) r.1.b ∧ Below w.heap.size w w'
theorem opOf_lt {s : List UInt8} {j : Nat} (h : ∀ k, 1 ≤ k → k < j → s ≠ wordN k) (hj : 8 ≤ j) : opOf s = none := by
  cases ho : opOf s with
  | none => rfl
  | some k => obtain ⟨h1, h2, h3⟩ := opOf_some ho; exact absurd h1 (h k h2 (by omega))
/-- Which op has been found among those below j. -/
def Fnd (s : List UInt8) (j z : Nat) : Prop := (z = 0 ∧ ∀ k, 1 ≤ k → k < j → s ≠ wordN k) ∨ (1 ≤ z ∧ z < j ∧ z ≤ 7 ∧ s = wordN z)
theorem wordN_inj {a b : Nat} (ha : 1 ≤ a ∧ a ≤ 7) (hb : 1 ≤ b ∧ b ≤ 7) (h : wordN a = wordN b) : a = b := by
  have h1 := opOf_word a ha.1 ha.2
  rw [h, opOf_word b hb.1 hb.2] at h1
  exact (Option.some.inj h1).symm
theorem Fnd.hit {s : List UInt8} {j z : Nat} (h : Fnd s j z) (hj : 1 ≤ j ∧ j ≤ 7) (e : s = wordN j) : Fnd s (j + 1) j := .inr ⟨hj.1, by omega, hj.2, e⟩
theorem Fnd.miss {s : List UInt8} {j z : Nat} (h : Fnd s j z) (e : s ≠ wordN j) : Fnd s (j + 1) z := by
  rcases h with ⟨h1, h2⟩ | ⟨h1, h2, h3, h4⟩
  · refine .inl ⟨h1, fun k a b => ?_⟩
    by_cases hk : k = j
    · rw [hk]; exact e
    · exact h2 k a (by omega)
  · exact .inr ⟨h1, by omega, h3, h4⟩
theorem Fnd.end_ {s : List UInt8} {z : Nat} (h : Fnd s 8 z) : (z = 0 ∧ opOf s = none) ∨ (1 ≤ z ∧ z ≤ 7 ∧ opOf s = some z) := by
  rcases h with ⟨h1, h2⟩ | ⟨h1, h2, h3, h4⟩
  · exact .inl ⟨h1, opOf_lt h2 (by omega)⟩
  · exact .inr ⟨h1, h3, by rw [h4]; exact opOf_word z h1 h3⟩

/-- The copy into the result. -/
def cpy (w : World) (h : Nat) (z x y : Int) (d : Value) : World := (((w.setCell ⟨h, 0, none⟩ (.int .i64 z)).setCell ⟨h, 1, none⟩ (.int .i64 x)).setCell ⟨h, 2, none⟩ (.int .i64 y)).setCell ⟨h, 3, none⟩ d
theorem move_end {w wr : World} {z x y : Int} {A : Option Addr} {c : Nat} {b : List UInt8} (h1 : Blk wr w.heap.size 44 #[.int .i64 0, .int .i64 0, .int .i64 0, .slice none 0 0]) (hO : OwB w.heap.size wr (.slice A b.length c) b) (hB : Below w.heap.size w wr) :
    Blk (cpy wr w.heap.size z x y (.slice A b.length c)) w.heap.size 44 #[.int .i64 z, .int .i64 x, .int .i64 y, .slice A b.length c] ∧ OwB w.heap.size (cpy wr w.heap.size z x y (.slice A b.length c)) (.slice A b.length c) b ∧ Below w.heap.size w (cpy wr w.heap.size z x y (.slice A b.length c)) := by
  refine ⟨by simpa [cpy] using (((h1.set_ 0 (.int .i64 z)).set_ 1 (.int .i64 x)).set_ 2 (.int .i64 y)).set_ 3 (.slice A b.length c), ?_, (((hB.setCell (Nat.le_refl _) _).setCell (Nat.le_refl _) _).setCell (Nat.le_refl _) _).setCell (Nat.le_refl _) _⟩
  refine hO.same fun g e _ => ?_
  obtain ⟨cs, fz, hg⟩ := Lib.ownsRow_kind hO g e
  have hne : g ≠ w.heap.size := fun e2 => by
    subst e2
    have h1' : wr.heap[w.heap.size]? = _ := h1
    rw [h1'] at hg
    injection hg with hg
    injection hg with _ hg _
    revert hg; decide
  unfold cpy
  rw [Below.heap_setCell _ _ _ _ hne, Below.heap_setCell _ _ _ _ hne, Below.heap_setCell _ _ _ _ hne, Below.heap_setCell _ _ _ _ hne]
end Go.Proofs.YtlephnfepofbbaaDoor
