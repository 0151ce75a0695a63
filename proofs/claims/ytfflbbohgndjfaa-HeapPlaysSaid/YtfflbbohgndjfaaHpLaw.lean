/-
  What the laws of the heap share: a slice of items that came in; Push by one contract; a slice of its own across calls.
-/
import Derived.Test.YtfflbbohgndjfaaHpAlive
namespace Go.Proofs.Ytfflbbohgndjfaa
open Go.RowKit Go.Maps Go.ChangeMaps Go.Sort

/-- A slice of items that came in. -/
def ArgIts (w : World) (A : Option Addr) (l : List It) : Prop :=
  (∀ x ∈ l, x.Ok) ∧ (0 < l.length → ∃ b off, A = some ⟨b, off, none⟩ ∧ b < w.heap.size ∧
    ∀ i x, l[i]? = some x → w.cell? ⟨b, off + i * 3, none⟩ = some (.int .i64 x.id) ∧ w.cell? ⟨b, off + i * 3 + 1, none⟩ = some (.int .u64 x.d) ∧ w.cell? ⟨b, off + i * 3 + 2, none⟩ = some (.int .u64 x.n))
theorem ArgIts.below {w w' : World} {A : Option Addr} {l : List It} (h : ArgIts w A l) (hb : Below w.heap.size w w') : ArgIts w' A l := by
  refine ⟨h.1, fun h0 => ?_⟩
  obtain ⟨b, off, e, hlt, hc⟩ := h.2 h0
  refine ⟨b, off, e, Nat.lt_of_lt_of_le hlt hb.size, fun i x hx => ?_⟩
  obtain ⟨a0, a1, a2⟩ := hc i x hx
  exact ⟨(hb.cell (p := ⟨b, _, none⟩) hlt).trans a0, (hb.cell (p := ⟨b, _, none⟩) hlt).trans a1, (hb.cell (p := ⟨b, _, none⟩) hlt).trans a2⟩

/-- The number is there. -/
def hasId (S : List It) (k : Int) : Bool := S.any fun y => y.id == k
theorem hasId_true {S : List It} {k : Int} : hasId S k = true ↔ ∃ y ∈ S, y.id = k := by simp [hasId]
theorem hasId_false {S : List It} {k : Int} : hasId S k = false ↔ ∀ y ∈ S, y.id ≠ k := by simp [hasId]
/-- What Push answers. -/
def pushE (S : List It) (k : Int) : Int := if hasId S k then 30 else 0
/-- Behind a Push. -/
def addS (S : List It) (x : It) : List It := if hasId S x.id then S else ins x S
theorem addS_len (S : List It) (x : It) : (addS S x).length ≤ S.length + 1 := by
  unfold addS
  split
  · omega
  · rw [(ins_perm x S).length_eq]; simp
def addAll (l : List It) : List It := l.foldl addS []
theorem addAll_snoc {l : List It} {k : Nat} {x : It} (h : l[k]? = some x) : addAll (l.take (k + 1)) = addS (addAll (l.take k)) x := by
  unfold addAll
  rw [take_snoc' h, List.foldl_append]
  rfl
theorem addAll_len (l : List It) : (addAll l).length ≤ l.length := by
  have h : ∀ (l : List It) (S : List It), (l.foldl addS S).length ≤ S.length + l.length := by
    intro l
    induction l with
    | nil => intro S; simp
    | cons x l ih => intro S; have := ih (addS S x); have := addS_len S x; simp only [List.foldl_cons, List.length_cons]; omega
  simpa [addAll] using h l []

section
variable {w w' : World} {B h q m : Nat} {v : Value} {S : List It}
theorem push_any {x : It} (H : Hp w B h q m v S) (hx : x.Ok) (hl : S.length < 1000) : Calls Try.prog 11 #[.pointer (some ⟨h, 0, none⟩), .agg #[.int .i64 x.id, .int .u64 x.d, .int .u64 x.n]] w fun e w' =>
    e = .returned (.int .i64 (pushE S x.id)) ∧ ∃ v', Hp w' B h q m v' (addS S x) ∧ Moved w w' q m v v' := by
  unfold addS pushE
  cases e : hasId S x.id with
  | true =>
    obtain ⟨y, hy, hxy⟩ := hasId_true.1 e
    exact (push_old H hx hy hxy).mono fun _ _ ⟨he, hb⟩ => ⟨he, v, H.below hb, Moved.of_below hb⟩
  | false => exact (push_new H hx (hasId_false.1 e) hl).mono fun _ _ ⟨he, hr⟩ => ⟨he, hr⟩

/-- What a walk reads of a slice of its own. -/
theorem OwnIt.read {u : Value} {P : List It} (h : OwnIt w B u P) : ∃ A c, u = .slice A P.length c ∧ (0 < P.length → ∃ g, A = some ⟨g, 0, none⟩ ∧ g < w.heap.size ∧ B ≤ g ∧ RowAt w g P) := by
  rcases h.2 with ⟨rfl, hn⟩ | ⟨g, cap, cur, rfl, hg, hh, hc, _⟩
  · exact ⟨none, 0, by rw [hn], fun h0 => by omega⟩
  · refine ⟨some ⟨g, 0, none⟩, cap, rfl, fun _ => ⟨g, rfl, (Array.getElem?_eq_some_iff.1 hh).1, hg, fun i x hx => ?_⟩⟩
    have hi : i < P.length := (List.getElem?_eq_some_iff.1 hx).1
    obtain ⟨e0, e1, e2⟩ := enc_at P i x hx
    exact ⟨(World.ownsRow.cellAt h _ (by omega)).trans e0, (World.ownsRow.cellAt h _ (by omega)).trans e1, (World.ownsRow.cellAt h _ (by omega)).trans e2⟩
theorem OwnIt.below {u : Value} {P : List It} (h : OwnIt w B u P) (hb : Below w.heap.size w w') : OwnIt w' B u P := own_same h fun k e => hb.block k (own_lt h e).1
theorem OwnIt.moved {u : Value} {P : List It} {v' : Value} (h : OwnIt w B u P) (hm : Moved w w' q m v v') (hne : ∀ k, u.ownBlock = some k → ¬ Fp q m v k) : OwnIt w' B u P := own_same h fun k e => hm.1.block k (own_lt h e).1 (hne k e)
/-- A slice laid behind the heap's blocks is none of them. -/
theorem OwnIt.apart {u : Value} {P : List It} {b h' : Nat} (h : OwnIt w' b u P) (H : Hp w B h' q m v S) (hb : w.heap.size ≤ b) : ∀ k, u.ownBlock = some k → ¬ Fp q m v k := fun k e hf => by
  have h1 := (own_lt h e).2
  have h2 := (H.lt (.inr hf)).1
  omega
theorem apart_moved {u v' : Value} (hlt : ∀ k, u.ownBlock = some k → k < w.heap.size) (hm : Moved w w' q m v v') (hne : ∀ k, u.ownBlock = some k → ¬ Fp q m v k) : ∀ k, u.ownBlock = some k → ¬ Fp q m v' k := fun k e => fp_moved hm (hlt k e) (hne k e)
theorem OwnIt.lt {u : Value} {P : List It} (h : OwnIt w B u P) : ∀ k, u.ownBlock = some k → k < w.heap.size := fun k e => (own_lt h e).1
end
end Go.Proofs.Ytfflbbohgndjfaa
