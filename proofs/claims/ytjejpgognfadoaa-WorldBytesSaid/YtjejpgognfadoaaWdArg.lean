/-
  Calls of a world that come in.
-/
import Derived.Test.YtjejpgognfadoaaRgOps
namespace Go.Proofs.Ytjejpgognfadoaa
open Go.RowKit

/-- What was readable ahead of a law is readable for what it made. -/
theorem Src.at0 {w w1 : World} {F : Nat → Prop} {v : Value} {zs : List Int} (h : Src w (fun _ => False) v zs) (hb : Below w.heap.size w w1) (hF : ∀ k, F k → w.heap.size ≤ k) : Src w1 F v zs := by
  obtain ⟨A, c, rfl, h1, h2, h3⟩ := h
  refine ⟨A, c, rfl, h1, h2, fun h0 => ?_⟩
  obtain ⟨b, o, rfl, hl, _, hc⟩ := h3 h0
  exact ⟨b, o, rfl, Nat.lt_of_lt_of_le hl hb.size, fun hf => by have := hF b hf; omega, fun i z hz => (hb.cell (p := ⟨b, o + i, none⟩) hl).trans (hc i z hz)⟩
theorem strs_append (xs ys : List Int) : strOfNums xs ++ strOfNums ys = strOfNums (xs ++ ys) := by
  apply ByteArray.ext
  rw [ByteArray.data_append]
  apply Array.toList_inj.1
  simp [strOfNums]
/-- A call that a law is given. -/
structure OpW where
  kind : Int
  a : Int
  n : Int
  t : Int
  v : Value
  b : List Int
instance : Inhabited OpW := ⟨⟨0, 0, 0, 0, .slice none 0 0, []⟩⟩
structure OpW.Ok (x : OpW) (W : World) : Prop where
  k : -9223372036854775808 ≤ x.kind ∧ x.kind ≤ 9223372036854775807
  a : -9223372036854775808 ≤ x.a ∧ x.a ≤ 9223372036854775807
  n : -9223372036854775808 ≤ x.n ∧ x.n ≤ 9223372036854775807
  src : Src W (fun _ => False) x.v x.b
/-- A slice of calls that may be read. -/
def ArgW (W : World) (A : Option Addr) (l : List OpW) : Prop :=
  (∀ x ∈ l, x.Ok W) ∧ (0 < l.length → ∃ b off, A = some ⟨b, off, none⟩ ∧ b < W.heap.size ∧ ∀ (i : Nat) (x : OpW), l[i]? = some x →
    W.cell? ⟨b, off + i * 5, none⟩ = some (.int .i64 x.kind) ∧ W.cell? ⟨b, off + i * 5 + 1, none⟩ = some (.int .i64 x.a) ∧ W.cell? ⟨b, off + i * 5 + 2, none⟩ = some (.int .i64 x.n) ∧ W.cell? ⟨b, off + i * 5 + 3, none⟩ = some (.int .u64 x.t) ∧ W.cell? ⟨b, off + i * 5 + 4, none⟩ = some x.v)
theorem ArgW.at_ {w wr : World} {A : Option Addr} {l : List OpW} (h : ArgW w A l) (hb : Below w.heap.size w wr) {k : Nat} (hk : k < l.length) :
    ∃ b off x, A = some ⟨b, off, none⟩ ∧ b < wr.heap.size ∧ l[k]? = some x ∧ x.Ok w ∧ wr.cell? ⟨b, off + k * 5, none⟩ = some (.int .i64 x.kind) ∧ wr.cell? ⟨b, off + k * 5 + 1, none⟩ = some (.int .i64 x.a) ∧ wr.cell? ⟨b, off + k * 5 + 2, none⟩ = some (.int .i64 x.n) ∧ wr.cell? ⟨b, off + k * 5 + 3, none⟩ = some (.int .u64 x.t) ∧ wr.cell? ⟨b, off + k * 5 + 4, none⟩ = some x.v := by
  obtain ⟨b, off, e, hlt, hc⟩ := h.2 (by omega)
  have hz := List.getElem?_eq_getElem hk
  obtain ⟨h0, h1, h2, h3, h4⟩ := hc k _ hz
  have f := fun j => hb.cell (p := ⟨b, j, none⟩) hlt
  exact ⟨b, off, _, e, Nat.lt_of_lt_of_le hlt hb.size, hz, h.1 _ (List.mem_of_getElem? hz), (f _).trans h0, (f _).trans h1, (f _).trans h2, (f _).trans h3, (f _).trans h4⟩
end Go.Proofs.Ytjejpgognfadoaa
