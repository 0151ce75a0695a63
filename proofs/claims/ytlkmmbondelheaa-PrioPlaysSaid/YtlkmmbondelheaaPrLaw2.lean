/-
  More of what the laws share: what a walk reads of a call that came in; how many items there are behind each call; rows one behind the other.
-/
import Derived.Test.YtlkmmbondelheaaPrLaw
namespace Go.Proofs.Ytlkmmbondelheaa
open Go.RowKit Go.Maps Go.ChangeMaps Go.Shelf

theorem ArgOps.at_ {w wr : World} {A : Option Addr} {l : List Cal} (h : ArgOps w A l) (hb : Below w.heap.size w wr) {k : Nat} (hk : k < l.length) :
    ∃ b off x, A = some ⟨b, off, none⟩ ∧ b < w.heap.size ∧ l[k]? = some x ∧ x.Ok ∧ wr.cell? ⟨b, off + k * 5, none⟩ = some (.int .i64 x.k) ∧ wr.cell? ⟨b, off + k * 5 + 1, none⟩ = some (.int .i64 x.pr) ∧ wr.cell? ⟨b, off + k * 5 + 2, none⟩ = some (.int .i64 x.id) ∧
      wr.cell? ⟨b, off + k * 5 + 3, none⟩ = some (.int .i64 x.fl) ∧ wr.cell? ⟨b, off + k * 5 + 4, none⟩ = some (.int .i64 x.ct) := by
  obtain ⟨b, off, e, hlt, hc⟩ := h.2 (by omega)
  have hz := List.getElem?_eq_getElem hk
  obtain ⟨a0, a1, a2, a3, a4⟩ := hc k _ hz
  exact ⟨b, off, _, e, hlt, hz, h.1 _ (List.mem_of_getElem? hz), (hb.cell (p := ⟨b, _, none⟩) hlt).trans a0, (hb.cell (p := ⟨b, _, none⟩) hlt).trans a1, (hb.cell (p := ⟨b, _, none⟩) hlt).trans a2, (hb.cell (p := ⟨b, _, none⟩) hlt).trans a3, (hb.cell (p := ⟨b, _, none⟩) hlt).trans a4⟩

section
variable {L : List It} {many : Nat}
theorem putL_len (L : List It) (p : Nat) (k fl c : Int) (bk : Nat) : (putL L p k fl c bk).length ≤ L.length + 1 := by unfold putL; split <;> simp
theorem putS_len (many : Nat) (L : List It) (p k fl c : Int) (bk : Nat) : (putS many L p k fl c bk).length ≤ L.length + 1 := by
  unfold putS; split
  · exact putL_len _ _ _ _ _ _
  · omega
theorem cutL_len (L : List It) (k : Int) : (cutL L k).length ≤ L.length := List.length_filter_le _ _
theorem moveL_len (L : List It) (k : Int) (p : Nat) : (moveL L k p).length ≤ L.length := by
  unfold moveL
  split
  · omega
  · rename_i x hx
    split
    · omega
    · have h1 := List.mem_of_find?_eq_some hx
      have h2 := List.find?_some hx
      have : (cutL L k).length < L.length := by
        unfold cutL
        rw [List.length_filter_lt_length_iff_exists]
        exact ⟨x, h1, by simpa using h2⟩
      simp; omega
theorem moveS_len (many : Nat) (L : List It) (k p : Int) : (moveS many L k p).length ≤ L.length := by
  unfold moveS; split
  · exact moveL_len _ _ _
  · omega
theorem restL_len (L : List It) : (restL L).length ≤ L.length := by unfold restL; split; omega; exact List.length_filter_le _ _

/-- How often a number stands among items. -/
def cnt (P : List It) (k : Int) : Nat := (P.filter (·.id = k)).length
theorem cnt_append (P Q : List It) (k : Int) : cnt (P ++ Q) k = cnt P k + cnt Q k := by simp [cnt]
theorem cnt_le (P : List It) (k : Int) : cnt P k ≤ P.length := List.length_filter_le _ _
theorem cnt_ids : ∀ {L : List It}, (L.map (·.id)).Nodup → ∀ k, cnt L k = if hasI L k then 1 else 0
  | [], _, k => rfl
  | x :: L, h, k => by
    have h1 := List.nodup_cons.1 (by simpa using h : (x.id :: L.map (·.id)).Nodup)
    have ih := cnt_ids h1.2 k
    unfold cnt hasI at ih ⊢
    by_cases e : x.id = k
    · have : L.any (·.id == k) = false := by
        simp only [List.any_eq_false, beq_iff_eq]
        intro y hy e2
        exact h1.1 (List.mem_map.2 ⟨y, hy, by rw [e2, e]⟩)
      rw [this] at ih
      simp [e] at ih ⊢
      omega
    · simp [e] at ih ⊢
      exact ih
theorem byP_perm {L : List It} : ∀ (k : Nat), (byP L k).Perm (L.filter (·.pr < k))
  | 0 => by simp [byP]
  | k + 1 => by
    rw [byP_succ]
    refine ((byP_perm k).append_right _).trans ?_
    unfold ofP
    refine List.Perm.trans ?_ (List.filter_append_perm (fun x : It => decide (x.pr < k)) (L.filter (fun x => decide (x.pr < k + 1))))
    rw [List.filter_filter, List.filter_filter]
    refine List.Perm.of_eq ?_
    congr 1
    · apply List.filter_congr; intro x _; rw [Bool.eq_iff_iff]; simp; omega
    · apply List.filter_congr; intro x _; rw [Bool.eq_iff_iff]; simp; omega
theorem byP_all (h : ∀ x ∈ L, x.pr < many) : (byP L many).Perm L := by
  have := byP_perm (L := L) many
  rwa [List.filter_eq_self.2 (fun x hx => by simpa using h x hx)] at this
theorem cnt_perm {P Q : List It} (h : P.Perm Q) (k : Int) : cnt P k = cnt Q k := (h.filter _).length_eq
theorem byP_succ_len (L : List It) (k : Nat) : (byP L (k + 1)).length = (byP L k).length + (ofP L k).length := by rw [byP_succ, List.length_append]
theorem listP_of {p : Nat} (hp : p < many) : listP many L (p : Int) = ofP L p := by unfold listP; rw [if_pos (by omega)]; simp
theorem cnt_take {P : List It} {i : Nat} {x : It} (h : P[i]? = some x) (k : Int) : cnt (P.take (i + 1)) k = cnt (P.take i) k + if x.id = k then 1 else 0 := by
  have h1 := List.getElem?_eq_some_iff.1 h
  have : P.take (i + 1) = P.take i ++ [x] := by rw [← h1.2, List.take_succ_eq_append_getElem h1.1]
  rw [this, cnt_append]
  congr 1
  unfold cnt
  by_cases e : x.id = k <;> simp [e]
theorem cut_gone (L : List It) (k : Int) : hasI (cutL L k) k = false := by
  rw [hasI_false]
  intro x hx
  simpa using (List.mem_filter.1 hx).2
end
end Go.Proofs.Ytlkmmbondelheaa
