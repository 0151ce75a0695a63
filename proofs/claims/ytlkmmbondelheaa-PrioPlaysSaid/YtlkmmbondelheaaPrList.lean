/-
  What the calls make of the list of items. Plain mathematics.
-/
import Derived.Test.YtlkmmbondelheaaPrPure
import Derived.Laws.BitsAllLaws
import Derived.Laws.BitsLemmas
import Derived.IntWalk
namespace Go.Proofs.Ytlkmmbondelheaa

/-- Flags together. -/
def bor (a b : Int) : Int := bits .or .i64 a b
/-- A count that is raised. -/
def addC (ct c : Int) : Int := ct + min c (2147483647 - ct)
theorem bor_bounds (a b : Int) : -9223372036854775808 ≤ bor a b ∧ bor a b ≤ 9223372036854775807 := by
  have e : bor a b = IntKind.i64.wrap (((BitVec.ofInt 64 a ||| BitVec.ofInt 64 b).toNat : Nat) : Int) := rfl
  rw [e, IntKind.wrap_i64]
  constructor <;> omega
theorem bor_zero {a : Int} (h : -9223372036854775808 ≤ a ∧ a ≤ 9223372036854775807) : bor 0 a = a := by
  have e : bor 0 a = IntKind.i64.wrap (((BitVec.ofInt 64 0 ||| BitVec.ofInt 64 a).toNat : Nat) : Int) := rfl
  rw [e, IntKind.wrap_i64]
  have e2 : (BitVec.ofInt 64 0 ||| BitVec.ofInt 64 a) = BitVec.ofInt 64 a := by simp
  have e3 : (BitVec.ofInt 64 a).toNat = (a % 18446744073709551616).toNat := by rw [BitVec.toNat_ofInt]; rfl
  rw [e2, e3]
  omega
theorem addC_bounds {ct c : Int} (h0 : 0 ≤ ct) (h1 : ct ≤ 2147483647) (hc : 0 ≤ c) : 0 ≤ addC ct c ∧ addC ct c ≤ 2147483647 := by unfold addC; omega

structure It.Ok (many : Nat) (x : It) : Prop where
  id : -9223372036854775808 ≤ x.id ∧ x.id ≤ 9223372036854775807
  fl : -9223372036854775808 ≤ x.fl ∧ x.fl ≤ 9223372036854775807
  ct : 0 ≤ x.ct ∧ x.ct ≤ 2147483647
  pr : x.pr < many

def upIt (fl c : Int) (x : It) : It := { x with fl := bor x.fl fl, ct := addC x.ct c }
def hasI (L : List It) (k : Int) : Bool := L.any (·.id == k)
def putL (L : List It) (pr : Nat) (k fl c : Int) (bk : Nat) : List It := if hasI L k then L.map (fun x => if x.id = k then upIt fl c x else x) else L ++ [upIt fl c ⟨k, 0, 0, pr, bk⟩]
def cutL (L : List It) (k : Int) : List It := L.filter (·.id ≠ k)
def moveL (L : List It) (k : Int) (pr : Nat) : List It :=
  match L.find? (·.id = k) with
  | none => L
  | some x => if x.pr = pr then L else cutL L k ++ [{ x with pr := pr }]
/-- The most urgent priority that has an item. -/
def leastL (L : List It) : Option Nat := L.foldl (fun o x => match o with | none => some x.pr | some p => some (min p x.pr)) none
def leastI (L : List It) : Int := match leastL L with | none => -1 | some p => p
def batchL (L : List It) : List It := match leastL L with | none => [] | some p => ofP L p
def restL (L : List It) : List It := match leastL L with | none => L | some p => L.filter (·.pr ≠ p)

def placeF (L : List It) (k : Int) : Option Nat := (L.find? (·.id = k)).map (·.bk)
def updP (f : Int → Option Nat) (k : Int) (v : Option Nat) : Int → Option Nat := fun j => if j = k then v else f j

section
variable {L M N : List It} {x : It} {k : Int} {many : Nat}
theorem hasI_iff : hasI L k = true ↔ ∃ x ∈ L, x.id = k := by simp [hasI]
theorem hasI_false : hasI L k = false ↔ ∀ x ∈ L, x.id ≠ k := by simp [hasI]
theorem split_id (h : hasI L k = true) : ∃ M x N, L = M ++ x :: N ∧ x.id = k := by
  obtain ⟨x, hx, e⟩ := hasI_iff.1 h
  obtain ⟨M, N, rfl⟩ := List.append_of_mem hx
  exact ⟨M, x, N, rfl, e⟩
theorem ids_split (h : ((M ++ x :: N).map (·.id)).Nodup) : (∀ y ∈ M, y.id ≠ x.id) ∧ (∀ y ∈ N, y.id ≠ x.id) ∧ ((M ++ N).map (·.id)).Nodup := by
  simp only [List.map_append, List.map_cons] at h ⊢
  have h2 : (x.id :: (M.map (·.id) ++ N.map (·.id))).Nodup := (List.perm_middle.nodup_iff).1 h
  have h3 := (List.nodup_cons.1 h2).1
  exact ⟨fun y hy e => h3 (List.mem_append_left _ (List.mem_map.2 ⟨y, hy, e⟩)), fun y hy e => h3 (List.mem_append_right _ (List.mem_map.2 ⟨y, hy, e⟩)), (List.nodup_cons.1 h2).2⟩
theorem find_split (h : ((M ++ x :: N).map (·.id)).Nodup) : (M ++ x :: N).find? (·.id = x.id) = some x := by
  rw [List.find?_append, List.find?_eq_none.2 (fun y hy => by simpa using (ids_split h).1 y hy)]
  simp
theorem find_none (h : hasI L k = false) : L.find? (·.id = k) = none := List.find?_eq_none.2 fun y hy => by simpa using hasI_false.1 h y hy
theorem place_split (h : ((M ++ x :: N).map (·.id)).Nodup) : placeF (M ++ x :: N) x.id = some x.bk := by unfold placeF; rw [find_split h]; rfl
theorem place_none (h : hasI L k = false) : placeF L k = none := by unfold placeF; rw [find_none h]; rfl
theorem place_drop (h : ((M ++ x :: N).map (·.id)).Nodup) : placeF (M ++ N) = updP (placeF (M ++ x :: N)) x.id none := by
  funext j
  unfold updP placeF
  by_cases e : j = x.id
  · subst e
    rw [if_pos rfl, List.find?_eq_none.2]; rfl
    intro y hy
    rcases List.mem_append.1 hy with hy | hy
    · simpa using (ids_split h).1 y hy
    · simpa using (ids_split h).2.1 y hy
  · rw [if_neg e, List.find?_append, List.find?_append, List.find?_cons_of_neg (by simpa using fun e2 => e e2.symm)]
theorem place_snoc (h : hasI L x.id = false) : placeF (L ++ [x]) = updP (placeF L) x.id (some x.bk) := by
  funext j
  unfold updP placeF
  rw [List.find?_append]
  by_cases e : j = x.id
  · subst e
    rw [if_pos rfl, find_none h]; simp
  · rw [if_neg e, List.find?_cons_of_neg (by simpa using fun e2 => e e2.symm)]
    simp
theorem place_up (x' : It) (h1 : x'.id = x.id) (h2 : x'.bk = x.bk) : placeF (M ++ x' :: N) = placeF (M ++ x :: N) := by
  funext j
  unfold placeF
  rw [List.find?_append, List.find?_append, List.find?_cons, List.find?_cons, h1]
  cases M.find? (·.id = j) <;> simp
  by_cases e : x.id = j <;> simp [e, h2]
theorem cut_split (h : ((M ++ x :: N).map (·.id)).Nodup) : cutL (M ++ x :: N) x.id = M ++ N := by
  unfold cutL
  rw [List.filter_append, List.filter_cons, List.filter_eq_self.2 (fun y hy => by simpa using (ids_split h).1 y hy), List.filter_eq_self.2 (fun y hy => by simpa using (ids_split h).2.1 y hy)]
  simp
theorem cut_none (h : hasI L k = false) : cutL L k = L := List.filter_eq_self.2 fun y hy => by simpa using hasI_false.1 h y hy
theorem put_split (h : ((M ++ x :: N).map (·.id)).Nodup) (pr : Nat) (fl c : Int) (bk : Nat) : putL (M ++ x :: N) pr x.id fl c bk = M ++ upIt fl c x :: N := by
  have hh : hasI (M ++ x :: N) x.id = true := hasI_iff.2 ⟨x, by simp, rfl⟩
  unfold putL
  rw [if_pos hh, List.map_append, List.map_cons, if_pos rfl]
  congr 1
  · exact (List.map_congr_left (fun y hy => if_neg ((ids_split h).1 y hy))).trans (List.map_id _)
  · congr 1
    exact (List.map_congr_left (fun y hy => if_neg ((ids_split h).2.1 y hy))).trans (List.map_id _)
theorem put_new (h : hasI L k = false) (pr : Nat) (fl c : Int) (bk : Nat) : putL L pr k fl c bk = L ++ [upIt fl c ⟨k, 0, 0, pr, bk⟩] := by
  unfold putL; rw [h]; rfl
theorem move_split (h : ((M ++ x :: N).map (·.id)).Nodup) (pr : Nat) : moveL (M ++ x :: N) x.id pr = if x.pr = pr then M ++ x :: N else M ++ N ++ [{ x with pr := pr }] := by
  unfold moveL
  rw [find_split h]
  dsimp only
  rw [cut_split h]

/-- The smallest priority: none that is smaller has an item. -/
theorem least_fold : ∀ (L : List It) (o : Option Nat), (L.foldl (fun o x => match o with | none => some x.pr | some p => some (min p x.pr)) o = none ↔ o = none ∧ L = []) ∧
    ∀ p, L.foldl (fun o x => match o with | none => some x.pr | some p => some (min p x.pr)) o = some p → (o = some p ∨ ∃ x ∈ L, x.pr = p) ∧ (∀ q, o = some q → p ≤ q) ∧ ∀ x ∈ L, p ≤ x.pr
  | [], o => by
    refine ⟨by simp, fun p h => ⟨.inl h, fun q hq => ?_, fun x hx => by simp at hx⟩⟩
    rw [List.foldl_nil, hq] at h
    injection h with h; omega
  | x :: L, o => by
    rw [List.foldl_cons]
    cases o with
    | none =>
      obtain ⟨h1, h2⟩ := least_fold L (some x.pr)
      refine ⟨by rw [h1]; simp, fun p h => ?_⟩
      obtain ⟨a, b, c⟩ := h2 p h
      refine ⟨.inr ?_, fun q hq => by simp at hq, fun y hy => ?_⟩
      · rcases a with a | ⟨y, hy, e⟩
        · injection a with a; exact ⟨x, by simp, a⟩
        · exact ⟨y, List.mem_cons_of_mem _ hy, e⟩
      · rcases List.mem_cons.1 hy with rfl | hy
        · exact b _ rfl
        · exact c y hy
    | some q0 =>
      obtain ⟨h1, h2⟩ := least_fold L (some (min q0 x.pr))
      refine ⟨by rw [h1]; simp, fun p h => ?_⟩
      obtain ⟨a, b, c⟩ := h2 p h
      have b' := b _ rfl
      refine ⟨?_, fun q hq => by injection hq with hq; omega, fun y hy => ?_⟩
      · rcases a with a | ⟨y, hy, e⟩
        · injection a with a
          by_cases hq : q0 ≤ x.pr
          · exact .inl (by rw [← a, Nat.min_eq_left hq])
          · exact .inr ⟨x, by simp, by omega⟩
        · exact .inr ⟨y, List.mem_cons_of_mem _ hy, e⟩
      · rcases List.mem_cons.1 hy with rfl | hy
        · omega
        · exact c y hy
theorem least_none : leastL L = none ↔ L = [] := by unfold leastL; rw [(least_fold L none).1]; simp
theorem least_some {p : Nat} (h : leastL L = some p) : (∃ x ∈ L, x.pr = p) ∧ ∀ x ∈ L, p ≤ x.pr := by
  obtain ⟨a, _, c⟩ := (least_fold L none).2 p h
  rcases a with a | a
  · cases a
  · exact ⟨a, c⟩
theorem least_of {p : Nat} (h1 : ∃ x ∈ L, x.pr = p) (h2 : ∀ x ∈ L, p ≤ x.pr) : leastL L = some p := by
  cases e : leastL L with
  | none => rw [least_none] at e; subst e; obtain ⟨x, hx, _⟩ := h1; simp at hx
  | some q =>
    obtain ⟨⟨y, hy, ey⟩, hq⟩ := least_some e
    obtain ⟨x, hx, ex⟩ := h1
    have := hq x hx
    have := h2 y hy
    congr 1; omega
theorem ofP_mem {i : Nat} : x ∈ ofP L i ↔ x ∈ L ∧ x.pr = i := by simp [ofP]
theorem ofP_nil {i : Nat} (h : ∀ x ∈ L, x.pr ≠ i) : ofP L i = [] := List.filter_eq_nil_iff.2 fun x hx => by simpa using h x hx
end
end Go.Proofs.Ytlkmmbondelheaa
