/-
  clone: steps that share nothing with these.
-/
import Derived.Test.YtlephnfepofbbaaGreatDoorMsCl1
import Derived.Test.YtlephnfepofbbaaGreatDoorMvSteps
import Derived.Deep.RegionWith
namespace Go.Proofs.YtlephnfepofbbaaGreatDoor
open Go.RowKit Go.Shelf Go.Maps Go.ChangeMaps

theorem set_same {zs : List Value} {i : Nat} {u : Value} (h : zs[i]? = some u) : zs.set i u = zs := by
  obtain ⟨h1, h2⟩ := List.getElem?_eq_some_iff.1 h
  rw [← h2, List.set_getElem_self]
/-- A cell of a row of another kind. -/
theorem RowK.own_set_other {α : Type} {R : RowK Tryz.prog α} {W : World} {B : Nat} {v : Value} {xs : List α} (h : R.own W B v xs) {g : Nat} {t : TypeId} {cs : Array Value} {fz : Nat × Nat} (hg : W.heap[g]? = some (.cells cs t fz)) (ht : t ≠ R.e) (i : Nat) (u : Value) :
    R.own (W.setCell ⟨g, i, none⟩ u) B v xs := RowK.own_same h fun k e => by
  obtain ⟨c, fz', hk⟩ := Lib.ownsRow_kind h k e
  refine Below.heap_setCell _ _ _ _ (fun e2 => ?_)
  have e2 : k = g := e2
  subst e2
  rw [hk] at hg
  injection hg with hg
  injection hg with _ hg _
  exact ht hg.symm
theorem OwB.set_other {W : World} {B : Nat} {v : Value} {b : List UInt8} (h : OwB B W v b) {g : Nat} {t : TypeId} {cs : Array Value} {fz : Nat × Nat} (hg : W.heap[g]? = some (.cells cs t fz)) (ht : t ≠ 5) (i : Nat) (u : Value) : OwB B (W.setCell ⟨g, i, none⟩ u) v b := h.same fun k e _ => by
  obtain ⟨c, fz', hk⟩ := Lib.ownsRow_kind h k e
  refine Below.heap_setCell _ _ _ _ (fun e2 => ?_)
  have e2 : k = g := e2
  subst e2
  rw [hk] at hg
  injection hg with hg
  injection hg with _ hg _
  exact ht hg.symm
theorem blk_ne {W : World} {g k : Nat} {t t' : TypeId} {cs : Array Value} {c : Array Value} {fz : Nat × Nat} (h : Blk W g t cs) (hk : W.heap[k]? = some (.cells c t' fz)) (ht : t ≠ t') : g ≠ k := fun e => by
  subst e
  have h' : W.heap[g]? = _ := h
  rw [h'] at hk
  injection hk with hk
  injection hk with _ hk _
  exact ht hk
/-- A move's data laid anew. -/
theorem rm_data {W : World} {B g c : Nat} {ps : List Ms} {k : Nat} {p : Ms} (h : RM.own W B (.slice (some ⟨g, 0, none⟩) ps.length c) ps) (hp : ps[k]? = some p) (A : Option Addr) (a : Nat) :
    RM.own (W.setCell ⟨g, k * 4 + 3, none⟩ (.slice A p.m.b.length a)) B (.slice (some ⟨g, 0, none⟩) ps.length c) (ps.set k ⟨p.m, A, a⟩) := by
  have h1 := row_set h (k * 4 + 3) (.slice A p.m.b.length a)
  unfold RowK.own
  rw [List.length_set, RowK.all_set hp]
  have e : ∀ j, j < 4 → (RM.all ps)[k * 4 + j]? = (RM.enc p)[j]? := fun j hj => RM.all_at ps k p hp j hj
  have e0 := e 0 (by decide)
  have e1 := e 1 (by decide)
  have e2 := e 2 (by decide)
  have s0 : (RM.all ps).set (k * 4) (.int .i64 p.m.op) = RM.all ps := set_same e0
  have s1 : (RM.all ps).set (k * 4 + 1) (.int .i64 p.m.wire) = RM.all ps := set_same e1
  have s2 : (RM.all ps).set (k * 4 + 2) (.int .i64 p.m.n) = RM.all ps := set_same e2
  have es : setMany (RM.all ps) (k * RM.n) (RM.enc ⟨p.m, A, a⟩) = (RM.all ps).set (k * 4 + 3) (.slice A p.m.b.length a) := by
    show setMany ((RM.all ps).set (k * 4) (.int .i64 p.m.op)) (k * 4 + 1) [.int .i64 p.m.wire, .int .i64 p.m.n, .slice A p.m.b.length a] = _
    rw [s0]
    show setMany ((RM.all ps).set (k * 4 + 1) (.int .i64 p.m.wire)) (k * 4 + 1 + 1) [.int .i64 p.m.n, .slice A p.m.b.length a] = _
    rw [s1]
    show setMany ((RM.all ps).set (k * 4 + 2) (.int .i64 p.m.n)) (k * 4 + 2 + 1) [.slice A p.m.b.length a] = _
    rw [s2]; rfl
  rw [es]
  exact h1
/-- Steps' lengths that a Clone bears. -/
def Fits (l : List St) : Prop := l.length ≤ 90000000 ∧ ∀ x ∈ l, x.ord.length ≤ 90000000 ∧ x.mv.length ≤ 90000000 ∧ ∀ m ∈ x.mv, m.b.length ≤ 90000000
/-- What clone returns. -/
def CloR (l : List St) (w : World) (e : Ending) (w' : World) : Prop := ∃ v ps, e = .returned v ∧ PsR w.heap.size v ps w' ∧ ps.map Ss.x = l ∧ Below w.heap.size w w'
/-- Moves that come in, as the rows know them. -/
theorem ms_of {N : Nat} {W : World} {mv : Value} {ms : List Mo} (h : SrcM (Lt N) W mv ms) : ∃ (qs : List Ms) (A : Option Addr) (c : Nat), qs.map Ms.m = ms ∧ mv = .slice A qs.length c ∧ (A = none → c = 0 ∧ qs.length = 0) ∧ Sh (Lt N) W mv qs.length (RM.all qs) ∧ ∀ q ∈ qs, SrcB (Lt N) W q.v q.m.b := by
  obtain ⟨ps, e, hs, hb⟩ := h
  have hf : ∀ p : Mo × Value, p ∈ ps → ∃ q : Ms, q.m = p.1 ∧ q.v = p.2 := fun p hp => by
    obtain ⟨A, c, e, _⟩ := (hb p hp).form
    exact ⟨⟨p.1, A, c⟩, rfl, by show Value.slice A p.1.b.length c = p.2; rw [e]⟩
  have hq : ∃ qs : List Ms, qs.map (fun q => (q.m, q.v)) = ps := by
    clear hs hb e
    induction ps with
    | nil => exact ⟨[], rfl⟩
    | cons p ps ih =>
      obtain ⟨q, h1, h2⟩ := hf p (by simp)
      obtain ⟨qs, h3⟩ := ih (fun x hx => hf x (by simp [hx]))
      exact ⟨q :: qs, by simp [h1, h2, h3]⟩
  obtain ⟨qs, hqs⟩ := hq
  have hl : ps.length = qs.length := by rw [← hqs, List.length_map]
  have hall : ps.flatMap encM = RM.all qs := by rw [rm_all, hqs]
  rw [hl, hall] at hs
  obtain ⟨A, c, e1, h1, h2, h3, h4⟩ := hs
  refine ⟨qs, A, c, by rw [← e, ← hqs, List.map_map]; rfl, e1, fun hA => ?_, ⟨A, c, e1, h1, h2, h3, h4⟩, fun q hq => ?_⟩
  · have hc := h3 hA
    rw [hc] at h1
    exact ⟨hc, by omega⟩
  · have := hb (q.m, q.v) (by rw [← hqs]; exact List.mem_map.2 ⟨q, hq, rfl⟩)
    exact this
theorem sh_nil {N : Nat} {W : World} {A : Option Addr} {n c : Nat} {cs : List Value} (h : Sh (Lt N) W (.slice A n c) n cs) : A = none → c = 0 ∧ n = 0 := fun hA => by
  obtain ⟨A', c', e, h1, h2, h3, h4⟩ := h
  injection e with e1 e2 e3
  subst e1 e3
  have := h3 hA
  exact ⟨this, by omega⟩
end Go.Proofs.YtlephnfepofbbaaGreatDoor
