/-
  What a law keeps of its queues: a block of rows that it fills one by one; slices of small numbers that came in.
-/
import Derived.Test.YtlkmmbondelheaaPrLaw3
namespace Go.Proofs.Ytlkmmbondelheaa
open Go.RowKit Go.Maps Go.ChangeMaps Go.Shelf

/-- A slice of numbers that came in. -/
def ArgN (kd : IntKind) (hi : Int) (w : World) (A : Option Addr) (l : List Int) : Prop :=
  (∀ x ∈ l, 0 ≤ x ∧ x ≤ hi) ∧ (0 < l.length → ∃ b off, A = some ⟨b, off, none⟩ ∧ b < w.heap.size ∧ ∀ i x, l[i]? = some x → w.cell? ⟨b, off + i, none⟩ = some (.int kd x))
theorem ArgN.at_ {kd : IntKind} {hi : Int} {w wr : World} {A : Option Addr} {l : List Int} (h : ArgN kd hi w A l) (hb : Below w.heap.size w wr) {k : Nat} (hk : k < l.length) :
    ∃ b off x, A = some ⟨b, off, none⟩ ∧ b < w.heap.size ∧ l[k]? = some x ∧ (0 ≤ x ∧ x ≤ hi) ∧ wr.cell? ⟨b, off + k, none⟩ = some (.int kd x) := by
  obtain ⟨b, off, e, hlt, hc⟩ := h.2 (by omega)
  have hz := List.getElem?_eq_getElem hk
  exact ⟨b, off, _, e, hlt, hz, h.1 _ (List.mem_of_getElem? hz), (hb.cell (p := ⟨b, _, none⟩) hlt).trans (hc k _ hz)⟩

/-- A thing that lies elsewhere. -/
def Fb.off (g : Nat) : Fb → Prop
  | .blk g' _ _ => g' ≠ g
  | .row v _ => ∀ k, v.ownBlock = some k → k ≠ g
section
variable {w W W' : World} {h many g : Nat} {L : List It} {X : List Fb} {t : TypeId} {cs : Array Value}
theorem PS.store (H : PS w W h many L (.blk g t cs :: X)) (ho : ∀ f ∈ X, f.off g) (hg : w.heap.size ≤ g) (i : Nat) (u : Value) : PS w (W.setCell ⟨g, i, none⟩ u) h many L (.blk g t (cs.setIfInBounds i u) :: X) := by
  obtain ⟨B, Own, q, b, hB, hX⟩ := H
  have hgo := hX _ List.mem_cons_self
  have kp : Kept (fun k => k = g) W (W.setCell ⟨g, i, none⟩ u) := (Kept.refl (fun k => k = g) W).setCell (p := ⟨g, i, none⟩) rfl u
  refine ⟨B, Own, q.kept kp (fun j hj e => hgo.2 (e ▸ hj)), b.trans (kp.below (fun k e => by rw [e]; exact hg) b.size), hB, fun f hf => ?_⟩
  rcases List.mem_cons.1 hf with rfl | hf
  · exact ⟨hgo.1.set_ i u, hgo.2⟩
  · have hf1 := hX f (List.mem_cons_of_mem _ hf)
    have hf2 := ho f hf
    cases f with
    | blk g' t' cs' => exact ⟨hf1.1.kept kp hf2, hf1.2⟩
    | row v P => obtain ⟨B', r1, r2⟩ := hf1; exact ⟨B', r1.kept kp hf2, r2⟩
/-- List, and where its row lies. -/
theorem ps_list_off (H : PS w W h many L X) (p : Int) (hg : g < W.heap.size) : Calls Try.prog 25 #[.pointer (some ⟨h, 0, none⟩), .int .i64 p] W fun e w' => ∃ A c, e = .returned (.slice A (listP many L p).length c) ∧ PS w w' h many L (.row (.slice A (listP many L p).length c) (listP many L p) :: X) ∧ (Fb.row (.slice A (listP many L p).length c) (listP many L p)).off g := by
  obtain ⟨B, Own, q, b, hB, hX⟩ := id H
  refine (list_any q p).mono ?_
  rintro e w' ⟨v, rfl, hr, hb⟩
  obtain ⟨A, c, rfl, _⟩ := hr.form
  exact ⟨A, c, rfl, H.row hb hr, fun k e => by have := (hr.lt e).2; omega⟩
theorem PS.swap (H : PS w W h many L X) {Y : List Fb} (hs : ∀ f ∈ Y, f ∈ X) : PS w W h many L Y := H.less hs
end

/-- The first k rows are kept. -/
def KeptRows (L : List It) (k : Nat) (cs : Array Value) (X : List Fb) : Prop := ∀ j, j < k → ∃ A c, cs[j]? = some (.slice A (ofP L j).length c) ∧ Fb.row (.slice A (ofP L j).length c) (ofP L j) ∈ X
theorem KeptRows.next {L : List It} {k : Nat} {cs : Array Value} {X : List Fb} (h : KeptRows L k cs X) (hk : k < cs.size) {A : Option Addr} {c : Nat} :
    KeptRows L (k + 1) (cs.setIfInBounds k (.slice A (ofP L k).length c)) (.row (.slice A (ofP L k).length c) (ofP L k) :: X) := fun j hj => by
  by_cases e : j = k
  · subst e
    exact ⟨A, c, by simp [hk], List.mem_cons_self⟩
  · obtain ⟨A', c', h1, h2⟩ := h j (by omega)
    exact ⟨A', c', by rw [Array.getElem?_setIfInBounds_ne (by omega)]; exact h1, List.mem_cons_of_mem _ h2⟩
end Go.Proofs.Ytlkmmbondelheaa
