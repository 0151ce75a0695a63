/-
  How a heap's queue lies in memory: its two cells, its row of items, its map of places; what is kept when other blocks are written.
-/
import Derived.Test.YtncdohbdmpfefaaHpOrd
import Derived.Test.YtncdohbdmpfefaaCmMem
import Derived.Maps.OwnSet
import Derived.Laws.OwnMore
import Derived.Deep.Draws
import Derived.Laws.Rows
namespace Go.Proofs.Ytncdohbdmpfefaa
open Go.RowKit Go.Maps Go.ChangeMaps

/-- The map of places. -/
def Pm (w : World) (m n : Nat) (f : Int → Option Nat) : Prop :=
  ∃ D : DataW Unit, w.ownsMap Try.prog 3 (plainElem Try.prog 3) m n D ∧
    ∀ k, Maps.has D (.int .i64 k) = (f k).isSome ∧ ∀ v, f k = some v → D.atKey (.int .i64 k) (.lit (.int .i64 0)) = .lit (.int .i64 v)
theorem keyInt : Keyed Try.prog 3 := int_keyed Try.underlying3

def updF (f : Int → Option Nat) (k : Int) (v : Option Nat) : Int → Option Nat := fun j => if j = k then v else f j

section
variable {w w' : World} {m n : Nat} {f : Int → Option Nat}
theorem Pm.lt (h : Pm w m n f) : m < w.heap.size := let ⟨_, h, _⟩ := h; h.lt
theorem Pm.mono (h : Pm w m n f) {n' : Nat} (hn : n ≤ n') : Pm w m n' f := let ⟨D, h, r⟩ := h; ⟨D, h.mono hn, r⟩
theorem Pm.same (h : Pm w m n f) (e : w'.heap[m]? = w.heap[m]?) : Pm w' m n f := by
  obtain ⟨D, ⟨es, clock, hb, r⟩, q⟩ := h
  exact ⟨D, ⟨es, clock, e.trans hb, r⟩, q⟩
theorem Pm.kept {F : Nat → Prop} (h : Pm w m n f) (k : Kept F w w') (hf : ¬ F m) : Pm w' m n f := h.same (k.block m h.lt hf)
theorem Pm.made (w : World) : Pm (w.alloc (.map #[] 0)) w.heap.size 0 fun _ => none :=
  ⟨.map [], World.ownsMap_made _ _ _ _, fun k => ⟨rfl, fun v h => by cases h⟩⟩

theorem own_tight {k : TypeId} {R : Value → Option (DataW Unit × List MemPlace)} {P : Program} {b n : Nat} {D : DataW Unit} (h : w.ownsMap P k R b n D) : Maps.size D ≤ n ∧ w.ownsMap P k R b (Maps.size D) D := by
  obtain ⟨es, clock, hb, F, hs, rfl⟩ := h
  have e : es.size = Maps.size (DataW.map ((es.toList.map (WideElems.rg P k R)).foldr DataW.insert [])) := by
    rw [Maps.size_eq, length_sorted]
    simp
  exact ⟨by omega, es, clock, hb, F, by omega, rfl⟩
theorem lit_ne {a b : Int} (h : a ≠ b) : (Lit.int .i64 a) ≠ .int .i64 b := fun e => h (by injection e)
theorem Pm.upd {D : DataW Unit} (hD : IsMap D) (h : ∀ k, Maps.has D (.int .i64 k) = (f k).isSome ∧ ∀ v, f k = some v → D.atKey (.int .i64 k) (.lit (.int .i64 0)) = .lit (.int .i64 v)) (k : Int) (v : Nat) (hk : WideAt.IsKeyLit (.int .i64 k)) :
    ∀ j, Maps.has (D.put (.int .i64 k) (.lit (.int .i64 v))) (.int .i64 j) = (updF f k (some v) j).isSome ∧ ∀ u, updF f k (some v) j = some u → (D.put (.int .i64 k) (.lit (.int .i64 v))).atKey (.int .i64 j) (.lit (.int .i64 0)) = .lit (.int .i64 u) := by
  intro j
  unfold updF
  by_cases e : j = k
  · subst e
    rw [if_pos rfl]
    exact ⟨has_put_same hD hk _, fun u hu => by cases hu; exact atKey_put_same hD hk _ _⟩
  · rw [if_neg e]
    exact ⟨(has_put_other (lit_ne e) _).trans (h j).1, fun u hu => (atKey_put_other (lit_ne e) _ _).trans ((h j).2 u hu)⟩
theorem Pm.del {D : DataW Unit} (h : ∀ k, Maps.has D (.int .i64 k) = (f k).isSome ∧ ∀ v, f k = some v → D.atKey (.int .i64 k) (.lit (.int .i64 0)) = .lit (.int .i64 v)) (k : Int) :
    ∀ j, Maps.has (D.del (.int .i64 k)) (.int .i64 j) = (updF f k none j).isSome ∧ ∀ u, updF f k none j = some u → (D.del (.int .i64 k)).atKey (.int .i64 j) (.lit (.int .i64 0)) = .lit (.int .i64 u) := by
  intro j
  unfold updF
  by_cases e : j = k
  · subst e
    rw [if_pos rfl]
    exact ⟨has_del_same, fun u hu => by cases hu⟩
  · rw [if_neg e]
    exact ⟨(has_del_other (lit_ne e)).trans (h j).1, fun u hu => (atKey_del_other (lit_ne e) _).trans ((h j).2 u hu)⟩
end

/-- The queue: its block, its row, its map; all from block B on. -/
structure Qst (w : World) (B q m : Nat) (v : Value) (P : List It) (f : Int → Option Nat) (N : Nat) : Prop where
  blk : Blk w q 90 #[v, .map (some m)]
  row : w.ownsRow B 44 3 v P.length (P.flatMap encIt)
  pm : Pm w m N f
  hq : B ≤ q
  hm : B ≤ m
  hB : B ≤ w.heap.size
  ok : ∀ x ∈ P, x.Ok
  len : P.length ≤ 100000

/-- Its blocks. -/
def Fp (q m : Nat) (v : Value) (k : Nat) : Prop := k = q ∨ k = m ∨ v.ownBlock = some k

theorem enc_len (P : List It) : (P.flatMap encIt).length = P.length * 3 := by
  induction P with
  | nil => rfl
  | cons x P ih => simp only [List.flatMap_cons, List.length_append, List.length_cons, ih]; simp [encIt]; omega
theorem enc_at (P : List It) : ∀ (i : Nat) (x : It), P[i]? = some x → (P.flatMap encIt)[i * 3]? = some (.int .i64 x.id) ∧ (P.flatMap encIt)[i * 3 + 1]? = some (.int .u64 x.d) ∧ (P.flatMap encIt)[i * 3 + 2]? = some (.int .u64 x.n) := by
  induction P with
  | nil => intro i x h; simp at h
  | cons y P ih =>
    intro i x h
    have e : (List.flatMap encIt (y :: P)) = .int .i64 y.id :: .int .u64 y.d :: .int .u64 y.n :: P.flatMap encIt := by simp [encIt]
    rw [e]
    cases i with
    | zero => simp at h; subst h; exact ⟨rfl, rfl, rfl⟩
    | succ i =>
      have := ih i x (by simpa using h)
      rw [show (i + 1) * 3 = i * 3 + 3 from by omega]
      simpa [show i * 3 + 3 + 1 = i * 3 + 1 + 3 from by omega, show i * 3 + 3 + 2 = i * 3 + 2 + 3 from by omega] using this
theorem enc_set (P : List It) : ∀ (i : Nat) (x : It), i < P.length → (((P.flatMap encIt).set (i * 3) (.int .i64 x.id)).set (i * 3 + 1) (.int .u64 x.d)).set (i * 3 + 2) (.int .u64 x.n) = (P.set i x).flatMap encIt := by
  induction P with
  | nil => intro i x h; simp at h
  | cons y P ih =>
    intro i x h
    have e : (List.flatMap encIt (y :: P)) = .int .i64 y.id :: .int .u64 y.d :: .int .u64 y.n :: P.flatMap encIt := by simp [encIt]
    rw [e]
    cases i with
    | zero => simp [encIt]
    | succ i =>
      have := ih i x (by simpa using h)
      rw [show (i + 1) * 3 = i * 3 + 3 from by omega]
      simp [show i * 3 + 3 + 1 = i * 3 + 1 + 3 from by omega, show i * 3 + 3 + 2 = i * 3 + 2 + 3 from by omega, this, encIt]

section
variable {w w' : World} {B q m N : Nat} {v : Value} {P : List It} {f : Int → Option Nat}
theorem own_same {base : Nat} {e : TypeId} {size n : Nat} {xs : List Value} (h : w.ownsRow base e size v n xs) (hk : ∀ k, v.ownBlock = some k → w'.heap[k]? = w.heap[k]?) : w'.ownsRow base e size v n xs := by
  obtain ⟨h1, h2⟩ := h
  refine ⟨h1, ?_⟩
  rcases h2 with h2 | ⟨g, cap, cur, rfl, hg, hh, r⟩
  · exact .inl h2
  · exact .inr ⟨g, cap, cur, rfl, hg, (hk g rfl).trans hh, r⟩
theorem own_lt {base : Nat} {e : TypeId} {size n : Nat} {xs : List Value} (h : w.ownsRow base e size v n xs) {k : Nat} (hk : v.ownBlock = some k) : k < w.heap.size ∧ base ≤ k := by
  rcases h.2 with ⟨rfl, _⟩ | ⟨g, cap, cur, rfl, hg, hh, _⟩
  · cases hk
  · cases hk; exact ⟨(Array.getElem?_eq_some_iff.1 hh).1, hg⟩
theorem Qst.lt (h : Qst w B q m v P f N) {k : Nat} (hk : Fp q m v k) : k < w.heap.size ∧ B ≤ k := by
  rcases hk with rfl | rfl | hk
  · exact ⟨h.blk.lt, h.hq⟩
  · exact ⟨h.pm.lt, h.hm⟩
  · exact own_lt h.row hk
theorem Qst.same (h : Qst w B q m v P f N) (hk : ∀ k, Fp q m v k → w'.heap[k]? = w.heap[k]?) (hB : B ≤ w'.heap.size) : Qst w' B q m v P f N :=
  ⟨h.blk.same (hk q (.inl rfl)), own_same h.row (fun k e => hk k (.inr (.inr e))), h.pm.same (hk m (.inr (.inl rfl))), h.hq, h.hm, hB, h.ok, h.len⟩
theorem Qst.kept {F : Nat → Prop} (h : Qst w B q m v P f N) (k : Kept F w w') (hf : ∀ i, Fp q m v i → ¬ F i) : Qst w' B q m v P f N :=
  h.same (fun i hi => k.block i (h.lt hi).1 (hf i hi)) (Nat.le_trans h.hB k.size)
/-- The three blocks differ. -/
theorem Qst.ne (h : Qst w B q m v P f N) : q ≠ m ∧ v.ownBlock ≠ some q ∧ v.ownBlock ≠ some m := by
  obtain ⟨D, ⟨es, clock, hb, _⟩, _⟩ := h.pm
  have hq := h.blk
  refine ⟨fun e => ?_, fun e => ?_, fun e => ?_⟩
  · subst e; unfold Blk at hq; rw [hb] at hq; cases hq
  · rcases h.row.2 with ⟨rfl, _⟩ | ⟨g, cap, cur, rfl, _, hh, _⟩
    · cases e
    · cases e; unfold Blk at hq; rw [hh] at hq; injection hq with hq; injection hq with _ ht; revert ht; decide
  · rcases h.row.2 with ⟨rfl, _⟩ | ⟨g, cap, cur, rfl, _, hh, _⟩
    · cases e
    · cases e; rw [hb] at hh; cases hh
/-- What a walk reads of a queue that is not empty. -/
theorem Qst.form (h : Qst w B q m v P f N) (hn : 0 < P.length) : ∃ g cap, v = .slice (some ⟨g, 0, none⟩) P.length cap ∧ P.length ≤ cap ∧ g < w.heap.size ∧ B ≤ g ∧ (∀ j, w.frozen? ⟨g, j, none⟩ = false) ∧
    ∀ i x, P[i]? = some x → w.cell? ⟨g, i * 3, none⟩ = some (.int .i64 x.id) ∧ w.cell? ⟨g, i * 3 + 1, none⟩ = some (.int .u64 x.d) ∧ w.cell? ⟨g, i * 3 + 2, none⟩ = some (.int .u64 x.n) := by
  have hr := h.row
  rcases hr.2 with ⟨_, hz⟩ | ⟨g, cap, cur, rfl, hg, hh, hc, _⟩
  · omega
  · refine ⟨g, cap, rfl, hc, (Array.getElem?_eq_some_iff.1 hh).1, hg, fun j => hr.frozenAt j, fun i x hx => ?_⟩
    have hi : i < P.length := (List.getElem?_eq_some_iff.1 hx).1
    obtain ⟨e0, e1, e2⟩ := enc_at P i x hx
    exact ⟨(hr.cellAt _ (by omega)).trans e0, (hr.cellAt _ (by omega)).trans e1, (hr.cellAt _ (by omega)).trans e2⟩
end
end Go.Proofs.Ytncdohbdmpfefaa
