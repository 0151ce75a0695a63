/-
  Rows of structs of one kind, of any program: what lies in them, at any offset; append; a store of one of them.
-/
import Derived.Test.YtjejpgognfadoaaGreatDoorCmMem
import Derived.Maps.AppendAt
import Derived.Laws.AppendOwnNone
import Derived.Deep.AppendLies
namespace Go.Proofs.YtjejpgognfadoaaGreatDoor
open Go.RowKit Go.Maps Go.ChangeMaps

/-- A kind of struct: its type, its slices' type, its cells. -/
structure RowK (P : Program) (α : Type) where
  e : TypeId
  s : TypeId
  n : Nat
  bytes : Nat
  zero : Value
  enc : α → List Value
  pos : 0 < n
  by_ : bytes ≤ 1000
  len : ∀ x, (enc x).length = n
  one : ∀ x, ∀ u ∈ enc x, u.oneCell' = true
  und : P.underlying s = some (.slice e)
  info : (P.info? e).map (fun i => (i.zero, i.size, i.bytes)) = some (some zero, n, bytes)
  zs : zero.cells.size = n

theorem row_info {o : Option TypeInfo} {z : Option Value} {s b : Nat} (h : o.map (fun i => (i.zero, i.size, i.bytes)) = some (z, s, b)) : ∃ i, o = some i ∧ i.zero = z ∧ i.size = s ∧ i.bytes = b := by
  cases o with
  | none => cases h
  | some i =>
    simp only [Option.map_some, Option.some.injEq, Prod.mk.injEq] at h
    exact ⟨i, rfl, h.1, h.2.1, h.2.2⟩

section
variable {P : Program} {α : Type} (R : RowK P α)
/-- All cells, one behind the other. -/
def RowK.all (xs : List α) : List Value := xs.flatMap R.enc
theorem RowK.all_len (xs : List α) : (R.all xs).length = xs.length * R.n := by
  unfold RowK.all
  induction xs with
  | nil => simp
  | cons x xs ih => rw [List.flatMap_cons, List.length_append, ih, R.len, List.length_cons, Nat.succ_mul, Nat.add_comm]
theorem RowK.all_append (xs ys : List α) : R.all (xs ++ ys) = R.all xs ++ R.all ys := by simp [RowK.all]
theorem RowK.all_at : ∀ (xs : List α) (i : Nat) (x : α), xs[i]? = some x → ∀ j, j < R.n → (R.all xs)[i * R.n + j]? = (R.enc x)[j]?
  | [], i, x, h, _, _ => by simp at h
  | y :: xs, 0, x, h, j, hj => by
    simp at h; subst h
    unfold RowK.all
    rw [List.flatMap_cons, List.getElem?_append_left (by rw [R.len]; omega)]
    simp
  | y :: xs, i + 1, x, h, j, hj => by
    have ih := RowK.all_at xs i x (by simpa using h) j hj
    unfold RowK.all at ih ⊢
    rw [List.flatMap_cons, List.getElem?_append_right (by rw [R.len, Nat.succ_mul]; omega), R.len, ← ih]
    congr 1
    rw [Nat.succ_mul]; omega
theorem RowK.all_one (xs : List α) : ∀ u ∈ R.all xs, u.oneCell' = true := fun u hu => by
  obtain ⟨x, _, hx⟩ := List.mem_flatMap.1 hu
  exact R.one x u hx

/-- A slice value that owns its row. -/
def RowK.own (w : World) (B : Nat) (v : Value) (xs : List α) : Prop := w.ownsRow B R.e R.n v xs.length (R.all xs)
/-- What lies at an offset of a block. -/
def RowK.lies (w : World) (g off : Nat) (xs : List α) : Prop := ∀ i x, xs[i]? = some x → ∀ j, j < R.n → w.cell? ⟨g, off + (i * R.n + j), none⟩ = (R.enc x)[j]?
/-- A slice that shows these, wherever. -/
def RowK.shows (w : World) (A : Option Addr) (xs : List α) : Prop := 0 < xs.length → ∃ g off, A = some ⟨g, off, none⟩ ∧ g < w.heap.size ∧ R.lies w g off xs
variable {R}
variable {w w' : World} {g off B : Nat} {v : Value} {A : Option Addr} {xs ys : List α}
theorem RowK.lies_same (h : R.lies w g off xs) (e : w'.heap[g]? = w.heap[g]?) : R.lies w' g off xs := fun i x hx j hj => (World.cell?_of_block e).trans (h i x hx j hj)
theorem RowK.lies_take (h : R.lies w g off xs) (k : Nat) : R.lies w g off (xs.take k) := fun i x hx j hj => by
  rw [List.getElem?_take] at hx
  split at hx
  · exact h i x hx j hj
  · cases hx
theorem RowK.lies_drop (h : R.lies w g off xs) (k : Nat) : R.lies w g (off + k * R.n) (xs.drop k) := fun i x hx j hj => by
  rw [List.getElem?_drop] at hx
  have := h (k + i) x hx j hj
  rw [Nat.add_mul] at this
  rw [show off + k * R.n + (i * R.n + j) = off + (k * R.n + i * R.n + j) by omega]
  exact this
theorem RowK.shows_same (h : R.shows w A xs) (e : ∀ g, A.map (·.block) = some g → w'.heap[g]? = w.heap[g]?) (hs : w.heap.size ≤ w'.heap.size) : R.shows w' A xs := fun h0 => by
  obtain ⟨g, off, rfl, hg, hl⟩ := h h0
  exact ⟨g, off, rfl, Nat.lt_of_lt_of_le hg hs, RowK.lies_same hl (e g rfl)⟩
theorem RowK.shows_below (h : R.shows w A xs) (hb : Below w.heap.size w w') : R.shows w' A xs := fun h0 => by
  obtain ⟨g, off, rfl, hg, hl⟩ := h h0
  exact ⟨g, off, rfl, Nat.lt_of_lt_of_le hg hb.size, RowK.lies_same hl (hb.block g hg)⟩
theorem RowK.shows_nil : R.shows w A [] := fun h => by simp at h
theorem RowK.own_nil (w : World) (B : Nat) : R.own w B (.slice none 0 0) [] := World.ownsRow_nil _ _ _ _
theorem row_own_same {base : Nat} {e : TypeId} {size n : Nat} {zs : List Value} (h : w.ownsRow base e size v n zs) (hk : ∀ k, v.ownBlock = some k → w'.heap[k]? = w.heap[k]?) : w'.ownsRow base e size v n zs := by
  refine ⟨h.1, ?_⟩
  rcases h.2 with h2 | ⟨g, cap, cur, rfl, hb, hg, rest⟩
  · exact .inl h2
  · exact .inr ⟨g, cap, cur, rfl, hb, (hk g rfl).trans hg, rest⟩
theorem RowK.own_same (h : R.own w B v xs) (hk : ∀ k, v.ownBlock = some k → w'.heap[k]? = w.heap[k]?) : R.own w' B v xs := row_own_same h hk
theorem RowK.own_lt (h : R.own w B v xs) {k : Nat} (hk : v.ownBlock = some k) : k < w.heap.size ∧ B ≤ k := by
  rcases h.2 with ⟨e, _⟩ | ⟨g, cap, cur, rfl, hb, hg, _⟩
  · rw [e] at hk; cases hk
  · have e : g = k := Option.some.inj hk
    subst e
    exact ⟨(Array.getElem?_eq_some_iff.1 hg).1, hb⟩
theorem RowK.own_below (h : R.own w B v xs) (hb : Below w.heap.size w w') : R.own w' B v xs := RowK.own_same h fun k e => hb.block k (RowK.own_lt h e).1
theorem RowK.own_kept {F : Nat → Prop} (h : R.own w B v xs) (k : Kept F w w') (ha : ∀ i, v.ownBlock = some i → ¬ F i) : R.own w' B v xs := RowK.own_same h fun i e => k.block i (RowK.own_lt h e).1 (ha i e)
theorem RowK.own_more {B' : Nat} (h : R.own w B v xs) (hB : B' ≤ B) : R.own w B' v xs := by
  refine ⟨h.1, ?_⟩
  rcases h.2 with h2 | ⟨g, cap, cur, rfl, hb, r⟩
  · exact .inl h2
  · exact .inr ⟨g, cap, cur, rfl, Nat.le_trans hB hb, r⟩
/-- What a walk reads of a row of its own. -/
theorem RowK.own_form (h : R.own w B v xs) : (v = .slice none 0 0 ∧ xs = []) ∨ ∃ g c, v = .slice (some ⟨g, 0, none⟩) xs.length c ∧ xs.length ≤ c ∧ g < w.heap.size ∧ B ≤ g ∧ R.lies w g 0 xs := by
  rcases h.2 with ⟨rfl, hn⟩ | ⟨g, cap, cur, rfl, hg, hh, hc, r⟩
  · exact .inl ⟨rfl, List.eq_nil_of_length_eq_zero (by simpa using hn)⟩
  · right
    refine ⟨g, cap, rfl, hc, (Array.getElem?_eq_some_iff.1 hh).1, hg, fun i x hx j hj => ?_⟩
    have hi : i < xs.length := (List.getElem?_eq_some_iff.1 hx).1
    have hlt : i * R.n + j < xs.length * R.n := by
      have : (i + 1) * R.n ≤ xs.length * R.n := Nat.mul_le_mul_right _ (by omega)
      rw [Nat.succ_mul] at this; omega
    rw [Nat.zero_add]
    exact (World.ownsRow.cellAt h _ hlt).trans (R.all_at xs i x hx j hj)
theorem RowK.own_shows (h : R.own w B v xs) : ∃ A c, v = .slice A xs.length c ∧ R.shows w A xs ∧ (A = none → c = 0 ∧ xs.length = 0) ∧ xs.length ≤ c := by
  rcases RowK.own_form h with ⟨rfl, rfl⟩ | ⟨g, c, rfl, hc, hg, _, hl⟩
  · exact ⟨none, 0, rfl, RowK.shows_nil, fun _ => ⟨rfl, rfl⟩, Nat.le_refl _⟩
  · exact ⟨_, c, rfl, fun _ => ⟨g, 0, rfl, hg, hl⟩, (fun e => by cases e), hc⟩
theorem RowK.own_slice (h : R.own w B v xs) : ∃ A n c, v = .slice A n c := by
  obtain ⟨A, c, e, _⟩ := RowK.own_shows h
  exact ⟨A, _, c, e⟩

/-- A new block of one of them. -/
theorem RowK.lies_new (w : World) (x : α) (t : TypeId) : R.lies (w.alloc (.cells (R.enc x).toArray t)) w.heap.size 0 [x] := fun i y hy j hj => by
  match i, hy with
  | 0, hy =>
    simp at hy; subst hy
    rw [show (0 + (0 * R.n + j)) = j by omega, cell_of_row _ _ j _ t (0, 0) (heap_alloc_new w _)]
    simp

/-- append(s, x...): s owns its row, x shows what it shows, wherever. -/
theorem RowK.append {ops : Array Oper} {rest : List Oper} {o : Oper} {a : Act} {Q : Exit → Act → World → Prop} (hgd : o.guard = none) (s x : Operand)
    (ho : o.op = .call { callee := .builtin .append, args := #[s, x], argTypes := #[R.s, R.s] })
    (B : Nat) (v : Value) (xs ys : List α) (hs : a.eval s = v) (hown : R.own w B v xs) (A : Option Addr) (n c : Nat) (hn : n = ys.length) (hx : a.eval x = .slice A n c) (hr : R.shows w A ys) (hc : A = none → c = 0 ∧ ys.length = 0) (hlen : xs.length + ys.length ≤ 100000000) (hB : B ≤ w.heap.size)
    (h : ∀ v' w', R.own w' B v' (xs ++ ys) → w.grownBy w' v.ownBlock → (v'.ownBlock = v.ownBlock ∨ v'.ownBlock = some w.heap.size) → wpList P ops Q rest (a.put o.dst v') w') : wpList P ops Q (o :: rest) a w := by
  subst hn
  obtain ⟨i0, hi, hz0, hz1, hz2⟩ := row_info R.info
  have hb := R.by_
  have hbig : (xs.length + ys.length) * R.bytes ≤ 140737488355328 := by
    have := Nat.mul_le_mul hlen hb
    omega
  cases A with
  | none =>
    obtain ⟨rfl, h0⟩ := hc rfl
    have hR : ys = [] := List.eq_nil_of_length_eq_zero h0
    subst hR
    exact wpList_append_own_none hgd s x _ ho B _ i0 R.n R.und hi v xs.length _ hs hown hx (h v w (by rw [List.append_nil]; exact hown) (World.grownBy.refl w _) (.inl rfl))
  | some ad =>
    refine wpList_append_own_at w hgd s x _ ho B _ i0 _ R.n R.bytes R.und hi hz0 hz1 hz2 R.zs R.pos v xs.length _ hs hown ad ys.length c (R.all ys) hx (R.all_len ys) (fun j u hu => ?_) (R.all_one ys) (by unfold maxLen; omega) hbig hB
      (fun v' w' h1 h2 h3 h4 => h v' w' (by unfold RowK.own; rw [List.length_append, R.all_append]; exact h1) h2 h4)
    have hj : j < ys.length * R.n := by have := (List.getElem?_eq_some_iff.1 hu).1; rw [R.all_len] at this; exact this
    have hy : 0 < ys.length := by
      rcases Nat.eq_zero_or_pos ys.length with e | e
      · rw [e] at hj; omega
      · exact e
    obtain ⟨g, off, e, _, hl⟩ := hr hy
    cases e
    have hadd : (⟨g, off, none⟩ : Addr).add j = ⟨g, off + j, none⟩ := by unfold Addr.add; split <;> simp_all
    have hp := R.pos
    have hq : j / R.n < ys.length := Nat.div_lt_of_lt_mul (by rw [Nat.mul_comm]; exact hj)
    have hm : j % R.n < R.n := Nat.mod_lt _ hp
    have hx := List.getElem?_eq_getElem hq
    have e1 := hl _ _ hx _ hm
    have e2 := R.all_at ys _ _ hx _ hm
    have ej : j / R.n * R.n + j % R.n = j := Nat.div_add_mod' j R.n
    rw [ej] at e1 e2
    rw [hadd, e1, ← e2, hu]
end

/-- append(s, x...) inside a region that draws its order: something is appended. -/
theorem RowK.step_append {P : Program} {α : Type} {R : RowK P α} {w : World} {ops : Array Oper} {o : Oper} {a : Act} {K : Act → World → Prop} {Q : Exit → Act → World → Prop} {E : Prop} (hgd : o.guard = none) (s x : Operand)
    (ho : o.op = .call { callee := .builtin .append, args := #[s, x], argTypes := #[R.s, R.s] })
    (B : Nat) (v : Value) (xs ys : List α) (hs : a.eval s = v) (hown : R.own w B v xs) (ad : Addr) (n c : Nat) (hn : n = ys.length) (hx : a.eval x = .slice (some ad) n c) (hr : R.shows w (some ad) ys) (h0 : 0 < n) (hlen : xs.length + ys.length ≤ 100000000) (hB : B ≤ w.heap.size) (H : Nat) (hH : w.heap.size = H)
    (h : ∀ g cap w', R.own w' B (.slice (some ⟨g, 0, none⟩) (xs.length + n) cap) (xs ++ ys) → w.grownBy w' v.ownBlock → (v.ownBlock = some g ∨ g = H) → g < w'.heap.size → K (a.put o.dst (.slice (some ⟨g, 0, none⟩) (xs.length + n) cap)) w') :
    if Region.wanted o (yielded ops a.tmps) = true then Oper.wp P o a w K Q else E := by
  subst hn
  obtain ⟨i0, hi, hz0, hz1, hz2⟩ := row_info R.info
  have hb := R.by_
  have hbig : (xs.length + ys.length) * R.bytes ≤ 140737488355328 := by
    have := Nat.mul_le_mul hlen hb
    omega
  obtain ⟨g, off, e, _, hl⟩ := hr h0
  cases e
  refine step_append_lies w hgd s x _ ho B _ i0 _ R.n R.bytes R.und hi hz0 hz1 hz2 R.zs R.pos v xs.length _ hs hown ⟨g, off, none⟩ ys.length c (R.all ys) hx (R.all_len ys) (fun j u hu => ?_) (R.all_one ys) h0 (by unfold maxLen; omega) hbig hB H hH
    (fun g cap w' h1 h2 h3 h4 => h g cap w' (by unfold RowK.own; rw [List.length_append, R.all_append]; exact h1) h2 h3 h4)
  have hj : j < ys.length * R.n := by have := (List.getElem?_eq_some_iff.1 hu).1; rw [R.all_len] at this; exact this
  have hadd : (⟨g, off, none⟩ : Addr).add j = ⟨g, off + j, none⟩ := by unfold Addr.add; split <;> simp_all
  have hp := R.pos
  have hq : j / R.n < ys.length := Nat.div_lt_of_lt_mul (by rw [Nat.mul_comm]; exact hj)
  have hm : j % R.n < R.n := Nat.mod_lt _ hp
  have hx := List.getElem?_eq_getElem hq
  have e1 := hl _ _ hx _ hm
  have e2 := R.all_at ys _ _ hx _ hm
  have ej : j / R.n * R.n + j % R.n = j := Nat.div_add_mod' j R.n
  rw [ej] at e1 e2
  rw [hadd, e1, ← e2, hu]

/-- Cells laid one behind the other, from a place on. -/
def setMany (zs : List Value) (off : Nat) : List Value → List Value
  | [] => zs
  | u :: us => setMany (zs.set off u) (off + 1) us
theorem setMany_mid : ∀ (us pre bs zs : List Value), bs.length = us.length → setMany (pre ++ (bs ++ zs)) pre.length us = pre ++ (us ++ zs)
  | [], pre, [], zs, _ => rfl
  | u :: us, pre, b :: bs, zs, h => by
    show setMany ((pre ++ (b :: bs ++ zs)).set pre.length u) (pre.length + 1) us = _
    rw [List.set_append_right _ _ (Nat.le_refl _), Nat.sub_self]
    show setMany (pre ++ (u :: (bs ++ zs))) (pre.length + 1) us = _
    have := setMany_mid us (pre ++ [u]) bs zs (by simpa using h)
    simpa using this
theorem RowK.all_set {P : Program} {α : Type} {R : RowK P α} {xs : List α} {j : Nat} {y : α} (hy : xs[j]? = some y) (x : α) : R.all (xs.set j x) = setMany (R.all xs) (j * R.n) (R.enc x) := by
  obtain ⟨hj, ey⟩ := List.getElem?_eq_some_iff.1 hy
  have e1 : xs = xs.take j ++ y :: xs.drop (j + 1) := by
    rw [← ey, List.getElem_cons_drop, List.take_append_drop]
  have e2 : xs.set j x = xs.take j ++ x :: xs.drop (j + 1) := List.set_eq_take_append_cons_drop.trans (if_pos hj)
  have hl : (R.all (xs.take j)).length = j * R.n := by rw [R.all_len, List.length_take, Nat.min_eq_left (Nat.le_of_lt hj)]
  rw [e2]
  conv => rhs; rw [e1]
  have c : ∀ z : α, R.all (xs.take j ++ z :: xs.drop (j + 1)) = R.all (xs.take j) ++ (R.enc z ++ R.all (xs.drop (j + 1))) := fun z => by
    rw [R.all_append]; rfl
  rw [c, c, ← hl, setMany_mid _ _ _ _ (by rw [R.len, R.len])]
/-- One cell of a row laid anew. -/
theorem row_set {w : World} {base : Nat} {e : TypeId} {size n g cap : Nat} {zs : List Value} (h : w.ownsRow base e size (.slice (some ⟨g, 0, none⟩) n cap) n zs) (i : Nat) (u : Value) :
    (w.setCell ⟨g, i, none⟩ u).ownsRow base e size (.slice (some ⟨g, 0, none⟩) n cap) n (zs.set i u) := by
  refine ⟨by rw [List.length_set]; exact h.1, ?_⟩
  rcases h.2 with ⟨e, _⟩ | ⟨g', cap', cur, e, hb, hg, h1, h2, h3, h4⟩
  · cases e
  · injection e with e1 e2 e3
    injection e1 with e1
    injection e1 with e1
    subst e1; subst e3
    have hb2 : Blk w g _ cur := hg
    refine .inr ⟨g, cap, _, rfl, hb, hb2.set_ i u, h1, h2, by simpa using h3, ?_⟩
    rw [Array.toList_setIfInBounds, List.take_set, h4]
theorem row_setMany {base : Nat} {e : TypeId} {size n g cap : Nat} : ∀ (us : List Value) {w : World} {zs : List Value} (_ : w.ownsRow base e size (.slice (some ⟨g, 0, none⟩) n cap) n zs) (i : Nat),
    ((us.foldl (fun (p : World × Nat) u => (p.1.setCell ⟨g, p.2, none⟩ u, p.2 + 1)) (w, i)).1).ownsRow base e size (.slice (some ⟨g, 0, none⟩) n cap) n (setMany zs i us)
  | [], _, _, h, _ => h
  | u :: us, _, _, h, i => row_setMany us (row_set h i u) (i + 1)
/-- One of them laid anew. -/
theorem RowK.own_set {P : Program} {α : Type} {R : RowK P α} {w : World} {B g c : Nat} {xs : List α} {j : Nat} {y : α} (h : R.own w B (.slice (some ⟨g, 0, none⟩) xs.length c) xs) (hy : xs[j]? = some y) (x : α) :
    R.own (((R.enc x).foldl (fun (p : World × Nat) u => (p.1.setCell ⟨g, p.2, none⟩ u, p.2 + 1)) (w, j * R.n)).1) B (.slice (some ⟨g, 0, none⟩) xs.length c) (xs.set j x) := by
  unfold RowK.own
  rw [List.length_set, RowK.all_set hy]
  exact row_setMany (R.enc x) h _
theorem RowK.own_frozen {P : Program} {α : Type} {R : RowK P α} {w : World} {B g c : Nat} {xs : List α} (h : R.own w B (.slice (some ⟨g, 0, none⟩) xs.length c) xs) (i : Nat) : w.frozen? ⟨g, i, none⟩ = false := World.ownsRow.frozenAt h i

/-- What s[:k] shows. -/
theorem RowK.cut_take {P : Program} {α : Type} {R : RowK P α} {w : World} {A : Option Addr} {xs : List α} (h : R.shows w A xs) (k : Nat) : R.shows w A (xs.take k) := fun h0 => by
  rw [List.length_take] at h0
  obtain ⟨g, off, rfl, hg, hl⟩ := h (by omega)
  exact ⟨g, off, rfl, hg, RowK.lies_take hl k⟩
/-- What s[k:] shows: at k = cap the old address is kept. -/
theorem RowK.cut_drop {P : Program} {α : Type} {R : RowK P α} {w : World} {g off c : Nat} {xs : List α} (hl : R.lies w g off xs) (hg : g < w.heap.size) (hc : xs.length ≤ c) (k : Nat) :
    R.shows w (if c = k then (some ⟨g, off, none⟩ : Option Addr) else some ⟨g, off + k * R.n, none⟩) (xs.drop k) := fun h0 => by
  rw [List.length_drop] at h0
  have e : c ≠ k := by omega
  rw [if_neg e]
  exact ⟨g, _, rfl, hg, RowK.lies_drop hl k⟩
end Go.Proofs.YtjejpgognfadoaaGreatDoor
