/-
  What laying, and gathering, piece by piece comes to. No program.
-/
import Derived.Test.YtjejpgognfadoaaGreatDoorRgSeg
namespace Go.Proofs.YtjejpgognfadoaaGreatDoor

theorem splice_nil {α : Type} (L : List α) (off : Nat) : splice L off [] = L := by simp [splice]
theorem laidB_nil (ps : List Int) (f : Nat) : laidB ps f [] = ps := by unfold laidB; simp [splice_nil]

/-- A round of laying: the places, and what is left to lay. -/
def wstep {L : Nat} (s : List Int × List Int) (x : Pc L) : List Int × List Int :=
  (splice s.1 x.off (s.2.take (min x.len s.2.length)), s.2.drop (min x.len s.2.length))
def wfold {L : Nat} (ps zs : List Int) (xs : List (Pc L)) : List Int × List Int := xs.foldl wstep (ps, zs)
theorem wfold_snoc {L : Nat} (ps zs : List Int) (xs : List (Pc L)) (x : Pc L) : wfold ps zs (xs ++ [x]) = wstep (wfold ps zs xs) x := by simp [wfold]
theorem wstep_len {L : Nat} (s : List Int × List Int) (x : Pc L) (h : s.1.length = L) : (wstep s x).1.length = L := by
  have := x.le
  unfold wstep
  rw [length_splice _ _ _ (by rw [List.length_take]; omega), h]
theorem wstep_rest {L : Nat} (s : List Int × List Int) (x : Pc L) : (wstep s x).2.length ≤ s.2.length := by unfold wstep; simp
theorem wfold_len {L : Nat} (ps zs : List Int) (h : ps.length = L) : ∀ xs : List (Pc L), (wfold ps zs xs).1.length = L ∧ (wfold ps zs xs).2.length ≤ zs.length := by
  have : ∀ (xs : List (Pc L)) (s : List Int × List Int), s.1.length = L → (xs.foldl wstep s).1.length = L ∧ (xs.foldl wstep s).2.length ≤ s.2.length := by
    intro xs
    induction xs with
    | nil => intro s hs; exact ⟨hs, Nat.le_refl _⟩
    | cons x xs ih => intro s hs; obtain ⟨a, b⟩ := ih _ (wstep_len s x hs); exact ⟨a, Nat.le_trans b (wstep_rest s x)⟩
  exact fun xs => this xs (ps, zs) h
theorem wfold_pieces (ps zs : List Int) (f : Nat) (h : zs.length ≤ ps.length) : wfold ps zs (pieces ps.length f zs.length h) = (laidB ps f zs, []) := by
  by_cases h0 : zs.length = 0
  · have : zs = [] := List.eq_nil_of_length_eq_zero h0
    rw [pieces_none _ _ _ _ h0]; subst this; rw [laidB_nil]; rfl
  · have hm : f % ps.length < ps.length := Nat.mod_lt f (by omega)
    have h1 := ahd_le ps.length f zs.length
    have h2 := ahd_le' ps.length f zs.length
    unfold laidB
    generalize hm : ahd ps.length f zs.length = m at *
    have w1 : ∀ x : Pc ps.length, x.off = f % ps.length → x.len = m → wfold ps zs ([] ++ [x]) = (splice ps (f % ps.length) (zs.take m), zs.drop m) := fun x e1 e2 => by
      rw [wfold_snoc]
      show wstep (ps, zs) x = _
      unfold wstep
      rw [e1, e2]
      simp only []
      rw [Nat.min_eq_left h1]
    by_cases hl : m < zs.length
    · rw [pieces_two ps.length f zs.length h (by omega) (by rw [hm]; exact hl) (pcMk (f % ps.length) m (by omega)) (pcMk 0 (zs.length - m) (by omega)) rfl (by rw [hm]; rfl) rfl (by rw [hm]; rfl)]
      rw [wfold_snoc, w1 _ rfl rfl]
      unfold wstep
      simp only [pcMk, Pc.off, Pc.len, List.length_drop, Nat.min_self]
      have t1 : (zs.drop m).take (zs.length - m) = zs.drop m := List.take_of_length_le (by rw [List.length_drop]; exact Nat.le_refl _)
      have t2 : (zs.drop m).drop (zs.length - m) = [] := List.drop_of_length_le (by rw [List.length_drop]; exact Nat.le_refl _)
      rw [t1, t2]
    · rw [pieces_one ps.length f zs.length h (by omega) (by rw [hm]; exact hl) (pcMk (f % ps.length) m (by omega)) rfl (by rw [hm]; rfl)]
      rw [w1 _ rfl rfl, show m = zs.length by omega, List.drop_length, splice_nil]

/-- A round of gathering. -/
def fstep (n : Nat) (ps : List Int) {L : Nat} (acc : List Int) (x : Pc L) : List Int := acc ++ (ps.drop x.off).take (min x.len (n - acc.length))
def ffold (n : Nat) (ps : List Int) {L : Nat} (xs : List (Pc L)) : List Int := xs.foldl (fstep n ps) []
theorem ffold_snoc (n : Nat) (ps : List Int) {L : Nat} (xs : List (Pc L)) (x : Pc L) : ffold n ps (xs ++ [x]) = fstep n ps (ffold n ps xs) x := by simp [ffold]
theorem fstep_len (n : Nat) (ps : List Int) {L : Nat} (acc : List Int) (x : Pc L) (hL : ps.length = L) (h : acc.length ≤ n) : (fstep n ps acc x).length = acc.length + min x.len (n - acc.length) ∧ (fstep n ps acc x).length ≤ n := by
  have := x.le
  unfold fstep
  rw [List.length_append, List.length_take, List.length_drop]
  omega
theorem ffold_len (n : Nat) (ps : List Int) {L : Nat} (hL : ps.length = L) (xs : List (Pc L)) : (ffold n ps xs).length ≤ n := by
  have : ∀ (xs : List (Pc L)) (s : List Int), s.length ≤ n → (xs.foldl (fstep n ps) s).length ≤ n := by
    intro xs
    induction xs with
    | nil => intro s hs; exact hs
    | cons x xs ih => intro s hs; exact ih _ (fstep_len n ps s x hL hs).2
  exact this xs [] (Nat.zero_le _)

theorem ffold_pieces {ps bs : List Int} {out : Nat} (h : Lies ps bs out) (n : Nat) (hn : n ≤ bs.length) :
    ffold n ps (pieces ps.length out bs.length h.1) = bs.take n ∧
    ∀ pre r, pre ++ r = pieces ps.length out bs.length h.1 → (ffold n ps pre).length = n → ffold n ps pre = bs.take n := by
  have s1 := h.seg1
  have s2 := h.seg2
  have h1 := ahd_le ps.length out bs.length
  have h2 := ahd_le' ps.length out bs.length
  have hb := h.1
  generalize hm : ahd ps.length out bs.length = m at *
  have nil : ffold n ps ([] : List (Pc ps.length)) = [] := rfl
  have pre0 : ∀ {acc : List Int} {j : Nat}, acc = bs.take j → acc.length = n → acc = bs.take n := fun {acc j} e hl => by
    rw [e, List.length_take] at hl
    rw [e]
    by_cases hj : j ≤ bs.length
    · rw [show j = n by omega]
    · rw [List.take_of_length_le (by omega), List.take_of_length_le (by omega)]
  by_cases h0 : bs.length = 0
  · have hp := pieces_none ps.length out bs.length h.1 h0
    have n0 : n = 0 := by omega
    subst n0
    rw [hp]
    refine ⟨by simp [nil], fun pre r e hl => ?_⟩
    have := List.eq_nil_of_length_eq_zero hl
    rw [this]; simp
  · have one : ∀ x : Pc ps.length, x.off = out % ps.length → x.len = m → ffold n ps ([] ++ [x]) = bs.take (min m n) := fun x e1 e2 => by
      rw [ffold_snoc, nil]
      unfold fstep
      rw [e1, e2, List.length_nil, Nat.sub_zero, List.nil_append]
      have e3 : (ps.drop (out % ps.length)).take (min m n) = ((ps.drop (out % ps.length)).take m).take (min m n) := by rw [List.take_take, Nat.min_eq_left (Nat.min_le_left _ _)]
      rw [e3, s1, List.take_take, Nat.min_eq_left (Nat.min_le_left _ _)]
    have hmod : out % ps.length < ps.length := Nat.mod_lt out (by omega)
    by_cases hl : m < bs.length
    · have two : ∀ x y : Pc ps.length, x.off = out % ps.length → x.len = m → y.off = 0 → y.len = bs.length - m → ffold n ps (([] ++ [x]) ++ [y]) = bs.take n := fun x y e1 e2 e3 e4 => by
        rw [ffold_snoc, one x e1 e2]
        unfold fstep
        rw [e3, e4, List.length_take, List.drop_zero]
        by_cases hnm : n ≤ m
        · rw [show min (bs.length - m) (n - min (min m n) bs.length) = 0 by omega, List.take_zero, List.append_nil, show min m n = n by omega]
        · rw [show min (bs.length - m) (n - min (min m n) bs.length) = n - m by omega, show min m n = m by omega]
          have e5 : ps.take (n - m) = (ps.take (bs.length - m)).take (n - m) := by rw [List.take_take, Nat.min_eq_left (by omega)]
          rw [e5, s2]
          conv => rhs; rw [show n = m + (n - m) by omega, List.take_add]
      have hp := pieces_two ps.length out bs.length h.1 (by omega) (by rw [hm]; exact hl) (pcMk (out % ps.length) m (by omega)) (pcMk 0 (bs.length - m) (by omega)) rfl (by rw [hm]; rfl) rfl (by rw [hm]; rfl)
      refine ⟨by rw [hp]; exact two _ _ rfl rfl rfl rfl, fun pre r e hlen => ?_⟩
      rw [hp] at e
      match pre, e with
      | [], _ => exact pre0 (j := 0) (by simp [nil]) hlen
      | [x], e =>
        simp at e
        obtain ⟨rfl, _⟩ := e
        exact pre0 (one _ rfl rfl) hlen
      | [x, y], e =>
        simp at e
        obtain ⟨rfl, rfl, _⟩ := e
        exact two _ _ rfl rfl rfl rfl
      | x :: y :: z :: t, e => simp at e
    · have hp := pieces_one ps.length out bs.length h.1 (by omega) (by rw [hm]; exact hl) (pcMk (out % ps.length) m (by omega)) rfl (by rw [hm]; rfl)
      have o1 := one (pcMk (out % ps.length) m (by omega)) rfl rfl
      rw [show min m n = n by omega] at o1
      refine ⟨by rw [hp]; exact o1, fun pre r e hlen => ?_⟩
      rw [hp] at e
      match pre, e with
      | [], _ => exact pre0 (j := 0) (by simp [nil]) hlen
      | [x], e =>
        simp at e
        obtain ⟨rfl, _⟩ := e
        exact o1
      | x :: y :: t, e => simp at e
end Go.Proofs.YtjejpgognfadoaaGreatDoor
