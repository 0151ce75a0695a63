/-
  Bytes in places that go round: what is laid from a number on, what is read from a number on. No program.
-/
import Derived.Laws.CopyOwn
namespace Go.Proofs.YtjejpgognfadoaaGreatDoor

theorem splice_get {α : Type} (L : List α) (off : Nat) (cs : List α) (h : off + cs.length ≤ L.length) (j : Nat) :
    (splice L off cs)[j]? = if off ≤ j ∧ j < off + cs.length then cs[j - off]? else L[j]? := by
  unfold splice
  by_cases h1 : j < off
  · rw [List.getElem?_append_left (by rw [List.length_take]; omega), List.getElem?_take, if_pos h1, if_neg (by omega)]
  · rw [List.getElem?_append_right (by rw [List.length_take]; omega), List.length_take, Nat.min_eq_left (by omega)]
    by_cases h2 : j < off + cs.length
    · rw [List.getElem?_append_left (by omega), if_pos ⟨by omega, h2⟩]
    · rw [List.getElem?_append_right (by omega), List.getElem?_drop, if_neg (by omega)]
      congr 1; omega

theorem add_mod_two (f i L : Nat) (hi : i < L) : (f + i) % L = if f % L + i < L then f % L + i else f % L + i - L := by
  have hm := Nat.mod_lt f (show L > 0 by omega)
  rw [← Nat.mod_add_mod]
  by_cases h : f % L + i < L
  · rw [if_pos h, Nat.mod_eq_of_lt h]
  · rw [if_neg h, Nat.mod_eq_sub_mod (by omega), Nat.mod_eq_of_lt (by omega)]

/-- The bytes bs lie in the places ps, number out and on. -/
def Lies (ps bs : List Int) (out : Nat) : Prop := bs.length ≤ ps.length ∧ ∀ i, i < bs.length → ps[(out + i) % ps.length]? = bs[i]?

/-- How many of n bytes from number f on stand ahead of the turn. -/
def ahd (L f n : Nat) : Nat := min n (L - f % L)
/-- The places, b laid from number f on. -/
def laidB (ps : List Int) (f : Nat) (b : List Int) : List Int :=
  splice (splice ps (f % ps.length) (b.take (ahd ps.length f b.length))) 0 (b.drop (ahd ps.length f b.length))

theorem ahd_le (L f n : Nat) : ahd L f n ≤ n := Nat.min_le_left _ _
theorem ahd_le' (L f n : Nat) : ahd L f n ≤ L - f % L := Nat.min_le_right _ _

theorem len_laid1 (ps : List Int) (f : Nat) (b : List Int) (hb : b.length ≤ ps.length) : (splice ps (f % ps.length) (b.take (ahd ps.length f b.length))).length = ps.length := by
  by_cases h0 : ps.length = 0
  · have : b = [] := List.eq_nil_of_length_eq_zero (by omega)
    have hp : ps = [] := List.eq_nil_of_length_eq_zero h0
    subst this; subst hp; simp [splice]
  · have hm := Nat.mod_lt f (show ps.length > 0 by omega)
    have := ahd_le ps.length f b.length
    have := ahd_le' ps.length f b.length
    exact length_splice _ _ _ (by rw [List.length_take]; omega)
theorem len_laid (ps : List Int) (f : Nat) (b : List Int) (hb : b.length ≤ ps.length) : (laidB ps f b).length = ps.length := by
  unfold laidB
  rw [length_splice _ _ _ (by rw [len_laid1 ps f b hb, List.length_drop]; omega), len_laid1 ps f b hb]

theorem laid_get (ps : List Int) (f : Nat) (b : List Int) (hb : b.length ≤ ps.length) (i : Nat) (hi : i < b.length) :
    (laidB ps f b)[(f + i) % ps.length]? = b[i]? := by
  have hm := Nat.mod_lt f (show ps.length > 0 by omega)
  have h1 := ahd_le ps.length f b.length
  have h2 := ahd_le' ps.length f b.length
  have h3 : ahd ps.length f b.length = min b.length (ps.length - f % ps.length) := rfl
  unfold laidB
  rw [splice_get _ _ _ (by rw [len_laid1 ps f b hb, List.length_drop]; omega), splice_get _ _ _ (by rw [List.length_take]; omega), add_mod_two f i ps.length (by omega), List.length_take, List.length_drop]
  by_cases h : f % ps.length + i < ps.length
  · rw [if_pos h, if_neg (by omega), if_pos (by omega), List.getElem?_take, if_pos (by omega)]
    congr 1; omega
  · rw [if_neg h, if_pos (by omega), List.getElem?_drop]
    congr 1; omega
theorem laid_other (ps : List Int) (f : Nat) (b : List Int) (hb : b.length ≤ ps.length) (i : Nat) (h0 : b.length ≤ i) (hi : i < ps.length) :
    (laidB ps f b)[(f + i) % ps.length]? = ps[(f + i) % ps.length]? := by
  have hm := Nat.mod_lt f (show ps.length > 0 by omega)
  have h1 := ahd_le ps.length f b.length
  have h2 := ahd_le' ps.length f b.length
  have h3 : ahd ps.length f b.length = min b.length (ps.length - f % ps.length) := rfl
  unfold laidB
  rw [splice_get _ _ _ (by rw [len_laid1 ps f b hb, List.length_drop]; omega), splice_get _ _ _ (by rw [List.length_take]; omega), add_mod_two f i ps.length (by omega), List.length_take, List.length_drop]
  by_cases h : f % ps.length + i < ps.length
  · rw [if_pos h, if_neg (by omega), if_neg (by omega)]
  · rw [if_neg h, if_neg (by omega), if_neg (by omega)]

theorem Lies.put {ps bs : List Int} {out : Nat} (h : Lies ps bs out) (b : List Int) (hb : bs.length + b.length ≤ ps.length) : Lies (laidB ps (out + bs.length) b) (bs ++ b) out := by
  have hl := len_laid ps (out + bs.length) b (by omega)
  refine ⟨by rw [hl, List.length_append]; omega, fun i hi => ?_⟩
  rw [List.length_append] at hi
  rw [hl]
  by_cases hlt : i < bs.length
  · -- not touched: it stands b.length or more behind the first new one
    rw [List.getElem?_append_left hlt, ← h.2 i hlt]
    have e : (out + i) % ps.length = (out + bs.length + (ps.length - bs.length + i)) % ps.length := by
      rw [show out + bs.length + (ps.length - bs.length + i) = out + i + ps.length by omega, Nat.add_mod_right]
    rw [e]
    exact laid_other ps _ b (by omega) _ (by omega) (by omega)
  · rw [List.getElem?_append_right (by omega), ← laid_get ps (out + bs.length) b (by omega) (i - bs.length) (by omega)]
    congr 2; omega
theorem Lies.drop {ps bs : List Int} {out : Nat} (h : Lies ps bs out) (n : Nat) (hn : n ≤ bs.length) : Lies ps (bs.drop n) (out + n) := by
  refine ⟨by rw [List.length_drop]; have := h.1; omega, fun i hi => ?_⟩
  rw [List.length_drop] at hi
  rw [List.getElem?_drop, ← h.2 (n + i) (by omega)]
  congr 2; omega
theorem Lies.none (ps : List Int) (out : Nat) : Lies ps [] out := ⟨by simp, fun i hi => by simp at hi⟩
theorem Lies.fresh (n : Nat) (bs : List Int) (out : Nat) (h : bs.length ≤ n) : Lies (laidB (List.replicate n 0) out bs) bs out := by
  have := (Lies.none (List.replicate n 0) out).put bs (by simpa using h)
  simpa using this

theorem Lies.seg1 {ps bs : List Int} {out : Nat} (h : Lies ps bs out) : (ps.drop (out % ps.length)).take (ahd ps.length out bs.length) = bs.take (ahd ps.length out bs.length) := by
  have h1 := ahd_le ps.length out bs.length
  have h2 := ahd_le' ps.length out bs.length
  have h0 := h.1
  refine List.ext_getElem? fun i => ?_
  rw [List.getElem?_take, List.getElem?_take]
  by_cases hi : i < ahd ps.length out bs.length
  · rw [if_pos hi, if_pos hi, List.getElem?_drop, ← h.2 i (by omega), add_mod_two out i ps.length (by omega), if_pos (by omega)]
  · rw [if_neg hi, if_neg hi]
theorem Lies.seg2 {ps bs : List Int} {out : Nat} (h : Lies ps bs out) : ps.take (bs.length - ahd ps.length out bs.length) = bs.drop (ahd ps.length out bs.length) := by
  have h1 := ahd_le ps.length out bs.length
  have h2 := ahd_le' ps.length out bs.length
  have h3 : ahd ps.length out bs.length = min bs.length (ps.length - out % ps.length) := rfl
  have h0 := h.1
  refine List.ext_getElem? fun i => ?_
  rw [List.getElem?_take, List.getElem?_drop]
  by_cases hi : i < bs.length - ahd ps.length out bs.length
  · have hm := Nat.mod_lt out (show ps.length > 0 by omega)
    rw [if_pos hi, ← h.2 _ (by omega), add_mod_two out _ ps.length (by omega), if_neg (by omega)]
    congr 1; omega
  · rw [if_neg hi, List.getElem?_eq_none (by omega)]
end Go.Proofs.YtjejpgognfadoaaGreatDoor
