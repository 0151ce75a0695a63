/-
  What Parse makes of a set's own text, and of any text: the one set that has that text, or none.
-/
import Derived.Test.YthpinbngggcgcaaDoorParseW
namespace Go.Proofs.YthpinbngggcgcaaDoor
open Go.RowKit

theorem none_parse : parseR [110, 111, 110, 101] = none := by decide +kernel
theorem textB_zero : textB 0 0 = [110, 111, 110, 101] := by unfold textB; rw [if_pos ⟨rfl, rfl⟩]
theorem textB_len (a b : Nat) : (textB a b).length ≤ 900 := by
  unfold textB
  split
  · simp
  · have hl : ∃ l : List M, valsOf l = mem (first0 a) (first1 a b) := by
      refine ⟨(mem (first0 a) (first1 a b)).attach.map (fun x => ⟨x.1, ((mem_mem _ _ _).1 x.2).1⟩), ?_⟩
      simp [valsOf, List.map_map, Function.comp_def]
    obtain ⟨l, hl⟩ := hl
    rw [← hl]
    have h1 := runsB_len a b l
    have h2 := length_memI (first0 a) (first1 a b)
    unfold memI at h2
    rw [List.length_map, ← hl] at h2
    have h3 : (valsOf l).length = l.length := by simp [valsOf]
    omega
/-- Some set has this text. -/
def HasText (t : ByteArray) (c d : Nat) : Prop := c < 4294967296 ∧ d < 4294967296 ∧ textB c d = t.data.toList
theorem HasText.unique {t : ByteArray} {a b c d : Nat} (h : HasText t a b) (k : HasText t c d) : a = c ∧ b = d := by
  obtain ⟨ha, hb, h1⟩ := h
  obtain ⟨hc, hd, h2⟩ := k
  by_cases hz : a = 0 ∧ b = 0
  · obtain ⟨rfl, rfl⟩ := hz
    by_cases hz2 : c = 0 ∧ d = 0
    · exact ⟨hz2.1.symm, hz2.2.symm⟩
    · obtain ⟨rs, hr, _⟩ := parse_text c d hc hd hz2
      rw [h2, ← h1, textB_zero, none_parse] at hr
      cases hr
  · obtain ⟨rs, hr, hrs⟩ := parse_text a b ha hb hz
    by_cases hz2 : c = 0 ∧ d = 0
    · obtain ⟨rfl, rfl⟩ := hz2
      rw [h1, ← h2, textB_zero, none_parse] at hr
      cases hr
    · obtain ⟨rs', hr', hrs'⟩ := parse_text c d hc hd hz2
      rw [h1] at hr
      rw [h2, hr] at hr'
      obtain rfl := Option.some.inj hr'
      exact words_ext a b c d ha hb hc hd fun k hk => (hrs k hk).trans (hrs' k hk).symm
theorem inR_zero {rs : List (Nat × Nat)} (hne : rs ≠ []) (hg : Good 0 rs) (h : ∀ n, n < 64 → hasB 0 0 n = inR rs n) : False := by
  cases rs with
  | nil => exact hne rfl
  | cons x rs =>
    obtain ⟨_, h1, h2, _⟩ := hg
    have h3 := h x.1 (by omega)
    rw [hasB_zero] at h3
    have h4 : inR (x :: rs) x.1 = true := (inR_iff _ _).2 ⟨x, by simp, Nat.le_refl _, h1⟩
    rw [h4] at h3
    cases h3
/-- What Parse returns: the set that has the text, or the error, where none has. -/
def OutP (w : World) (t : ByteArray) (e : Ending) (w' : World) : Prop := ((∀ c d, ¬ HasText t c d) ∧ RetP w 0 0 11 e w') ∨ ∃ c d, HasText t c d ∧ RetP w c d 0 e w'
theorem parse_out (t : ByteArray) (ht : t.size ≤ 100000) (w : World) (hE : Errs w) : Calls Tryd.prog 22 #[.string t] w (OutP w t) := by
  by_cases hne : t = ⟨#[110, 111, 110, 101]⟩
  · subst hne
    exact (parse_empty w).mono fun e w' h => .inr ⟨0, 0, ⟨by omega, by omega, textB_zero⟩, h⟩
  · refine (parse_any t ht hne w hE).mono fun e w' h => ?_
    have hnz : ¬ t.data.toList = [110, 111, 110, 101] := fun h => hne (by
      have : t = ⟨t.data.toList.toArray⟩ := by simp
      rw [this, h])
    rcases h with ⟨hp, hr⟩ | ⟨rs, a, b, hp, ⟨ha, hb, hrs⟩, hr⟩
    · refine .inl ⟨fun c d hcd => ?_, hr⟩
      by_cases hz : c = 0 ∧ d = 0
      · obtain ⟨rfl, rfl⟩ := hz
        exact hnz (hcd.2.2.symm.trans textB_zero)
      · obtain ⟨rs, hr2, _⟩ := parse_text c d hcd.1 hcd.2.1 hz
        rw [hcd.2.2, hp] at hr2
        cases hr2
    · obtain ⟨h1, h2, h3⟩ := parseR_some _ _ hp
      exact .inr ⟨a, b, ⟨ha, hb, by rw [h3]; exact textB_runs a b rs ha h1 h2 hrs⟩, hr⟩
/-- A set's own text. -/
theorem parse_own (a b : Nat) (ha : a < 4294967296) (hb : b < 4294967296) (w : World) (hE : Errs w) : Calls Tryd.prog 22 #[.string ⟨(textB a b).toArray⟩] w (RetP w a b 0) := by
  have hl := textB_len a b
  have hown : HasText ⟨(textB a b).toArray⟩ a b := ⟨ha, hb, by simp⟩
  refine (parse_out ⟨(textB a b).toArray⟩ (by show (textB a b).toArray.size ≤ _; simp; omega) w hE).mono fun e w' h => ?_
  rcases h with ⟨h, _⟩ | ⟨c, d, h, hr⟩
  · exact absurd hown (h a b)
  · obtain ⟨rfl, rfl⟩ := h.unique hown
    exact hr
/-- The text of any set. -/
theorem text_all (a b : Nat) (ha : a < 4294967296) (hb : b < 4294967296) (w : World) (hh : Here w) :
    Calls Tryd.prog 24 #[.agg #[.int .u32 (a : Int), .int .u32 (b : Int)]] w fun e W' => e = .returned (.string ⟨(textB a b).toArray⟩) ∧ Below w.heap.size w W' := by
  by_cases hz : a = 0 ∧ b = 0
  · obtain ⟨rfl, rfl⟩ := hz
    rw [textB_zero]
    exact text_zero w
  · unfold textB
    rw [if_neg hz]
    exact text_any a b w ha hb hz hh.1 hh.2.1 hh.2.2
end Go.Proofs.YthpinbngggcgcaaDoor
