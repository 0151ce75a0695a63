/-
  WHAT IS OF NO PROGRAM: texts of sets: a text split at its commas; a run read; which texts are a set's, and of which.
-/
import Derived.Test.YthpinbngggcgcaaDoorText
import Derived.Test.YthpinbngggcgcaaDoorAlive
namespace Go.Proofs.YthpinbngggcgcaaDoor

/-! ### 1. Split at commas, and joined -/
def splitC : List UInt8 → List (List UInt8)
  | [] => [[]]
  | c :: r => if c = 44 then [] :: splitC r else (match splitC r with | [] => [[c]] | p :: ps => (c :: p) :: ps)
def joinC : List (List UInt8) → List UInt8
  | [] => []
  | [p] => p
  | p :: q :: ps => p ++ 44 :: joinC (q :: ps)
theorem splitC_ne (l : List UInt8) : splitC l ≠ [] := by
  cases l with
  | nil => simp [splitC]
  | cons c r =>
    unfold splitC
    split
    · simp
    · split <;> simp
theorem splitC_none (l : List UInt8) (h : 44 ∉ l) : splitC l = [l] := by
  induction l with
  | nil => rfl
  | cons c r ih =>
    have h1 : ¬ c = 44 := fun e => h (by simp [e])
    unfold splitC
    rw [if_neg h1, ih (fun e => h (List.mem_cons_of_mem _ e))]
theorem splitC_cut (p r : List UInt8) (h : 44 ∉ p) : splitC (p ++ 44 :: r) = p :: splitC r := by
  induction p with
  | nil => rw [List.nil_append]; conv => lhs; unfold splitC; rw [if_pos rfl]
  | cons c p ih =>
    have h1 : ¬ c = 44 := fun e => h (by simp [e])
    rw [List.cons_append]
    conv => lhs; unfold splitC
    rw [if_neg h1, ih (fun e => h (List.mem_cons_of_mem _ e))]
theorem split_join : ∀ ps : List (List UInt8), ps ≠ [] → (∀ p ∈ ps, 44 ∉ p) → splitC (joinC ps) = ps
  | [], h, _ => absurd rfl h
  | [p], _, h => splitC_none p (h p (by simp))
  | p :: q :: ps, _, h => by
    show splitC (p ++ 44 :: joinC (q :: ps)) = _
    rw [splitC_cut p _ (h p (by simp)), split_join (q :: ps) (by simp) (fun x hx => h x (List.mem_cons_of_mem _ hx))]
theorem join_cons (p : List UInt8) (ps : List (List UInt8)) (h : ps ≠ []) : joinC (p :: ps) = p ++ 44 :: joinC ps := by
  cases ps with
  | nil => exact absurd rfl h
  | cons q qs => rfl
theorem join_split (l : List UInt8) : joinC (splitC l) = l := by
  induction l with
  | nil => rfl
  | cons c r ih =>
    unfold splitC
    by_cases h : c = 44
    · rw [if_pos h, join_cons _ _ (splitC_ne r), ih, h]; rfl
    · rw [if_neg h]
      have hn := splitC_ne r
      cases hs : splitC r with
      | nil => exact absurd hs hn
      | cons p ps =>
        rw [hs] at ih
        show joinC ((c :: p) :: ps) = _
        cases ps with
        | nil => exact congrArg (c :: ·) ih
        | cons q qs => exact congrArg (c :: ·) ih
theorem join_snoc (ps : List (List UInt8)) (p : List UInt8) (h : ps ≠ []) : joinC (ps ++ [p]) = joinC ps ++ 44 :: p := by
  induction ps with
  | nil => exact absurd rfl h
  | cons q qs ih =>
    cases qs with
    | nil => rfl
    | cons r rs =>
      rw [List.cons_append, join_cons q _ (by simp), ih (by simp), join_cons q _ (by simp)]
      simp

/-! ### 2. A descriptor and a run, read -/
theorem dig2_all : ∀ n, n < 64 → ∀ m, m < 64 → dig2 n = dig2 m → n = m := by decide +kernel
theorem dig2_digits : ∀ n, n < 64 → ∀ c ∈ dig2 n, 48 ≤ c ∧ c ≤ 57 := by decide +kernel
/-- The descriptor in digits. -/
def fdP (l : List UInt8) : Option Nat := (List.range 64).find? (fun n => dig2 n == l)
theorem fdP_some (l : List UInt8) (n : Nat) : fdP l = some n ↔ n < 64 ∧ dig2 n = l := by
  unfold fdP
  constructor
  · intro h
    have h1 := List.find?_some h
    have h2 := List.mem_of_find?_eq_some h
    exact ⟨by simpa using h2, by simpa using h1⟩
  · rintro ⟨h1, h2⟩
    cases h : (List.range 64).find? (fun n => dig2 n == l) with
    | none =>
      have := List.find?_eq_none.1 h n (by simpa using h1)
      simp [h2] at this
    | some m =>
      have h3 := List.find?_some h
      have h4 := List.mem_of_find?_eq_some h
      have h5 : dig2 m = l := by simpa using h3
      rw [dig2_all m (by simpa using h4) n h1 (h5.trans h2.symm)]
/-- A run, read. -/
def runP (l : List UInt8) : Option (Nat × Nat) :=
  match l.findIdx? (· == 45) with
  | none => (fdP l).map fun n => (n, n)
  | some i => match fdP (l.take i), fdP (l.drop (i + 1)) with
    | some f, some t => if f < t then some (f, t) else none
    | _, _ => none
theorem dash_none (n : Nat) (h : n < 64) : (dig2 n).findIdx? (· == 45) = none := by
  rw [List.findIdx?_eq_none_iff]
  intro c hc
  have := (dig2_digits n h c hc).1
  rw [beq_eq_false_iff_ne]
  rintro rfl
  exact absurd this (by decide)
theorem runP_mk (f t : Nat) (hft : f ≤ t) (ht : t < 64) : runP (runB f t) = some (f, t) := by
  unfold runP runB
  by_cases h : f < t
  · rw [if_pos h]
    have hi : (dig2 f ++ 45 :: dig2 t).findIdx? (· == 45) = some (dig2 f).length := by
      rw [List.findIdx?_append, dash_none f (by omega)]
      simp [List.findIdx?_cons]
    rw [hi]
    dsimp only
    rw [List.take_left, show (dig2 f ++ 45 :: dig2 t).drop ((dig2 f).length + 1) = dig2 t from by rw [← List.drop_drop, List.drop_left]; rfl, (fdP_some _ f).2 ⟨by omega, rfl⟩, (fdP_some _ t).2 ⟨ht, rfl⟩]
    dsimp only
    rw [if_pos h]
  · rw [if_neg h, List.append_nil, dash_none f (by omega)]
    dsimp only
    rw [(fdP_some _ f).2 ⟨by omega, rfl⟩]
    obtain rfl : f = t := by omega
    rfl
theorem runP_some (l : List UInt8) (f t : Nat) (h : runP l = some (f, t)) : f ≤ t ∧ t < 64 ∧ l = runB f t := by
  unfold runP at h
  cases hi : l.findIdx? (· == 45) with
  | none =>
    rw [hi] at h
    dsimp only at h
    cases hf : fdP l with
    | none => rw [hf] at h; cases h
    | some n =>
      rw [hf] at h
      obtain ⟨rfl, rfl⟩ : n = f ∧ n = t := by simpa using h
      obtain ⟨h1, h2⟩ := (fdP_some l n).1 hf
      refine ⟨Nat.le_refl _, h1, ?_⟩
      unfold runB
      rw [if_neg (Nat.lt_irrefl _), List.append_nil, h2]
  | some i =>
    rw [hi] at h
    dsimp only at h
    cases hf : fdP (l.take i) with
    | none => rw [hf] at h; cases h
    | some a =>
      cases ht : fdP (l.drop (i + 1)) with
      | none => rw [hf, ht] at h; cases h
      | some b =>
        rw [hf, ht] at h
        dsimp only at h
        by_cases hab : a < b
        · rw [if_pos hab] at h
          obtain ⟨rfl, rfl⟩ : a = f ∧ b = t := by simpa using h
          obtain ⟨h1, h2⟩ := (fdP_some _ a).1 hf
          obtain ⟨h3, h4⟩ := (fdP_some _ b).1 ht
          obtain ⟨hlt, hc, _⟩ := List.findIdx?_eq_some_iff_getElem.1 hi
          refine ⟨by omega, h3, ?_⟩
          unfold runB
          rw [if_pos hab, h2, h4]
          have : l[i] = 45 := by simpa using hc
          rw [← this, ← List.drop_eq_getElem_cons hlt, List.take_append_drop]
        · rw [if_neg hab] at h; cases h
theorem runB_comma (f t : Nat) (hf : f < 64) (ht : t < 64) : 44 ∉ runB f t := by
  have k : ∀ n, n < 64 → 44 ∉ dig2 n := fun n hn h => absurd (dig2_digits n hn 44 h).1 (by decide)
  unfold runB
  intro h
  rcases List.mem_append.1 h with h | h
  · exact k f hf h
  · split at h
    · rcases List.mem_cons.1 h with h | h
      · cases h
      · exact k t ht h
    · cases h
theorem runB_ne (f t : Nat) : runB f t ≠ [] := by
  have := dig2_pos f
  unfold runB
  intro h
  rw [(List.append_eq_nil_iff.1 h).1] at this
  simp at this

/-! ### 3. Runs, each behind a gap -/
/-- Runs from k on, rising, maximal. -/
def Good : Nat → List (Nat × Nat) → Prop
  | _, [] => True
  | k, x :: rs => k ≤ x.1 ∧ x.1 ≤ x.2 ∧ x.2 < 64 ∧ Good (x.2 + 2) rs
def textR (rs : List (Nat × Nat)) : List UInt8 := joinC (rs.map fun x => runB x.1 x.2)
def parseS : List (List UInt8) → Nat → Option (List (Nat × Nat))
  | [], _ => some []
  | p :: ps, k => match runP p with
    | some x => if k ≤ x.1 then (parseS ps (x.2 + 2)).map (x :: ·) else none
    | none => none
theorem Good.mono {rs : List (Nat × Nat)} {k m : Nat} (h : Good m rs) (hk : k ≤ m) : Good k rs := by
  cases rs with
  | nil => exact trivial
  | cons x rs => exact ⟨Nat.le_trans hk h.1, h.2⟩
theorem Good.all {rs : List (Nat × Nat)} : ∀ {k : Nat}, Good k rs → ∀ x ∈ rs, k ≤ x.1 ∧ x.1 ≤ x.2 ∧ x.2 < 64 := by
  induction rs with
  | nil => intro k _ x hx; cases hx
  | cons y rs ih =>
    intro k h x hx
    rcases List.mem_cons.1 hx with rfl | hx
    · exact ⟨h.1, h.2.1, h.2.2.1⟩
    · obtain ⟨h1, h2, h3, h4⟩ := h
      have := ih h4 x hx
      omega
theorem parseS_mk : ∀ (rs : List (Nat × Nat)) (k : Nat), Good k rs → parseS (rs.map fun x => runB x.1 x.2) k = some rs := by
  intro rs
  induction rs with
  | nil => intro k _; rfl
  | cons x rs ih =>
    intro k h
    obtain ⟨h1, h2, h3, h4⟩ := h
    rw [List.map_cons]
    unfold parseS
    rw [runP_mk x.1 x.2 h2 h3]
    dsimp only
    rw [if_pos h1, ih _ h4]
    rfl
theorem parseS_some : ∀ (ps : List (List UInt8)) (k : Nat) (rs : List (Nat × Nat)), parseS ps k = some rs → Good k rs ∧ ps = rs.map fun x => runB x.1 x.2 := by
  intro ps
  induction ps with
  | nil => intro k rs h; cases h; exact ⟨trivial, rfl⟩
  | cons p ps ih =>
    intro k rs h
    unfold parseS at h
    cases hp : runP p with
    | none => rw [hp] at h; cases h
    | some x =>
      rw [hp] at h
      dsimp only at h
      by_cases hk : k ≤ x.1
      · rw [if_pos hk] at h
        cases hr : parseS ps (x.2 + 2) with
        | none => rw [hr] at h; cases h
        | some qs =>
          rw [hr] at h
          cases h
          obtain ⟨g1, g2⟩ := ih _ _ hr
          obtain ⟨r1, r2, r3⟩ := runP_some p x.1 x.2 hp
          exact ⟨⟨hk, r1, r2, g1⟩, by rw [List.map_cons, ← g2, ← r3]⟩
      · rw [if_neg hk] at h; cases h
/-- A text, read. -/
def parseR (l : List UInt8) : Option (List (Nat × Nat)) := parseS (splitC l) 0
theorem parseR_mk (rs : List (Nat × Nat)) (hne : rs ≠ []) (h : Good 0 rs) : parseR (textR rs) = some rs := by
  unfold parseR textR
  rw [split_join _ (by simpa using hne) (fun p hp => by
    obtain ⟨x, hx, rfl⟩ := List.mem_map.1 hp
    have := h.all x hx
    exact runB_comma _ _ (by omega) (by omega))]
  exact parseS_mk rs 0 h
theorem parseR_some (l : List UInt8) (rs : List (Nat × Nat)) (h : parseR l = some rs) : rs ≠ [] ∧ Good 0 rs ∧ l = textR rs := by
  obtain ⟨h1, h2⟩ := parseS_some _ _ _ h
  refine ⟨?_, h1, ?_⟩
  · rintro rfl
    exact splitC_ne l h2
  · unfold textR
    rw [← h2, join_split]

/-! ### 4. The set of some runs -/
def inR (rs : List (Nat × Nat)) (n : Nat) : Bool := rs.any fun x => decide (x.1 ≤ n) && decide (n ≤ x.2)
theorem inR_iff (rs : List (Nat × Nat)) (n : Nat) : inR rs n = true ↔ ∃ x ∈ rs, x.1 ≤ n ∧ n ≤ x.2 := by
  unfold inR
  rw [List.any_eq_true]
  constructor
  · rintro ⟨x, hx, h⟩; exact ⟨x, hx, by simpa using h⟩
  · rintro ⟨x, hx, h⟩; exact ⟨x, hx, by simpa using h⟩
theorem Good.low {rs : List (Nat × Nat)} {k n : Nat} (h : Good k rs) (hn : n < k) : inR rs n = false := by
  cases he : inR rs n with
  | false => rfl
  | true =>
    obtain ⟨x, hx, h1, h2⟩ := (inR_iff rs n).1 he
    have := h.all x hx
    omega
/-- Behind a run there is a gap, and ahead of it. -/
theorem Good.gaps : ∀ {rs : List (Nat × Nat)} {k : Nat}, Good k rs → ∀ x ∈ rs, inR rs (x.2 + 1) = false ∧ (k < x.1 → inR rs (x.1 - 1) = false) := by
  intro rs
  induction rs with
  | nil => intro k _ x hx; cases hx
  | cons y rs ih =>
    intro k h x hx
    obtain ⟨h1, h2, h3, h4⟩ := h
    have hc : ∀ n, inR (y :: rs) n = ((decide (y.1 ≤ n) && decide (n ≤ y.2)) || inR rs n) := fun n => rfl
    rw [hc, hc]
    rcases List.mem_cons.1 hx with rfl | hx
    · rw [h4.low (by omega), h4.low (by omega)]
      simp
      omega
    · have ha := h4.all x hx
      obtain ⟨i1, i2⟩ := ih h4 x hx
      rw [i1]
      refine ⟨by simp; omega, fun _ => ?_⟩
      by_cases he : y.2 + 2 < x.1
      · rw [i2 he]; simp; omega
      · rw [h4.low (by omega)]; simp; omega
theorem Good.rises : ∀ {rs : List (Nat × Nat)} {k : Nat}, Good k rs → (rs.map (·.1)).Pairwise (· < ·) := by
  intro rs
  induction rs with
  | nil => intro k _; exact List.Pairwise.nil
  | cons y rs ih =>
    intro k h
    obtain ⟨h1, h2, h3, h4⟩ := h
    rw [List.map_cons, List.pairwise_cons]
    refine ⟨fun z hz => ?_, ih h4⟩
    obtain ⟨x, hx, rfl⟩ := List.mem_map.1 hz
    have := h4.all x hx
    omega
/-- Rising lists of the same numbers are one. -/
theorem rising_ext : ∀ (l m : List Nat), l.Pairwise (· < ·) → m.Pairwise (· < ·) → (∀ x, x ∈ l ↔ x ∈ m) → l = m := by
  intro l
  induction l with
  | nil =>
    intro m _ _ h
    cases m with
    | nil => rfl
    | cons y m => exact absurd ((h y).2 (by simp)) (by simp)
  | cons x l ih =>
    intro m hl hm h
    cases m with
    | nil => exact absurd ((h x).1 (by simp)) (by simp)
    | cons y m =>
      obtain ⟨hx, hl'⟩ := List.pairwise_cons.1 hl
      obtain ⟨hy, hm'⟩ := List.pairwise_cons.1 hm
      have exy : x = y := by
        rcases List.mem_cons.1 ((h x).1 (by simp)) with e | e
        · exact e
        · rcases List.mem_cons.1 ((h y).2 (by simp)) with e' | e'
          · exact e'.symm
          · have := hx y e'
            have := hy x e
            omega
      subst exy
      refine congrArg (x :: ·) (ih m hl' hm' fun z => ?_)
      constructor
      · intro hz
        rcases List.mem_cons.1 ((h z).1 (List.mem_cons_of_mem _ hz)) with rfl | e
        · exact absurd (hx z hz) (Nat.lt_irrefl _)
        · exact e
      · intro hz
        rcases List.mem_cons.1 ((h z).2 (List.mem_cons_of_mem _ hz)) with rfl | e
        · exact absurd (hy z hz) (Nat.lt_irrefl _)
        · exact e

theorem testBit_shl (a i : Nat) (hi : i < 32) : (a * 2 % 4294967296).testBit i = (decide (0 < i) && a.testBit (i - 1)) := by
  rw [show (4294967296 : Nat) = 2 ^ 32 from by decide, Nat.testBit_mod_two_pow]
  cases i with
  | zero => simp [Nat.testBit_zero]
  | succ j =>
    rw [Nat.mul_comm, Nat.testBit_succ, Nat.mul_div_cancel_left _ (by omega)]
    simp [hi]
theorem testBit_top (a i : Nat) (ha : a < 4294967296) : (a / 2147483648).testBit i = (decide (i = 0) && a.testBit 31) := by
  rw [show (2147483648 : Nat) = 2 ^ 31 from by decide, Nat.testBit_div_two_pow]
  by_cases h : i = 0
  · subst h; simp
  · have : a < 2 ^ (i + 31) := Nat.lt_of_lt_of_le ha (by rw [show (4294967296 : Nat) = 2 ^ 32 from by decide]; exact Nat.pow_le_pow_right (by omega) (by omega))
    rw [Nat.add_comm, Nat.testBit_lt_two_pow (by rw [Nat.add_comm]; exact this)]
    simp [h]
theorem shl_lt (a : Nat) : a * 2 % 4294967296 < 4294967296 := Nat.mod_lt _ (by omega)
/-- With which descriptors a run begins. -/
theorem hasB_first (a b n : Nat) (ha : a < 4294967296) (hn : n < 64) : hasB (first0 a) (first1 a b) n = (hasB a b n && !(decide (0 < n) && hasB a b (n - 1))) := by
  have hd : a / 2147483648 < 4294967296 := Nat.lt_of_le_of_lt (Nat.div_le_self _ _) ha
  unfold first0 first1
  rw [hasB_less _ _ _ _ _ (shl_lt a) (or_lt (shl_lt b) hd) hn]
  congr 1
  congr 1
  unfold hasB
  by_cases h : n < 32
  · rw [if_pos h, testBit_shl a n h]
    by_cases h0 : 0 < n
    · rw [if_pos (show n - 1 < 32 by omega)]
    · simp [h0]
  · rw [if_neg h, Nat.testBit_or, testBit_shl b (n - 32) (by omega), testBit_top a _ ha]
    by_cases h0 : n = 32
    · subst h0; simp
    · rw [if_neg (show ¬ n - 1 < 32 by omega), show n - 32 - 1 = n - 1 - 32 from by omega]
      have e1 : decide (0 < n - 32) = true := by simp; omega
      have e2 : decide (n - 32 = 0) = false := by simp; omega
      have e3 : decide (0 < n) = true := by simp; omega
      rw [e1, e2, e3]
      simp

/-- The text of the set of some runs is their text. -/
theorem textB_runs (a b : Nat) (rs : List (Nat × Nat)) (ha : a < 4294967296) (hne : rs ≠ []) (hg : Good 0 rs) (h : ∀ n, n < 64 → hasB a b n = inR rs n) : textB a b = textR rs := by
  have hz : ¬ (a = 0 ∧ b = 0) := by
    rintro ⟨rfl, rfl⟩
    obtain ⟨x, hx⟩ := List.exists_mem_of_ne_nil rs hne
    have hx' := hg.all x hx
    have := h x.1 (by omega)
    rw [(inR_iff rs x.1).2 ⟨x, hx, Nat.le_refl _, hx'.2.1⟩] at this
    unfold hasB at this
    split at this <;> simp at this
  have hfirst : mem (first0 a) (first1 a b) = rs.map (·.1) := by
    refine rising_ext _ _ ?_ hg.rises fun n => ?_
    · unfold mem; exact List.Pairwise.filter _ List.pairwise_lt_range
    · rw [mem_mem, List.mem_map]
      constructor
      · rintro ⟨hn, hh⟩
        rw [hasB_first a b n ha hn, h n hn] at hh
        simp only [Bool.and_eq_true, Bool.not_eq_true'] at hh
        obtain ⟨x, hx, h1, h2⟩ := (inR_iff rs n).1 hh.1
        refine ⟨x, hx, ?_⟩
        by_cases he : x.1 = n
        · exact he
        · exfalso
          have h3 : inR rs (n - 1) = true := (inR_iff rs _).2 ⟨x, hx, by omega, by omega⟩
          have h4 := hh.2
          rw [h (n - 1) (by omega), h3] at h4
          simp at h4
          omega
      · rintro ⟨x, hx, rfl⟩
        have hx' := hg.all x hx
        refine ⟨by omega, ?_⟩
        rw [hasB_first a b x.1 ha (by omega), h x.1 (by omega), (inR_iff rs x.1).2 ⟨x, hx, Nat.le_refl _, hx'.2.1⟩]
        by_cases h0 : 0 < x.1
        · rw [h (x.1 - 1) (by omega), (hg.gaps x hx).2 h0]; simp
        · simp [h0]
  have hlast : ∀ x ∈ rs, lastOf a b x.1 = x.2 := by
    intro x hx
    have hx' := hg.all x hx
    have key : ∀ d n, n + d = x.2 → x.1 ≤ n → lastOf a b n = x.2 := by
      intro d
      induction d with
      | zero =>
        intro n hn hl
        have : memP a b (n + 1) = false := by
          unfold memP
          by_cases h64 : n + 1 < 64
          · rw [h _ h64, show n + 1 = x.2 + 1 from by omega, (hg.gaps x hx).1]; simp
          · simp [h64]
        rw [lastOf_end a b n (by omega) this]
        omega
      | succ d ih =>
        intro n hn hl
        have : memP a b (n + 1) = true := by
          unfold memP
          rw [h _ (by omega), (inR_iff rs _).2 ⟨x, hx, by omega, by omega⟩]
          simp; omega
        rw [lastOf_more a b n (by omega) this]
        exact ih (n + 1) (by omega) (by omega)
    exact key (x.2 - x.1) x.1 (by omega) (Nat.le_refl _)
  unfold textB
  rw [if_neg hz, hfirst]
  unfold runsB textR
  have gen : ∀ (rs' : List (Nat × Nat)) (ps : List (List UInt8)), (∀ x ∈ rs', lastOf a b x.1 = x.2) → (∀ p ∈ ps, p ≠ []) → (rs'.map (·.1)).foldl (fun bs f => addRun bs f (lastOf a b f)) (joinC ps) = joinC (ps ++ rs'.map fun x => runB x.1 x.2) := by
    intro rs'
    induction rs' with
    | nil => intro ps _ _; simp
    | cons y rs' ih =>
      intro ps h1 h2
      rw [List.map_cons, List.foldl_cons, List.map_cons, h1 y (by simp)]
      have e : addRun (joinC ps) y.1 y.2 = joinC (ps ++ [runB y.1 y.2]) := by
        unfold addRun
        by_cases hp : ps = []
        · subst hp; rfl
        · have hj : joinC ps ≠ [] := by
            cases ps with
            | nil => exact absurd rfl hp
            | cons p qs =>
              intro hc
              cases qs with
              | nil => exact h2 p (by simp) hc
              | cons q qs => rw [join_cons _ _ (by simp)] at hc; simp at hc
          rw [if_neg hj, join_snoc ps _ hp]
          simp
      rw [e, ih (ps ++ [runB y.1 y.2]) (fun x hx => h1 x (List.mem_cons_of_mem _ hx)) (fun p hp => by
        rcases List.mem_append.1 hp with hp | hp
        · exact h2 p hp
        · rw [List.mem_singleton.1 hp]; exact runB_ne _ _), List.append_assoc]
      rfl
  have := gen rs [] hlast (fun p hp => by cases hp)
  exact this
/-- Whatever is in a set makes runs. -/
theorem runs_of (p : Nat → Bool) : ∀ (d k : Nat), k + d = 65 → (0 < k → k ≤ 64 → True) → ∃ rs, Good k rs ∧ ∀ n, k ≤ n → n < 64 → p n = inR rs n := by
  intro d
  induction d using Nat.strongRecOn with
  | _ d ih =>
    intro k hkd _
    by_cases hk : 64 ≤ k
    · exact ⟨[], trivial, fun n h1 h2 => absurd h1 (by omega)⟩
    · cases hp : p k with
      | false =>
        obtain ⟨rs, h1, h2⟩ := ih (d - 1) (by omega) (k + 1) (by omega) (fun _ _ => trivial)
        refine ⟨rs, h1.mono (by omega), fun n h3 h4 => ?_⟩
        by_cases e : n = k
        · subst e; rw [hp, h1.low (by omega)]
        · exact h2 n (by omega) h4
      | true =>
        have ex : ∃ t, k ≤ t ∧ t < 64 ∧ (∀ n, k ≤ n → n ≤ t → p n = true) ∧ (t + 1 < 64 → p (t + 1) = false) := by
          have aux : ∀ e t, t + e = 63 → k ≤ t → (∀ n, k ≤ n → n ≤ t → p n = true) → ∃ t, k ≤ t ∧ t < 64 ∧ (∀ n, k ≤ n → n ≤ t → p n = true) ∧ (t + 1 < 64 → p (t + 1) = false) := by
            intro e
            induction e with
            | zero => intro t ht hkt h; exact ⟨t, hkt, by omega, h, fun h' => by omega⟩
            | succ e ihe =>
              intro t ht hkt h
              cases hq : p (t + 1) with
              | false => exact ⟨t, hkt, by omega, h, fun _ => hq⟩
              | true => exact ihe (t + 1) (by omega) (by omega) (fun n h1 h2 => by
                  by_cases e : n = t + 1
                  · rw [e]; exact hq
                  · exact h n h1 (by omega))
          exact aux (63 - k) k (by omega) (Nat.le_refl _) (fun n h1 h2 => by rw [show n = k from by omega]; exact hp)
        obtain ⟨t, t1, t2, t3, t4⟩ := ex
        by_cases ht : t + 2 ≤ 65
        · obtain ⟨rs, h1, h2⟩ := ih (65 - (t + 2)) (by omega) (t + 2) (by omega) (fun _ _ => trivial)
          refine ⟨(k, t) :: rs, ⟨Nat.le_refl _, t1, t2, h1⟩, fun n h3 h4 => ?_⟩
          have hc : inR ((k, t) :: rs) n = ((decide (k ≤ n) && decide (n ≤ t)) || inR rs n) := rfl
          rw [hc]
          by_cases e : n ≤ t
          · rw [t3 n h3 e]; simp [h3, e]
          · by_cases e2 : n = t + 1
            · subst e2; rw [t4 h4, h1.low (by omega)]; simp
            · rw [h2 n (by omega) h4]; simp [e]
        · omega
/-- Of every set the text is read as its runs. -/
theorem parse_text (a b : Nat) (ha : a < 4294967296) (hb : b < 4294967296) (hz : ¬ (a = 0 ∧ b = 0)) : ∃ rs, parseR (textB a b) = some rs ∧ ∀ n, n < 64 → hasB a b n = inR rs n := by
  obtain ⟨rs, h1, h2⟩ := runs_of (hasB a b) 65 0 rfl (fun _ _ => trivial)
  have h2' : ∀ n, n < 64 → hasB a b n = inR rs n := fun n hn => h2 n (Nat.zero_le _) hn
  have hne : rs ≠ [] := by
    rintro rfl
    apply hz
    exact words_ext a b 0 0 ha hb (by omega) (by omega) (fun n hn => by rw [h2' n hn]; unfold hasB; split <;> simp [inR])
  exact ⟨rs, by rw [textB_runs a b rs ha hne h1 h2']; exact parseR_mk rs hne h1, h2'⟩
end Go.Proofs.YthpinbngggcgcaaDoor
