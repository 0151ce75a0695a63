/-
  Chunks and their bytes; pieces from an index on; what a search goes by (mathematics).
-/
import Derived.Test.YtkhkhjkacibocaaCmMem
namespace Go.Proofs.Ytkhkhjkacibocaa

/-- A chunk: its link's block; where its bytes lie, the room that they have, and what they are. -/
structure Lk where
  lb : Nat
  g : Nat
  off : Nat
  cap : Nat
  bs : List Int
def flat (L : List Lk) : List Int := L.flatMap (·.bs)
def hdO (L : List Lk) : Option Nat := L.head?.map (·.lb)
def ltO (L : List Lk) : Option Nat := L.getLast?.map (·.lb)
theorem flat_nil : flat [] = [] := rfl
theorem flat_cons (x : Lk) (L : List Lk) : flat (x :: L) = x.bs ++ flat L := by simp [flat]
theorem flat_append (L M : List Lk) : flat (L ++ M) = flat L ++ flat M := by simp [flat]

/-- A piece: its index, where it lies, its bytes. -/
structure Pc where
  at_ : Nat
  g : Nat
  off : Nat
  bs : List Int
def pcs (f : Nat) : Nat → List Lk → List Pc
  | _, [] => []
  | a, x :: L => if f - a < x.bs.length then ⟨a + (f - a), x.g, x.off + (f - a), x.bs.drop (f - a)⟩ :: pcs f (a + x.bs.length) L else pcs f (a + x.bs.length) L
def gath (ps : List Pc) : List Int := ps.flatMap (·.bs)
theorem gath_nil : gath [] = [] := rfl
theorem gath_cons (p : Pc) (ps : List Pc) : gath (p :: ps) = p.bs ++ gath ps := by simp [gath]
theorem gath_append (ps qs : List Pc) : gath (ps ++ qs) = gath ps ++ gath qs := by simp [gath]
theorem pcs_gath (f : Nat) : ∀ (L : List Lk) (a : Nat), gath (pcs f a L) = (flat L).drop (f - a)
  | [], a => by simp [pcs, gath, flat]
  | x :: L, a => by
    have ih := pcs_gath f L (a + x.bs.length)
    unfold pcs
    rw [flat_cons, List.drop_append]
    split
    · rename_i h
      rw [gath_cons, ih, show f - (a + x.bs.length) = 0 by omega, show f - a - x.bs.length = 0 by omega]
    · rename_i h
      rw [ih, List.drop_of_length_le (show x.bs.length ≤ f - a by omega), List.nil_append, show f - (a + x.bs.length) = f - a - x.bs.length by omega]
theorem pcs_at (f : Nat) : ∀ (L : List Lk) (a : Nat) (pre : List Pc) (p : Pc) (r : List Pc), pre ++ p :: r = pcs f a L → p.at_ = max f a + (gath pre).length
  | [], a, pre, p, r, h => by simp [pcs] at h
  | x :: L, a, pre, p, r, h => by
    unfold pcs at h
    split at h
    · rename_i hx
      match pre, h with
      | [], h => injection h with h1 h2; subst h1; simp [gath]; omega
      | q :: pre, h =>
        injection h with h1 h2
        have ih := pcs_at f L _ pre p r h2
        subst h1
        rw [ih, gath_cons, List.length_append, List.length_drop]; omega
    · rename_i hx
      rw [pcs_at f L _ pre p r h]; omega
theorem pcs_pos (f : Nat) : ∀ (L : List Lk) (a : Nat), ∀ p ∈ pcs f a L, 0 < p.bs.length
  | [], a, p, h => by simp [pcs] at h
  | x :: L, a, p, h => by
    unfold pcs at h
    split at h
    · rcases List.mem_cons.1 h with rfl | h
      · simp; omega
      · exact pcs_pos f L _ p h
    · exact pcs_pos f L _ p h
theorem pcs_lens : ∀ (L : List Lk) (a : Nat), (∀ x ∈ L, 0 < x.bs.length) → (pcs 0 a L).map (·.bs.length) = L.map (·.bs.length)
  | [], a, _ => rfl
  | x :: L, a, h => by
    have h1 := h x (by simp)
    unfold pcs
    rw [if_pos (by omega)]
    simp only [List.map_cons, pcs_lens L _ fun y hy => h y (List.mem_cons_of_mem _ hy)]
    simp
theorem pcs_mem (f : Nat) : ∀ (L : List Lk) (a : Nat), ∀ p ∈ pcs f a L, ∃ x ∈ L, ∃ k, k < x.bs.length ∧ p.g = x.g ∧ p.off = x.off + k ∧ p.bs = x.bs.drop k
  | [], a, p, h => by simp [pcs] at h
  | x :: L, a, p, h => by
    unfold pcs at h
    split at h
    · rename_i hx
      rcases List.mem_cons.1 h with rfl | h
      · exact ⟨x, by simp, f - a, hx, rfl, rfl, rfl⟩
      · obtain ⟨y, hy, r⟩ := pcs_mem f L _ p h; exact ⟨y, by simp [hy], r⟩
    · obtain ⟨y, hy, r⟩ := pcs_mem f L _ p h; exact ⟨y, by simp [hy], r⟩

/-- The longest beginning of z that s ends with. -/
def IsM (z s : List Int) (k : Nat) : Prop := k ≤ z.length ∧ z.take k <:+ s ∧ ∀ j, j ≤ z.length → z.take j <:+ s → j ≤ k
theorem snoc_suffix {a s : List Int} {y x : Int} : a ++ [y] <:+ s ++ [x] ↔ a <:+ s ∧ y = x := by
  constructor
  · rintro ⟨t, ht⟩
    rw [← List.append_assoc] at ht
    obtain ⟨h1, h2⟩ := List.append_inj' ht rfl
    exact ⟨⟨t, h1⟩, by injection h2⟩
  · rintro ⟨⟨t, rfl⟩, rfl⟩
    exact ⟨t, by simp⟩
theorem take_snoc (z : List Int) {k : Nat} (h : k < z.length) : z.take (k + 1) = z.take k ++ [z[k]] := by
  rw [List.take_add_one, List.getElem?_eq_getElem h]; rfl
theorem isM_nil (z : List Int) : IsM z [] 0 := ⟨Nat.zero_le _, by simp, fun j hj h => by
  have := List.suffix_nil.1 h
  rw [List.take_eq_nil_iff] at this
  rcases this with h | h
  · omega
  · subst h; simpa using hj⟩
/-- While a beginning that goes on with x is looked for. -/
structure NextI (z s : List Int) (x : Int) (k : Nat) : Prop where
  lt : k < z.length
  suf : z.take k <:+ s
  most : ∀ j, (h : j < z.length) → z.take j <:+ s → z[j] = x → j ≤ k
theorem NextI.start {z s : List Int} {n : Nat} (h : IsM z s n) (hn : n < z.length) (x : Int) : NextI z s x n := ⟨hn, h.2.1, fun j hj hs _ => h.2.2 j (by omega) hs⟩
/-- What stands in the table at k. -/
def Back (z : List Int) (k b : Nat) : Prop := IsM z ((z.take k).drop 1) b
theorem Back.lt {z : List Int} {k b : Nat} (h : Back z k b) (h0 : 0 < k) (hk : k ≤ z.length) : b < k := by
  have h1 := h.2.1.length_le
  rw [List.length_take, List.length_drop, List.length_take] at h1
  have := h.1
  omega
theorem NextI.step {z s : List Int} {x : Int} {k b : Nat} (h : NextI z s x k) (hb : Back z k b) (h0 : 0 < k) (hx : z[k]'h.lt ≠ x) : NextI z s x b := by
  have hlt := hb.lt h0 (Nat.le_of_lt h.lt)
  have hd : (z.take k).drop 1 <:+ z.take k := List.drop_suffix _ _
  refine ⟨Nat.lt_trans hlt h.lt, (hb.2.1.trans hd).trans h.suf, fun j hj hs hjx => ?_⟩
  have h1 := h.most j hj hs hjx
  have h2 : j ≠ k := fun e => by subst e; exact hx hjx
  refine hb.2.2 j (by omega) ?_
  have h3 : z.take j <:+ z.take k := List.suffix_of_suffix_length_le hs h.suf (by rw [List.length_take, List.length_take]; omega)
  have := h.lt
  exact List.suffix_of_suffix_length_le h3 hd (by rw [List.length_take, List.length_drop, List.length_take]; omega)
theorem NextI.yes {z s : List Int} {x : Int} {k : Nat} (h : NextI z s x k) (hx : z[k]'h.lt = x) : IsM z (s ++ [x]) (k + 1) := by
  have hk := h.lt
  refine ⟨hk, ?_, fun j hj hs => ?_⟩
  · rw [take_snoc z hk]; exact snoc_suffix.2 ⟨h.suf, hx⟩
  · match j with
    | 0 => omega
    | i + 1 =>
      rw [take_snoc z (by omega)] at hs
      obtain ⟨h1, h2⟩ := snoc_suffix.1 hs
      have := h.most i (by omega) h1 h2
      omega
theorem NextI.no {z s : List Int} {x : Int} (h : NextI z s x 0) (hx : z[0]'h.lt ≠ x) : IsM z (s ++ [x]) 0 := by
  refine ⟨Nat.zero_le _, by simp, fun j hj hs => ?_⟩
  match j with
  | 0 => omega
  | i + 1 =>
    rw [take_snoc z (by omega)] at hs
    obtain ⟨h1, h2⟩ := snoc_suffix.1 hs
    have := h.most i (by omega) h1 h2
    obtain rfl : i = 0 := by omega
    exact absurd h2 hx
theorem back_snoc {z : List Int} {n k : Nat} (hn : 1 ≤ n) (hl : n < z.length) (h : IsM z ((z.take n).drop 1 ++ [z[n]]) k) : Back z (n + 1) k := by
  unfold Back
  rw [take_snoc z hl, List.drop_append_of_le_length (by rw [List.length_take]; omega)]
  exact h
theorem back_one (z : List Int) (hl : 1 ≤ z.length) : Back z 1 0 := by
  unfold Back
  rw [List.drop_of_length_le (by rw [List.length_take]; omega)]
  exact isM_nil z

/-- z stands at an index. -/
def Occ (B z : List Int) (i : Nat) : Prop := (B.drop i).take z.length = z
theorem Occ.le {B z : List Int} {i : Nat} (h : Occ B z i) (h0 : 0 < z.length) : i + z.length ≤ B.length := by
  have := congrArg List.length h
  rw [List.length_take, List.length_drop] at this
  omega
/-- What a search finds. -/
def FindR (B z : List Int) (f : Nat) : Option Nat → Prop
  | none => ∀ i, f ≤ i → ¬ Occ B z i
  | some i => f ≤ i ∧ Occ B z i ∧ ∀ j, f ≤ j → j < i → ¬ Occ B z j
theorem ends_occ {B z : List Int} {f j : Nat} (hj : j ≤ B.length - f) : z <:+ (B.drop f).take j ↔ z.length ≤ j ∧ Occ B z (f + (j - z.length)) := by
  have hl : ((B.drop f).take j).length = j := by rw [List.length_take, List.length_drop]; omega
  have key : z.length ≤ j → ((B.drop f).take j).drop (j - z.length) = (B.drop (f + (j - z.length))).take z.length := fun h => by
    rw [List.drop_take, List.drop_drop]
    congr 1
    omega
  constructor
  · intro h
    have h1 := h.length_le
    rw [hl] at h1
    refine ⟨h1, ?_⟩
    have h2 := List.suffix_iff_eq_drop.1 h
    rw [hl, key h1] at h2
    exact h2.symm
  · rintro ⟨h1, h2⟩
    rw [List.suffix_iff_eq_drop, hl, key h1]
    exact h2.symm
theorem isM_full {z s : List Int} : IsM z s z.length ↔ z <:+ s :=
  ⟨fun h => by have := h.2.1; rwa [List.take_length] at this, fun h => ⟨Nat.le_refl _, by rwa [List.take_length], fun _ hj _ => hj⟩⟩
theorem isM_unique {z s : List Int} {a b : Nat} (h : IsM z s a) (k : IsM z s b) : a = b := Nat.le_antisymm (k.2.2 a h.1 h.2.1) (h.2.2 b k.1 k.2.1)
/-- Nothing has been found in the first j bytes. -/
def Yet (B z : List Int) (f j : Nat) : Prop := ∀ i, i ≤ j → ¬ z <:+ (B.drop f).take i
theorem Yet.zero {B z : List Int} {f : Nat} (h0 : 0 < z.length) : Yet B z f 0 := fun i hi h => by
  have := h.length_le
  rw [List.length_take] at this
  omega
theorem Yet.next {B z : List Int} {f j k : Nat} (h : Yet B z f j) (hm : IsM z ((B.drop f).take (j + 1)) k) (hk : k ≠ z.length) : Yet B z f (j + 1) := fun i hi h1 => by
  by_cases e : i = j + 1
  · subst e; exact hk (isM_unique hm (isM_full.2 h1))
  · exact h i (by omega) h1
theorem Yet.found {B z : List Int} {f j : Nat} (h : Yet B z f j) (hj : j + 1 ≤ B.length - f) (hm : IsM z ((B.drop f).take (j + 1)) z.length) : z.length ≤ j + 1 ∧ FindR B z f (some (f + (j + 1 - z.length))) := by
  obtain ⟨h1, h2⟩ := (ends_occ hj).1 (isM_full.1 hm)
  refine ⟨h1, Nat.le_add_right _ _, h2, fun i hi hlt ho => ?_⟩
  refine h (i - f + z.length) (by omega) ((ends_occ (by omega)).2 ⟨by omega, ?_⟩)
  rw [show f + (i - f + z.length - z.length) = i by omega]; exact ho
theorem Yet.none {B z : List Int} {f : Nat} (h : Yet B z f (B.length - f)) (h0 : 0 < z.length) : FindR B z f none := fun i hi ho => by
  have := ho.le h0
  refine h (i - f + z.length) (by omega) ((ends_occ (by omega)).2 ⟨by omega, ?_⟩)
  rw [show f + (i - f + z.length - z.length) = i by omega]; exact ho
theorem FindR.unique {B z : List Int} {f : Nat} : ∀ {a b : Option Nat}, FindR B z f a → FindR B z f b → a = b
  | none, none, _, _ => rfl
  | none, some i, h, k => absurd k.2.1 (h i k.1)
  | some i, none, h, k => absurd h.2.1 (k i h.1)
  | some i, some j, h, k => by
    have : ¬ i < j := fun e => k.2.2 i h.1 e h.2.1
    have : ¬ j < i := fun e => h.2.2 j k.1 e k.2.1
    rw [show i = j by omega]
end Go.Proofs.Ytkhkhjkacibocaa
