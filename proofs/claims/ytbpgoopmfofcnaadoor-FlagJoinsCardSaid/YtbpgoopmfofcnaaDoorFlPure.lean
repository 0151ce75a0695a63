/-
  What a round over words does to a mask and to what was said, and what all rounds come to. Plain mathematics.
-/
import Derived.Test.YtbpgoopmfofcnaaDoorFlSeq
import Derived.Test.YtbpgoopmfofcnaaDoorFlBits
namespace Go.Proofs.YtbpgoopmfofcnaaDoor

/-- The bits below k that l has. -/
def sel (k l : Nat) : List Nat := (List.range k).filter l.testBit
/-- What is left of a mask, and which words were said, behind a word. -/
def stp (s : Int × List Nat) (x : Nat) : Int × List Nat := if bits .and .i64 s.1 (bitV x) = 0 then s else (bits .andNot .i64 s.1 (bitV x), s.2 ++ [x])
def stt (z : Int) (pre : List Nat) : Int × List Nat := pre.foldl stp (z, [])
theorem stt_nil (z : Int) : stt z [] = (z, []) := rfl
theorem stt_snoc (z : Int) (pre : List Nat) (x : Nat) : stt z (pre ++ [x]) = stp (stt z pre) x := by unfold stt; rw [List.foldl_append]; rfl
theorem stt_skip {z : Int} {pre : List Nat} {x : Nat} (h : bits .and .i64 (stt z pre).1 (bitV x) = 0) : stt z (pre ++ [x]) = stt z pre := by rw [stt_snoc]; unfold stp; rw [if_pos h]
theorem stt_take {z : Int} {pre : List Nat} {x : Nat} (h : ¬ bits .and .i64 (stt z pre).1 (bitV x) = 0) : stt z (pre ++ [x]) = (bits .andNot .i64 (stt z pre).1 (bitV x), (stt z pre).2 ++ [x]) := by rw [stt_snoc]; unfold stp; rw [if_neg h]
theorem stt_len (z : Int) : ∀ pre : List Nat, (stt z pre).2.length ≤ pre.length := by
  intro pre
  generalize hn : pre.length = n
  induction n generalizing pre with
  | zero => have : pre = [] := List.eq_nil_of_length_eq_zero hn; subst this; simp [stt]
  | succ n ih =>
    have hne : pre ≠ [] := by intro h; rw [h] at hn; cases hn
    obtain ⟨p, x, rfl⟩ : ∃ p x, pre = p ++ [x] := ⟨pre.dropLast, pre.getLast hne, (List.dropLast_concat_getLast hne).symm⟩
    have hp : p.length = n := by simpa using hn
    have := ih p hp
    rw [stt_snoc]
    unfold stp
    split
    · omega
    · simp; omega

/-- l without its k lowest bits. -/
def cl (k l : Nat) : Nat := l / 2 ^ k * 2 ^ k
theorem cl_and : ∀ (k : Fin 6) (l : Fin 64), ((cl k.val l.val &&& 2 ^ k.val : Nat) = 0 ↔ l.val.testBit k.val = false) := by decide +kernel
theorem cl_skip : ∀ (k : Fin 6) (l : Fin 64), l.val.testBit k.val = false → cl (k.val + 1) l.val = cl k.val l.val := by decide +kernel
theorem cl_take : ∀ (k : Fin 6) (l : Fin 64), l.val.testBit k.val = true → (cl k.val l.val &&& (63 - 2 ^ k.val) : Nat) = cl (k.val + 1) l.val := by decide +kernel
theorem cl_lt : ∀ (k : Fin 7) (l : Fin 64), cl k.val l.val < 64 := by decide +kernel
theorem cl_sel : ∀ (k n : Fin 7) (l : Fin 64), k ≤ n → cl k.val l.val = 0 → sel k.val l.val = sel n.val l.val := by decide +kernel
theorem cl_zero : ∀ (n : Fin 7) (l : Fin 64), (cl n.val l.val = 0 ↔ l.val < 2 ^ n.val) := by decide +kernel
theorem sel_succ (k l : Nat) : sel (k + 1) l = sel k l ++ (if l.testBit k then [k] else []) := by
  unfold sel; rw [List.range_succ, List.filter_append]; congr 1
  cases h : l.testBit k <;> simp [h]
theorem bitV_nat (k : Nat) : bitV k = ((2 ^ k : Nat) : Int) := by unfold bitV; simp
theorem stt_range (z : Int) (h0 : -9223372036854775808 ≤ z) (h1 : z ≤ 9223372036854775807) : ∀ k, k ≤ 6 → stt z (List.range k) = (z / 64 * 64 + (cl k (z % 64).toNat : Int), sel k (z % 64).toNat) := by
  have hl : (z % 64).toNat < 64 := by omega
  obtain ⟨l, hle⟩ : ∃ l, (z % 64).toNat = l := ⟨_, rfl⟩
  rw [hle] at hl ⊢
  intro k hk
  induction k with
  | zero =>
    rw [show List.range 0 = [] from rfl, stt_nil, show cl 0 l = l by unfold cl; simp, show sel 0 l = [] from rfl]
    congr 1
    omega
  | succ k ih =>
    have hi := ih (by omega)
    have hcl := cl_lt ⟨k, by omega⟩ ⟨l, hl⟩
    have hp : 2 ^ k < 64 := by
      have : 2 ^ k ≤ 2 ^ 5 := Nat.pow_le_pow_right (by omega) (by omega)
      omega
    simp only at hcl
    have hmod : ((z / 64 * 64 + (cl k l : Int)) % 64).toNat = cl k l := by omega
    have hdiv : (z / 64 * 64 + (cl k l : Int)) / 64 = z / 64 := by omega
    have ea : bits .and .i64 (stt z (List.range k)).1 (bitV k) = ((cl k l &&& 2 ^ k : Nat) : Int) := by
      rw [hi, bitV_nat, and_lo _ _ hp, hmod]
    have en : bits .andNot .i64 (stt z (List.range k)).1 (bitV k) = z / 64 * 64 + ((cl k l &&& (63 - 2 ^ k) : Nat) : Int) := by
      rw [hi, bitV_nat, andNot_lo _ _ (by simp only; omega) (by simp only; omega) hp, hmod, hdiv]
    have a := cl_and ⟨k, by omega⟩ ⟨l, hl⟩
    simp only at a
    rw [List.range_succ]
    cases ht : l.testBit k with
    | false =>
      rw [stt_skip (by rw [ea, a.2 ht]; rfl), hi, sel_succ, ht, cl_skip ⟨k, by omega⟩ ⟨l, hl⟩ ht]
      simp
    | true =>
      rw [stt_take (by rw [ea]; intro h; have h' : (cl k l &&& 2 ^ k : Nat) = 0 := (by omega); exact absurd (a.1 h') (by rw [ht]; simp)), en, hi, sel_succ, ht, cl_take ⟨k, by omega⟩ ⟨l, hl⟩ ht]
      simp

/-- All rounds over n words. -/
theorem stt_end {z : Int} {n : Nat} (h0 : -9223372036854775808 ≤ z) (h1 : z ≤ 9223372036854775807) (hn : n ≤ 6) :
    ((stt z (List.range n)).1 = 0 ↔ (0 ≤ z ∧ z < 2 ^ n)) ∧ ((0 ≤ z ∧ z < 2 ^ n) → (stt z (List.range n)).2 = sel n z.toNat) := by
  have hz := cl_zero ⟨n, by omega⟩ ⟨(z % 64).toNat, by omega⟩
  have hp : (2 : Nat) ^ n ≤ 2 ^ 6 := Nat.pow_le_pow_right (by omega) hn
  have hpi : (2 : Int) ^ n = ((2 ^ n : Nat) : Int) := by simp
  simp only at hz
  rw [stt_range z h0 h1 n hn, hpi]
  refine ⟨⟨fun h => ?_, fun h => ?_⟩, fun h => ?_⟩
  · simp only at h
    have hc := cl_lt ⟨n, by omega⟩ ⟨(z % 64).toNat, by omega⟩
    simp only at hc
    have h2 : cl n (z % 64).toNat = 0 := by omega
    have := hz.1 h2
    omega
  · simp only
    rw [hz.2 (by omega)]
    omega
  · simp only
    rw [show (z % 64).toNat = z.toNat by omega]
theorem stt_brk {z : Int} {n k : Nat} (h0 : -9223372036854775808 ≤ z) (h1 : z ≤ 9223372036854775807) (hn : n ≤ 6) (hk : k ≤ n) (h : (stt z (List.range k)).1 = 0) : (0 ≤ z ∧ z < 2 ^ n) ∧ (stt z (List.range k)).2 = sel n z.toNat := by
  have hk6 := stt_range z h0 h1 k (by omega)
  rw [hk6] at h ⊢
  have hc := cl_lt ⟨k, by omega⟩ ⟨(z % 64).toNat, by omega⟩
  simp only at hc h ⊢
  have h2 : cl k (z % 64).toNat = 0 := by omega
  have hs := cl_sel ⟨k, by omega⟩ ⟨n, by omega⟩ ⟨(z % 64).toNat, by omega⟩ (by simpa using hk) h2
  have hlt := (cl_zero ⟨k, by omega⟩ ⟨(z % 64).toNat, by omega⟩).1 h2
  simp only at hs hlt
  have hp : (2 : Nat) ^ k ≤ 2 ^ n := Nat.pow_le_pow_right (by omega) hk
  have hp6 : (2 : Nat) ^ n ≤ 2 ^ 6 := Nat.pow_le_pow_right (by omega) hn
  have hpi : (2 : Int) ^ n = ((2 ^ n : Nat) : Int) := by simp
  rw [hs, hpi]
  exact ⟨by omega, by rw [show (z % 64).toNat = z.toNat by omega]⟩

/-- The text of words; of a mask; the error. -/
def txt (Wd : Nat → ByteArray) (ks : List Nat) : ByteArray := ⟨(Lib.join (ks.map fun k => (Wd k).data.toList) [43]).toArray⟩
def textB (Wd : Nat → ByteArray) (n : Nat) (z : Int) : ByteArray := if z = 0 then ⟨#[110, 111, 110, 101]⟩ else if 0 ≤ z ∧ z < 2 ^ n then txt Wd (sel n z.toNat) else ⟨#[]⟩
def textE (n : Nat) (z : Int) : Int := if 0 ≤ z ∧ z < 2 ^ n then 0 else 50
theorem sel_ne : ∀ (n : Fin 7) (l : Fin 64), 0 < l.val → l.val < 2 ^ n.val → sel n.val l.val ≠ [] := by decide +kernel
theorem sel_mem {n l k : Nat} (h : k ∈ sel n l) : k < n := by unfold sel at h; simpa using (List.mem_filter.1 h).1
end Go.Proofs.YtbpgoopmfofcnaaDoor
