/-
  Which mask words say: going through the words, from the lowest bit, finds just the mask whose text it is. Plain mathematics.
-/
import Derived.Test.YtbpgoopmfofcnaaDoorFlCut
import Derived.Lib.IndexLaws
namespace Go.Proofs.YtbpgoopmfofcnaaDoor

theorem idx_plus : ∀ (a b : List UInt8), 43 ∉ a → Lib.indexByte (a ++ 43 :: b) 43 = a.length
  | [], b, _ => by simp [Lib.indexByte]
  | x :: a, b, h => by
    have hx : ¬ x = 43 := fun e => h (by rw [e]; exact List.mem_cons_self ..)
    have ha := idx_plus a b (fun e => h (List.mem_cons_of_mem _ e))
    simp only [List.cons_append, Lib.indexByte, beq_iff_eq, hx, if_false, ha]
    rw [if_neg (by omega)]
    simp
theorem idx_none : ∀ (a : List UInt8), 43 ∉ a → Lib.indexByte a 43 = -1
  | [], _ => rfl
  | x :: a, h => by
    have hx : ¬ x = 43 := fun e => h (by rw [e]; exact List.mem_cons_self ..)
    have ha := idx_none a (fun e => h (List.mem_cons_of_mem _ e))
    simp [Lib.indexByte, hx, ha]
theorem cut_plus (a b : List UInt8) (h : 43 ∉ a) : Lib.cut (a ++ 43 :: b) [43] = (a, b, true) := by
  unfold Lib.cut
  rw [Lib.index_one, idx_plus a b h, if_pos (by omega)]
  simp
theorem cut_none (a : List UInt8) (h : 43 ∉ a) : Lib.cut a [43] = (a, [], false) := by
  unfold Lib.cut
  rw [Lib.index_one, idx_none a h, if_neg (by omega)]
theorem ba_ext {a b : ByteArray} (h : a.data.toList = b.data.toList) : a = b := by
  cases a; cases b; simp at h; rw [h]
theorem cut_more {s : ByteArray} (h : moreB s = true) : s.data.toList = (headB s).data.toList ++ 43 :: (restB s).data.toList := by
  unfold moreB cutL Lib.cut at h
  split at h
  · rename_i h0
    have e : headB s = ⟨(s.data.toList.take (Lib.index s.data.toList [43]).toNat).toArray⟩ ∧ restB s = ⟨(s.data.toList.drop ((Lib.index s.data.toList [43]).toNat + 1)).toArray⟩ := by
      unfold headB restB cutL Lib.cut
      rw [if_pos h0]
      exact ⟨rfl, rfl⟩
    rw [e.1, e.2]
    obtain ⟨i, hi⟩ : ∃ i : Nat, Lib.index s.data.toList [43] = i := ⟨(Lib.index s.data.toList [43]).toNat, by omega⟩
    have h1 := Lib.indexByte_some (by rw [← Lib.index_one]; exact hi)
    rw [hi]
    have hlt : i < s.data.toList.length := by
      rcases Nat.lt_or_ge i s.data.toList.length with h | h
      · exact h
      · rw [List.getElem?_eq_none h] at h1; cases h1.1
    have h2 : s.data.toList[i] = 43 := by have := h1.1; rw [List.getElem?_eq_getElem hlt] at this; exact Option.some.inj this
    simp only [Int.toNat_natCast]
    have h3 := List.drop_eq_getElem_cons hlt
    rw [h2] at h3
    rw [← h3, List.take_append_drop]
  · simp at h
theorem cut_last {s : ByteArray} (h : moreB s = false) : headB s = s := by
  unfold moreB cutL Lib.cut at h
  split at h
  · cases h
  · rename_i h0
    unfold headB cutL Lib.cut
    rw [if_neg h0]
theorem rest_size (s : ByteArray) (h : moreB s = true) : (restB s).size < s.size := by
  have := congrArg List.length (cut_more h)
  simp only [List.length_append, List.length_cons, Array.length_toList] at this
  show (restB s).data.size < s.data.size
  omega
theorem rest_le (s : ByteArray) : (restB s).size ≤ s.size := by
  cases h : moreB s with
  | true => exact Nat.le_of_lt (rest_size s h)
  | false =>
    have : restB s = ⟨#[]⟩ := by
      unfold moreB cutL Lib.cut at h
      split at h
      · cases h
      · rename_i h0
        unfold restB cutL Lib.cut
        rw [if_neg h0]
    rw [this]; exact Nat.zero_le _

/-- The mask that words say, going through ks. -/
def prs (Wd : Nat → ByteArray) : List Nat → Int → ByteArray → Option Int
  | [], _, _ => none
  | k :: ks, m, s => if Wd k = headB s then (if moreB s = true then prs Wd ks (bits .or .i64 m (bitV k)) (restB s) else some (bits .or .i64 m (bitV k))) else prs Wd ks m s
def mor (m : Int) (js : List Nat) : Int := js.foldl (fun m j => bits .or .i64 m (bitV j)) m

theorem txt_one (Wd : Nat → ByteArray) (j : Nat) : txt Wd [j] = Wd j := by unfold txt; simp [Lib.join]
theorem txt_two (Wd : Nat → ByteArray) (j b : Nat) (t : List Nat) : (txt Wd (j :: b :: t)).data.toList = (Wd j).data.toList ++ 43 :: (txt Wd (b :: t)).data.toList := by unfold txt; simp [Lib.join]
theorem prs_all {Wd : Nat → ByteArray} : ∀ (ks js : List Nat) (m : Int), js ≠ [] → js.Sublist ks → ks.Pairwise (fun a b => Wd a ≠ Wd b) → (∀ k ∈ ks, 43 ∉ (Wd k).data.toList) → prs Wd ks m (txt Wd js) = some (mor m js) := by
  intro ks
  induction ks with
  | nil => intro js m h1 h2; cases h2; exact absurd rfl h1
  | cons k ks ih =>
    intro js m h1 h2 h3 h4
    have h3' := List.pairwise_cons.1 h3
    have h4' : ∀ x ∈ ks, 43 ∉ (Wd x).data.toList := fun x hx => h4 x (List.mem_cons_of_mem _ hx)
    have hk := h4 k (List.mem_cons_self ..)
    have hhead : ∀ j t, 43 ∉ (Wd j).data.toList → headB (txt Wd (j :: t)) = Wd j ∧ (t = [] → moreB (txt Wd (j :: t)) = false) ∧ (∀ b u, t = b :: u → moreB (txt Wd (j :: t)) = true ∧ restB (txt Wd (j :: t)) = txt Wd t) := by
      intro j t hj
      cases t with
      | nil =>
        rw [txt_one]
        have e := cut_none _ hj
        refine ⟨ba_ext (by unfold headB cutL; rw [e]), (fun _ => by unfold moreB cutL; rw [e]), (fun b u h => by cases h)⟩
      | cons b u =>
        have e := cut_plus (Wd j).data.toList (txt Wd (b :: u)).data.toList hj
        rw [← txt_two] at e
        refine ⟨ba_ext (by unfold headB cutL; rw [e]), (fun h => by cases h), (fun b' u' _ => ⟨by unfold moreB cutL; rw [e], ba_ext (by unfold restB cutL; rw [e])⟩)⟩
    cases h2 with
    | cons _ h2 =>
      cases js with
      | nil => exact absurd rfl h1
      | cons j t =>
        have hj : j ∈ ks := h2.subset (List.mem_cons_self ..)
        have hh := hhead j t (h4' j hj)
        unfold prs
        rw [hh.1, if_neg (h3'.1 j hj)]
        exact ih (j :: t) m h1 h2 h3'.2 h4'
    | cons_cons _ h2 =>
      rename_i t
      have hh := hhead k t hk
      unfold prs
      rw [hh.1, if_pos rfl]
      cases t with
      | nil => rw [hh.2.1 rfl]; rfl
      | cons b u =>
        rw [(hh.2.2 b u rfl).1, if_pos rfl, (hh.2.2 b u rfl).2, ih (b :: u) _ (by simp) h2 h3'.2 h4']
        rfl
theorem prs_only {Wd : Nat → ByteArray} : ∀ (ks : List Nat) (m v : Int) (s : ByteArray), prs Wd ks m s = some v → ∃ js, js ≠ [] ∧ js.Sublist ks ∧ s = txt Wd js ∧ v = mor m js := by
  intro ks
  induction ks with
  | nil => intro m v s h; cases h
  | cons k ks ih =>
    intro m v s h
    unfold prs at h
    split at h
    · rename_i hk
      split at h
      · rename_i hm
        obtain ⟨js, h1, h2, h3, h4⟩ := ih _ _ _ h
        refine ⟨k :: js, by simp, h2.cons_cons k, ba_ext ?_, h4⟩
        rw [cut_more hm, ← hk, h3]
        cases js with
        | nil => exact absurd rfl h1
        | cons b t => rw [txt_two]
      · rename_i hm
        have hm' : moreB s = false := by simpa using hm
        refine ⟨[k], by simp, by simp, ?_, (Option.some.inj h).symm⟩
        rw [txt_one, hk, cut_last hm']
    · obtain ⟨js, h1, h2, h3, h4⟩ := ih _ _ _ h
      exact ⟨js, h1, h2.cons k, h3, h4⟩
def subs : List Nat → List (List Nat)
  | [] => [[]]
  | k :: ks => subs ks ++ (subs ks).map (k :: ·)
theorem mem_subs : ∀ {ks js : List Nat}, js.Sublist ks → js ∈ subs ks := by
  intro ks
  induction ks with
  | nil => intro js h; cases h; exact List.mem_singleton.2 rfl
  | cons k ks ih =>
    intro js h
    unfold subs
    rw [List.mem_append]
    cases h with
    | cons _ h => exact .inl (ih h)
    | cons_cons _ h => exact .inr (List.mem_map.2 ⟨_, ih h, rfl⟩)
theorem mor_sub : ∀ n ∈ [4, 6], ∀ js ∈ subs (List.range n), js ≠ [] → 0 < mor 0 js ∧ mor 0 js < 2 ^ n ∧ sel n (mor 0 js).toNat = js := by decide +kernel
theorem mor_sel : ∀ l : Fin 64, mor 0 (sel 6 l.val) = (l.val : Int) := by decide +kernel
theorem mor_sel4 : ∀ l : Fin 16, mor 0 (sel 4 l.val) = (l.val : Int) := by decide +kernel

/-- Both kinds of words. -/
structure Kind (Wd : Nat → ByteArray) (n : Nat) : Prop where
  hn : n = 4 ∨ n = 6
  apart : (List.range n).Pairwise (fun a b => Wd a ≠ Wd b)
  plain : ∀ k ∈ List.range n, 43 ∉ (Wd k).data.toList
  none : prs Wd (List.range n) 0 ⟨#[110, 111, 110, 101]⟩ = none
theorem kindW : Kind wordB 6 := ⟨.inr rfl, by decide +kernel, by decide +kernel, by decide +kernel⟩
theorem kindF : Kind featB 4 := ⟨.inl rfl, by decide +kernel, by decide +kernel, by decide +kernel⟩

/-- What words say, or nothing. -/
def PR (Wd : Nat → ByteArray) (n : Nat) (s : ByteArray) : Option Int := if s = ⟨#[110, 111, 110, 101]⟩ then some 0 else prs Wd (List.range n) 0 s
theorem PR_iff {Wd : Nat → ByteArray} {n : Nat} (K : Kind Wd n) (s : ByteArray) (v : Int) : PR Wd n s = some v ↔ (0 ≤ v ∧ v < 2 ^ n ∧ textB Wd n v = s) := by
  have hpos : (0 : Int) < 2 ^ n := Int.pow_pos (by omega)
  have key : ∀ v : Int, 0 < v → v < 2 ^ n → prs Wd (List.range n) 0 (textB Wd n v) = some v := by
    intro v h1 h2
    have e : textB Wd n v = txt Wd (sel n v.toNat) := by unfold textB; rw [if_neg (by omega), if_pos ⟨by omega, h2⟩]
    have hsub : (sel n v.toNat).Sublist (List.range n) := List.filter_sublist ..
    have hmor : mor 0 (sel n v.toNat) = v := by
      rcases K.hn with rfl | rfl
      · have := mor_sel4 ⟨v.toNat, by omega⟩
        simp only at this
        rw [this]; omega
      · have := mor_sel ⟨v.toNat, by omega⟩
        simp only at this
        rw [this]; omega
    have hne : sel n v.toNat ≠ [] := by
      intro h0
      rw [h0] at hmor
      have : mor 0 [] = 0 := rfl
      omega
    rw [e, prs_all _ _ _ hne hsub K.apart K.plain, hmor]
  unfold PR
  by_cases hs : s = ⟨#[110, 111, 110, 101]⟩
  · rw [if_pos hs]
    constructor
    · intro h
      obtain rfl : 0 = v := Option.some.inj h
      exact ⟨by omega, hpos, by unfold textB; rw [if_pos rfl, hs]⟩
    · rintro ⟨h1, h2, h3⟩
      by_cases hv : v = 0
      · rw [hv]
      · have := key v (by omega) h2
        rw [h3, hs, K.none] at this
        cases this
  · rw [if_neg hs]
    constructor
    · intro h
      obtain ⟨js, h1, h2, h3, h4⟩ := prs_only _ _ _ _ h
      have hm := mor_sub n (by rcases K.hn with rfl | rfl <;> simp) js (mem_subs h2) h1
      rw [← h4] at hm
      refine ⟨by omega, hm.2.1, ?_⟩
      unfold textB
      rw [if_neg (by omega), if_pos ⟨by omega, hm.2.1⟩, hm.2.2, h3]
    · rintro ⟨h1, h2, h3⟩
      have hv : v ≠ 0 := fun e => hs (by rw [← h3, e]; unfold textB; rw [if_pos rfl])
      rw [← h3]
      exact key v (by omega) h2
def prV (Wd : Nat → ByteArray) (n : Nat) (s : ByteArray) : Int := (PR Wd n s).getD 0
def prE (Wd : Nat → ByteArray) (n : Nat) (s : ByteArray) : Int := if (PR Wd n s).isSome then 0 else 50
end Go.Proofs.YtbpgoopmfofcnaaDoor
