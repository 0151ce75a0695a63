/-
  Mathematics of BucketBounds: what is taken in a stretch of time.
-/
import Derived.Test.YtalabakmeepboaaBkPure
namespace Go.Proofs.Ytalabakmeepboaa

/-- The sum of the tokens from one take on, up to another one. -/
def sumF (ks : List Int) (i k : Nat) : Int := ((ks.drop i).take (k - i)).sum
theorem sum_app (a b : List Int) : (a ++ b).sum = a.sum + b.sum := by induction a <;> simp_all; omega
theorem sumF_self (ks : List Int) (i : Nat) : sumF ks i i = 0 := by unfold sumF; simp
theorem sumF_succ {ks : List Int} {i k : Nat} {x : Int} (h : i ≤ k) (hx : ks[k]? = some x) : sumF ks i (k + 1) = sumF ks i k + x := by
  unfold sumF
  have hk := (List.getElem?_eq_some_iff.1 hx).1
  have e : k + 1 - i = (k - i) + 1 := by omega
  have hd : (ks.drop i)[k - i]? = some x := by rw [List.getElem?_drop, show i + (k - i) = k by omega]; exact hx
  obtain ⟨hl, hv⟩ := List.getElem?_eq_some_iff.1 hd
  rw [e, List.take_succ_eq_append_getElem hl, sum_app, hv]
  simp
theorem sumF_app {ks : List Int} {i k : Nat} (y : Int) (hk : k ≤ ks.length) : sumF (ks ++ [y]) i k = sumF ks i k := by
  unfold sumF
  by_cases hi : i ≤ ks.length
  · rw [List.drop_append_of_le_length hi, List.take_append_of_le_length (by rw [List.length_drop]; omega)]
  · rw [show k - i = 0 by omega]; simp
theorem sumF_nn {ks : List Int} (h : ∀ x ∈ ks, 0 ≤ x) (i k : Nat) : 0 ≤ sumF ks i k := by
  unfold sumF
  have : ∀ l : List Int, (∀ x ∈ l, 0 ≤ x) → 0 ≤ l.sum := by
    intro l
    induction l with
    | nil => intro; simp
    | cons a l ih =>
      intro h
      have := h a (by simp)
      have := ih fun x hx => h x (by simp [hx])
      simp; omega
  exact this _ fun x hx => h x (List.mem_of_mem_drop (List.mem_of_mem_take hx))
theorem sumF_le {ks : List Int} {b : Int} (h : ∀ x ∈ ks, x ≤ b) (i k : Nat) (hk : k ≤ ks.length) (hb : 0 ≤ b) : sumF ks i k ≤ (k : Int) * b := by
  by_cases hi : k ≤ i
  · unfold sumF
    rw [show k - i = 0 by omega]
    simp
    exact Int.mul_nonneg (by omega) hb
  · have : ∀ j : Nat, i ≤ j → j ≤ ks.length → sumF ks i j ≤ (j : Int) * b := by
      intro j
      induction j with
      | zero => intro h1 h2; rw [show i = 0 by omega, sumF_self]; simp
      | succ j ih =>
        intro h1 h2
        rcases Nat.lt_or_eq_of_le h1 with h1 | h1
        · have hx := List.getElem?_eq_getElem (l := ks) (i := j) (by omega)
          rw [sumF_succ (by omega) hx]
          have := ih (by omega) (by omega)
          have := h _ (List.mem_of_getElem? hx)
          have e : ((j + 1 : Nat) : Int) * b = (j : Int) * b + b := by rw [Int.natCast_add, Int.add_mul]; simp
          omega
        · rw [← h1, sumF_self]; exact Int.mul_nonneg (by omega) hb
    exact this k (by omega) hk

theorem per_multiple {e now next : Int} (he : 1 ≤ e) (h0 : 0 ≤ now) (h : now ≤ next) : per e (now / e * e) next = next / e - now / e := by
  have h1 := div_lo (x := now) he
  by_cases hc : next ≤ now / e * e
  · have e1 : next = now := by omega
    have e2 : next / e = now / e := by rw [e1]
    rw [per_zero hc, e2]; omega
  · rw [per_pos (by omega)]
    have : next - now / e * e = next + (-(now / e)) * e := by rw [Int.neg_mul]; omega
    rw [this, Int.add_mul_ediv_right _ _ (by omega)]; omega
/-- Periods between two ticks, by their numbers. -/
theorem div_sub_le {e x y : Int} (he : 1 ≤ e) (h : x ≤ y) : y / e - x / e ≤ (y - x) / e + 1 := by
  have a1 := div_lo (x := x) he
  have a2 := div_hi (x := x) he
  have b1 := div_lo (x := y) he
  have c2 := div_hi (x := y - x) he
  -- y / e * e ≤ y = x + (y - x) < x / e * e + e + (y - x) / e * e + e
  have key : (y / e - x / e - (y - x) / e) * e < 2 * e := by
    rw [Int.sub_mul, Int.sub_mul]; omega
  have := Int.lt_of_mul_lt_mul_right key (by omega)
  omega

/-- What BucketBounds keeps of its takes: at the ticks so many tokens; the last tick, and the bucket behind it. -/
structure Tk (m e b : Int) (s : S) (now : Int) (as ks : List Int) : Prop where
  len : as.length = ks.length
  now0 : 0 ≤ now
  rng : ∀ x ∈ as, 0 ≤ x ∧ x ≤ now
  mono : ∀ (i k : Nat) (x y : Int), i ≤ k → as[i]? = some x → as[k]? = some y → x ≤ y
  tk : ∀ x ∈ ks, 0 ≤ x ∧ x ≤ b
  ok : s.Ok
  sm : s.m = m
  se : s.e = e
  sb : s.b = b
  sc : s.c = now / e * e
  st : 0 ≤ s.t
  all : ∀ (i : Nat) (x : Int), as[i]? = some x → s.t + sumF ks i ks.length ≤ b + (now / e - x / e) * m
  fin : ∀ (i k : Nat) (x y : Int), i ≤ k → as[i]? = some x → as[k]? = some y → sumF ks i (k + 1) ≤ b + (y / e - x / e) * m
theorem Tk.first {m e b : Int} (hr : rateB m e b = true) : Tk m e b (S.fresh m e b 0) 0 [] [] where
  len := rfl
  now0 := Int.le_refl _
  rng := fun x h => by simp at h
  mono := fun i k x y _ h => by simp at h
  tk := fun x h => by simp at h
  ok := S.Ok.fresh hr ⟨Int.le_refl _, by omega⟩
  sm := rfl
  se := rfl
  sb := rfl
  sc := by show (0 : Int) = 0 / e * e; simp
  st := by obtain ⟨r1, r2, r3, r4, r5⟩ := rateB_yes.1 hr; show 0 ≤ b; omega
  all := fun i x h => by simp at h
  fin := fun i k x y _ h => by simp at h
theorem Tk.next {m e b now : Int} {s : S} {as ks : List Int} (h : Tk m e b s now as ks) {g n : Int} (hg : 0 ≤ g) (hU : now + g ≤ 18446744073709551615) :
    Tk m e b ((s.pass (now + g)).less (takeN (s.pass (now + g)) n)) (now + g) (as ++ [now + g]) (ks ++ [takeN (s.pass (now + g)) n]) := by
  have n0 := h.now0
  have hu : U (now + g) := ⟨by omega, hU⟩
  have hok := h.ok.pass hu
  have he1 : 1 ≤ e := by have := h.ok.e1; rw [h.se] at this; exact this
  have hm1 : 1 ≤ m := by have := h.ok.m1; rw [h.sm] at this; exact this
  have hp : per s.e s.c (now + g) = (now + g) / e - now / e := by rw [h.se, h.sc]; exact per_multiple he1 n0 (by omega)
  have hp0 : 0 ≤ (now + g) / e - now / e := by rw [← hp]; exact per_nn h.ok.e1
  have hpm := mul_nn hp0 hm1
  have ht : (s.pass (now + g)).t = min b (s.t + ((now + g) / e - now / e) * m) := by
    show min s.b (s.t + per s.e s.c (now + g) * s.m) = _
    rw [hp, h.sb, h.sm]
  have hc : (s.pass (now + g)).c = (now + g) / e * e := by
    show s.c + per s.e s.c (now + g) * s.e = _
    rw [hp, h.sc, h.se, ← Int.add_mul]; congr 1; omega
  have hst := h.st
  have hbb : 0 ≤ b := by have := h.ok.m1; have := h.ok.mb; have := h.sb; omega
  have ht0 : 0 ≤ (s.pass (now + g)).t := by omega
  have htb : (s.pass (now + g)).t ≤ b := by omega
  have htle : (s.pass (now + g)).t ≤ s.t + ((now + g) / e - now / e) * m := by omega
  have hx0 := takeN_nn (s.pass (now + g)) n
  have hx1 := (takeN_le (s.pass (now + g)) n).1
  have hxb : takeN (s.pass (now + g)) n ≤ (s.pass (now + g)).t := by omega
  have hokx := hok.take (n := n)
  have htx : ((s.pass (now + g)).less (takeN (s.pass (now + g)) n)).t = (s.pass (now + g)).t - takeN (s.pass (now + g)) n := rfl
  have hcx : ((s.pass (now + g)).less (takeN (s.pass (now + g)) n)).c = (now + g) / e * e := hc
  have hmx : ((s.pass (now + g)).less (takeN (s.pass (now + g)) n)).m = m := h.sm
  have hex : ((s.pass (now + g)).less (takeN (s.pass (now + g)) n)).e = e := h.se
  have hbx : ((s.pass (now + g)).less (takeN (s.pass (now + g)) n)).b = b := h.sb
  obtain ⟨u, hu2⟩ : ∃ u, u = (s.pass (now + g)).less (takeN (s.pass (now + g)) n) := ⟨_, rfl⟩
  rw [← hu2] at hokx htx hcx hmx hex hbx ⊢
  obtain ⟨x, hx⟩ : ∃ x, x = takeN (s.pass (now + g)) n := ⟨_, rfl⟩
  rw [← hx] at hx0 hxb htx ⊢
  obtain ⟨t, htt⟩ : ∃ t, t = (s.pass (now + g)).t := ⟨_, rfl⟩
  rw [← htt] at ht0 htb htle hxb htx
  have hlen := h.len
  have split : ∀ (i : Nat) (y : Int), (as ++ [now + g])[i]? = some y → (i < as.length ∧ as[i]? = some y) ∨ (i = as.length ∧ y = now + g) := fun i y hy => by
    by_cases hi : i < as.length
    · rw [List.getElem?_append_left hi] at hy; exact .inl ⟨hi, hy⟩
    · rw [List.getElem?_append_right (by omega)] at hy
      by_cases h0 : i - as.length = 0
      · rw [h0] at hy; simp at hy; exact .inr ⟨by omega, hy.symm⟩
      · rw [List.getElem?_eq_none (by simp; omega)] at hy; cases hy
  have hlast : (ks ++ [x])[ks.length]? = some x := by simp
  have hall : ∀ (i : Nat) (y : Int), (as ++ [now + g])[i]? = some y → u.t + sumF (ks ++ [x]) i (ks ++ [x]).length ≤ b + ((now + g) / e - y / e) * m := fun i y hy => by
    rw [List.length_append, List.length_singleton]
    rcases split i y hy with ⟨hi, hy⟩ | ⟨rfl, rfl⟩
    · have h1 := h.all i y hy
      rw [sumF_succ (by omega) hlast, sumF_app _ (Nat.le_refl _)]
      have e2 : ((now + g) / e - y / e) * m = (now / e - y / e) * m + ((now + g) / e - now / e) * m := by
        rw [← Int.add_mul]; congr 1; omega
      omega
    · rw [hlen, sumF_succ (Nat.le_refl _) hlast, sumF_self, Int.sub_self, Int.zero_mul]
      omega
  refine ⟨by simp [hlen], by omega, ?_, ?_, ?_, hokx, hmx, hex, hbx, hcx, by omega, hall, ?_⟩
  · intro y hy
    rcases List.mem_append.1 hy with hy | hy
    · have := h.rng y hy; omega
    · simp at hy; omega
  · intro i k y z hik hy hz
    rcases split i y hy with ⟨hi, hy⟩ | ⟨rfl, rfl⟩
    · rcases split k z hz with ⟨hk, hz⟩ | ⟨rfl, rfl⟩
      · exact h.mono i k y z hik hy hz
      · have := (h.rng y (List.mem_of_getElem? hy)).2; omega
    · rcases split k z hz with ⟨hk, hz⟩ | ⟨rfl, rfl⟩
      · omega
      · omega
  · intro y hy
    rcases List.mem_append.1 hy with hy | hy
    · exact h.tk y hy
    · simp at hy; subst hy; exact ⟨hx0, by omega⟩
  · intro i k y z hik hy hz
    rcases split k z hz with ⟨hk, hz⟩ | ⟨rfl, rfl⟩
    · rcases split i y hy with ⟨hi, hy⟩ | ⟨rfl, rfl⟩
      · rw [sumF_app _ (by omega)]
        exact h.fin i k y z hik hy hz
      · omega
    · have := hall i y hy
      rw [List.length_append, List.length_singleton, ← hlen] at this
      omega
/-- What is asked at the end. -/
theorem Tk.bound {m e b now : Int} {s : S} {as ks : List Int} (h : Tk m e b s now as ks) {i k : Nat} {x y : Int} (hik : i ≤ k) (hx : as[i]? = some x) (hy : as[k]? = some y) :
    sumF ks i (k + 1) ≤ b + ((y - x) / e + 1) * m := by
  have h1 := h.fin i k x y hik hx hy
  have h2 := h.mono i k x y hik hx hy
  have he1 : 1 ≤ e := by have := h.ok.e1; rw [h.se] at this; exact this
  have hm1 : 1 ≤ m := by have := h.ok.m1; rw [h.sm] at this; exact this
  have h3 := Int.mul_le_mul_of_nonneg_right (div_sub_le he1 h2) (show 0 ≤ m by omega)
  omega
end Go.Proofs.Ytalabakmeepboaa
