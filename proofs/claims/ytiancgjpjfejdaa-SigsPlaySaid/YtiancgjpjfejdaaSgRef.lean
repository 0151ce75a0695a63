/-
  The reference's lists: Count and without.
-/
import Derived.Test.YtiancgjpjfejdaaSgLaw
namespace Go.Proofs.Ytiancgjpjfejdaa
open Go.RowKit

def cntI (l : List Nat) (n : Int) : Nat := l.countP fun x : Nat => decide ((x : Int) = n)
def outI (l : List Nat) (n : Int) : List Nat := l.filter fun x : Nat => !decide ((x : Int) = n)
theorem cntI_take {l : List Nat} {j x : Nat} (h : l[j]? = some x) (n : Int) : cntI (l.take (j + 1)) n = cntI (l.take j) n + if (x : Int) = n then 1 else 0 := by
  unfold cntI
  rw [List.take_add_one, h, List.countP_append]
  show _ + List.countP _ [x] = _
  by_cases hx : (x : Int) = n <;> simp [hx]
theorem cntI_le (l : List Nat) (n : Int) : cntI l n ≤ l.length := List.countP_le_length
theorem outI_take {l : List Nat} {j x : Nat} (h : l[j]? = some x) (n : Int) : outI (l.take (j + 1)) n = if (x : Int) = n then outI (l.take j) n else outI (l.take j) n ++ [x] := by
  unfold outI
  rw [List.take_add_one, h, List.filter_append]
  show _ ++ List.filter _ [x] = _
  by_cases hx : (x : Int) = n <;> simp [hx]
theorem outI_len (l : List Nat) (n : Int) : (outI l n).length ≤ l.length := List.length_filter_le _ _

/-- A number of a row that is shown. -/
theorem rn_at {w : World} {A : Option Addr} {xs : List Nat} (h : RN.shows w A xs) {i x : Nat} (hx : xs[i]? = some x) : ∃ g off, A = some ⟨g, off, none⟩ ∧ g < w.heap.size ∧ w.cell? ⟨g, off + i, none⟩ = some (.int .i64 (x : Int)) := by
  obtain ⟨g, off, e, hg, hl⟩ := h (by have := (List.getElem?_eq_some_iff.1 hx).1; omega)
  refine ⟨g, off, e, hg, ?_⟩
  have := hl i x hx 0 (by decide)
  rw [Nat.add_zero, show i * RN.n = i from Nat.mul_one i] at this
  exact this

set_option maxRecDepth 100000 in
theorem rcount_any {w : World} {A : Option Addr} {c : Nat} {xs : List Nat} (h : RN.shows w A xs) (hlen : xs.length ≤ 1000) (n : Int) :
    Calls Try.prog 14 #[.slice A xs.length c, .int .i64 n] w fun e w' => e = .returned (.int .i64 (cntI xs n : Int)) ∧ w = w' := by
  have HS := Lib.hid h
  clear h
  go_enter Try.func14, Try.ntmps14
  go_wp2_with fail
  go_loopw [5, 6] (fun t p wr => ∃ a : Nat, p = .int .i64 (a : Int) ∧ a ≤ xs.length ∧ t = .int .i64 ((cntI (xs.take a) n : Nat) : Int) ∧ wr = w) (fun _ p _ => xs.length - (intOf p).toNat)
  case atStart => exact ⟨0, rfl, Nat.zero_le _, by simp [cntI], rfl⟩
  case round =>
    obtain ⟨a, rfl, ha, rfl, rfl⟩ := hrel
    by_cases hal : a < xs.length
    · obtain ⟨x, hx⟩ : ∃ x, xs[a]? = some x := ⟨_, List.getElem?_eq_getElem hal⟩
      obtain ⟨g, off, rfl, hg, x0⟩ := rn_at HS.out hx
      have b0 : (0 : Int) ≤ (a : Int) := by omega
      have b1 : (a : Int) < (xs.length : Int) := by omega
      have hst := cntI_take hx n
      have hle := cntI_le (xs.take a) n
      rw [List.length_take] at hle
      obtain ⟨t1, ht1⟩ : ∃ t, t = cntI (xs.take a) n := ⟨_, rfl⟩
      rw [← ht1] at hst hle ⊢
      by_cases hxn : (x : Int) = n
      · rw [if_pos hxn] at hst
        have HE := Lib.hid hst
        rw [hxn] at x0
        have hw : IntKind.i64.wrap ((t1 : Int) + 1) = (t1 : Int) + 1 := by rw [IntKind.wrap_i64]; omega
        clear hst hxn hx ht1 hle
        go_wp2_with fail
        go_roundw
        case rel => exact ⟨a + 1, by go_num, by omega, by rw [HE.out]; go_num, trivial⟩
        case measure => simp [intOf] <;> omega
      · rw [if_neg hxn] at hst
        have HE := Lib.hid hst
        have hne : ((x : Int) == n) = false := by simpa using hxn
        clear hst hxn hx ht1 hle
        go_wp2_with fail
        go_roundw
        case rel => exact ⟨a + 1, by go_num, by omega, by rw [HE.out]; rfl, trivial⟩
        case measure => simp [intOf] <;> omega
    · obtain rfl : a = xs.length := by omega
      rw [List.take_length]
      go_wp2_with fail
      go_ret
      exact ⟨rfl, rfl⟩

set_option maxRecDepth 100000 in
set_option maxHeartbeats 2000000 in
theorem without_any {w : World} {A : Option Addr} {c : Nat} {xs : List Nat} (h : RN.shows w A xs) (hlen : xs.length ≤ 1000) (n : Int) :
    Calls Try.prog 22 #[.slice A xs.length c, .int .i64 n] w fun e w' => ∃ A' c', e = .returned (.slice A' (outI xs n).length c') ∧ RN.own w' w.heap.size (.slice A' (outI xs n).length c') (outI xs n) ∧ Below w.heap.size w w' := by
  have HS := Lib.hid h
  clear h
  go_enter Try.func22, Try.ntmps22
  go_wp2_with fail
  go_loopw [5, 6] (fun v p wr => ∃ a : Nat, p = .int .i64 (a : Int) ∧ a ≤ xs.length ∧ RN.own wr w.heap.size v (outI (xs.take a) n) ∧ Below w.heap.size w wr) (fun _ p _ => xs.length - (intOf p).toNat)
  case atStart => exact ⟨0, rfl, Nat.zero_le _, by simp [outI]; exact RowK.own_nil _ _, Below.refl _ _⟩
  case round =>
    obtain ⟨a, rfl, ha, O, hb⟩ := hrel
    obtain ⟨A1, c1, rfl, -, -, -⟩ := RowK.own_shows O
    by_cases hal : a < xs.length
    · obtain ⟨x, hx⟩ : ∃ x, xs[a]? = some x := ⟨_, List.getElem?_eq_getElem hal⟩
      obtain ⟨g, off, rfl, hg, x0⟩ := rn_at (RowK.shows_below HS.out hb) hx
      have b0 : (0 : Int) ≤ (a : Int) := by omega
      have b1 : (a : Int) < (xs.length : Int) := by omega
      have hst := outI_take hx n
      have hle := outI_len (xs.take a) n
      rw [List.length_take] at hle
      have HO := Lib.hid (And.intro O hb)
      clear O hb
      by_cases hxn : (x : Int) = n
      · rw [if_pos hxn] at hst
        have HE := Lib.hid hst
        rw [hxn] at x0
        clear hst hxn hx hle
        go_wp2_with fail
        go_roundw
        case rel => exact ⟨a + 1, by go_num, by omega, by rw [HE.out]; exact HO.out⟩
        case measure => simp [intOf] <;> omega
      · rw [if_neg hxn] at hst
        have HE := Lib.hid hst
        have hne : ((x : Int) == n) = false := by simpa using hxn
        have HL := Lib.hid hle
        clear hst hxn hx hle
        go_wp2_with (at_builtin; refine RowK.append (R := RN) rfl _ _ rfl w.heap.size _ (outI (xs.take a) n) [x] rfl (RowK.own_alloc HO.out.1 _) (some ⟨wr.heap.size, 0, none⟩) 1 1 rfl rfl (RowK.new_shows (R := RN) wr x 3) (fun e => by cases e) (by have := HL.out; simp; omega) (by have := HO.out.2.size; simp; omega) ?_; intro u1 w1 O1 hg1 ho1; have HG := Lib.hid (And.intro O1 ((HO.out.2.alloc HO.out.2.size _).grown hg1 (by have := HO.out.2.size; simp; omega) (fun i e => (RowK.own_lt HO.out.1 e).2))); clear O1 hg1 ho1)
        go_roundw
        case rel => exact ⟨a + 1, by go_num, by omega, by rw [HE.out]; exact HG.out⟩
        case measure => simp [intOf] <;> omega
    · obtain rfl : a = xs.length := by omega
      rw [List.take_length] at O ⊢
      have HO := Lib.hid (And.intro O hb)
      clear O hb
      go_wp2_with fail
      go_ret
      exact ⟨_, _, rfl, HO.out.1, HO.out.2⟩
end Go.Proofs.Ytiancgjpjfejdaa
