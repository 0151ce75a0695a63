/-
  The document's words: the text of a mask, the mask of a text, come to the same.
-/
import Derived.Test.YtbpgoopmfofcnaaDoorFlPrs
import Derived.Test.YtbpgoopmfofcnaaDoorFlText
import Derived.Test.YtbpgoopmfofcnaaDoorFlDrv2
import Derived.IntWalk
namespace Go.Proofs.YtbpgoopmfofcnaaDoor
open Go.RowKit

/-- The document's words of bits. -/
def wordR (b : Int) : ByteArray := if b = 1 then wordB 0 else if b = 2 then wordB 1 else if b = 4 then wordB 2 else if b = 8 then wordB 3 else if b = 16 then wordB 4 else if b = 32 then wordB 5 else ⟨#[]⟩
def featR (b : Int) : ByteArray := if b = 1 then featB 0 else if b = 2 then featB 1 else if b = 4 then featB 2 else if b = 8 then featB 3 else ⟨#[]⟩
theorem wordR_any (b : Int) (w : World) : Calls Tryd.prog 42 #[.int .i64 b] w fun e w' => e = .returned (.string (wordR b)) ∧ w = w' := by
  unfold wordR
  by_cases h1 : b = 1
  · subst h1
    go_enter Tryd.func42, Tryd.ntmps42
    go_wp2
    go_ret
    exact ⟨rfl, rfl⟩
  rw [if_neg h1]
  by_cases h2 : b = 2
  · subst h2
    go_enter Tryd.func42, Tryd.ntmps42
    go_wp2
    go_ret
    exact ⟨rfl, rfl⟩
  rw [if_neg h2]
  by_cases h4 : b = 4
  · subst h4
    go_enter Tryd.func42, Tryd.ntmps42
    go_wp2
    go_ret
    exact ⟨rfl, rfl⟩
  rw [if_neg h4]
  by_cases h8 : b = 8
  · subst h8
    go_enter Tryd.func42, Tryd.ntmps42
    go_wp2
    go_ret
    exact ⟨rfl, rfl⟩
  rw [if_neg h8]
  by_cases h16 : b = 16
  · subst h16
    go_enter Tryd.func42, Tryd.ntmps42
    go_wp2
    go_ret
    exact ⟨rfl, rfl⟩
  rw [if_neg h16]
  by_cases h32 : b = 32
  · subst h32
    go_enter Tryd.func42, Tryd.ntmps42
    go_wp2
    go_ret
    exact ⟨rfl, rfl⟩
  rw [if_neg h32]
  go_enter Tryd.func42, Tryd.ntmps42
  go_wp2
  go_ret
  exact ⟨rfl, rfl⟩
theorem featR_any (b : Int) (w : World) : Calls Tryd.prog 41 #[.int .i64 b] w fun e w' => e = .returned (.string (featR b)) ∧ w = w' := by
  unfold featR
  by_cases h1 : b = 1
  · subst h1
    go_enter Tryd.func41, Tryd.ntmps41
    go_wp2
    go_ret
    exact ⟨rfl, rfl⟩
  rw [if_neg h1]
  by_cases h2 : b = 2
  · subst h2
    go_enter Tryd.func41, Tryd.ntmps41
    go_wp2
    go_ret
    exact ⟨rfl, rfl⟩
  rw [if_neg h2]
  by_cases h4 : b = 4
  · subst h4
    go_enter Tryd.func41, Tryd.ntmps41
    go_wp2
    go_ret
    exact ⟨rfl, rfl⟩
  rw [if_neg h4]
  by_cases h8 : b = 8
  · subst h8
    go_enter Tryd.func41, Tryd.ntmps41
    go_wp2
    go_ret
    exact ⟨rfl, rfl⟩
  rw [if_neg h8]
  go_enter Tryd.func41, Tryd.ntmps41
  go_wp2
  go_ret
  exact ⟨rfl, rfl⟩

theorem wordR_bit (k : Nat) (h : k < 6) : wordR (2 ^ k) = wordB k := by
  obtain rfl | rfl | rfl | rfl | rfl | rfl : k = 0 ∨ k = 1 ∨ k = 2 ∨ k = 3 ∨ k = 4 ∨ k = 5 := by omega
  all_goals decide +kernel
theorem featR_bit (k : Nat) (h : k < 4) : featR (2 ^ k) = featB k := by
  obtain rfl | rfl | rfl | rfl : k = 0 ∨ k = 1 ∨ k = 2 ∨ k = 3 := by omega
  all_goals decide +kernel
theorem txt_snoc (Wd : Nat → ByteArray) (k : Nat) : ∀ ks, ks ≠ [] → txt Wd (ks ++ [k]) = txt Wd ks ++ ⟨#[43]⟩ ++ Wd k
  | [], h => absurd rfl h
  | [a], _ => ba_ext (by rw [List.cons_append, List.nil_append, txt_two, txt_one, txt_one]; simp)
  | a :: b :: t, _ => by
    have ih := txt_snoc Wd k (b :: t) (by simp)
    have e := congrArg (fun x => x.data.toList) ih
    apply ba_ext
    simp only [List.cons_append] at e ⊢
    rw [txt_two, e]
    simp [txt_two]
theorem txt_nil (Wd : Nat → ByteArray) : txt Wd [] = ⟨#[]⟩ := rfl
theorem bit_test : ∀ (k : Fin 6) (l : Fin 64), (l.val / 2 ^ k.val % 2 = 0 ↔ l.val.testBit k.val = false) := by decide +kernel
theorem word_ne (k : Nat) : (wordB k).toList ≠ [] := by
  rw [ByteArray.toList_eq]; unfold wordB; split <;> decide
theorem feat_ne (k : Nat) : (featB k).toList ≠ [] := by
  rw [ByteArray.toList_eq]; unfold featB; split <;> decide
theorem txt_ne {Wd : Nat → ByteArray} (h : ∀ k, (Wd k).toList ≠ []) : ∀ ks, ks ≠ [] → (txt Wd ks).toList ≠ []
  | [], g => absurd rfl g
  | [a], _ => by rw [txt_one]; exact h a
  | a :: b :: t, _ => by
    rw [ByteArray.toList_eq, txt_two]
    intro e
    have h1 := congrArg List.length e
    rw [List.length_append, List.length_cons, List.length_nil] at h1
    omega

/-- What stands between two rounds. -/
def RaRel (Wd : Nat → ByteArray) (z : Nat) (x i : Value) : Prop := ∃ (k : Nat) (v : Int) (t : ByteArray), k ≤ 6 ∧ v = 2 ^ k ∧ t = txt Wd (sel k z) ∧ (k = 0 ∨ 2 ^ (k - 1) ≤ z) ∧ i = .int .i64 v ∧ x = .string t
theorem RaRel.skip {Wd : Nat → ByteArray} {z k : Nat} {v : Int} {t : ByteArray} (hk : k < 6) (hv : v = 2 ^ k) (ht : t = txt Wd (sel k z)) (hz : 2 ^ k ≤ z) (hb : z.testBit k = false) (u : Int) (hu : u = v * 2) : RaRel Wd z (.string t) (.int .i64 u) :=
  ⟨k + 1, u, t, by omega, by rw [hu, hv, Int.pow_succ], by rw [ht, sel_succ, hb]; simp, .inr hz, rfl, rfl⟩
theorem RaRel.one {Wd : Nat → ByteArray} {z k : Nat} {v : Int} (hk : k < 6) (hv : v = 2 ^ k) (hz : 2 ^ k ≤ z) (hb : z.testBit k = true) (he : sel k z = []) (u : Int) (hu : u = v * 2) (x : ByteArray) (hx : x = ⟨#[]⟩ ++ Wd k) : RaRel Wd z (.string x) (.int .i64 u) :=
  ⟨k + 1, u, x, by omega, by rw [hu, hv, Int.pow_succ], by rw [sel_succ, hb, he, hx]; simp only [if_true, List.nil_append, txt_one]; exact ba_ext (by simp), .inr hz, rfl, rfl⟩
theorem RaRel.more {Wd : Nat → ByteArray} {z k : Nat} {v : Int} {t : ByteArray} (hk : k < 6) (hv : v = 2 ^ k) (ht : t = txt Wd (sel k z)) (hz : 2 ^ k ≤ z) (hb : z.testBit k = true) (he : sel k z ≠ []) (u : Int) (hu : u = v * 2) (x : ByteArray) (hx : x = t ++ ⟨#[43]⟩ ++ Wd k) : RaRel Wd z (.string x) (.int .i64 u) :=
  ⟨k + 1, u, x, by omega, by rw [hu, hv, Int.pow_succ], by rw [sel_succ, hb, hx, ht]; simp only [if_true]; exact (txt_snoc Wd k _ he).symm, .inr hz, rfl, rfl⟩
theorem sel_top {k n z : Nat} (hk : k ≤ n) (hz : z < 2 ^ k) : sel n z = sel k z := by
  induction n with
  | zero => have : k = 0 := by omega
            rw [this]
  | succ n ih =>
    by_cases e : k = n + 1
    · rw [e]
    · rw [sel_succ, Nat.testBit_lt_two_pow (Nat.lt_of_lt_of_le hz (Nat.pow_le_pow_right (by omega) (by omega))), ih (by omega)]; simp
theorem sel_len {n z : Nat} : (sel n z).length ≤ n := by unfold sel; exact Nat.le_trans (List.length_filter_le _ _) (by rw [List.length_range]; exact Nat.le_refl _)

set_option maxRecDepth 100000 in
theorem rall_bad (z : Int) (ev : Bool) (w : World) (n : Nat) (Wd : Nat → ByteArray) (hn : n = if ev = true then 6 else 4) (hr : ¬ (0 ≤ z ∧ z < 2 ^ n)) :
    Calls Tryd.prog 31 #[.int .i64 z, .bool ev] w fun e w' => e = .returned (.tuple #[.string (textB Wd n z), .int .i64 (textE n z)]) ∧ w = w' := by
  have hp : (0 : Int) < 2 ^ n := Int.pow_pos (by omega)
  have HX : Hid (textB Wd n z = ⟨#[]⟩ ∧ textE n z = 50) := by
    unfold textB textE
    rw [if_neg (fun h => hr (by rw [h]; exact ⟨by omega, hp⟩)), if_neg hr, if_neg hr]; exact ⟨rfl, rfl⟩
  rw [HX.out.1, HX.out.2]
  by_cases h0 : z < 0
  · clear hr hp
    cases ev with
    | true =>
      go_enter Tryd.func31, Tryd.ntmps31
      go_wp2
      go_ret2
      exact ⟨rfl, rfl⟩
    | false =>
      go_enter Tryd.func31, Tryd.ntmps31
      go_wp2
      go_ret2
      exact ⟨rfl, rfl⟩
  · cases ev with
    | true =>
      have hn6 : n = 6 := hn
      clear hn
      subst hn6
      have h1 : 63 < z := by have : (2 : Int) ^ 6 = 64 := rfl; omega
      clear hr hp
      go_enter Tryd.func31, Tryd.ntmps31
      go_wp2
      go_ret2
      exact ⟨rfl, rfl⟩
    | false =>
      have hn4 : n = 4 := hn
      clear hn
      subst hn4
      have h1 : 15 < z := by have : (2 : Int) ^ 4 = 16 := rfl; omega
      clear hr hp
      go_enter Tryd.func31, Tryd.ntmps31
      go_wp2
      go_ret2
      exact ⟨rfl, rfl⟩

set_option maxRecDepth 100000 in
set_option maxHeartbeats 2000000 in
theorem rall_ok (z : Int) (w : World) (n : Nat) (Wd : Nat → ByteArray) (ev : Bool) (hn : n ≤ 6) (hmost : n = if ev = true then 6 else 4) (z0 : 0 ≤ z) (z1 : z < 2 ^ n)
    (hev : ∀ k, k < n → (if ev = true then wordR (2 ^ k) else featR (2 ^ k)) = Wd k) (hlen : ∀ k, (Wd k).data.toList.length ≤ 7) (hne : ∀ k, (Wd k).toList ≠ []) :
    Calls Tryd.prog 31 #[.int .i64 z, .bool ev] w fun e w' => e = .returned (.tuple #[.string (textB Wd n z), .int .i64 (textE n z)]) ∧ w = w' := by
  have hE : textE n z = 0 := by unfold textE; rw [if_pos ⟨z0, z1⟩]
  have HE := Lib.hid hE
  rw [HE.out]
  obtain ⟨zn, hzn⟩ : ∃ zn : Nat, z = zn := ⟨z.toNat, by omega⟩
  have hp6 : (2 : Nat) ^ n ≤ 2 ^ 6 := Nat.pow_le_pow_right (by omega) hn
  have hpi : (2 : Int) ^ n = ((2 ^ n : Nat) : Int) := by simp
  have z63 : z ≤ 63 := by omega
  have hzlt : zn < 2 ^ n := by omega
  have HEV := Lib.hid hev
  have HL := Lib.hid hlen
  have HN := Lib.hid hne
  have HZ := Lib.hid hzn
  have HM := Lib.hid hmost
  have HPI := Lib.hid hpi
  have m15 : ev = false → z ≤ 15 := fun e => by
    rw [e] at hmost
    have h4 : n = 4 := hmost
    subst h4
    have : (2 : Int) ^ 4 = 16 := rfl
    omega
  clear hE hev hlen hne hzn hmost hpi z1
  have hloop : ∀ (a : Act), True := fun _ => trivial
  clear hloop
  rcases Bool.eq_false_or_eq_true ev with rfl | rfl
  · clear m15
    go_enter Tryd.func31, Tryd.ntmps31
    go_wp2_with fail
    go_loop [7, 8] (fun x i => RaRel Wd zn x i) (fun _ i => (128 - intOf i).toNat)
    case atStart => exact ⟨0, 1, ⟨#[]⟩, by omega, rfl, rfl, .inl rfl, rfl, rfl⟩
    case round =>
      obtain ⟨k, v, t, hk, hv, ht, hz, rfl, rfl⟩ := hrel
      have hv1 : v = ((2 ^ k : Nat) : Int) := by rw [hv]; simp
      have hkp : 1 ≤ 2 ^ k ∧ 2 ^ k ≤ 64 := ⟨Nat.one_le_two_pow, Nat.pow_le_pow_right (n := 2) (by omega) hk⟩
      have v1 : 1 ≤ v := by omega
      have v64 : v ≤ 64 := by omega
      have hts : t.size ≤ 48 := by
        have h1 := txt_len HL.out (sel k zn)
        have h2 := sel_len (n := k) (z := zn)
        rw [ht]; omega
      by_cases hle : v ≤ z
      · have hle' : 2 ^ k ≤ zn := by have := HZ.out; omega
        have hk6 : k < 6 := by
          rcases Nat.lt_or_ge k 6 with h | h
          · exact h
          · have h6 : k = 6 := by omega
            subst h6
            have : (2 : Nat) ^ 6 = 64 := rfl
            omega
        have hbt := bit_test ⟨k, hk6⟩ ⟨zn, by omega⟩
        simp only at hbt
        have hdiv : z / v % 2 = ((zn / 2 ^ k % 2 : Nat) : Int) := by rw [HZ.out, hv1]; simp
        have q0 : 0 ≤ z / v := Int.ediv_nonneg z0 (by omega)
        have q1 : z / v ≤ z := Int.ediv_le_self _ z0
        have e1 : z.tdiv v = z / v := Int.tdiv_eq_ediv_of_nonneg z0
        have e2 : (z / v).tmod 2 = z / v % 2 := Int.tmod_eq_emod_of_nonneg q0
        have HV := Lib.hid hv
        have HT := Lib.hid ht
        have HLE := Lib.hid hle'
        cases hb : zn.testBit k with
        | false =>
          have hd : z / v % 2 = 0 := by rw [hdiv, hbt.2 hb]; rfl
          have HB := Lib.hid hb
          clear hv ht hv1 hle' hbt hdiv hb hz hkp
          go_wp2
          go_round
          case rel => exact RaRel.skip hk6 HV.out HT.out HLE.out HB.out _ rfl
          case measure => simp [intOf]; omega
        | true =>
          have hd : ¬ z / v % 2 = 0 := by
            intro h
            rw [hdiv] at h
            have h' : zn / 2 ^ k % 2 = 0 := (by omega)
            rw [hbt.1 h'] at hb
            cases hb
          have hw : wordR v = Wd k := by rw [hv]; exact HEV.out k (by have := HM.out; simp at this; omega)
          have hwl : (Wd k).size ≤ 7 := by have h7 := HL.out k; rw [Array.length_toList] at h7; exact h7
          have HW := Lib.hid hw
          have HB := Lib.hid hb
          by_cases he : sel k zn = []
          · have ht0 : t = ⟨#[]⟩ := by rw [ht, he]; rfl
            have hs1 : ¬ (9223372036854775807 : Int) < (((⟨#[]⟩ : ByteArray).size + (Wd k).size : Nat) : Int) := by have : (⟨#[]⟩ : ByteArray).size = 0 := rfl; omega
            have HS := Lib.hid he
            subst ht0
            clear hv ht hv1 hle' hbt hdiv hb hz hkp hw he
            go_wp2_with (first
              | (go_at_call 41; refine (featR_any _ _).mono ?_; rintro e w' ⟨rfl, rfl⟩)
              | (go_at_call 42; refine (wordR_any _ _).mono ?_; rintro e w' ⟨rfl, rfl⟩; rw [HW.out]))
            go_round
            case rel => exact RaRel.one hk6 HV.out HLE.out HB.out HS.out _ rfl _ rfl
            case measure => simp [intOf]; omega
          · have htn : t.toList ≠ [] := by rw [ht]; exact txt_ne HN.out _ he
            have ht1 : (t.toList == []) = false := by rw [beq_eq_false_iff_ne]; exact htn
            have hs1 : ¬ (9223372036854775807 : Int) < ((t.size + (⟨#[43]⟩ : ByteArray).size : Nat) : Int) := by have : (⟨#[43]⟩ : ByteArray).size = 1 := rfl; omega
            have hs2 : ¬ (9223372036854775807 : Int) < (((t ++ (⟨#[43]⟩ : ByteArray)).size + (Wd k).size : Nat) : Int) := by rw [ByteArray.size_append]; have : (⟨#[43]⟩ : ByteArray).size = 1 := rfl; omega
            have HS := Lib.hid he
            clear hv ht hv1 hle' hbt hdiv hb hz hkp hw he
            go_wp2_with (first
              | (go_at_call 41; refine (featR_any _ _).mono ?_; rintro e w' ⟨rfl, rfl⟩)
              | (go_at_call 42; refine (wordR_any _ _).mono ?_; rintro e w' ⟨rfl, rfl⟩; rw [HW.out]))
            go_round
            case rel => exact RaRel.more hk6 HV.out HT.out HLE.out HB.out HS.out _ rfl _ rfl
            case measure => simp [intOf]; omega
      · have hlt : zn < 2 ^ k := by have := HZ.out; omega
        have hkn : k ≤ n := by
          rcases hz with rfl | hz
          · omega
          · rcases Nat.lt_or_ge n k with h | h
            · have h2 : (2 : Nat) ^ n ≤ 2 ^ (k - 1) := Nat.pow_le_pow_right (by omega) (by omega)
              omega
            · exact h
        have hsel : sel n zn = sel k zn := sel_top hkn hlt
        have HV := Lib.hid hv
        by_cases hz0 : zn = 0
        · have hs0 : sel k zn = [] := by rw [hz0]; unfold sel; simp
          have ht0 : t = ⟨#[]⟩ := by rw [ht, hs0]; rfl
          have HX : Hid (textB Wd n z = ⟨#[110, 111, 110, 101]⟩) := by unfold textB; rw [if_pos (by rw [HZ.out, hz0]; rfl)]; exact rfl
          subst ht0
          clear hv ht hv1 hz hkp hlt hkn hsel hz0 hs0
          go_wp2
          go_ret2
          exact ⟨by rw [HX.out]; rfl, rfl⟩
        · have hne : sel k zn ≠ [] := by
            rw [← hsel]
            have := sel_ne ⟨n, by omega⟩ ⟨zn, by omega⟩ (by show 0 < zn; omega) hzlt
            exact this
          have htn : t.toList ≠ [] := by rw [ht]; exact txt_ne HN.out _ hne
          have ht1 : (t.toList == []) = false := by rw [beq_eq_false_iff_ne]; exact htn
          have HX : Hid (textB Wd n z = t) := by
            unfold textB
            rw [if_neg (by rw [HZ.out]; omega), if_pos ⟨z0, by have := HZ.out; have := HPI.out; omega⟩, show z.toNat = zn by have := HZ.out; omega, hsel, ht]
            exact rfl
          clear hv ht hv1 hz hkp hlt hkn hsel hz0 hne
          go_wp2
          go_ret2
          exact ⟨by rw [HX.out]; rfl, rfl⟩
  · have m15 := m15 rfl
    go_enter Tryd.func31, Tryd.ntmps31
    go_wp2_with fail
    go_loop [7, 8] (fun x i => RaRel Wd zn x i) (fun _ i => (128 - intOf i).toNat)
    case atStart => exact ⟨0, 1, ⟨#[]⟩, by omega, rfl, rfl, .inl rfl, rfl, rfl⟩
    case round =>
      obtain ⟨k, v, t, hk, hv, ht, hz, rfl, rfl⟩ := hrel
      have hv1 : v = ((2 ^ k : Nat) : Int) := by rw [hv]; simp
      have hkp : 1 ≤ 2 ^ k ∧ 2 ^ k ≤ 64 := ⟨Nat.one_le_two_pow, Nat.pow_le_pow_right (n := 2) (by omega) hk⟩
      have v1 : 1 ≤ v := by omega
      have v64 : v ≤ 64 := by omega
      have hts : t.size ≤ 48 := by
        have h1 := txt_len HL.out (sel k zn)
        have h2 := sel_len (n := k) (z := zn)
        rw [ht]; omega
      by_cases hle : v ≤ z
      · have hle' : 2 ^ k ≤ zn := by have := HZ.out; omega
        have hk6 : k < 6 := by
          rcases Nat.lt_or_ge k 6 with h | h
          · exact h
          · have h6 : k = 6 := by omega
            subst h6
            have : (2 : Nat) ^ 6 = 64 := rfl
            omega
        have hbt := bit_test ⟨k, hk6⟩ ⟨zn, by omega⟩
        simp only at hbt
        have hdiv : z / v % 2 = ((zn / 2 ^ k % 2 : Nat) : Int) := by rw [HZ.out, hv1]; simp
        have q0 : 0 ≤ z / v := Int.ediv_nonneg z0 (by omega)
        have q1 : z / v ≤ z := Int.ediv_le_self _ z0
        have e1 : z.tdiv v = z / v := Int.tdiv_eq_ediv_of_nonneg z0
        have e2 : (z / v).tmod 2 = z / v % 2 := Int.tmod_eq_emod_of_nonneg q0
        have HV := Lib.hid hv
        have HT := Lib.hid ht
        have HLE := Lib.hid hle'
        cases hb : zn.testBit k with
        | false =>
          have hd : z / v % 2 = 0 := by rw [hdiv, hbt.2 hb]; rfl
          have HB := Lib.hid hb
          clear hv ht hv1 hle' hbt hdiv hb hz hkp
          go_wp2
          go_round
          case rel => exact RaRel.skip hk6 HV.out HT.out HLE.out HB.out _ rfl
          case measure => simp [intOf]; omega
        | true =>
          have hd : ¬ z / v % 2 = 0 := by
            intro h
            rw [hdiv] at h
            have h' : zn / 2 ^ k % 2 = 0 := (by omega)
            rw [hbt.1 h'] at hb
            cases hb
          have hk4 : k < n := by
            rcases Nat.lt_or_ge k n with h | h
            · exact h
            · have h2 : (2 : Nat) ^ n ≤ 2 ^ k := Nat.pow_le_pow_right (by omega) h
              omega
          have hw : featR v = Wd k := by rw [hv]; exact HEV.out k hk4
          have hwl : (Wd k).size ≤ 7 := by have h7 := HL.out k; rw [Array.length_toList] at h7; exact h7
          have HW := Lib.hid hw
          have HB := Lib.hid hb
          by_cases he : sel k zn = []
          · have ht0 : t = ⟨#[]⟩ := by rw [ht, he]; rfl
            have hs1 : ¬ (9223372036854775807 : Int) < (((⟨#[]⟩ : ByteArray).size + (Wd k).size : Nat) : Int) := by have : (⟨#[]⟩ : ByteArray).size = 0 := rfl; omega
            have HS := Lib.hid he
            subst ht0
            clear hv ht hv1 hle' hbt hdiv hb hz hkp hw he
            go_wp2_with (first
              | (go_at_call 41; refine (featR_any _ _).mono ?_; rintro e w' ⟨rfl, rfl⟩; rw [HW.out]))
            go_round
            case rel => exact RaRel.one hk6 HV.out HLE.out HB.out HS.out _ rfl _ rfl
            case measure => simp [intOf]; omega
          · have htn : t.toList ≠ [] := by rw [ht]; exact txt_ne HN.out _ he
            have ht1 : (t.toList == []) = false := by rw [beq_eq_false_iff_ne]; exact htn
            have hs1 : ¬ (9223372036854775807 : Int) < ((t.size + (⟨#[43]⟩ : ByteArray).size : Nat) : Int) := by have : (⟨#[43]⟩ : ByteArray).size = 1 := rfl; omega
            have hs2 : ¬ (9223372036854775807 : Int) < (((t ++ (⟨#[43]⟩ : ByteArray)).size + (Wd k).size : Nat) : Int) := by rw [ByteArray.size_append]; have : (⟨#[43]⟩ : ByteArray).size = 1 := rfl; omega
            have HS := Lib.hid he
            clear hv ht hv1 hle' hbt hdiv hb hz hkp hw he
            go_wp2_with (first
              | (go_at_call 41; refine (featR_any _ _).mono ?_; rintro e w' ⟨rfl, rfl⟩; rw [HW.out]))
            go_round
            case rel => exact RaRel.more hk6 HV.out HT.out HLE.out HB.out HS.out _ rfl _ rfl
            case measure => simp [intOf]; omega
      · have hlt : zn < 2 ^ k := by have := HZ.out; omega
        have hkn : k ≤ n := by
          rcases hz with rfl | hz
          · omega
          · rcases Nat.lt_or_ge n k with h | h
            · have h2 : (2 : Nat) ^ n ≤ 2 ^ (k - 1) := Nat.pow_le_pow_right (by omega) (by omega)
              omega
            · exact h
        have hsel : sel n zn = sel k zn := sel_top hkn hlt
        have HV := Lib.hid hv
        by_cases hz0 : zn = 0
        · have hs0 : sel k zn = [] := by rw [hz0]; unfold sel; simp
          have ht0 : t = ⟨#[]⟩ := by rw [ht, hs0]; rfl
          have HX : Hid (textB Wd n z = ⟨#[110, 111, 110, 101]⟩) := by unfold textB; rw [if_pos (by rw [HZ.out, hz0]; rfl)]; exact rfl
          subst ht0
          clear hv ht hv1 hz hkp hlt hkn hsel hz0 hs0
          go_wp2
          go_ret2
          exact ⟨by rw [HX.out]; rfl, rfl⟩
        · have hne : sel k zn ≠ [] := by
            rw [← hsel]
            have := sel_ne ⟨n, by omega⟩ ⟨zn, by omega⟩ (by show 0 < zn; omega) hzlt
            exact this
          have htn : t.toList ≠ [] := by rw [ht]; exact txt_ne HN.out _ hne
          have ht1 : (t.toList == []) = false := by rw [beq_eq_false_iff_ne]; exact htn
          have HX : Hid (textB Wd n z = t) := by
            unfold textB
            rw [if_neg (by rw [HZ.out]; omega), if_pos ⟨z0, by have := HZ.out; have := HPI.out; omega⟩, show z.toNat = zn by have := HZ.out; omega, hsel, ht]
            exact rfl
          clear hv ht hv1 hz hkp hlt hkn hsel hz0 hne
          go_wp2
          go_ret2
          exact ⟨by rw [HX.out]; rfl, rfl⟩
end Go.Proofs.YtbpgoopmfofcnaaDoor
