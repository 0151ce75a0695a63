/-
  The document's Choose comes to the same.
-/
import Derived.Test.YtbpgoopmfofcnaaDoorFlCh
namespace Go.Proofs.YtbpgoopmfofcnaaDoor
open Go.RowKit

/-- What the document asks of one bit, and of the first j bits. -/
def okB (n a f b : Int) : Bool := (!bitB n b || bitB f b) && (!bitB a b || !bitB f b)
def okP (n a f : Int) : Nat → Bool
  | 0 => true
  | j + 1 => okP n a f j && okB n a f (2 ^ j)
theorem ok_small : ∀ (n a : Fin 16) (d : Fin 5), okP (n.val : Int) (a.val : Int) (dFeats (d.val : Int)) 4 = suitB (n.val : Int) (a.val : Int) (dFeats (d.val : Int)) := by decide +kernel
theorem ok_same (n a d : Int) (n0 : 0 ≤ n) (n1 : n ≤ 15) (a0 : 0 ≤ a) (a1 : a ≤ 15) (d0 : 0 ≤ d) (d4 : d ≤ 4) : okP n a (dFeats d) 4 = suitB n a (dFeats d) := by
  have := ok_small ⟨n.toNat, by omega⟩ ⟨a.toNat, by omega⟩ ⟨d.toNat, by omega⟩
  rw [show ((⟨n.toNat, by omega⟩ : Fin 16).val : Int) = n by simp; omega, show ((⟨a.toNat, by omega⟩ : Fin 16).val : Int) = a by simp; omega, show ((⟨d.toNat, by omega⟩ : Fin 5).val : Int) = d by simp; omega] at this
  exact this
theorem feats_bd (d : Int) : 0 ≤ dFeats d ∧ dFeats d ≤ 15 := by
  unfold dFeats featsI
  split <;> omega
theorem pow_cases {j : Nat} (h : j ≤ 4) : 1 ≤ (2 : Int) ^ j ∧ (2 : Int) ^ j ≤ 16 ∧ (j ≤ 3 → (2 : Int) ^ j ≤ 8) ∧ (¬ j ≤ 3 → 8 < (2 : Int) ^ j) := by
  obtain rfl | rfl | rfl | rfl | rfl : j = 0 ∨ j = 1 ∨ j = 2 ∨ j = 3 ∨ j = 4 := by omega
  all_goals simp

/-- The loops' relations. -/
def RcOut (P : Int → Prop) (i : Value) : Prop := ∃ d : Int, 0 ≤ d ∧ d ≤ 4 ∧ i = .int .i64 d ∧ ∀ e : Int, d < e → e ≤ 4 → P e
def RcBit (n a f : Int) (x i : Value) : Prop := ∃ (j : Nat) (v : Int) (o : Bool), j ≤ 4 ∧ v = 2 ^ j ∧ o = okP n a f j ∧ i = .int .i64 v ∧ x = .bool o
def RcIn (o : Bool) (d : Int) (zs : List Int) (x i : Value) : Prop := ∃ (j : Nat) (p : Bool), j ≤ zs.length ∧ p = (o && !hasZ (zs.take j) d) ∧ i = .int .i64 (j : Int) ∧ x = .bool p
theorem RcOut.next {P : Int → Prop} {d : Int} (h1 : 1 ≤ d) (h4 : d ≤ 4) (hP : ∀ e : Int, d < e → e ≤ 4 → P e) (h : P d) (i : Int) (hi : i = d - 1) : RcOut P (.int .i64 i) := by
  refine ⟨i, by omega, by omega, rfl, fun e h1 h2 => ?_⟩
  by_cases g : e = d
  · rw [g]; exact h
  · exact hP e (by omega) h2
theorem RcBit.next {n a f : Int} {j : Nat} {v : Int} {o : Bool} (hj : j + 1 ≤ 4) (hv : v = 2 ^ j) (ho : o = okP n a f j) (u : Int) (hu : u = v * 2) (x : Bool) (hx : x = (o && okB n a f v)) : RcBit n a f (.bool x) (.int .i64 u) :=
  ⟨j + 1, u, x, hj, by rw [hu, hv, Int.pow_succ], by rw [hx, ho, hv]; rfl, rfl, rfl⟩
theorem hasZ_snoc (zs : List Int) (j : Nat) (d z : Int) (hz : zs.getD j 0 = z) (hj : j < zs.length) : hasZ (zs.take (j + 1)) d = (hasZ (zs.take j) d || decide (z = d)) := by
  have e : zs.take (j + 1) = zs.take j ++ [z] := by
    rw [List.take_add_one, List.getElem?_eq_getElem hj, ← hz, List.getD_eq_getElem?_getD, List.getElem?_eq_getElem hj]; simp
  rw [e]
  unfold hasZ
  simp only [List.contains_eq_mem, List.mem_append, List.mem_singleton]
  by_cases g : d ∈ zs.take j
  · simp [g]
  · by_cases q : d = z
    · subst q; simp
    · have : ¬ z = d := fun h => q h.symm
      simp [g, q, this]
theorem RcIn.next {o : Bool} {d : Int} {zs : List Int} {j : Nat} {p : Bool} {z : Int} (hj : j < zs.length) (hp : p = (o && !hasZ (zs.take j) d)) (hz : zs.getD j 0 = z) (x : Bool) (hx : x = (p && !decide (z = d))) : RcIn o d zs (.bool x) (.int .i64 ((j + 1 : Nat) : Int)) :=
  ⟨j + 1, x, by omega, by rw [hx, hp, hasZ_snoc zs j d z hz hj]; simp [Bool.not_or, Bool.and_assoc], rfl, rfl⟩

set_option maxRecDepth 100000 in
set_option maxHeartbeats 4000000 in
theorem rchoose_any (n a : Int) (v : Value) (zs : List Int) (w : World) (hv : IsI w v zs) :
    Calls Tryd.prog 18 #[.int .i64 n, .int .i64 a, v] w fun e w' => e = .returned (.tuple #[.int .i64 (chD n a zs), .int .i64 (chE n a zs)]) ∧ w = w' := by
  by_cases hr : 0 ≤ n ∧ n ≤ 15 ∧ 0 ≤ a ∧ a ≤ 15
  · have HC : Hid (chD n a zs = Go.Proofs.YtbpgoopmfofcnaaDoor.pick n a zs ∧ chE n a zs = if Go.Proofs.YtbpgoopmfofcnaaDoor.pick n a zs = 0 then 51 else 0) := by
      unfold chD chE; rw [if_pos hr, if_pos hr]; exact ⟨rfl, rfl⟩
    obtain ⟨n0, n1, a0, a1⟩ := hr
    have hlen := hv.len
    obtain ⟨A, cap, rfl, hl, hm, hz, hrow⟩ := hv
    go_enter Tryd.func18, Tryd.ntmps18
    go_wp2_with fail
    go_loop [8] (fun i => RcOut (fun d => fine n a zs d = false) i) (fun i => (intOf i).toNat)
    case atStart => exact ⟨4, by omega, by omega, rfl, fun e h1 h2 => by omega⟩
    case round =>
      obtain ⟨d, hd0, hd4, rfl, hP⟩ := hrel
      have HP := Lib.hid hP
      clear hP
      by_cases hd1 : 1 ≤ d
      · have hf := feats_bd d
        obtain ⟨f, hF⟩ : ∃ f, dFeats d = f := ⟨_, rfl⟩
        rw [hF] at hf
        obtain ⟨f0, f1⟩ := hf
        have HF := Lib.hid hF
        clear hF
        go_wp2_with fail
        go_loop [9, 10] (fun x i => RcBit n a f x i) (fun _ i => (16 - intOf i).toNat)
        case atStart => exact ⟨0, 1, true, by omega, rfl, rfl, rfl, rfl⟩
        case round =>
          obtain ⟨j, v, o, hj, hv, ho, rfl, rfl⟩ := hrel
          have hc := pow_cases hj
          rw [← hv] at hc
          obtain ⟨v1, v16, v8, v9⟩ := hc
          by_cases hj3 : j ≤ 3
          · have v8 := v8 hj3
            have HV := Lib.hid hv
            have HO := Lib.hid ho
            clear hv ho v9
            rcases Bool.eq_false_or_eq_true o with rfl | rfl <;> rcases Bool.eq_false_or_eq_true (bitB n v) with b1 | b1 <;>
              rcases Bool.eq_false_or_eq_true (bitB f v) with b2 | b2 <;> rcases Bool.eq_false_or_eq_true (bitB a v) with b3 | b3
            all_goals
              go_wp2_with (first
                | (go_at_call 20; refine (rfeatures_any _ _).mono ?_; rintro e w' ⟨rfl, rfl⟩; rw [HF.out])
                | (go_at_call 37; refine (bit_any _ _ _ (by omega) (by omega) (by omega) (by omega)).mono ?_; rintro e w' ⟨rfl, rfl⟩))
              go_round
              case rel => exact RcBit.next (by omega) HV.out HO.out _ rfl _ (by unfold okB; rw [b1, b2, b3]; rfl)
              case measure => simp [intOf]; omega
          · have v9 := v9 hj3
            obtain rfl : j = 4 := by omega
            have HO : Hid (o = suitB n a (dFeats d)) := by rw [ho, ← HF.out]; exact ok_same n a d n0 n1 a0 a1 hd0 hd4
            clear hv ho v8
            go_wp2_with fail
            go_loop [9, 11] (fun x i => RcIn o d zs x i) (fun _ i => zs.length - (intOf i).toNat)
            case atStart => exact ⟨0, o, by omega, by simp [hasZ], rfl, rfl⟩
            case round =>
              obtain ⟨j, p, hj, hp, rfl, rfl⟩ := hrel
              by_cases hlt : j < zs.length
              · rcases hrow with hrow | ⟨b, off, rfl, hb, hc⟩
                · rw [hrow] at hlt; simp at hlt
                have hcj := hc j hlt
                obtain ⟨z, hz⟩ : ∃ z, zs.getD j 0 = z := ⟨_, rfl⟩
                rw [hz] at hcj
                have HZ := Lib.hid hz
                have HPP := Lib.hid hp
                have HCC := Lib.hid hc
                clear hz hp hc
                rcases Bool.eq_false_or_eq_true p with rfl | rfl
                · by_cases hzd : z = d
                  · subst hzd
                    go_wp2
                    go_round
                    case rel => exact RcIn.next hlt HPP.out HZ.out _ (by simp)
                    case measure => simp [intOf]; omega
                  · go_wp2
                    go_round
                    case rel => exact RcIn.next hlt HPP.out HZ.out _ (by simp [hzd])
                    case measure => simp [intOf]; omega
                · go_wp2
                  go_round
                  case rel => exact RcIn.next hlt HPP.out HZ.out _ (by simp)
                  case measure => simp [intOf]; omega
              · have hfin : Hid (p = fine n a zs d) := by
                  rw [hp, HO.out, List.take_of_length_le (by omega)]; rfl
                clear hp hrow
                rcases Bool.eq_false_or_eq_true p with rfl | rfl
                · have hpk := Lib.hid (pick_of (by omega) hd4 hfin.out.symm HP.out)
                  go_wp2
                  go_ret2
                  exact ⟨ret_pair (by rw [HC.out.1, hpk.out]) (by rw [HC.out.2, hpk.out, if_neg (by omega)]), rfl⟩
                · go_wp2
                  go_round
                  case rel => exact RcOut.next hd1 hd4 HP.out hfin.out.symm _ rfl
                  case measure => simp [intOf]; omega
      · have hpk := Lib.hid (pick_none (n := n) (a := a) (zs := zs) (fun e h1 h2 => HP.out e (by omega) h2))
        go_wp2
        go_ret2
        exact ⟨ret_pair (by rw [HC.out.1, hpk.out]) (by rw [HC.out.2, hpk.out]; rfl), rfl⟩
  · have HC : Hid (chD n a zs = 0 ∧ chE n a zs = 50) := by
      unfold chD chE; rw [if_neg hr, if_neg hr]; exact ⟨rfl, rfl⟩
    by_cases h1 : n < 0
    · clear hr hv
      go_enter Tryd.func18, Tryd.ntmps18
      go_wp2
      go_ret2
      exact ⟨ret_pair HC.out.1.symm HC.out.2.symm, rfl⟩
    by_cases h2 : 15 < n
    · clear hr hv
      go_enter Tryd.func18, Tryd.ntmps18
      go_wp2
      go_ret2
      exact ⟨ret_pair HC.out.1.symm HC.out.2.symm, rfl⟩
    by_cases h3 : a < 0
    · clear hr hv
      go_enter Tryd.func18, Tryd.ntmps18
      go_wp2
      go_ret2
      exact ⟨ret_pair HC.out.1.symm HC.out.2.symm, rfl⟩
    have h4 : 15 < a := by omega
    clear hr hv
    go_enter Tryd.func18, Tryd.ntmps18
    go_wp2
    go_ret2
    exact ⟨ret_pair HC.out.1.symm HC.out.2.symm, rfl⟩
end Go.Proofs.YtbpgoopmfofcnaaDoor
