/-
  The document's Text, of a list of runs.
-/
import Derived.Test.YthpinbngggcgcaaDoorFtFlat
import Derived.Test.YthpinbngggcgcaaDoorRefDig
import Derived.Deep.QuietTactic
import Derived.BigQuiet
import Derived.IntWalk
namespace Go.Proofs.YthpinbngggcgcaaDoor
open Go.RowKit

theorem ba_ext {a b : ByteArray} (h : a.data.toList = b.data.toList) : a = b := by
  cases a; cases b; simp at h; rw [h]
theorem good_len : ∀ {rs : List (Nat × Nat)} {k : Nat}, Good k rs → k ≤ 65 → k + (flatR rs).length ≤ 66
  | [], k, _, hk => by rw [flat_nil]; simp; omega
  | x :: rs, k, h, hk => by
    have ih := good_len (rs := rs) (k := x.2 + 2) h.2.2.2 (by have := h.2.2.1; omega)
    rw [flat_cons, List.length_append, rng_len _ _ h.2.1 h.2.2.1]
    have := h.1
    have := h.2.1
    omega
/-- Between two runs. -/
def TrRel (w : World) (rs : List (Nat × Nat)) (s i : Value) (wr : World) : Prop :=
  ∃ pre post, rs = pre ++ post ∧ i = .int .i64 ((flatR pre).length : Int) ∧ s = .string ⟨(textR pre).toArray⟩ ∧ Below w.heap.size w wr
theorem TrRel.next {w : World} {pre post : List (Nat × Nat)} {f t : Nat} (hft : f ≤ t) (ht : t < 64) (s : ByteArray) (i : Int) (wr : World) (hi : i = ((flatR pre).length : Int) + ((t - f : Nat) : Int) + 1)
    (hs : s.data.toList = (if pre = [] then [] else textR pre ++ [44]) ++ runB f t) (hb : Below w.heap.size w wr) : TrRel w (pre ++ (f, t) :: post) (.string s) (.int .i64 i) wr := by
  refine ⟨pre ++ [(f, t)], post, by simp, ?_, ?_, hb⟩
  · rw [flat_app, flat_cons, flat_nil, List.append_nil, List.length_append, rng_len _ _ hft ht, hi]
    exact congrArg (Value.int .i64) (by omega)
  · refine congrArg Value.string (ba_ext ?_)
    rw [hs]
    by_cases h : pre = []
    · rw [if_pos h, h]
      show _ = textR [(f, t)]
      rw [textR_one]
      rfl
    · rw [if_neg h]
      show _ = textR (pre ++ [(f, t)])
      rw [textR_snoc _ _ h]
      simp

set_option maxRecDepth 100000 in
set_option maxHeartbeats 4000000 in
theorem rtext_any (rs : List (Nat × Nat)) (hg : Good 0 rs) (hne : rs ≠ []) (v : Value) (w : World) (hv : IsL w v (flatR rs)) :
    Calls Tryd.prog 25 #[v] w fun e w' => e = .returned (.string ⟨(textR rs).toArray⟩) ∧ Below w.heap.size w w' := by
  have hall := fun x hx => (hg.all (rs := rs) x hx).2
  have hL := good_len hg (by omega)
  have hpos := flat_pos (p := rs) hall hne
  obtain ⟨a, cap, rfl, hm, _, hrow⟩ := hv
  obtain ⟨L, hLe⟩ : ∃ L, (flatR rs).length = L := ⟨_, rfl⟩
  rw [hLe] at hL hpos hrow
  rcases hrow with hrow | ⟨b, off, rfl, hb, hc⟩
  · rw [hrow] at hLe; simp at hLe; omega
  have HC := Lib.hid hc
  have HLE := Lib.hid hLe
  have HG := Lib.hid hg
  have HA := Lib.hid hall
  have hL0 : ((L : Int) == 0) = false := by rw [beq_eq_false_iff_ne]; omega
  rw [hLe]
  clear hc hg hall hne hm hLe
  go_enter Tryd.func25, Tryd.ntmps25
  go_wp2_with fail
  go_loopw [3, 4] (fun s i wr => TrRel w rs s i wr) (fun _ i _ => L - (intOf i).toNat)
  case atStart => exact ⟨[], rs, rfl, rfl, rfl, Below.refl _ _⟩
  case round =>
    obtain ⟨pre, post, hrs, rfl, rfl, hbw⟩ := hrel
    obtain ⟨I, hI⟩ : ∃ I, (flatR pre).length = I := ⟨_, rfl⟩
    rw [hI]
    cases post with
    | nil =>
      rw [List.append_nil] at hrs
      have hIL : I = L := by rw [← hI, ← hrs]; exact HLE.out
      subst hIL
      have HR := Lib.hid hrs
      have HB := Lib.hid hbw
      clear hI hrs hbw
      go_wp2_with fail
      go_ret
      exact ⟨by rw [HR.out]; rfl, HB.out⟩
    | cons x post =>
      obtain ⟨f, t⟩ := x
      obtain ⟨hft, ht, hgp⟩ := Good.mid (by rw [← hrs]; exact HG.out)
      have hat : ∀ d, f + d ≤ t → (flatR rs)[I + d]? = some ((f + d : Nat) : Int) := fun d hd => by rw [hrs, ← hI]; exact flat_at ht hd
      have hnx := flat_next (pre := pre) (f := f) (t := t) hft ht hgp
      rw [← hrs, hI, HLE.out] at hnx
      have hcell : ∀ d, f + d ≤ t → I + d < L ∧ w.cell? ⟨b, off + (I + d), none⟩ = some (.int .i64 ((f + d : Nat) : Int)) := fun d hd => by
        have h1 := hat d hd
        have h2 := (List.getElem?_eq_some_iff.1 h1).1
        rw [HLE.out] at h2
        refine ⟨h2, ?_⟩
        rw [HC.out _ h2, h1]; rfl
      have h00 := (hcell 0 (by omega)).1
      have HN := Lib.hid hnx
      have HCE := Lib.hid hcell
      have HRS := Lib.hid hrs
      have HI := Lib.hid hI
      have HB := Lib.hid hbw
      have hIb : I < L := by omega
      have htl : (textR pre).length ≤ 400 := by
        have h1 := textR_len pre (fun x hx => HA.out x (by rw [hrs]; exact List.mem_append_left _ hx))
        rw [hI] at h1
        omega
      clear hat hnx hcell hI hrs hgp h00 hbw
      go_wp2_with fail
      go_loopw [5] (fun k wq => ∃ p : Nat, I ≤ p ∧ f + (p - I) ≤ t ∧ k = .int .i64 (p : Int) ∧ ∃ j, wq = wr.drewN j) (fun k _ => L - (intOf k).toNat)
      case atStart => exact ⟨I, Nat.le_refl _, by omega, rfl, 0, rfl⟩
      case round =>
        obtain ⟨p, hIp, hd, rfl, j, rfl⟩ := hrel
        obtain ⟨hpL, c0⟩ := HCE.out (p - I) hd
        rw [show I + (p - I) = p by omega] at hpL c0
        have c0 := (HB.out.cell (p := ⟨b, off + p, none⟩) hb).trans c0
        have hbl : b < wr.heap.size := Nat.lt_of_lt_of_le hb HB.out.size
        obtain ⟨z, hz⟩ : ∃ z, f + (p - I) = z := ⟨_, rfl⟩
        rw [hz] at c0 hd
        have b0 : (0 : Int) ≤ (p : Int) := by omega
        have b1 : (p : Int) < (L : Int) := by omega
        have e1 : IntKind.i64.wrap ((p : Int) + 1) = (p : Int) + 1 := IntWalk.i64_in _ (by omega)
        have e2 : IntKind.i64.wrap ((z : Int) + 1) = (z : Int) + 1 := IntWalk.i64_in _ (by omega)
        have e3 : ((p : Int) + 1).toNat = p + 1 := by omega
        have b2 : (0 : Int) ≤ (p : Int) + 1 := by omega
        have HZ := Lib.hid hz
        clear hz
        by_cases hlt : z < t
        · obtain ⟨hpL1, c1⟩ := HCE.out (p + 1 - I) (by have := HZ.out; omega)
          rw [show I + (p + 1 - I) = p + 1 by omega, show ((f + (p + 1 - I) : Nat) : Int) = (z : Int) + 1 by have := HZ.out; omega] at c1
          have c1 := (HB.out.cell (p := ⟨b, off + (p + 1), none⟩) hb).trans c1
          have b3 : (p : Int) + 1 < (L : Int) := by omega
          go_wp2_with fail
          go_quiet (fail)
          clear e1 e2 e3 c0 c1
          go_wp2_with fail
          go_roundw
          case rel => exact ⟨p + 1, by omega, by have := HZ.out; omega, by go_num, j + nq, rfl⟩
          case measure => simp [intOf]; omega
        · have hzt : z = t := by omega
          subst hzt
          have hpe : p = I + (z - f) := by have := HZ.out; omega
          have c0' : w.cell? ⟨b, off + p, none⟩ = some (.int .i64 (z : Int)) := by
            have h1 := (HCE.out (p - I) (by have := HZ.out; omega)).2
            rw [show I + (p - I) = p by omega, HZ.out] at h1
            exact h1
          have HPE := Lib.hid hpe
          rcases HN.out with ⟨hpn, hLp⟩ | ⟨z', hz1, hz2, hz3⟩
          · have b3 : ¬ (p : Int) + 1 < (L : Int) := by omega
            have b4 : decide ((p : Int) + 1 < (L : Int)) = false := decide_eq_false b3
            clear hpn hLp hpe
            go_wp2_with fail
            go_quiet (fail)
            obtain ⟨X, hX⟩ : ∃ X, (wr.drewN j).drewN nq = X := ⟨_, rfl⟩
            have hbX : Below w.heap.size w X := by rw [← hX]; exact HB.out.trans ⟨rfl, rfl, rfl, Nat.le_refl _, fun _ _ => rfl⟩
            rw [hX]
            have HBX := Lib.hid hbX
            have cI := (hbX.cell (p := ⟨b, off + (I + 0), none⟩) hb).trans (HCE.out 0 (by omega)).2
            rw [Nat.add_zero, Nat.add_zero] at cI
            have cP := (hbX.cell (p := ⟨b, off + p, none⟩) hb).trans c0'
            have CP := Lib.hid c0'
            have hblX : b < X.heap.size := Nat.lt_of_lt_of_le hb hbX.size
            have i0 : (0 : Int) ≤ (I : Int) := by omega
            have i1 : (I : Int) < (L : Int) := by omega
            obtain ⟨S, hS⟩ : ∃ S, (⟨(textR pre).toArray⟩ : ByteArray) = S := ⟨_, rfl⟩
            obtain ⟨D1, hD1⟩ : ∃ D, (⟨(dig2 f).toArray⟩ : ByteArray) = D := ⟨_, rfl⟩
            obtain ⟨D2, hD2⟩ : ∃ D, (⟨(dig2 z).toArray⟩ : ByteArray) = D := ⟨_, rfl⟩
            have zS : S.size ≤ 400 := by rw [← hS]; show (textR pre).toArray.size ≤ 400; simpa using htl
            have z1 : D1.size ≤ 2 := by rw [← hD1]; show (dig2 f).toArray.size ≤ 2; simpa using dig2_len f
            have z2 : D2.size ≤ 2 := by rw [← hD2]; show (dig2 z).toArray.size ≤ 2; simpa using dig2_len z
            rw [hS]
            have HS := Lib.hid hS
            have HD1 := Lib.hid hD1
            have HD2 := Lib.hid hD2
            clear hX hbX e1 e2 e3 c0 hbl b2 c0' hS hD1 hD2
            by_cases hp0 : pre = []
            · skip
              have hI0 : I = 0 := by rw [← HI.out, hp0]; rfl
              have hq : decide (0 < I) = false := by rw [hI0]; rfl
              have HP0 := Lib.hid hp0
              clear hp0
              have HI0 := Lib.hid hI0
              clear hI0
              by_cases hfz : f < z
              · have hk : decide (I < p) = true := decide_eq_true (by have := HPE.out; omega)
                have hs1 : ¬ (9223372036854775807 : Int) < ((S.size + D1.size : Nat) : Int) := by omega
                have hs2 : ¬ (9223372036854775807 : Int) < (((S ++ D1).size + (⟨#[45]⟩ : ByteArray).size : Nat) : Int) := by rw [ByteArray.size_append]; have : (⟨#[45]⟩ : ByteArray).size = 1 := rfl; omega
                have hs3 : ¬ (9223372036854775807 : Int) < (((S ++ D1 ++ ⟨#[45]⟩).size + D2.size : Nat) : Int) := by rw [ByteArray.size_append, ByteArray.size_append]; have : (⟨#[45]⟩ : ByteArray).size = 1 := rfl; omega
                have HF := Lib.hid hfz
                clear hfz
                go_wp2_with fail
                refine (digits_any f (by omega) _).mono ?_; rintro e w6 ⟨rfl, hb6⟩; rw [HD1.out]
                have B6 := Lib.hid (HBX.out.trans (hb6.mono HBX.out.size))
                have cP6 := (hb6.cell (p := ⟨b, off + p, none⟩) hblX).trans cP
                clear hb6
                go_wp2_with fail
                refine (digits_any z (by omega) _).mono ?_; rintro e w7 ⟨rfl, hb7⟩; rw [HD2.out]
                have B7 := Lib.hid (B6.out.trans (hb7.mono B6.out.size))
                clear hb7
                go_wp2_with fail
                go_roundw
                case rel =>
                  have hS := congrArg (fun a : ByteArray => a.data.toList) HS.out
                  have h1 := congrArg (fun a : ByteArray => a.data.toList) HD1.out
                  have h2 := congrArg (fun a : ByteArray => a.data.toList) HD2.out
                  rw [HRS.out]
                  refine TrRel.next hft ht _ _ _ (by rw [HI.out]; have := HPE.out; omega) ?_ B7.out
                  rw [if_pos HP0.out]
                  unfold runB
                  rw [if_pos HF.out]
                  have hS0 : S.data.toList = [] := by rw [← HS.out, HP0.out]; rfl
                  simp only [] at hS h1 h2
                  simp only [ByteArray.data_append, Array.toList_append, ← h1, ← h2, hS0, List.append_assoc, List.nil_append, List.append_nil]
                  simp
                case measure => simp [intOf]; omega
              · have hk : decide (I < p) = false := decide_eq_false (by have := HPE.out; omega)
                have hs1 : ¬ (9223372036854775807 : Int) < ((S.size + D1.size : Nat) : Int) := by omega
                have HF := Lib.hid hfz
                clear hfz
                go_wp2_with fail
                refine (digits_any f (by omega) _).mono ?_; rintro e w6 ⟨rfl, hb6⟩; rw [HD1.out]
                have B6 := Lib.hid (HBX.out.trans (hb6.mono HBX.out.size))
                have cP6 := (hb6.cell (p := ⟨b, off + p, none⟩) hblX).trans cP
                clear hb6
                go_wp2_with fail
                go_roundw
                case rel =>
                  have hS := congrArg (fun a : ByteArray => a.data.toList) HS.out
                  have h1 := congrArg (fun a : ByteArray => a.data.toList) HD1.out
                  have h2 := congrArg (fun a : ByteArray => a.data.toList) HD2.out
                  rw [HRS.out]
                  refine TrRel.next hft ht _ _ _ (by rw [HI.out]; have := HPE.out; omega) ?_ B6.out
                  rw [if_pos HP0.out]
                  unfold runB
                  rw [if_neg HF.out]
                  have hS0 : S.data.toList = [] := by rw [← HS.out, HP0.out]; rfl
                  simp only [] at hS h1 h2
                  simp only [ByteArray.data_append, Array.toList_append, ← h1, ← h2, hS0, List.append_assoc, List.nil_append, List.append_nil]
                case measure => simp [intOf]; omega
            · skip
              have hIp : 0 < I := by
                have h1 := flat_pos (p := pre) (fun x hx => HA.out x (by rw [HRS.out]; exact List.mem_append_left _ hx)) hp0
                rw [HI.out] at h1
                exact h1
              have hq : decide (0 < I) = true := decide_eq_true hIp
              have HP0 := Lib.hid hp0
              clear hp0
              by_cases hfz : f < z
              · have hk : decide (I < p) = true := decide_eq_true (by have := HPE.out; omega)
                have hs0 : ¬ (9223372036854775807 : Int) < ((S.size + (⟨#[44]⟩ : ByteArray).size : Nat) : Int) := by have : (⟨#[44]⟩ : ByteArray).size = 1 := rfl; omega
                have hs1 : ¬ (9223372036854775807 : Int) < (((S ++ ⟨#[44]⟩).size + D1.size : Nat) : Int) := by rw [ByteArray.size_append]; have : (⟨#[44]⟩ : ByteArray).size = 1 := rfl; omega
                have hs2 : ¬ (9223372036854775807 : Int) < ((((S ++ ⟨#[44]⟩) ++ D1).size + (⟨#[45]⟩ : ByteArray).size : Nat) : Int) := by rw [ByteArray.size_append]; rw [ByteArray.size_append]; have : (⟨#[44]⟩ : ByteArray).size = 1 := rfl; have : (⟨#[45]⟩ : ByteArray).size = 1 := rfl; omega
                have hs3 : ¬ (9223372036854775807 : Int) < ((((S ++ ⟨#[44]⟩) ++ D1 ++ ⟨#[45]⟩).size + D2.size : Nat) : Int) := by rw [ByteArray.size_append, ByteArray.size_append]; rw [ByteArray.size_append]; have : (⟨#[44]⟩ : ByteArray).size = 1 := rfl; have : (⟨#[45]⟩ : ByteArray).size = 1 := rfl; omega
                have HF := Lib.hid hfz
                clear hfz
                go_wp2_with fail
                refine (digits_any f (by omega) _).mono ?_; rintro e w6 ⟨rfl, hb6⟩; rw [HD1.out]
                have B6 := Lib.hid (HBX.out.trans (hb6.mono HBX.out.size))
                have cP6 := (hb6.cell (p := ⟨b, off + p, none⟩) hblX).trans cP
                clear hb6
                go_wp2_with fail
                refine (digits_any z (by omega) _).mono ?_; rintro e w7 ⟨rfl, hb7⟩; rw [HD2.out]
                have B7 := Lib.hid (B6.out.trans (hb7.mono B6.out.size))
                clear hb7
                go_wp2_with fail
                go_roundw
                case rel =>
                  have hS := congrArg (fun a : ByteArray => a.data.toList) HS.out
                  have h1 := congrArg (fun a : ByteArray => a.data.toList) HD1.out
                  have h2 := congrArg (fun a : ByteArray => a.data.toList) HD2.out
                  rw [HRS.out]
                  refine TrRel.next hft ht _ _ _ (by rw [HI.out]; have := HPE.out; omega) ?_ B7.out
                  rw [if_neg HP0.out]
                  unfold runB
                  rw [if_pos HF.out]
                  simp only [] at hS h1 h2
                  simp only [ByteArray.data_append, Array.toList_append, ← h1, ← h2, ← hS, List.append_assoc, List.nil_append, List.append_nil]
                  simp
                case measure => simp [intOf]; omega
              · have hk : decide (I < p) = false := decide_eq_false (by have := HPE.out; omega)
                have hs0 : ¬ (9223372036854775807 : Int) < ((S.size + (⟨#[44]⟩ : ByteArray).size : Nat) : Int) := by have : (⟨#[44]⟩ : ByteArray).size = 1 := rfl; omega
                have hs1 : ¬ (9223372036854775807 : Int) < (((S ++ ⟨#[44]⟩).size + D1.size : Nat) : Int) := by rw [ByteArray.size_append]; have : (⟨#[44]⟩ : ByteArray).size = 1 := rfl; omega
                have HF := Lib.hid hfz
                clear hfz
                go_wp2_with fail
                refine (digits_any f (by omega) _).mono ?_; rintro e w6 ⟨rfl, hb6⟩; rw [HD1.out]
                have B6 := Lib.hid (HBX.out.trans (hb6.mono HBX.out.size))
                have cP6 := (hb6.cell (p := ⟨b, off + p, none⟩) hblX).trans cP
                clear hb6
                go_wp2_with fail
                go_roundw
                case rel =>
                  have hS := congrArg (fun a : ByteArray => a.data.toList) HS.out
                  have h1 := congrArg (fun a : ByteArray => a.data.toList) HD1.out
                  have h2 := congrArg (fun a : ByteArray => a.data.toList) HD2.out
                  rw [HRS.out]
                  refine TrRel.next hft ht _ _ _ (by rw [HI.out]; have := HPE.out; omega) ?_ B6.out
                  rw [if_neg HP0.out]
                  unfold runB
                  rw [if_neg HF.out]
                  simp only [] at hS h1 h2
                  simp only [ByteArray.data_append, Array.toList_append, ← h1, ← h2, ← hS, List.append_assoc, List.nil_append, List.append_nil]
                case measure => simp [intOf]; omega
          · have b3 : (p : Int) + 1 < (L : Int) := by omega
            have c1 : w.cell? ⟨b, off + (p + 1), none⟩ = some (.int .i64 (z' : Int)) := by
              rw [HC.out (p + 1) (by omega), show p + 1 = I + (z - f) + 1 by omega, hz2]; rfl
            have c1 := (HB.out.cell (p := ⟨b, off + (p + 1), none⟩) hb).trans c1
            have b4 : ((z' : Int) == (z : Int) + 1) = false := by rw [beq_eq_false_iff_ne]; omega
            clear hz1 hz2 hz3 hpe
            go_wp2_with fail
            go_quiet (fail)
            obtain ⟨X, hX⟩ : ∃ X, (wr.drewN j).drewN nq = X := ⟨_, rfl⟩
            have hbX : Below w.heap.size w X := by rw [← hX]; exact HB.out.trans ⟨rfl, rfl, rfl, Nat.le_refl _, fun _ _ => rfl⟩
            rw [hX]
            have HBX := Lib.hid hbX
            have cI := (hbX.cell (p := ⟨b, off + (I + 0), none⟩) hb).trans (HCE.out 0 (by omega)).2
            rw [Nat.add_zero, Nat.add_zero] at cI
            have cP := (hbX.cell (p := ⟨b, off + p, none⟩) hb).trans c0'
            have CP := Lib.hid c0'
            have hblX : b < X.heap.size := Nat.lt_of_lt_of_le hb hbX.size
            have i0 : (0 : Int) ≤ (I : Int) := by omega
            have i1 : (I : Int) < (L : Int) := by omega
            obtain ⟨S, hS⟩ : ∃ S, (⟨(textR pre).toArray⟩ : ByteArray) = S := ⟨_, rfl⟩
            obtain ⟨D1, hD1⟩ : ∃ D, (⟨(dig2 f).toArray⟩ : ByteArray) = D := ⟨_, rfl⟩
            obtain ⟨D2, hD2⟩ : ∃ D, (⟨(dig2 z).toArray⟩ : ByteArray) = D := ⟨_, rfl⟩
            have zS : S.size ≤ 400 := by rw [← hS]; show (textR pre).toArray.size ≤ 400; simpa using htl
            have z1 : D1.size ≤ 2 := by rw [← hD1]; show (dig2 f).toArray.size ≤ 2; simpa using dig2_len f
            have z2 : D2.size ≤ 2 := by rw [← hD2]; show (dig2 z).toArray.size ≤ 2; simpa using dig2_len z
            rw [hS]
            have HS := Lib.hid hS
            have HD1 := Lib.hid hD1
            have HD2 := Lib.hid hD2
            clear hX hbX e1 e2 e3 c0 hbl b2 c0' hS hD1 hD2
            by_cases hp0 : pre = []
            · skip
              have hI0 : I = 0 := by rw [← HI.out, hp0]; rfl
              have hq : decide (0 < I) = false := by rw [hI0]; rfl
              have HP0 := Lib.hid hp0
              clear hp0
              have HI0 := Lib.hid hI0
              clear hI0
              by_cases hfz : f < z
              · have hk : decide (I < p) = true := decide_eq_true (by have := HPE.out; omega)
                have hs1 : ¬ (9223372036854775807 : Int) < ((S.size + D1.size : Nat) : Int) := by omega
                have hs2 : ¬ (9223372036854775807 : Int) < (((S ++ D1).size + (⟨#[45]⟩ : ByteArray).size : Nat) : Int) := by rw [ByteArray.size_append]; have : (⟨#[45]⟩ : ByteArray).size = 1 := rfl; omega
                have hs3 : ¬ (9223372036854775807 : Int) < (((S ++ D1 ++ ⟨#[45]⟩).size + D2.size : Nat) : Int) := by rw [ByteArray.size_append, ByteArray.size_append]; have : (⟨#[45]⟩ : ByteArray).size = 1 := rfl; omega
                have HF := Lib.hid hfz
                clear hfz
                go_wp2_with fail
                refine (digits_any f (by omega) _).mono ?_; rintro e w6 ⟨rfl, hb6⟩; rw [HD1.out]
                have B6 := Lib.hid (HBX.out.trans (hb6.mono HBX.out.size))
                have cP6 := (hb6.cell (p := ⟨b, off + p, none⟩) hblX).trans cP
                clear hb6
                go_wp2_with fail
                refine (digits_any z (by omega) _).mono ?_; rintro e w7 ⟨rfl, hb7⟩; rw [HD2.out]
                have B7 := Lib.hid (B6.out.trans (hb7.mono B6.out.size))
                clear hb7
                go_wp2_with fail
                go_roundw
                case rel =>
                  have hS := congrArg (fun a : ByteArray => a.data.toList) HS.out
                  have h1 := congrArg (fun a : ByteArray => a.data.toList) HD1.out
                  have h2 := congrArg (fun a : ByteArray => a.data.toList) HD2.out
                  rw [HRS.out]
                  refine TrRel.next hft ht _ _ _ (by rw [HI.out]; have := HPE.out; omega) ?_ B7.out
                  rw [if_pos HP0.out]
                  unfold runB
                  rw [if_pos HF.out]
                  have hS0 : S.data.toList = [] := by rw [← HS.out, HP0.out]; rfl
                  simp only [] at hS h1 h2
                  simp only [ByteArray.data_append, Array.toList_append, ← h1, ← h2, hS0, List.append_assoc, List.nil_append, List.append_nil]
                  simp
                case measure => simp [intOf]; omega
              · have hk : decide (I < p) = false := decide_eq_false (by have := HPE.out; omega)
                have hs1 : ¬ (9223372036854775807 : Int) < ((S.size + D1.size : Nat) : Int) := by omega
                have HF := Lib.hid hfz
                clear hfz
                go_wp2_with fail
                refine (digits_any f (by omega) _).mono ?_; rintro e w6 ⟨rfl, hb6⟩; rw [HD1.out]
                have B6 := Lib.hid (HBX.out.trans (hb6.mono HBX.out.size))
                have cP6 := (hb6.cell (p := ⟨b, off + p, none⟩) hblX).trans cP
                clear hb6
                go_wp2_with fail
                go_roundw
                case rel =>
                  have hS := congrArg (fun a : ByteArray => a.data.toList) HS.out
                  have h1 := congrArg (fun a : ByteArray => a.data.toList) HD1.out
                  have h2 := congrArg (fun a : ByteArray => a.data.toList) HD2.out
                  rw [HRS.out]
                  refine TrRel.next hft ht _ _ _ (by rw [HI.out]; have := HPE.out; omega) ?_ B6.out
                  rw [if_pos HP0.out]
                  unfold runB
                  rw [if_neg HF.out]
                  have hS0 : S.data.toList = [] := by rw [← HS.out, HP0.out]; rfl
                  simp only [] at hS h1 h2
                  simp only [ByteArray.data_append, Array.toList_append, ← h1, ← h2, hS0, List.append_assoc, List.nil_append, List.append_nil]
                case measure => simp [intOf]; omega
            · skip
              have hIp : 0 < I := by
                have h1 := flat_pos (p := pre) (fun x hx => HA.out x (by rw [HRS.out]; exact List.mem_append_left _ hx)) hp0
                rw [HI.out] at h1
                exact h1
              have hq : decide (0 < I) = true := decide_eq_true hIp
              have HP0 := Lib.hid hp0
              clear hp0
              by_cases hfz : f < z
              · have hk : decide (I < p) = true := decide_eq_true (by have := HPE.out; omega)
                have hs0 : ¬ (9223372036854775807 : Int) < ((S.size + (⟨#[44]⟩ : ByteArray).size : Nat) : Int) := by have : (⟨#[44]⟩ : ByteArray).size = 1 := rfl; omega
                have hs1 : ¬ (9223372036854775807 : Int) < (((S ++ ⟨#[44]⟩).size + D1.size : Nat) : Int) := by rw [ByteArray.size_append]; have : (⟨#[44]⟩ : ByteArray).size = 1 := rfl; omega
                have hs2 : ¬ (9223372036854775807 : Int) < ((((S ++ ⟨#[44]⟩) ++ D1).size + (⟨#[45]⟩ : ByteArray).size : Nat) : Int) := by rw [ByteArray.size_append]; rw [ByteArray.size_append]; have : (⟨#[44]⟩ : ByteArray).size = 1 := rfl; have : (⟨#[45]⟩ : ByteArray).size = 1 := rfl; omega
                have hs3 : ¬ (9223372036854775807 : Int) < ((((S ++ ⟨#[44]⟩) ++ D1 ++ ⟨#[45]⟩).size + D2.size : Nat) : Int) := by rw [ByteArray.size_append, ByteArray.size_append]; rw [ByteArray.size_append]; have : (⟨#[44]⟩ : ByteArray).size = 1 := rfl; have : (⟨#[45]⟩ : ByteArray).size = 1 := rfl; omega
                have HF := Lib.hid hfz
                clear hfz
                go_wp2_with fail
                refine (digits_any f (by omega) _).mono ?_; rintro e w6 ⟨rfl, hb6⟩; rw [HD1.out]
                have B6 := Lib.hid (HBX.out.trans (hb6.mono HBX.out.size))
                have cP6 := (hb6.cell (p := ⟨b, off + p, none⟩) hblX).trans cP
                clear hb6
                go_wp2_with fail
                refine (digits_any z (by omega) _).mono ?_; rintro e w7 ⟨rfl, hb7⟩; rw [HD2.out]
                have B7 := Lib.hid (B6.out.trans (hb7.mono B6.out.size))
                clear hb7
                go_wp2_with fail
                go_roundw
                case rel =>
                  have hS := congrArg (fun a : ByteArray => a.data.toList) HS.out
                  have h1 := congrArg (fun a : ByteArray => a.data.toList) HD1.out
                  have h2 := congrArg (fun a : ByteArray => a.data.toList) HD2.out
                  rw [HRS.out]
                  refine TrRel.next hft ht _ _ _ (by rw [HI.out]; have := HPE.out; omega) ?_ B7.out
                  rw [if_neg HP0.out]
                  unfold runB
                  rw [if_pos HF.out]
                  simp only [] at hS h1 h2
                  simp only [ByteArray.data_append, Array.toList_append, ← h1, ← h2, ← hS, List.append_assoc, List.nil_append, List.append_nil]
                  simp
                case measure => simp [intOf]; omega
              · have hk : decide (I < p) = false := decide_eq_false (by have := HPE.out; omega)
                have hs0 : ¬ (9223372036854775807 : Int) < ((S.size + (⟨#[44]⟩ : ByteArray).size : Nat) : Int) := by have : (⟨#[44]⟩ : ByteArray).size = 1 := rfl; omega
                have hs1 : ¬ (9223372036854775807 : Int) < (((S ++ ⟨#[44]⟩).size + D1.size : Nat) : Int) := by rw [ByteArray.size_append]; have : (⟨#[44]⟩ : ByteArray).size = 1 := rfl; omega
                have HF := Lib.hid hfz
                clear hfz
                go_wp2_with fail
                refine (digits_any f (by omega) _).mono ?_; rintro e w6 ⟨rfl, hb6⟩; rw [HD1.out]
                have B6 := Lib.hid (HBX.out.trans (hb6.mono HBX.out.size))
                have cP6 := (hb6.cell (p := ⟨b, off + p, none⟩) hblX).trans cP
                clear hb6
                go_wp2_with fail
                go_roundw
                case rel =>
                  have hS := congrArg (fun a : ByteArray => a.data.toList) HS.out
                  have h1 := congrArg (fun a : ByteArray => a.data.toList) HD1.out
                  have h2 := congrArg (fun a : ByteArray => a.data.toList) HD2.out
                  rw [HRS.out]
                  refine TrRel.next hft ht _ _ _ (by rw [HI.out]; have := HPE.out; omega) ?_ B6.out
                  rw [if_neg HP0.out]
                  unfold runB
                  rw [if_neg HF.out]
                  simp only [] at hS h1 h2
                  simp only [ByteArray.data_append, Array.toList_append, ← h1, ← h2, ← hS, List.append_assoc, List.nil_append, List.append_nil]
                case measure => simp [intOf]; omega
end Go.Proofs.YthpinbngggcgcaaDoor
