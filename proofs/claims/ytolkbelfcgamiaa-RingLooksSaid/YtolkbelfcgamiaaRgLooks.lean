/-
  RingLooks.
-/
import Derived.Test.YtolkbelfcgamiaaRgGrows
namespace Go.Proofs.Ytolkbelfcgamiaa
open Go.RowKit Go.Shelf Go.Maps Go.ChangeMaps

/-- What lies at the loop's head, round j. -/
def LkAt (w : World) (r k j : Nat) (wr : World) : Prop := ∃ F bs inn out, St w wr r F k bs inn out ∧ inn ≤ 200 * j

set_option maxRecDepth 100000 in
set_option maxHeartbeats 8000000 in
theorem looks_main (w : World) (k : Nat) (va vb : Value) (za zb : List Int) (n : Int) (hk : k ≤ 65536) (hza : za.length ≤ 200) (hzb : zb.length ≤ 200) (hn : -9223372036854775808 ≤ n ∧ n ≤ 9223372036854775807) (ha : Src w (fun _ => False) va za) (hb : Src w (fun _ => False) vb zb) :
    Calls Try.prog 8 #[.int .i64 (k : Int), va, vb, .int .i64 n] w fun e w' => e = .returned (.bool true) ∧ Below w.heap.size w w' := by
  obtain ⟨Aa, ca, rfl, _⟩ := id ha
  obtain ⟨Ab, cb, rfl, _⟩ := id hb
  have b1 : decide (200 < (za.length : Int)) = false := by simp; omega
  have b2 : decide (200 < (zb.length : Int)) = false := by simp; omega
  have HA := Lib.hid ha
  have HB := Lib.hid hb
  clear ha hb
  go_enter Try.func8, Try.ntmps8
  go_wp2_with (go_at_call 24; refine (alive_any _).mono ?_; rintro e w0 ⟨rfl, hb0⟩)
  refine (new_yes _ k (by omega)).mono ?_
  rintro e w1 ⟨r, F, rfl, hR, hb1, hrl⟩
  have H1 : LkAt w r k 0 w1 := ⟨F, [], 0, 0, ⟨hR.more hb0.size, hb0.trans (hb1.mono hb0.size)⟩, by omega⟩
  clear hR hb1 hb0 hrl
  have HH1 := Lib.hid H1
  clear H1
  go_wp2_with fail
  go_loopw [12] (fun i wr => ∃ j : Nat, j ≤ 4 ∧ i = .int .i64 (j : Int) ∧ LkAt w r k j wr) (fun i _ => 4 - (intOf i).toNat)
  case atStart => exact ⟨0, by omega, rfl, HH1.out⟩
  case round =>
    obtain ⟨j, hj, rfl, F0, bs, inn, out, S0, hin⟩ := hrel
    by_cases hlt : j < 4
    · have c1 : decide ((j : Int) < 4) = true := by simp; omega
      have hpar : (((j : Int) % 2 == 1) = true ∧ (((j : Int).tmod 2) == 1) = true) ∨ (((j : Int) % 2 == 1) = false ∧ (((j : Int).tmod 2) == 1) = false) := by
        rw [Int.tmod_eq_emod_of_nonneg (by omega)]
        cases h : ((j : Int) % 2 == 1) <;> simp
      have j0 : (0 : Int) ≤ (j : Int) := by omega
      have hp0 := trivial
      rcases hpar with ⟨hp1, hp2⟩ | ⟨hp1, hp2⟩
      · have hf0 := S0.1.facts
        obtain ⟨R, hR⟩ : ∃ R, k - bs.length = R := ⟨_, rfl⟩
        obtain ⟨m, hm⟩ : ∃ m, min zb.length (k - bs.length) = m := ⟨_, rfl⟩
        obtain ⟨bs1, hbs1⟩ : ∃ x, bs ++ zb.take m = x := ⟨_, rfl⟩
        obtain ⟨in1, hin1⟩ : ∃ x, inn + m = x := ⟨_, rfl⟩
        have e1 : (if R < zb.length then (R : Int) else (zb.length : Int)) = (m : Int) := by split <;> omega
        have HRo := Lib.hid (hR ▸ room_any S0.1)
        have HP := Lib.hid (fun q => st_put (S0.drewN q) (HB.out.at_ (S0.drewN q).2 (fun i e => (S0.1.lt e).2)) (by omega) hm hbs1 hin1)
        have hi1 : in1 ≤ 200 * (j + 1) := by omega
        clear S0 hf0 hR hm hbs1 hin1 hin hp0
        go_wp2_with fail
        refine HRo.out.mono ?_
        rintro e w2 ⟨rfl, q2, rfl⟩
        go_wp2_with fail
        refine (HP.out q2).mono ?_
        rintro e w3 ⟨rfl, F3, S3, _⟩
        have HLk := Lib.hid (look_any S3.1 n hn)
        have H3 := Lib.hid S3
        clear S3
        go_wp2_with fail
        refine HLk.out.mono ?_
        rintro e w4 ⟨v4, rfl, row4, k4⟩
        have ap4 := row4.fresh H3.out.1
        obtain ⟨A4, hv4, _⟩ := row4.form
        have S4 := H3.out.kept k4
        obtain ⟨L, hL⟩ : ∃ L, (bs1.take n.toNat).length = L := ⟨_, rfl⟩
        rw [hL] at hv4
        have HLe := Lib.hid (len_any S4.1)
        have HTk := Lib.hid (fun q => take_any (S4.drewN q).1 n hn)
        have H4 := Lib.hid (And.intro S4 (And.intro row4 (And.intro ap4 (And.intro hL hv4))))
        subst hv4
        clear S4 row4 ap4 k4 hL
        go_wp2_with fail
        refine HLe.out.mono ?_
        rintro e w5 ⟨rfl, q5, rfl⟩
        go_wp2_with fail
        refine (HTk.out q5).mono ?_
        rintro e w6 ⟨v6, rfl, row6, R6, k6⟩
        obtain ⟨S4, row4, ap4, hL, hv4⟩ := H4.out
        obtain ⟨A6, hv6, _⟩ := row6.form
        rw [hL] at hv6
        have row4' : RowB w6 w3.heap.size (.slice A4 L L) (bs1.take n.toNat) := RowB.kept (w := w4.drewN q5) (row4.same (fun _ _ => rfl)) k6 ap4
        have S6 : St w w6 r F3 k (bs1.drop n.toNat) in1 (out + (bs1.take n.toNat).length) := ⟨R6, law_keep (S4.drewN q5).1 (S4.drewN q5).2 k6⟩
        have f6 := S6.1.facts
        obtain ⟨T, hT⟩ : ∃ s, strOfNums (bs1.take n.toNat) = s := ⟨_, rfl⟩
        have hsX := fun q => rowB_str (row4'.same (w' := w6.drewN q) (fun _ _ => rfl))
        have hsY := fun q => rowB_str (row6.same (w' := w6.drewN q) (fun _ _ => rfl))
        rw [hT] at hsX hsY
        rw [hv6] at hsY
        obtain ⟨o6, ho6⟩ : ∃ o, out + (bs1.take n.toNat).length = o := ⟨_, rfl⟩
        obtain ⟨bs6, hbs6⟩ : ∃ x, bs1.drop n.toNat = x := ⟨_, rfl⟩
        rw [ho6, hbs6] at S6 f6
        have hlen : bs1.length = L + bs6.length := by rw [← hL, ← hbs6, ← List.length_append, List.take_append_drop]
        have hLn : L ≤ n.toNat := by rw [← hL, List.length_take]; omega
        obtain ⟨R6', hR6⟩ : ∃ R, k - bs6.length = R := ⟨_, rfl⟩
        have e2 : IntKind.i64.wrap ((bs1.length : Int) - (L : Int)) = (bs6.length : Int) := by rw [IntWalk.i64_in _ (by omega)]; omega
        have e3 : IntKind.i64.wrap ((bs6.length : Int) + (R6' : Int)) = (k : Int) := by rw [IntWalk.i64_in _ (by omega)]; omega
        have e4 : IntKind.u64.wrap ((in1 : Int) - (o6 : Int)) = (bs6.length : Int) := by rw [IntWalk.u64_in _ (by omega)]; omega
        have e5 : IntKind.u64.wrap (bs6.length : Int) = (bs6.length : Int) := IntWalk.u64_in _ (by omega)
        obtain ⟨mx, hmx⟩ : ∃ x : Int, (if n < 0 then 0 else n) = x := ⟨_, rfl⟩
        have e6 : decide (mx < (L : Int)) = false := by simp; rw [← hmx]; split <;> omega
        have HCo := Lib.hid (counts_any S6.1)
        have HL6 := Lib.hid (fun q => len_any (S6.drewN q).1)
        have HR6 := Lib.hid (fun q => hR6 ▸ room_any (S6.drewN q).1)
        have HE := Lib.hid (fun q => show LkAt w r k (j + 1) (w6.drewN q) from ⟨F3, bs6, in1, o6, S6.drewN q, hi1⟩)
        have HV6 := Lib.hid hv6
        subst hv6
        clear S4 row4 ap4 hL hv4 row6 R6 k6 row4' S6 f6 hT ho6 hbs6 hlen hLn hR6
        go_wp2_with fail
        refine HCo.out.mono ?_
        rintro e w7 ⟨rfl, q7, rfl⟩
        have hsX7 := hsX q7
        have hsY7 := hsY q7
        go_wp2_with fail
        clear hsX hsY hsX7 hsY7
        refine (HL6.out _).mono ?_
        rintro e w8 ⟨rfl, q8, rfl⟩
        go_wp2_with fail
        refine (HL6.out _).mono ?_
        rintro e w9 ⟨rfl, q9, rfl⟩
        go_wp2_with fail
        refine (HR6.out _).mono ?_
        rintro e wa ⟨rfl, qa, rfl⟩
        go_wp2_with fail
        refine (HL6.out _).mono ?_
        rintro e wb ⟨rfl, qb, rfl⟩
        have HM := Lib.hid hj
        clear hj
        go_wp2_with fail
        go_roundw
        case rel => exact ⟨j + 1, by omega, by go_num, HE.out _⟩
        case measure => simp [intOf]; omega
      · have hf0 := S0.1.facts
        obtain ⟨R, hR⟩ : ∃ R, k - bs.length = R := ⟨_, rfl⟩
        obtain ⟨m, hm⟩ : ∃ m, min za.length (k - bs.length) = m := ⟨_, rfl⟩
        obtain ⟨bs1, hbs1⟩ : ∃ x, bs ++ za.take m = x := ⟨_, rfl⟩
        obtain ⟨in1, hin1⟩ : ∃ x, inn + m = x := ⟨_, rfl⟩
        have e1 : (if R < za.length then (R : Int) else (za.length : Int)) = (m : Int) := by split <;> omega
        have HRo := Lib.hid (hR ▸ room_any S0.1)
        have HP := Lib.hid (fun q => st_put (S0.drewN q) (HA.out.at_ (S0.drewN q).2 (fun i e => (S0.1.lt e).2)) (by omega) hm hbs1 hin1)
        have hi1 : in1 ≤ 200 * (j + 1) := by omega
        clear S0 hf0 hR hm hbs1 hin1 hin hp0
        go_wp2_with fail
        refine HRo.out.mono ?_
        rintro e w2 ⟨rfl, q2, rfl⟩
        go_wp2_with fail
        refine (HP.out q2).mono ?_
        rintro e w3 ⟨rfl, F3, S3, _⟩
        have HLk := Lib.hid (look_any S3.1 n hn)
        have H3 := Lib.hid S3
        clear S3
        go_wp2_with fail
        refine HLk.out.mono ?_
        rintro e w4 ⟨v4, rfl, row4, k4⟩
        have ap4 := row4.fresh H3.out.1
        obtain ⟨A4, hv4, _⟩ := row4.form
        have S4 := H3.out.kept k4
        obtain ⟨L, hL⟩ : ∃ L, (bs1.take n.toNat).length = L := ⟨_, rfl⟩
        rw [hL] at hv4
        have HLe := Lib.hid (len_any S4.1)
        have HTk := Lib.hid (fun q => take_any (S4.drewN q).1 n hn)
        have H4 := Lib.hid (And.intro S4 (And.intro row4 (And.intro ap4 (And.intro hL hv4))))
        subst hv4
        clear S4 row4 ap4 k4 hL
        go_wp2_with fail
        refine HLe.out.mono ?_
        rintro e w5 ⟨rfl, q5, rfl⟩
        go_wp2_with fail
        refine (HTk.out q5).mono ?_
        rintro e w6 ⟨v6, rfl, row6, R6, k6⟩
        obtain ⟨S4, row4, ap4, hL, hv4⟩ := H4.out
        obtain ⟨A6, hv6, _⟩ := row6.form
        rw [hL] at hv6
        have row4' : RowB w6 w3.heap.size (.slice A4 L L) (bs1.take n.toNat) := RowB.kept (w := w4.drewN q5) (row4.same (fun _ _ => rfl)) k6 ap4
        have S6 : St w w6 r F3 k (bs1.drop n.toNat) in1 (out + (bs1.take n.toNat).length) := ⟨R6, law_keep (S4.drewN q5).1 (S4.drewN q5).2 k6⟩
        have f6 := S6.1.facts
        obtain ⟨T, hT⟩ : ∃ s, strOfNums (bs1.take n.toNat) = s := ⟨_, rfl⟩
        have hsX := fun q => rowB_str (row4'.same (w' := w6.drewN q) (fun _ _ => rfl))
        have hsY := fun q => rowB_str (row6.same (w' := w6.drewN q) (fun _ _ => rfl))
        rw [hT] at hsX hsY
        rw [hv6] at hsY
        obtain ⟨o6, ho6⟩ : ∃ o, out + (bs1.take n.toNat).length = o := ⟨_, rfl⟩
        obtain ⟨bs6, hbs6⟩ : ∃ x, bs1.drop n.toNat = x := ⟨_, rfl⟩
        rw [ho6, hbs6] at S6 f6
        have hlen : bs1.length = L + bs6.length := by rw [← hL, ← hbs6, ← List.length_append, List.take_append_drop]
        have hLn : L ≤ n.toNat := by rw [← hL, List.length_take]; omega
        obtain ⟨R6', hR6⟩ : ∃ R, k - bs6.length = R := ⟨_, rfl⟩
        have e2 : IntKind.i64.wrap ((bs1.length : Int) - (L : Int)) = (bs6.length : Int) := by rw [IntWalk.i64_in _ (by omega)]; omega
        have e3 : IntKind.i64.wrap ((bs6.length : Int) + (R6' : Int)) = (k : Int) := by rw [IntWalk.i64_in _ (by omega)]; omega
        have e4 : IntKind.u64.wrap ((in1 : Int) - (o6 : Int)) = (bs6.length : Int) := by rw [IntWalk.u64_in _ (by omega)]; omega
        have e5 : IntKind.u64.wrap (bs6.length : Int) = (bs6.length : Int) := IntWalk.u64_in _ (by omega)
        obtain ⟨mx, hmx⟩ : ∃ x : Int, (if n < 0 then 0 else n) = x := ⟨_, rfl⟩
        have e6 : decide (mx < (L : Int)) = false := by simp; rw [← hmx]; split <;> omega
        have HCo := Lib.hid (counts_any S6.1)
        have HL6 := Lib.hid (fun q => len_any (S6.drewN q).1)
        have HR6 := Lib.hid (fun q => hR6 ▸ room_any (S6.drewN q).1)
        have HE := Lib.hid (fun q => show LkAt w r k (j + 1) (w6.drewN q) from ⟨F3, bs6, in1, o6, S6.drewN q, hi1⟩)
        have HV6 := Lib.hid hv6
        subst hv6
        clear S4 row4 ap4 hL hv4 row6 R6 k6 row4' S6 f6 hT ho6 hbs6 hlen hLn hR6
        go_wp2_with fail
        refine HCo.out.mono ?_
        rintro e w7 ⟨rfl, q7, rfl⟩
        have hsX7 := hsX q7
        have hsY7 := hsY q7
        go_wp2_with fail
        clear hsX hsY hsX7 hsY7
        refine (HL6.out _).mono ?_
        rintro e w8 ⟨rfl, q8, rfl⟩
        go_wp2_with fail
        refine (HL6.out _).mono ?_
        rintro e w9 ⟨rfl, q9, rfl⟩
        go_wp2_with fail
        refine (HR6.out _).mono ?_
        rintro e wa ⟨rfl, qa, rfl⟩
        go_wp2_with fail
        refine (HL6.out _).mono ?_
        rintro e wb ⟨rfl, qb, rfl⟩
        have HM := Lib.hid hj
        clear hj
        go_wp2_with fail
        go_roundw
        case rel => exact ⟨j + 1, by omega, by go_num, HE.out _⟩
        case measure => simp [intOf]; omega
    · have c1 : decide ((j : Int) < 4) = false := by simp; omega
      have f0 := S0.1.facts
      have HLn := Lib.hid (len_any S0.1)
      have HCl := Lib.hid (fun q => clear_any (S0.drewN q).1)
      have H0 := Lib.hid (And.intro S0 f0)
      clear S0 f0 hin
      go_wp2_with fail
      refine HLn.out.mono ?_
      rintro e w2 ⟨rfl, q2, rfl⟩
      go_wp2_with fail
      refine (HCl.out q2).mono ?_
      rintro e w3 ⟨rfl, R3, k3⟩
      have S3 : St w w3 r F0 k [] inn inn := ⟨by have h := R3; rwa [← H0.out.2.2.2.1] at h, law_keep (H0.out.1.drewN q2).1 (H0.out.1.drewN q2).2 k3⟩
      have HCo := Lib.hid (counts_any S3.1)
      have HL3 := Lib.hid (fun q => len_any (S3.drewN q).1)
      have HK3 := Lib.hid (fun q => st_look (S3.drewN q) 5 (by decide) (xs := []) rfl)
      clear R3 k3 S3
      go_wp2_with fail
      refine HCo.out.mono ?_
      rintro e w4 ⟨rfl, q4, rfl⟩
      go_wp2_with fail
      refine (HL3.out _).mono ?_
      rintro e w5 ⟨rfl, q5, rfl⟩
      go_wp2_with fail
      refine (HK3.out _).mono ?_
      rintro e w6 ⟨A6, L6, rfl, hL6, _, S6, _⟩
      obtain rfl : L6 = 0 := by simpa using hL6
      have HB6 := Lib.hid S6.2
      clear S6 hL6
      go_wp2_with fail
      go_ret
      exact ⟨rfl, HB6.out⟩

set_option maxRecDepth 100000 in
set_option maxHeartbeats 2000000 in
theorem looks_law (w : World) (k : Int) (va vb : Value) (za zb : List Int) (n : Int) (hk : -9223372036854775808 ≤ k ∧ k ≤ 9223372036854775807) (hn : -9223372036854775808 ≤ n ∧ n ≤ 9223372036854775807) (ha : Src w (fun _ => False) va za) (hb : Src w (fun _ => False) vb zb) :
    Calls Try.prog 8 #[.int .i64 k, va, vb, .int .i64 n] w fun e w' => e = .returned (.bool true) ∧ Below w.heap.size w w' := by
  by_cases h1 : za.length ≤ 200
  · by_cases h2 : zb.length ≤ 200
    · by_cases h0 : 0 ≤ k ∧ k ≤ 65536
      · obtain ⟨m, rfl⟩ : ∃ m : Nat, k = (m : Int) := ⟨k.toNat, by omega⟩
        exact looks_main w m va vb za zb n (by omega) h1 h2 hn ha hb
      · have hko : k < 0 ∨ 65536 < k := by clear ha hb; omega
        obtain ⟨Aa, ca, rfl, _⟩ := ha
        obtain ⟨Ab, cb, rfl, _⟩ := hb
        have b1 : decide (200 < (za.length : Int)) = false := by simp; omega
        have b2 : decide (200 < (zb.length : Int)) = false := by simp; omega
        have HN := Lib.hid (fun w0 => new_no w0 k hko hk)
        clear hko
        clear h0
        go_enter Try.func8, Try.ntmps8
        go_wp2_with (first | (go_at_call 24; refine (alive_any _).mono ?_; rintro e w0 ⟨rfl, hb0⟩) | (go_at_call 10; refine (HN.out _).mono ?_; rintro e w1 ⟨rfl, rfl⟩))
        go_ret
        exact ⟨rfl, hb0⟩
    · obtain ⟨Aa, ca, rfl, _⟩ := ha
      obtain ⟨Ab, cb, rfl, _⟩ := hb
      have b1 : decide (200 < (za.length : Int)) = false := by simp; omega
      have b2 : decide (200 < (zb.length : Int)) = true := by simp; omega
      clear h1 h2
      go_enter Try.func8, Try.ntmps8
      go_wp2_with (go_at_call 24; refine (alive_any _).mono ?_; rintro e w0 ⟨rfl, hb0⟩)
      go_ret
      exact ⟨rfl, hb0⟩
  · obtain ⟨Aa, ca, rfl, _⟩ := ha
    obtain ⟨Ab, cb, rfl, _⟩ := hb
    have b1 : decide (200 < (za.length : Int)) = true := by simp; omega
    clear h1
    go_enter Try.func8, Try.ntmps8
    go_wp2_with (go_at_call 24; refine (alive_any _).mono ?_; rintro e w0 ⟨rfl, hb0⟩)
    go_ret
    exact ⟨rfl, hb0⟩
end Go.Proofs.Ytolkbelfcgamiaa
