/-
  The walk of FlagChoice.
-/
import Derived.Test.YtbpgoopmfofcnaaDoorFlMay
import Derived.IntWalk
namespace Go.Proofs.YtbpgoopmfofcnaaDoor
open Go.RowKit

/-- What a driver that is fine has. -/
theorem suit_small : ∀ (n a : Fin 16) (d : Fin 5), suitB (n.val : Int) (a.val : Int) (dFeats (d.val : Int)) = true →
    bits .and .i64 (dFeats (d.val : Int)) (n.val : Int) = (n.val : Int) ∧ bits .and .i64 (dFeats (d.val : Int)) (a.val : Int) = 0 := by decide +kernel
theorem suit_sub : ∀ (n : Fin 16) (x : Fin 64) (d : Fin 5), bits .andNot .i64 (n.val : Int) (dFeats (d.val : Int)) = 0 → bits .andNot .i64 ((x.val &&& n.val : Nat) : Int) (dFeats (d.val : Int)) = 0 := by decide +kernel
theorem avoid_sub : ∀ (n : Fin 16) (x : Fin 64) (d : Fin 5), bits .and .i64 (n.val : Int) (dFeats (d.val : Int)) = 0 → bits .and .i64 ((x.val &&& n.val : Nat) : Int) (dFeats (d.val : Int)) = 0 := by decide +kernel
theorem and_comm64 (a b : Int) : bits .and .i64 a b = bits .and .i64 b a := by simp only [bits, BitVec.and_comm]
theorem and_less (n x : Int) (h0 : 0 ≤ n) (h1 : n ≤ 15) : bits .and .i64 n x = (((x % 64).toNat &&& n.toNat : Nat) : Int) ∧ 0 ≤ bits .and .i64 n x ∧ bits .and .i64 n x ≤ 15 := by
  have e : bits .and .i64 n x = (((x % 64).toNat &&& n.toNat : Nat) : Int) := by
    rw [and_comm64]
    have := and_lo x n.toNat (by omega)
    rw [show ((n.toNat : Nat) : Int) = n by omega] at this
    exact this
  have hle : ((x % 64).toNat &&& n.toNat) ≤ n.toNat := Nat.and_le_right
  refine ⟨e, ?_, ?_⟩ <;> rw [e] <;> omega
theorem pick_cases (n a : Int) (zs : List Int) : (pick n a zs = 0 ∨ (1 ≤ pick n a zs ∧ pick n a zs ≤ 4 ∧ fine n a zs (pick n a zs) = true)) := by
  unfold pick
  split
  · right; exact ⟨by omega, by omega, by assumption⟩
  · split
    · right; exact ⟨by omega, by omega, by assumption⟩
    · split
      · right; exact ⟨by omega, by omega, by assumption⟩
      · split
        · right; exact ⟨by omega, by omega, by assumption⟩
        · left; rfl
theorem pick_ge {n a : Int} {zs : List Int} {d : Int} (h1 : 1 ≤ d) (h4 : d ≤ 4) (h : fine n a zs d = true) : d ≤ pick n a zs := by
  unfold pick
  obtain rfl | rfl | rfl | rfl : d = 4 ∨ d = 3 ∨ d = 2 ∨ d = 1 := by omega
  · rw [if_pos h]; omega
  all_goals
    repeat' split
    all_goals first | omega | (exfalso; simp_all)
theorem hasZ_take {zs : List Int} {d : Int} (k : Nat) (h : hasZ zs d = false) : hasZ (zs.take k) d = false := by
  unfold hasZ at h ⊢
  rw [List.contains_eq_mem] at h ⊢
  simp only [decide_eq_false_iff_not] at h ⊢
  exact fun h' => h (List.mem_of_mem_take h')
/-- Who is chosen, and who would be if less were asked. -/
def Chosen (n a l m : Int) (zs : List Int) (k : Nat) : Prop :=
  (chE n a zs ≠ 0 ∧ chD n a zs = 0) ∨
  (chE n a zs = 0 ∧ 1 ≤ chD n a zs ∧ hasZ zs (chD n a zs) = false ∧ bits .and .i64 (dFeats (chD n a zs)) n = n ∧ bits .and .i64 (dFeats (chD n a zs)) a = 0 ∧
    chE (bits .and .i64 n l) (bits .and .i64 a m) (zs.take k) = 0 ∧ chD n a zs ≤ chD (bits .and .i64 n l) (bits .and .i64 a m) (zs.take k))
theorem chosen (n a l m : Int) (zs : List Int) (k : Nat) : Chosen n a l m zs k := by
  by_cases hr : 0 ≤ n ∧ n ≤ 15 ∧ 0 ≤ a ∧ a ≤ 15
  · rcases pick_cases n a zs with hp | ⟨p1, p4, hf⟩
    · left
      unfold chE chD
      rw [if_pos hr, if_pos hr, hp]
      simp
    · right
      obtain ⟨d, hd⟩ : ∃ d, pick n a zs = d := ⟨_, rfl⟩
      rw [hd] at p1 p4 hf
      have eD : chD n a zs = d := by unfold chD; rw [if_pos hr, hd]
      have eE : chE n a zs = 0 := by unfold chE; rw [if_pos hr, hd, if_neg (by omega)]
      unfold fine at hf
      simp only [Bool.and_eq_true, Bool.not_eq_true'] at hf
      obtain ⟨hs, hz⟩ := hf
      obtain ⟨n0, n1, a0, a1⟩ := hr
      have hn : ((⟨n.toNat, by omega⟩ : Fin 16).val : Int) = n := by simp; omega
      have ha : ((⟨a.toNat, by omega⟩ : Fin 16).val : Int) = a := by simp; omega
      have hdd : ((⟨d.toNat, by omega⟩ : Fin 5).val : Int) = d := by simp; omega
      have s1 := suit_small ⟨n.toNat, by omega⟩ ⟨a.toNat, by omega⟩ ⟨d.toNat, by omega⟩
      rw [hn, ha, hdd] at s1
      have s2 := suit_sub ⟨n.toNat, by omega⟩ ⟨(l % 64).toNat, by omega⟩ ⟨d.toNat, by omega⟩
      rw [hn, hdd] at s2
      have s3 := avoid_sub ⟨a.toNat, by omega⟩ ⟨(m % 64).toNat, by omega⟩ ⟨d.toNat, by omega⟩
      rw [ha, hdd] at s3
      have ln := and_less n l n0 n1
      have la := and_less a m a0 a1
      have hs' := hs
      unfold suitB at hs'
      simp only [Bool.and_eq_true, decide_eq_true_eq] at hs'
      have hfine : fine (bits .and .i64 n l) (bits .and .i64 a m) (zs.take k) d = true := by
        refine fine_yes ?_ (hasZ_take k hz)
        unfold suitB
        rw [ln.1, la.1]
        simp only [Bool.and_eq_true, decide_eq_true_eq]
        exact ⟨s2 hs'.1, s3 hs'.2⟩
      have hge := pick_ge p1 p4 hfine
      have hr2 : 0 ≤ bits .and .i64 n l ∧ bits .and .i64 n l ≤ 15 ∧ 0 ≤ bits .and .i64 a m ∧ bits .and .i64 a m ≤ 15 := ⟨ln.2.1, ln.2.2, la.2.1, la.2.2⟩
      have s1' := s1 hs
      rw [eD]
      refine ⟨eE, p1, hz, s1'.1, s1'.2, ?_, ?_⟩
      · unfold chE; rw [if_pos hr2, if_neg (by omega)]
      · unfold chD; rw [if_pos hr2]; exact hge
  · left
    unfold chE chD
    rw [if_neg hr, if_neg hr]
    simp

theorem mem_hasZ {zs : List Int} {d : Int} (h : hasZ zs d = false) (j : Nat) (hj : j < zs.length) : zs.getD j 0 ≠ d := by
  intro e
  unfold hasZ at h
  rw [List.contains_eq_mem] at h
  simp only [decide_eq_false_iff_not] at h
  exact h (by rw [← e, List.getD_eq_getElem?_getD, List.getElem?_eq_getElem hj]; exact List.getElem_mem hj)
theorem IsI.take {w : World} {A : Option Addr} {zs : List Int} {c : Nat} (h : IsI w (.slice A zs.length c) zs) (k : Nat) (hk : k ≤ zs.length) : IsI w (.slice A k c) (zs.take k) := by
  obtain ⟨a, cap, he, hl, hm, hz, h⟩ := h
  injection he with h1 _ h3
  subst h1 h3
  have hlen : (zs.take k).length = k := by rw [List.length_take]; omega
  refine ⟨A, c, by rw [hlen], by rw [hlen]; omega, hm, hz, ?_⟩
  rcases h with h | ⟨b, off, rfl, hlt, hc⟩
  · exact .inl (by rw [h]; simp)
  · refine .inr ⟨b, off, rfl, hlt, fun j hj => ?_⟩
    rw [hlen] at hj
    rw [hc j (by omega)]
    simp [List.getD_eq_getElem?_getD, List.getElem?_take, hj]

theorem and_bounds (n a : Int) : -9223372036854775808 ≤ bits .and .i64 n a ∧ bits .and .i64 n a ≤ 9223372036854775807 := by
  show -9223372036854775808 ≤ IntKind.i64.wrap _ ∧ IntKind.i64.wrap _ ≤ 9223372036854775807
  rw [IntKind.wrap_i64]
  omega
theorem stay_of (st : Int) (L : Nat) (hL : L ≤ 50) : ∃ k : Nat, (wrap64 (wrap64 (st.tmod ((L : Int) + 1) + (L : Int)) + 1)).tmod ((L : Int) + 1) = (k : Int) ∧ k ≤ L := by
  have h1 : st.tmod ((L : Int) + 1) < (L : Int) + 1 := Int.tmod_lt_of_pos st (by omega)
  have h2 : (-st).tmod ((L : Int) + 1) < (L : Int) + 1 := Int.tmod_lt_of_pos (-st) (by omega)
  rw [Int.neg_tmod] at h2
  obtain ⟨t, ht⟩ : ∃ t, st.tmod ((L : Int) + 1) = t := ⟨_, rfl⟩
  rw [ht] at h1 h2 ⊢
  rw [show wrap64 (t + (L : Int)) = t + (L : Int) by unfold wrap64; omega, show wrap64 (t + (L : Int) + 1) = t + (L : Int) + 1 by unfold wrap64; omega, Int.tmod_eq_emod_of_nonneg (by omega)]
  have h3 := Int.emod_nonneg (t + (L : Int) + 1) (show ((L : Int) + 1) ≠ 0 by omega)
  have h4 := Int.emod_lt_of_pos (t + (L : Int) + 1) (show (0 : Int) < (L : Int) + 1 by omega)
  exact ⟨((t + (L : Int) + 1) % ((L : Int) + 1)).toNat, by omega, by omega⟩

set_option maxRecDepth 100000 in
set_option maxHeartbeats 4000000 in
theorem choice_any (n a l m st : Int) (v : Value) (zs : List Int) (W : World) (hT : TabW W) (hD : TabD W) (hv : IsI W v zs) (hn0 : -9223372036854775808 ≤ n) (hn1 : n ≤ 9223372036854775807) (ha0 : -9223372036854775808 ≤ a) (ha1 : a ≤ 9223372036854775807) (st0 : -9223372036854775808 ≤ st) (st1 : st ≤ 9223372036854775807) :
    Calls Tryd.prog 7 #[.int .i64 n, .int .i64 a, .int .i64 l, .int .i64 m, v, .int .i64 st] W fun e w' => e = .returned (.bool true) ∧ Below W.heap.size W w' := by
  have hlen := hv.len
  have HV := Lib.hid hv
  obtain ⟨A, cap, rfl, hl, hm, hz, hrow⟩ := hv
  have HD := Lib.hid hD
  have CA := Lib.hid (alive_any W hT hD)
  clear hT hD
  by_cases h1 : 50 < zs.length
  · go_enter Tryd.func7, Tryd.ntmps7
    go_wp2_with (go_at_call 26; refine CA.out.mono ?_; rintro e w1 ⟨rfl, hb⟩)
    go_ret
    exact ⟨rfl, hb⟩
  obtain ⟨k, hk, hkl⟩ := stay_of st zs.length (by omega)
  have HK := Lib.hid hk
  clear hk
  go_enter Tryd.func7, Tryd.ntmps7
  go_wp2_with fail
  refine CA.out.mono ?_; rintro e w1 ⟨rfl, hb⟩
  have B0 := Lib.hid hb
  clear hb
  go_wp2_with fail
  refine (choose_any n a _ zs _ (HD.out.below B0.out) (HV.out.below B0.out) hn0 hn1 ha0 ha1).mono ?_; rintro e w2 ⟨rfl, hb⟩
  have B1 := Lib.hid (B0.out.trans (hb.mono B0.out.size))
  clear hb
  rcases chosen n a l m zs k with ⟨c1, c2⟩ | ⟨c1, c2, c3, c4, c5, c6, c7⟩
  · obtain ⟨e, he⟩ : ∃ e, chE n a zs = e := ⟨_, rfl⟩
    rw [he] at c1 ⊢
    rw [c2]
    have hb : (e != 0) = true := by rw [bne_iff_ne]; exact c1
    clear he c1 c2
    go_wp2
    go_ret
    exact ⟨rfl, B1.out⟩
  · obtain ⟨d, hd⟩ : ∃ d, chD n a zs = d := ⟨_, rfl⟩
    rw [hd] at c2 c3 c4 c5 c7 ⊢
    rw [c1]
    have C3 := Lib.hid c3
    have C4 := Lib.hid c4
    have C5 := Lib.hid c5
    have C6 := Lib.hid c6
    have C7 := Lib.hid c7
    clear hd c1 c3 c4 c5 c6 c7
    go_wp2_with (go_at_call 19; refine (features_any d _ (HD.out.below B1.out)).mono ?_; rintro e w3 ⟨rfl, hb⟩; have B2 := Lib.hid (B1.out.trans (hb.mono B1.out.size)); clear hb)
    go_loop [17] (fun i => ∃ j : Nat, j ≤ zs.length ∧ i = .int .i64 (j : Int)) (fun i => zs.length - (intOf i).toNat)
    case atStart => exact ⟨0, by omega, rfl⟩
    case round =>
      obtain ⟨j, hj, rfl⟩ := hrel
      by_cases hlt : j < zs.length
      · rcases hrow with hrow | ⟨b, off, rfl, hb, hc⟩
        · rw [hrow] at hlt; simp at hlt
        have hcj := (B2.out.cell (p := ⟨b, off + j, none⟩) hb).trans (hc j hlt)
        have hzd := mem_hasZ C3.out j hlt
        obtain ⟨z, hz⟩ : ∃ z, zs.getD j 0 = z := ⟨_, rfl⟩
        rw [hz] at hcj hzd
        have HCC := Lib.hid hc
        clear hz hc
        go_wp2
        go_round
        case rel => exact ⟨j + 1, by omega, by go_num⟩
        case measure => simp [intOf]; omega
      · have hkk := HK.out
        have hkc : (k : Int) ≤ (cap : Int) := by omega
        have hk0 : (0 : Int) ≤ (k : Int) := by omega
        have hkn : k ≤ cap := by omega
        clear hrow
        go_wp2_with fail
        refine (choose_any (bits .and .i64 n l) (bits .and .i64 a m) _ (zs.take k) _ (HD.out.below B2.out) ((HV.out.take k hkl).below B2.out) (and_bounds n l).1 (and_bounds n l).2 (and_bounds a m).1 (and_bounds a m).2).mono ?_; rintro e w4 ⟨rfl, hb⟩
        have B3 := Lib.hid (B2.out.trans (hb.mono B2.out.size))
        rw [C6.out]
        have hge := C7.out
        obtain ⟨g, hg⟩ : ∃ g, chD (bits .and .i64 n l) (bits .and .i64 a m) (zs.take k) = g := ⟨_, rfl⟩
        rw [hg] at hge ⊢
        have c4 := C4.out
        have c5 := C5.out
        clear hg hb
        go_wp2
        go_ret
        exact ⟨rfl, B3.out⟩
end Go.Proofs.YtbpgoopmfofcnaaDoor
