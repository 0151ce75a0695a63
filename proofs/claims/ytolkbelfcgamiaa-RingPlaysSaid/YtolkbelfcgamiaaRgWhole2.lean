/-
  RingWhole: its walk.
-/
import Derived.Test.YtolkbelfcgamiaaRgWhole
namespace Go.Proofs.Ytolkbelfcgamiaa
open Go.RowKit Go.Shelf Go.Maps Go.ChangeMaps

/-- What lies at the head of round j. -/
def WhAt (w : World) (r j : Nat) (wr : World) (s8 s9 : ByteArray) : Prop :=
  ∃ F cap bs inn out xs ys, St w wr r F cap bs inn out ∧ xs = ys ++ bs ∧ inn = xs.length ∧ out = ys.length ∧ inn ≤ 65536 * j ∧ strOfNums xs = s8 ∧ strOfNums ys = s9
theorem WhAt.drewN {w wr : World} {r j : Nat} {s8 s9 : ByteArray} (h : WhAt w r j wr s8 s9) (q : Nat) : WhAt w r j (wr.drewN q) s8 s9 := by
  obtain ⟨F, cap, bs, inn, out, xs, ys, h1, h2⟩ := h
  exact ⟨F, cap, bs, inn, out, xs, ys, h1.drewN q, h2⟩

theorem conv_zero (W : World) (A : Option Addr) (c : Nat) : (convert 28 9 (.slice A 0 c)).run Try.prog W = .ok (.string (strOfNums [])) W := by
  cases A with
  | none => exact run_convert_bytes_nil W 28 5 Try.underlying28 Try.underlying5 0 c 9 Try.underlying9
  | some a =>
    rw [run_convert_bytes_string W 28 9 5 (some a) 0 c Try.underlying28 Try.underlying5 Try.underlying9, run_bytesToString W a 0 c [] (by simpa using run_loadCells_list (P := Try.prog) W a [] (by simp))]
    rfl
/-- The string of the first m bytes of a slice that may be read. -/
theorem conv_src {w W : World} {A : Option Addr} {zs : List Int} {c : Nat} (h : Src w (fun _ => False) (.slice A zs.length c) zs) (hb : Below w.heap.size w W) (m : Nat) (hm : m ≤ zs.length) :
    (convert 28 9 (.slice A m c)).run Try.prog W = .ok (.string (strOfNums (zs.take m))) W := by
  by_cases h0 : m = 0
  · subst h0; exact conv_zero W A c
  · obtain ⟨A', c', e, _, _, hc⟩ := h
    cases e
    obtain ⟨b, o, rfl, hl, _, hcell⟩ := hc (by omega)
    have hlm : (zs.take m).length = m := by rw [List.length_take]; omega
    refine run_convert_bytes_arg W 28 5 Try.underlying28 Try.underlying5 b o m c (zs.take m) hlm (fun i hi => ?_) 9 Try.underlying9
    have hi2 : i < zs.length := by omega
    rw [hb.cell (p := ⟨b, o + i, none⟩) hl, hcell i _ (List.getElem?_eq_getElem hi2)]
    simp [List.getD, List.getElem?_take, hi, List.getElem?_eq_getElem hi2]

set_option maxRecDepth 100000 in
set_option maxHeartbeats 8000000 in
theorem whole_main (w : World) (k : Nat) (A : Option Addr) (c : Nat) (l : List OpD) (hk : k ≤ 1000) (hA : ArgOps w A l) (hl : l.length ≤ 100)
    (hgr : ∀ W, Below w.heap.size w W → Calls Try.prog 9 #[.slice A l.length c] W fun e w' => e = .returned (.bool false) ∧ W = w') :
    Calls Try.prog 5 #[.int .i64 (k : Int), .slice A l.length c] w fun e w' => e = .returned (.bool true) ∧ Below w.heap.size w w' := by
  have b1 : decide ((k : Int) < 0) = false := by simp
  have b2 : decide (1000 < (k : Int)) = false := by simp; omega
  have HA := Lib.hid hA
  have HG := Lib.hid hgr
  clear hA hgr
  go_enter Try.func5, Try.ntmps5
  go_wp2_with (first
    | (go_at_call 24; refine (alive_any _).mono ?_; rintro e w0 ⟨rfl, hb0⟩; have HB0 := Lib.hid hb0; clear hb0)
    | (go_at_call 9; refine (HG.out _ HB0.out).mono ?_; rintro e wx ⟨rfl, rfl⟩))
  refine (new_yes _ k (by omega)).mono ?_
  rintro e w1 ⟨r, F, rfl, hR, hb1, hrl⟩
  have H1 := Lib.hid (show WhAt w r 0 w1 ByteArray.empty ByteArray.empty from ⟨F, k, [], 0, 0, [], [], ⟨hR.more HB0.out.size, HB0.out.trans (hb1.mono HB0.out.size)⟩, rfl, rfl, rfl, by omega, rfl, rfl⟩)
  clear hR hb1 hrl
  go_wp2_with fail
  go_loopw [8, 9, 10] (fun s8 s9 i wr => ∃ (j : Nat) (S8 S9 : ByteArray), j ≤ l.length ∧ i = .int .i64 (j : Int) ∧ s8 = .string S8 ∧ s9 = .string S9 ∧ WhAt w r j wr S8 S9) (fun _ _ i _ => l.length - (intOf i).toNat)
  case atStart => exact ⟨0, ByteArray.empty, ByteArray.empty, by omega, rfl, rfl, rfl, H1.out⟩
  case round =>
    obtain ⟨j, S8, S9, hj, rfl, rfl, rfl, F0, cap, bs, inn, out, xs, ys, S0, hxy, hi, ho, hij, h8, h9⟩ := hrel
    have z8 : S8.size = xs.length := by rw [← h8, strOfNums_size]
    have z9 : S9.size = ys.length := by rw [← h9, strOfNums_size]
    have zx : xs.length = ys.length + bs.length := by rw [hxy, List.length_append]
    by_cases hlt : j < l.length
    · obtain ⟨b, off, x, rfl, hbl, hz, hok, hs, hcap, x0, x1, x2, hxc⟩ := HA.out.at_ S0.2 hlt
      obtain ⟨kd, n, xv, xb⟩ := x
      dsimp only at hok hs hcap x0 x1 x2 hxc
      have HXC := Lib.hid hxc
      clear hxc
      have b0 : (0 : Int) ≤ (j : Int) := by omega
      have b3 : (j : Int) < (l.length : Int) := by omega
      have hN : Hid ((-9223372036854775808 ≤ kd ∧ kd ≤ 9223372036854775807) ∧ (-9223372036854775808 ≤ n ∧ n ≤ 9223372036854775807)) := Lib.hid hok
      clear hz hok
      by_cases k0 : kd = 0
      · subst k0
        obtain ⟨As, cs, hv, hc1, hc2, hsc⟩ := id hs
        obtain ⟨As', n', cs', hv', hA0, hsp⟩ := hcap
        have hv2 := hv
        rw [hv'] at hv2
        cases hv2
        rw [hv] at x2
        have HV := Lib.hid hv
        have hf := S0.1.facts
        obtain ⟨m, hm⟩ : ∃ m, min xb.length (cap - bs.length) = m := ⟨_, rfl⟩
        obtain ⟨bs1, hbs1⟩ : ∃ x, bs ++ xb.take m = x := ⟨_, rfl⟩
        obtain ⟨in1, hin1⟩ : ∃ x, inn + m = x := ⟨_, rfl⟩
        have HP := Lib.hid (hv ▸ st_put S0 (hs.at_ S0.2 (fun i e => (S0.1.lt e).2)) (by omega) hm hbs1 hin1)
        have hcl := cut_left xb.length cs m As (by omega) hc1 hc2 hA0 hsp
        have HS := Lib.hid (And.intro (hv ▸ hs) (And.intro hxy (And.intro hi (And.intro ho (And.intro h8 (And.intro h9 (And.intro hbs1 (And.intro z8 (And.intro hm hin1)))))))))
        obtain ⟨D, hD⟩ : ∃ s, strOfNums (xb.take m) = s := ⟨_, rfl⟩
        have zd : D.size = m := by rw [← hD, strOfNums_size, List.length_take]; omega
        have hnb : ¬ 9223372036854775807 < S8.size + D.size := by omega
        have hsb : S8.size + D.size ≤ 9223372036854775807 := by omega
        have hE : strOfNums (xs ++ xb.take m) = S8 ++ D := by rw [← strOfNums_append, h8, hD]
        have hb4 : decide (xb.length < m) = false := by simp; omega
        have hb5 : in1 ≤ 65536 * (j + 1) := by omega
        have HD := Lib.hid (And.intro hD hE)
        have HM := Lib.hid (show m ≤ xb.length by omega)
        clear hs hv hv' hc1 hc2 hsc hA0 hsp hf hm hbs1 hin1 hxy hi ho h8 h9 z8 z9 zx S0 zd hD hE hij
        go_wp2_with fail
        clear x0 x1
        refine HP.out.mono ?_
        rintro e w2 ⟨rfl, F2, S2, m2⟩
        obtain ⟨hl2, x2'⟩ := HXC.out w2 S2.2
        rw [HV.out] at x2'
        have hcv := conv_src HS.out.1 S2.2 m HM.out
        rw [HD.out.1] at hcv
        have HE := Lib.hid (show WhAt w r (j + 1) w2 (S8 ++ D) S9 from ⟨F2, cap, bs1, in1, out, xs ++ xb.take m, ys, S2, by
          obtain ⟨_, e1, e2, e3, e4, e5, e6, e7, e8, e9⟩ := HS.out
          rw [e1, ← e6, List.append_assoc], by
          obtain ⟨_, e1, e2, e3, e4, e5, e6, e7, e8, e9⟩ := HS.out
          rw [List.length_append, List.length_take, Nat.min_eq_left HM.out]; omega, HS.out.2.2.2.1, hb5, HD.out.2, HS.out.2.2.2.2.2.1⟩)
        clear S2 m2
        go_wp2_with fail
        go_roundw
        case rel => exact ⟨j + 1, _, _, by omega, by go_num, rfl, rfl, HE.out⟩
        case measure => simp [intOf]; omega
      · have n0 : (kd == 0) = false := by simpa using k0
        obtain ⟨As, cs, hv, _⟩ := id hs
        clear k0 hs hcap x2 hv
        by_cases k1 : kd = 1
        · subst k1
          obtain ⟨T, hT⟩ : ∃ s, strOfNums (bs.take n.toNat) = s := ⟨_, rfl⟩
          have hbl2 : bs.length ≤ 65536 := by have := S0.1.facts; omega
          have zT : T.size ≤ bs.length := by rw [← hT, strOfNums_size, List.length_take]; omega
          have hnb : ¬ 9223372036854775807 < S9.size + T.size := by omega
          have hsb : S9.size + T.size ≤ 9223372036854775807 := by omega
          have HT := Lib.hid (st_take S0 n hN.out.2 rfl rfl rfl)
          have HS := Lib.hid (And.intro hxy (And.intro hi (And.intro ho (And.intro h8 (And.intro h9 (And.intro hT hij))))))
          clear hxy hi ho h8 h9 z8 z9 zx S0 hT zT hij
          go_wp2_with fail
          refine HT.out.mono ?_
          rintro e w2 ⟨A2, L2, rfl, _, hcv, S2, _⟩
          obtain ⟨hxy, hi, ho, h8, h9, hT, hij⟩ := HS.out
          have hcv2 := hcv 0
          rw [hT, World.drewN_zero] at hcv2
          have HE := Lib.hid (show WhAt w r (j + 1) w2 S8 (S9 ++ T) from ⟨F0, cap, bs.drop n.toNat, inn, out + (bs.take n.toNat).length, xs, ys ++ bs.take n.toNat, S2, by
            rw [List.append_assoc, List.take_append_drop]; exact hxy, hi, by rw [List.length_append, ho], by omega, h8, by rw [← strOfNums_append, h9, hT]⟩)
          clear hcv S2 hxy hi ho h8 h9 hT hij
          go_wp2_with fail
          go_roundw
          case rel => exact ⟨j + 1, _, _, by omega, by go_num, rfl, rfl, HE.out⟩
          case measure => simp [intOf]; omega
        · have n1 : (kd == 1) = false := by simpa using k1
          clear k1
          by_cases k3 : kd = 3
          · subst k3
            have HS := Lib.hid (And.intro hxy (And.intro hi (And.intro ho (And.intro h8 (And.intro h9 hij)))))
            by_cases hg : n < (bs.length : Int) ∨ 65536 < n
            · have HG2 := Lib.hid (grow_no S0.1 n hg hN.out.2)
              have H0 := Lib.hid S0
              clear hxy hi ho h8 h9 z8 z9 zx S0 hij hg
              go_wp2_with fail
              refine HG2.out.mono ?_
              rintro e w2 ⟨rfl, q2, hq⟩
              obtain ⟨hxy, hi, ho, h8, h9, hij⟩ := HS.out
              have HE := Lib.hid (show WhAt w r (j + 1) w2 S8 S9 from ⟨F0, cap, bs, inn, out, xs, ys, by rw [hq]; exact H0.out.drewN q2, hxy, hi, ho, by omega, h8, h9⟩)
              clear hxy hi ho h8 h9 hij hq
              go_wp2_with fail
              go_roundw
              case rel => exact ⟨j + 1, _, _, by omega, by go_num, rfl, rfl, HE.out⟩
              case measure => simp [intOf]; omega
            · obtain ⟨m, rfl⟩ : ∃ m : Nat, n = (m : Int) := ⟨n.toNat, by omega⟩
              have HG2 := Lib.hid (grow_yes S0.1 m (by omega) (by omega))
              have H0 := Lib.hid S0
              clear hxy hi ho h8 h9 z8 z9 zx S0 hij hg
              go_wp2_with fail
              refine HG2.out.mono ?_
              rintro e w2 ⟨rfl, F2, R2, m2⟩
              obtain ⟨hxy, hi, ho, h8, h9, hij⟩ := HS.out
              have HE := Lib.hid (show WhAt w r (j + 1) w2 S8 S9 from ⟨F2, m, bs, inn, out, xs, ys, ⟨R2, law_step H0.out.1 H0.out.2 m2⟩, hxy, hi, ho, by omega, h8, h9⟩)
              clear hxy hi ho h8 h9 hij R2 m2
              go_wp2_with fail
              go_roundw
              case rel => exact ⟨j + 1, _, _, by omega, by go_num, rfl, rfl, HE.out⟩
              case measure => simp [intOf]; omega
          · have n3 : (kd == 3) = false := by simpa using k3
            have HE := Lib.hid (show WhAt w r (j + 1) wr S8 S9 from ⟨F0, cap, bs, inn, out, xs, ys, S0, hxy, hi, ho, by omega, h8, h9⟩)
            clear k3 hxy hi ho h8 h9 z8 z9 zx S0 hij
            go_wp2_with fail
            go_roundw
            case rel => exact ⟨j + 1, _, _, by omega, by go_num, rfl, rfl, HE.out⟩
            case measure => simp [intOf]; omega
    · obtain rfl : j = l.length := by omega
      have hf := S0.1.facts
      have HCo := Lib.hid (counts_any S0.1)
      have HLn := Lib.hid (fun q => len_any (S0.drewN q).1)
      have HK := Lib.hid (fun q => st_look (S0.drewN q) (bs.length : Int) ⟨by omega, by omega⟩ (show bs.take ((bs.length : Int)).toNat = bs by simp))
      obtain ⟨T, hT⟩ : ∃ s, strOfNums bs = s := ⟨_, rfl⟩
      have zT : T.size = bs.length := by rw [← hT, strOfNums_size]
      have hnb : ¬ 9223372036854775807 < S9.size + T.size := by omega
      have hsb : S9.size + T.size ≤ 9223372036854775807 := by omega
      have hST : S9 ++ T = S8 := by rw [← h9, ← hT, strOfNums_append, ← hxy]; exact h8
      have e1 : IntKind.u64.wrap (S8.size : Int) = (inn : Int) := by rw [IntWalk.u64_in _ (by omega)]; omega
      have e2 : IntKind.u64.wrap (S9.size : Int) = (out : Int) := by rw [IntWalk.u64_in _ (by omega)]; omega
      have e3 : IntKind.i64.wrap ((S8.size : Int) - (S9.size : Int)) = (bs.length : Int) := by rw [IntWalk.i64_in _ (by omega)]; omega
      have HTT := Lib.hid hT
      have HST := Lib.hid hST
      have g0 : decide (l.length < l.length) = false := by simp
      clear hxy hi ho h8 h9 z8 z9 zx S0 hij hf hT zT hST hlt
      go_wp2_with fail
      refine HCo.out.mono ?_
      rintro e w2 ⟨rfl, q2, rfl⟩
      go_wp2_with fail
      refine (HLn.out _).mono ?_
      rintro e w3 ⟨rfl, q3, rfl⟩
      go_wp2_with fail
      refine (HK.out _).mono ?_
      rintro e w4 ⟨A4, L4, rfl, _, hcv, S4, _⟩
      have hcv4 := hcv 0
      rw [HTT.out, World.drewN_zero] at hcv4
      have hST := HST.out
      have HL4 := Lib.hid (len_any S4.1)
      have HB4 := Lib.hid S4.2
      clear hcv S4
      go_wp2_with fail
      refine HL4.out.mono ?_
      rintro e w5 ⟨rfl, q5, rfl⟩
      go_wp2_with fail
      go_ret
      exact ⟨rfl, below_drewN HB4.out _⟩

set_option maxRecDepth 100000 in
set_option maxHeartbeats 2000000 in
theorem whole_law (w : World) (k : Int) (A : Option Addr) (c : Nat) (l : List OpD) (hk : -9223372036854775808 ≤ k ∧ k ≤ 9223372036854775807) (hA : ArgOps w A l ∧ l.length ≤ 9223372036854775807) :
    Calls Try.prog 5 #[.int .i64 k, .slice A l.length c] w fun e w' => e = .returned (.bool true) ∧ Below w.heap.size w w' := by
  have hgr := great_any w A c l hA.1 hA.2
  cases hg : greatB l with
  | true =>
    rw [hg] at hgr
    have HG := Lib.hid hgr
    clear hgr hg
    go_enter Try.func5, Try.ntmps5
    go_wp2_with (first | (go_at_call 24; refine (alive_any _).mono ?_; rintro e w0 ⟨rfl, hb0⟩; have HB0 := Lib.hid hb0; clear hb0) | (go_at_call 9; refine (HG.out _ HB0.out).mono ?_; rintro e wx ⟨rfl, rfl⟩))
    go_ret
    exact ⟨rfl, HB0.out⟩
  | false =>
    rw [hg] at hgr
    by_cases h0 : 0 ≤ k ∧ k ≤ 1000
    · obtain ⟨m, rfl⟩ : ∃ m : Nat, k = (m : Int) := ⟨k.toNat, by omega⟩
      exact whole_main w m A c l (by omega) hA.1 (greatB_len hg) hgr
    · have HG := Lib.hid hgr
      clear hgr hg
      by_cases h1 : k < 0
      · have b1 : decide (k < 0) = true := by simpa using h1
        clear h0
        go_enter Try.func5, Try.ntmps5
        go_wp2_with (first | (go_at_call 24; refine (alive_any _).mono ?_; rintro e w0 ⟨rfl, hb0⟩; have HB0 := Lib.hid hb0; clear hb0) | (go_at_call 9; refine (HG.out _ HB0.out).mono ?_; rintro e wx ⟨rfl, rfl⟩))
        go_ret
        exact ⟨rfl, HB0.out⟩
      · have b1 : decide (k < 0) = false := by simpa using h1
        have h2 : 1000 < k := by omega
        have b2 : decide (1000 < k) = true := by simpa using h2
        clear h0
        go_enter Try.func5, Try.ntmps5
        go_wp2_with (first | (go_at_call 24; refine (alive_any _).mono ?_; rintro e w0 ⟨rfl, hb0⟩; have HB0 := Lib.hid hb0; clear hb0) | (go_at_call 9; refine (HG.out _ HB0.out).mono ?_; rintro e wx ⟨rfl, rfl⟩))
        go_ret
        exact ⟨rfl, HB0.out⟩
end Go.Proofs.Ytolkbelfcgamiaa
