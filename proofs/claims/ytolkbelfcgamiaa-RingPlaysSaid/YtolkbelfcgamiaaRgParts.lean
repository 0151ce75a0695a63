/-
  RingParts.
-/
import Derived.Test.YtolkbelfcgamiaaRgGrows
import Derived.Test.YtolkbelfcgamiaaRgOpen
namespace Go.Proofs.Ytolkbelfcgamiaa
open Go.RowKit Go.Shelf Go.Maps Go.ChangeMaps

theorem cut_run2 (b o n c m : Nat) (A : Option Addr) (h1 : m ≤ n) (h2 : n ≤ c) (hc : c ≤ 9223372036854775807) (hA : A = none → c = 0) (hs : 0 < n → A = some ⟨b, o, none⟩) (hsp : ∀ a, A = some a → 0 < c → a.spot = none) :
    ∃ A', (∀ W, (Instr.slice 28 (.slice A n c) (some (.int .i64 (m : Int))) none none).run Try.prog W = .ok (.slice A' (n - m) (c - m)) W) ∧ (0 < n - m → A' = some ⟨b, o + m, none⟩) := by
  by_cases hc0 : 0 < c
  · obtain ⟨A', g1, _, g2, _⟩ := cut_run b o n c m A h1 h2 hc hA hs (fun a e => hsp a e hc0)
    exact ⟨A', g1, g2⟩
  · obtain rfl : c = 0 := by omega
    obtain rfl : n = 0 := by omega
    obtain rfl : m = 0 := by omega
    refine ⟨A, fun W => ?_, fun h => by omega⟩
    cases A with
    | none => go_simp
    | some a => go_simp

theorem cut_left (n c m : Nat) (A : Option Addr) (h1 : m ≤ n) (h2 : n ≤ c) (hc : c ≤ 9223372036854775807) (hA : A = none → c = 0) (hsp : ∀ a, A = some a → 0 < c → a.spot = none) :
    ∀ W, (Instr.slice 28 (.slice A n c) none (some (.int .i64 (m : Int))) none).run Try.prog W = .ok (.slice A m c) W := by
  intro W
  by_cases hc0 : 0 < c
  · cases A with
    | none => have := hA rfl; omega
    | some a =>
      obtain ⟨ab, ao, sp⟩ := a
      obtain rfl : sp = none := hsp _ rfl hc0
      have b0 : (0 : Int) ≤ (m : Int) := by omega
      have b1 : (m : Int) ≤ (c : Int) := by omega
      have b2 : m ≤ c := by omega
      go_simp
  · obtain rfl : c = 0 := by omega
    obtain rfl : n = 0 := by omega
    obtain rfl : m = 0 := by omega
    cases A with
    | none => go_simp
    | some a => go_simp

theorem rem_bounds (x : Int) (y : Nat) (hy : 0 < y) : -(y : Int) < x.tmod (y : Int) ∧ x.tmod (y : Int) < (y : Int) := by
  have h1 := Int.tmod_lt_of_pos x (show (0 : Int) < (y : Int) by omega)
  have h2 := Int.tmod_lt_of_pos (-x) (show (0 : Int) < (y : Int) by omega)
  rw [Int.neg_tmod] at h2
  omega
/-- What a law makes of a number: a place from 0 to below y. -/
theorem rem_place (x : Int) (y : Nat) (hy : 0 < y) : ∃ n : Nat, n < y ∧ (x.tmod (y : Int) + (y : Int)).tmod (y : Int) = (n : Int) ∧ (x.tmod (y : Int) + (y : Int)) % (y : Int) = (n : Int) := by
  obtain ⟨h1, h2⟩ := rem_bounds x y hy
  refine ⟨((x.tmod (y : Int) + (y : Int)) % (y : Int)).toNat, ?_, ?_, ?_⟩
  · have := Int.emod_lt_of_pos (x.tmod (y : Int) + (y : Int)) (show (0 : Int) < (y : Int) by omega)
    have := Int.emod_nonneg (x.tmod (y : Int) + (y : Int)) (show (y : Int) ≠ 0 by omega)
    omega
  · rw [Int.tmod_eq_emod_of_nonneg (by omega)]
    have := Int.emod_nonneg (x.tmod (y : Int) + (y : Int)) (show (y : Int) ≠ 0 by omega)
    omega
  · have := Int.emod_nonneg (x.tmod (y : Int) + (y : Int)) (show (y : Int) ≠ 0 by omega)
    omega

set_option maxRecDepth 100000 in
set_option maxHeartbeats 8000000 in
theorem parts_main (w : World) (k : Nat) (v : Value) (zs : List Int) (n other : Int) (hk : k ≤ 1000) (hz : zs.length ≤ 2000) (hn : -9223372036854775808 ≤ n ∧ n ≤ 9223372036854775807) (ho : -9223372036854775808 ≤ other ∧ other ≤ 9223372036854775807) (hv : Src w (fun _ => False) v zs) (hcap : CapOk v) :
    Calls Try.prog 6 #[.int .i64 (k : Int), v, .int .i64 n, .int .i64 other] w fun e w' => e = .returned (.bool true) ∧ Below w.heap.size w w' := by
  obtain ⟨p, hp, p1, p2⟩ := rem_place n (zs.length + 1) (by omega)
  obtain ⟨pb1, pb2⟩ := rem_bounds n (zs.length + 1) (by omega)
  obtain ⟨t, ht, t1, t2⟩ := rem_place other 1000 (by omega)
  obtain ⟨tb1, tb2⟩ := rem_bounds other 1000 (by omega)
  obtain ⟨L1, hL1⟩ : ∃ L1 : Nat, L1 = zs.length + 1 := ⟨_, rfl⟩
  rw [← hL1] at p1 p2 pb1 pb2 hp
  obtain ⟨rp, hrp⟩ : ∃ x, n.tmod (L1 : Int) = x := ⟨_, rfl⟩
  obtain ⟨rt, hrt⟩ : ∃ x, other.tmod 1000 = x := ⟨_, rfl⟩
  rw [hrp] at p1 p2 pb1 pb2
  rw [show ((1000 : Nat) : Int) = 1000 from rfl, hrt] at t1 t2 tb1 tb2
  have eL : (zs.length : Int) + 1 = (L1 : Int) := by omega
  have eq1 : IntKind.i64.wrap (rp + (zs.length : Int)) = rp + (zs.length : Int) := IntWalk.i64_in _ (by omega)
  have eq2 : IntKind.i64.wrap (rp + (zs.length : Int) + 1) = rp + (L1 : Int) := by rw [IntWalk.i64_in _ (by omega)]; omega
  have eq3 : rp + (zs.length : Int) + 1 = rp + (L1 : Int) := by omega
  have hc := hv
  obtain ⟨A, c, rfl, hc1, hc2, hcell⟩ := hc
  have k0 : (0 : Int) ≤ (k : Int) := by omega
  have k1 : (k : Int) ≤ 1000 := by omega
  have b1 : decide ((k : Int) < 0) = false := by simp
  have b2 : decide (1000 < (k : Int)) = false := by simp; omega
  have b3 : decide (2000 < (zs.length : Int)) = false := by simp; omega
  have HV := Lib.hid (And.intro hv (And.intro hcap (And.intro hc1 (And.intro hc2 hcell))))
  have HL1 := Lib.hid hL1
  clear hv hcap hc1 hc2 hcell hL1
  go_enter Try.func6, Try.ntmps6
  go_wp2_with (go_at_call 24; refine (alive_any _).mono ?_; rintro e w0 ⟨rfl, hb0⟩)
  refine (new_yes _ k (by omega)).mono ?_
  rintro e w1 ⟨r, F, rfl, hR, hb1, hrl⟩
  have H1 := Lib.hid (show St w w1 r F k [] 0 0 from ⟨hR.more hb0.size, hb0.trans (hb1.mono hb0.size)⟩)
  clear hR hb1 hb0 hrl
  go_wp2_with fail
  refine (new_yes _ k (by omega)).mono ?_
  rintro e w2 ⟨s, G, rfl, hS, hb2, hsl⟩
  have H2 := Lib.hid (show St w w2 r F k [] 0 0 ∧ St w w2 s G k [] 0 0 ∧ ∀ i, G i → ¬ F i from
    ⟨⟨H1.out.1.below hb2, H1.out.2.trans (hb2.mono H1.out.base)⟩, ⟨hS.more H1.out.base, H1.out.2.trans (hb2.mono H1.out.base)⟩, fun i e f => by have := (hS.lt e).2; have := (H1.out.1.lt f).1; omega⟩)
  clear hS hb2 hsl
  go_wp2_with fail
  obtain ⟨hv, hcap, hc1, hc2, hcell⟩ := HV.out
  obtain ⟨A', n', c', hvv, hA0, hsp⟩ := hcap
  cases hvv
  obtain ⟨m, hm⟩ : ∃ m, min zs.length (k - ([] : List Int).length) = m := ⟨_, rfl⟩
  have hm' : m = min zs.length k := by rw [← hm]; rfl
  obtain ⟨Z, hZ⟩ : ∃ x, ([] : List Int) ++ zs.take m = x := ⟨_, rfl⟩
  have hZ' : Z = zs.take m := by rw [← hZ]; rfl
  have hZl : Z.length = m := by rw [hZ', List.length_take]; omega
  have hpz : p ≤ zs.length := by have := HL1.out; omega
  have HP := Lib.hid (st_put H2.out.1 (hv.at_ H2.out.1.2 (fun i e => (H2.out.1.1.lt e).2)) (by omega) hm hZ (Nat.zero_add m))
  have hcl := cut_left zs.length c p A hpz hc1 hc2 hA0 hsp
  obtain ⟨c1, hc1'⟩ : ∃ c1, min (zs.take p).length (k - ([] : List Int).length) = c1 := ⟨_, rfl⟩
  have hc1'' : c1 = min p k := by rw [← hc1', List.length_take, Nat.min_eq_left hpz]; rfl
  obtain ⟨Z1, hZ1⟩ : ∃ x, ([] : List Int) ++ (zs.take p).take c1 = x := ⟨_, rfl⟩
  have hZ1' : Z1 = zs.take c1 := by rw [← hZ1, List.nil_append, List.take_take]; congr 1; omega
  have hZ1l : Z1.length = c1 := by rw [hZ1', List.length_take]; omega
  obtain ⟨d1, hd1⟩ : ∃ d1, min (zs.drop p).length (k - Z1.length) = d1 := ⟨_, rfl⟩
  have hd1' : d1 = min (zs.length - p) (k - c1) := by rw [← hd1, List.length_drop, hZ1l]
  have hcd : c1 + d1 = m := by omega
  have hZ2 : Z1 ++ (zs.drop p).take d1 = Z := by
    rw [hZ', hZ1', ← hcd]
    by_cases hd0 : d1 = 0
    · rw [hd0, List.take_zero, List.append_nil, Nat.add_zero]
    · rw [show c1 = p by omega, List.take_add]
  -- the second ring is given the bytes in two parts
  have hsrcp : ∀ W, Below w.heap.size w W → (∀ i, G i → w.heap.size ≤ i) → Src W G (.slice A p c) (zs.take p) := fun W hb hG => by
    have hlp : (zs.take p).length = p := by rw [List.length_take]; omega
    refine ⟨A, c, by rw [hlp], by rw [hlp]; omega, hc2, fun h0 => ?_⟩
    rw [hlp] at h0
    obtain ⟨b, o, rfl, hl, _, hcc⟩ := hcell (by omega)
    exact ⟨b, o, rfl, Nat.lt_of_lt_of_le hl hb.size, fun hf => by have := hG b hf; omega, fun i z hz => (hb.cell (p := ⟨b, o + i, none⟩) hl).trans (hcc i z (by
      rw [List.getElem?_take] at hz
      split at hz
      · exact hz
      · cases hz))⟩
  have HGs := Lib.hid (show ∀ i, G i → w.heap.size ≤ i from fun i e => (H2.out.2.1.1.lt e).2)
  have hsrcd : ∃ A2, (∀ W, (Instr.slice 28 (.slice A zs.length c) (some (.int .i64 (p : Int))) none none).run Try.prog W = .ok (.slice A2 (zs.length - p) (c - p)) W) ∧
      ∀ W G', Below w.heap.size w W → (∀ i, G' i → w.heap.size ≤ i) → Src W G' (.slice A2 (zs.length - p) (c - p)) (zs.drop p) := by
    by_cases h0 : 0 < zs.length
    · obtain ⟨b, o, rfl, hl, _, hcc⟩ := hcell h0
      obtain ⟨A2, g1, g2⟩ := cut_run2 b o zs.length c p _ hpz hc1 hc2 hA0 (fun _ => rfl) hsp
      refine ⟨A2, g1, fun W G' hb hG => ⟨A2, c - p, by rw [List.length_drop], by rw [List.length_drop]; omega, by omega, fun h1 => ?_⟩⟩
      rw [List.length_drop] at h1
      refine ⟨b, o + p, g2 h1, Nat.lt_of_lt_of_le hl hb.size, fun hf => by have := hG b hf; omega, fun i z hz => ?_⟩
      rw [List.getElem?_drop] at hz
      rw [Nat.add_assoc]
      exact (hb.cell (p := ⟨b, o + (p + i), none⟩) hl).trans (hcc _ z hz)
    · obtain ⟨A2, g1, g2⟩ := cut_run2 0 0 zs.length c p A hpz hc1 hc2 hA0 (fun h => absurd h h0) hsp
      exact ⟨A2, g1, fun W G' hb hG => ⟨A2, c - p, by rw [List.length_drop], by rw [List.length_drop]; omega, by omega, fun h1 => by rw [List.length_drop] at h1; omega⟩⟩
  obtain ⟨A2, hcr, hsd⟩ := hsrcd
  have ecd : IntKind.i64.wrap ((c1 : Int) + (d1 : Int)) = (m : Int) := by rw [IntWalk.i64_in _ (by omega)]; omega
  have hmk : m ≤ 1000 := by omega
  have HX := Lib.hid (And.intro hsrcp (And.intro hsd (And.intro hc1' (And.intro hZ1 (And.intro hd1 (And.intro hZ2 (And.intro hcd hZl)))))))
  have hlp2 : (zs.take p).length ≤ 2000 := by rw [List.length_take]; omega
  have hld2 : (zs.drop p).length ≤ 2000 := by rw [List.length_drop]; omega
  have hc1k : c1 ≤ 1000 := by omega
  clear hv hc1 hc2 hcell hA0 hsp hm hm' hZ hZ' hZl hpz hc1' hc1'' hZ1 hZ1' hZ1l hd1 hd1' hcd hZ2 hsrcp hsd
  refine HP.out.mono ?_
  rintro e w3 ⟨rfl, F3, S3, m3⟩
  obtain ⟨x3, y3⟩ := H2.out.2.1.1.apart m3 H2.out.2.2
  have H3 := Lib.hid (show St w w3 r F3 k Z m 0 ∧ St w w3 s G k [] 0 0 ∧ ∀ i, G i → ¬ F3 i from ⟨by simpa using S3, ⟨x3, S3.2⟩, y3⟩)
  have HP2 := Lib.hid (st_put H3.out.2.1 (HX.out.1 w3 H3.out.1.2 HGs.out) (by omega) HX.out.2.2.1 HX.out.2.2.2.1 (Nat.zero_add c1))
  clear S3 m3 x3 y3
  go_wp2_with fail
  refine HP2.out.mono ?_
  rintro e w4 ⟨rfl, G4, S4, m4⟩
  obtain ⟨x4, y4⟩ := H3.out.1.1.apart m4 (fun i e e' => H3.out.2.2 i e' e)
  have H4 := Lib.hid (show St w w4 r F3 k Z m 0 ∧ St w w4 s G4 k Z1 c1 0 ∧ ∀ i, G4 i → ¬ F3 i from ⟨⟨x4, S4.2⟩, by simpa using S4, fun i e e' => y4 i e' e⟩)
  have HP3 := Lib.hid (st_put H4.out.2.1 (HX.out.2.1 w4 G4 H4.out.1.2 (fun i e => (H4.out.2.1.1.lt e).2)) (by omega) HX.out.2.2.2.2.1 HX.out.2.2.2.2.2.1 HX.out.2.2.2.2.2.2.1)
  clear S4 m4 x4 y4
  go_wp2_with fail
  refine HP3.out.mono ?_
  rintro e w5 ⟨rfl, G5, S5, m5⟩
  obtain ⟨x5, y5⟩ := H4.out.1.1.apart m5 (fun i e e' => H4.out.2.2 i e' e)
  have H5 := Lib.hid (show St w w5 r F3 k Z m 0 ∧ St w w5 s G5 k Z m 0 ∧ ∀ i, G5 i → ¬ F3 i from ⟨⟨x5, S5.2⟩, S5, fun i e e' => y5 i e' e⟩)
  clear S5 m5 x5 y5
  obtain ⟨h, hh⟩ : ∃ h, t / 2 = h := ⟨_, rfl⟩
  obtain ⟨u, hu⟩ : ∃ u, t - h = u := ⟨_, rfl⟩
  obtain ⟨X, hX⟩ : ∃ x, Z.take t = x := ⟨_, rfl⟩
  obtain ⟨Y, hY⟩ : ∃ x, Z.drop t = x := ⟨_, rfl⟩
  obtain ⟨X1, hX1⟩ : ∃ x, Z.take h = x := ⟨_, rfl⟩
  obtain ⟨Y1, hY1⟩ : ∃ x, Z.drop h = x := ⟨_, rfl⟩
  obtain ⟨X2, hX2⟩ : ∃ x, Y1.take u = x := ⟨_, rfl⟩
  have hY2 : Y1.drop u = Y := by rw [← hY1, ← hY, List.drop_drop]; congr 1; omega
  have hXX : X1 ++ X2 = X := by
    rw [← hX1, ← hX2, ← hX, ← hY1]
    conv => rhs; rw [show t = h + u by omega, List.take_add]
  obtain ⟨sX, hsX⟩ : ∃ x, strOfNums X = x := ⟨_, rfl⟩
  obtain ⟨s1, hs1⟩ : ∃ x, strOfNums X1 = x := ⟨_, rfl⟩
  obtain ⟨s2, hs2⟩ : ∃ x, strOfNums X2 = x := ⟨_, rfl⟩
  have hss : s1 ++ s2 = sX := by rw [← hs1, ← hs2, strOfNums_append, hXX]; exact hsX
  have hsz : s1.size + s2.size ≤ 9223372036854775807 := by
    have a1 : s1.size ≤ 1000 := by rw [← hs1, strOfNums_size, ← hX1, List.length_take]; have := HX.out.2.2.2.2.2.2.2; omega
    have a2 : s2.size ≤ 1000 := by rw [← hs2, strOfNums_size, ← hX2, List.length_take, ← hY1, List.length_drop]; have := HX.out.2.2.2.2.2.2.2; omega
    omega
  have hnz : ¬ 9223372036854775807 < s1.size + s2.size := by omega
  have eh : (t : Int) / 2 = (h : Int) := by omega
  have eu : (t : Int) - (h : Int) = (u : Int) := by omega
  have eu2 : IntKind.i64.wrap ((t : Int) - (h : Int)) = (u : Int) := by rw [IntWalk.i64_in _ (by omega)]; omega
  have eh2 : IntKind.i64.wrap ((t : Int) / 2) = (h : Int) := by rw [IntWalk.i64_in _ (by omega)]; omega
  have eh3 : IntKind.i64.wrap ((t : Int).tdiv 2) = (h : Int) := by rw [Int.tdiv_eq_ediv_of_nonneg (by omega)]; exact eh2
  have HT1 := Lib.hid (st_take H5.out.1 (t : Int) ⟨by omega, by omega⟩ (show Z.take ((t : Int)).toNat = X by simpa using hX) (show Z.drop ((t : Int)).toNat = Y by simpa using hY) (rfl : 0 + X.length = _))
  have HN := Lib.hid (And.intro hX1 (And.intro hY1 (And.intro hX2 (And.intro hY2 (And.intro hsX (And.intro hs1 hs2))))))
  have hub : u ≤ 1000 ∧ h ≤ 1000 := by omega
  clear hh hu hX hY hX1 hY1 hX2 hY2 hXX hsX hs1 hs2
  go_wp2_with fail
  refine HT1.out.mono ?_
  rintro e w6 ⟨A6, L6, rfl, _, hcv, S6, k6⟩
  have hcv6 := hcv 0
  rw [HN.out.2.2.2.2.1, World.drewN_zero] at hcv6
  have x6 := H5.out.2.1.1.kept k6 H5.out.2.2
  have H6 := Lib.hid (show St w w6 r F3 k Y m (0 + X.length) ∧ St w w6 s G5 k Z m 0 from ⟨S6, ⟨x6, S6.2⟩⟩)
  have HT2 := Lib.hid (st_take H6.out.2 (h : Int) ⟨by omega, by omega⟩ (show Z.take ((h : Int)).toNat = X1 by simpa using HN.out.1) (show Z.drop ((h : Int)).toNat = Y1 by simpa using HN.out.2.1) (rfl : 0 + X1.length = _))
  clear hcv S6 k6 x6
  go_wp2_with fail
  clear hcv6
  refine HT2.out.mono ?_
  rintro e w7 ⟨A7, L7, rfl, _, hcv, S7, k7⟩
  have hcv7 := hcv 0
  rw [HN.out.2.2.2.2.2.1, World.drewN_zero] at hcv7
  have x7 := H6.out.1.1.kept k7 (fun i e e' => H5.out.2.2 i e' e)
  have H7 := Lib.hid (show St w w7 r F3 k Y m (0 + X.length) ∧ St w w7 s G5 k Y1 m (0 + X1.length) from ⟨⟨x7, S7.2⟩, S7⟩)
  have HT3 := Lib.hid (st_take H7.out.2 (u : Int) ⟨by omega, by omega⟩ (show Y1.take ((u : Int)).toNat = X2 by simpa using HN.out.2.2.1) (show Y1.drop ((u : Int)).toNat = Y by simpa using HN.out.2.2.2.1) (rfl : 0 + X1.length + X2.length = _))
  clear hcv S7 k7 x7
  go_wp2_with fail
  clear hcv7
  refine HT3.out.mono ?_
  rintro e w8 ⟨A8, L8, rfl, _, hcv, S8, k8⟩
  have hcv8 := hcv 0
  rw [HN.out.2.2.2.2.2.2, World.drewN_zero] at hcv8
  have x8 := H7.out.1.1.kept k8 (fun i e e' => H5.out.2.2 i e' e)
  have HLr := Lib.hid (len_any x8)
  have HLs := Lib.hid (fun q => len_any (S8.1.drewN q))
  have HB := Lib.hid S8.2
  clear hcv S8 k8 x8
  go_wp2_with fail
  clear hcv8
  refine HLr.out.mono ?_
  rintro e w9 ⟨rfl, q9, rfl⟩
  go_wp2_with fail
  refine (HLs.out q9).mono ?_
  rintro e wa ⟨rfl, qa, rfl⟩
  go_wp2_with fail
  go_ret
  exact ⟨rfl, below_drewN HB.out _⟩

set_option maxRecDepth 100000 in
set_option maxHeartbeats 2000000 in
theorem parts_law (w : World) (k : Int) (v : Value) (zs : List Int) (n other : Int) (hk : -9223372036854775808 ≤ k ∧ k ≤ 9223372036854775807) (hn : -9223372036854775808 ≤ n ∧ n ≤ 9223372036854775807) (ho : -9223372036854775808 ≤ other ∧ other ≤ 9223372036854775807) (hv : Src w (fun _ => False) v zs) (hcap : CapOk v) :
    Calls Try.prog 6 #[.int .i64 k, v, .int .i64 n, .int .i64 other] w fun e w' => e = .returned (.bool true) ∧ Below w.heap.size w w' := by
  by_cases h0 : 0 ≤ k ∧ k ≤ 1000 ∧ zs.length ≤ 2000
  · obtain ⟨m, rfl⟩ : ∃ m : Nat, k = (m : Int) := ⟨k.toNat, by omega⟩
    exact parts_main w m v zs n other (by omega) h0.2.2 hn ho hv hcap
  · obtain ⟨A, c, rfl, _⟩ := hv
    by_cases h1 : k < 0
    · have b1 : decide (k < 0) = true := by simpa using h1
      clear h0
      go_enter Try.func6, Try.ntmps6
      go_wp2_with (go_at_call 24; refine (alive_any _).mono ?_; rintro e w0 ⟨rfl, hb0⟩)
      go_ret
      exact ⟨rfl, hb0⟩
    · have b1 : decide (k < 0) = false := by simpa using h1
      by_cases h2 : 1000 < k
      · have b2 : decide (1000 < k) = true := by simpa using h2
        clear h0
        go_enter Try.func6, Try.ntmps6
        go_wp2_with (go_at_call 24; refine (alive_any _).mono ?_; rintro e w0 ⟨rfl, hb0⟩)
        go_ret
        exact ⟨rfl, hb0⟩
      · have b2 : decide (1000 < k) = false := by simpa using h2
        have h3 : 2000 < (zs.length : Int) := by omega
        have b3 : decide (2000 < (zs.length : Int)) = true := by simpa using h3
        clear h0
        go_enter Try.func6, Try.ntmps6
        go_wp2_with (go_at_call 24; refine (alive_any _).mono ?_; rintro e w0 ⟨rfl, hb0⟩)
        go_ret
        exact ⟨rfl, hb0⟩
end Go.Proofs.Ytolkbelfcgamiaa
