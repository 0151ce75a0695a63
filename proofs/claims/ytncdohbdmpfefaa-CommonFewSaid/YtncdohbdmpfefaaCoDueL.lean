/-
  CommonDue.
-/
import Derived.Test.YtncdohbdmpfefaaCoAhead
namespace Go.Proofs.Ytncdohbdmpfefaa
open Go.RowKit Go.Maps Go.ChangeMaps Go.Shelf Go.Sort

theorem S1.quiet {w W W' : World} {s : Nat} {T : List Int} {L : List En} {nx : Int} {F : List Fb} (H : S1 w s T L nx W F) (hb : Below W.heap.size W W') : S1 w s T L nx W' F := St.quiet H (setQ_stable _ _ _ _ _) noQ_stable hb
/-- What the loop keeps. -/
def DL (w : World) (s k : Nat) (nw : Int) (W : World) : Prop := ∃ T L nx, S1 w s T L nx W [] ∧ nx ≤ (k : Int) ∧ L.length ≤ k ∧ 0 ≤ nw ∧ nw ≤ (k : Int) * 1048576
theorem due_nonneg (n : Nat) : (0 : Int) ≤ (n : Int) := by omega

set_option maxHeartbeats 16000000 in
set_option maxRecDepth 100000 in
theorem dueL_any (w : World) (A : Option Addr) (c : Nat) (l : List Cal) (hn : l.length ≤ 100) (hA : ArgOps w A l) :
    Calls Try.prog 7 #[.slice A l.length c] w fun e w' => e = .returned (.bool true) ∧ Below w.heap.size w w' := by
  have HA := Lib.hid hA
  clear hA
  go_enter Try.func7, Try.ntmps7
  go_wp2_with fail
  refine (alive_any w).mono ?_
  rintro e w1 ⟨rfl, hb1⟩
  have HB1 := Lib.hid ((st_start w).quiet noQ_stable noQ_stable hb1)
  clear hb1
  go_wp2_with fail
  refine (st_new noQ_stable HB1.out).mono ?_
  rintro e w2 ⟨s, rfl, H⟩
  have H2 := Lib.hid (show S1 w s [] [] 0 w2 [] from H); clear H
  go_wp2_with fail
  go_loopw [5, 6] (fun t i wr => ∃ (k : Nat) (nw : Int), i = .int .i64 (k : Int) ∧ t = .int .u64 nw ∧ k ≤ l.length ∧ DL w s k nw wr) (fun _ i _ => l.length - (intOf i).toNat)
  case atStart => exact ⟨0, 0, rfl, rfl, Nat.zero_le _, _, _, _, H2.out, Int.le_refl _, Nat.le_refl _, Int.le_refl _, by simp⟩
  case round =>
    obtain ⟨k, nw, rfl, rfl, hk, T, L, nx, H, hnx, hl, hw0, hw1⟩ := hrel
    by_cases hlt : k < l.length
    · obtain ⟨b, off, x, rfl, hbl, hz, hok, x0, x1, x2, x3⟩ := HA.out.at_ H.bel hlt
      have hX := H.box (encC x) 33
      obtain ⟨nw', hnw⟩ : ∃ nw', nw' = nw + x.nw % 1048576 := ⟨_, rfl⟩
      have hm0 : 0 ≤ x.nw % 1048576 := by omega
      have hm1 : x.nw % 1048576 < 1048576 := by omega
      have hw2 : 0 ≤ nw' ∧ nw' ≤ (k + 1 : Nat) * 1048576 := by omega
      have HO := Lib.hid (And.intro hok (And.intro hnx (And.intro hl (And.intro hw2 (show U nw' from ⟨hw2.1, by omega⟩)))))
      have b0 : (0 : Int) ≤ (k : Int) := by omega
      have b1 : (k : Int) < (l.length : Int) := by omega
      obtain ⟨xk, exk⟩ : ∃ xk, xk = wr.heap.size := ⟨_, rfl⟩
      obtain ⟨W, eW⟩ : ∃ W, W = wr.alloc (.cells (encC x) 33) := ⟨_, rfl⟩
      rw [← exk, ← eW] at hX
      have HX := Lib.hid (show S1 w s T L nx W [XB xk x] from hX)
      unfold encC at eW
      obtain ⟨kd, ekd⟩ : ∃ kd, kd = x.k := ⟨_, rfl⟩
      have EK := Lib.hid ekd
      obtain ⟨c0, -, c2, -, -⟩ := xb_cells HX.out List.mem_cons_self
      rw [eW, exk] at c0 c2
      rw [← ekd] at c0 x0 eW
      have EW := Lib.hid (And.intro exk (And.intro eW hnw))
      have HN := Lib.hid (show nx < 1000000 ∧ L.length < 500 from ⟨by omega, by omega⟩)
      have hr : Int.tmod x.nw 1048576 = x.nw % 1048576 := Int.tmod_eq_emod_of_nonneg hok.nw.1
      have hwr : IntKind.u64.wrap (nw + x.nw % 1048576) = nw + x.nw % 1048576 := by rw [IntKind.wrap_u64]; omega
      have hwm : IntKind.u64.wrap (x.nw % 1048576) = x.nw % 1048576 := by rw [IntKind.wrap_u64]; omega
      have hw6 : (nw + x.nw % 1048576) % 18446744073709551616 = nw + x.nw % 1048576 := by omega
      have hw7 : x.nw % 1048576 % 18446744073709551616 = x.nw % 1048576 := by omega
      clear ekd exk eW hX hz hok hnx hl hw0 hw1 hw2 H hnw
      go_upto_if 42 with fail
      rw [← EW.out.1, ← EW.out.2.1, ← EW.out.2.2]
      clear c0 c2 x0 x1 x2 x3 hr hwr hwm hw6 hw7 hm0 hm1
      obtain ⟨c0, c1, c2, c3, cl⟩ := xb_cells HX.out List.mem_cons_self
      rw [← EK.out] at c0
      by_cases k0 : kd = 0
      · have HP := Lib.hid (s1_add HX.out HO.out.1.id HO.out.2.2.2.2 HO.out.1.af HN.out.1 HN.out.2)
        subst k0
        go_wp2_with fail
        refine HP.out.mono ?_
        rintro e w3 ⟨rfl, H⟩
        have H3 := Lib.hid (H.less (G := []) (fun f hf => by simp at hf)); clear H
        go_wp2_with fail
        go_roundw
        case rel => exact ⟨k + 1, nw', by go_num, rfl, by omega, _, _, _, H3.out, by have := addN_le (nx := nx) (id := x.id); have := HO.out.2.1; omega, Nat.le_trans addT_le (by have := HO.out.2.2.1; omega), HO.out.2.2.2.1.1, HO.out.2.2.2.1.2⟩
        case measure => simp [intOf]; omega
      have n0 : (kd == 0) = false := by simpa using k0
      by_cases k1 : kd = 1
      · have HP := Lib.hid (s1_cut HX.out HO.out.1.id)
        subst k1
        clear k0
        go_wp2_with fail
        refine HP.out.mono ?_
        rintro e w3 ⟨rfl, H⟩
        have H3 := Lib.hid (H.less (G := []) (fun f hf => by simp at hf)); clear H
        go_wp2_with fail
        go_roundw
        case rel => exact ⟨k + 1, nw', by go_num, rfl, by omega, _, _, _, H3.out, by have := HO.out.2.1; omega, Nat.le_trans (cutL_le _) (by have := HO.out.2.2.1; omega), HO.out.2.2.2.1.1, HO.out.2.2.2.1.2⟩
        case measure => simp [intOf]; omega
      have n1 : (kd == 1) = false := by simpa using k1
      by_cases k3 : kd = 3
      · have HP := Lib.hid (s1_common HX.out HO.out.1.af)
        subst k3
        clear k0 k1
        go_wp2_with fail
        refine HP.out.mono ?_
        rintro e w3 ⟨rfl, H⟩
        have H3 := Lib.hid (H.less (G := []) (fun f hf => by simp at hf)); clear H
        go_wp2_with fail
        go_roundw
        case rel => exact ⟨k + 1, nw', by go_num, rfl, by omega, _, _, _, H3.out, by have := HO.out.2.1; omega, by have := HO.out.2.2.1; omega, HO.out.2.2.2.1.1, HO.out.2.2.2.1.2⟩
        case measure => simp [intOf]; omega
      have n3 : (kd == 3) = false := by simpa using k3
      by_cases k2 : kd = 2
      · obtain ⟨D, eD⟩ : ∃ D, D = dueD nw' (xs L) := ⟨_, rfl⟩
        obtain ⟨n, en⟩ : ∃ n, n = D.length := ⟨_, rfl⟩
        obtain ⟨m, em⟩ : ∃ m, m = L.length := ⟨_, rfl⟩
        obtain ⟨m2, em2⟩ : ∃ m2, m2 = (cutAll D L).length := ⟨_, rfl⟩
        have hi := HX.out.inv
        have hmn : m2 + n = m := by rw [em2, en, em, eD]; exact due_len hi
        have HD := Lib.hid (show D = dueD nw' (xs L) ∧ n = D.length ∧ m = L.length ∧ m2 = (cutAll D L).length ∧ m2 + n = m ∧ m < 500 ∧ CInv L T nx from ⟨eD, en, em, em2, hmn, by rw [em]; exact HN.out.2, hi⟩)
        subst k2
        clear k0 k1 k3 eD en em em2 hmn hi
        have HLen := Lib.hid (s1_len HX.out HD.out.2.2.1)
        go_wp2_with (first
          | (go_at_call 22; refine HLen.out.mono ?_; rintro e w' ⟨rfl, rfl⟩)
          | fail)
        refine (s1_due HX.out HO.out.2.2.2.2 HD.out.1 HD.out.2.1).mono ?_
        rintro e w3 ⟨A3, c3', rfl, H⟩
        have H3 := Lib.hid (H.less (G := [.row (.slice A3 n c3') D]) (by simp)); clear H
        go_wp2_with fail
        go_loopw [10] (fun i wr => ∃ j : Nat, i = .int .i64 (j : Int) ∧ j ≤ n ∧ S1 w s T (cutAll D L) nx wr [.row (.slice A3 n c3') D]) (fun i _ => n - (intOf i).toNat)
        case atStart => exact ⟨0, rfl, Nat.zero_le _, H3.out⟩
        case round =>
          obtain ⟨j, rfl, hj, H⟩ := hrel
          have bn : (n : Int) ≤ 500 := by have := HD.out.2.2.2.2.1; have := HD.out.2.2.2.2.2.1; omega
          by_cases hjn : j < n
          · have hjD : j < D.length := by rw [← HD.out.2.1]; exact hjn
            obtain ⟨g, rfl, gl, hrow⟩ := (H.row (A := A3) (n := n) (c := c3') (P := D) (by simp)) (Nat.zero_lt_of_lt hjD)
            obtain ⟨d, hd⟩ : ∃ d, D[j]? = some d := ⟨_, List.getElem?_eq_getElem hjD⟩
            obtain ⟨y0, y1, y2⟩ := hrow j d hd
            have hdm : d ∈ dueD nw' (xs L) := by rw [← HD.out.1]; exact List.mem_of_getElem? hd
            have hdle : d.d ≤ nw' := take_le _ d hdm
            have hno : hasI (cutAll D L) d.id = false := cutAll_has _ _ _ (by rw [HD.out.1]; exact hdm)
            have hid : I d.id := by
              obtain ⟨e, he, rfl⟩ := List.mem_map.1 (due_mem hdm)
              exact (HD.out.2.2.2.2.2.2.ok e he).1
            obtain ⟨y, ey⟩ : ∃ y, y = getI (cutAll D L) d.id := ⟨_, rfl⟩
            have HF := Lib.hid (s1_find H hid ey hno.symm)
            have HY := Lib.hid hd
            have b2 : (0 : Int) ≤ (j : Int) := by omega
            have b3 : (j : Int) < (n : Int) := by omega
            clear hrow hdm hno hid ey H hd
            go_wp2_with fail
            refine HF.out.mono ?_
            rintro e w4 ⟨rfl, H⟩
            have hX := H.box #[.int .i64 y.id, .int .u64 y.d, .int .u64 y.n] 44
            obtain ⟨W4, eW⟩ : ∃ W4, W4 = w4.alloc (.cells #[.int .i64 y.id, .int .u64 y.d, .int .u64 y.n] 44) := ⟨_, rfl⟩
            rw [← eW] at hX
            have EW4 := Lib.hid eW
            have hX := hX.less (G := [.row (.slice (some ⟨g, 0, none⟩) n c3') D]) (by simp)
            have H5 := Lib.hid hX
            obtain ⟨g', eg, gl', hrow⟩ := (hX.row (A := some ⟨g, 0, none⟩) (n := n) (c := c3') (P := D) (by simp)) (Nat.zero_lt_of_lt hjD)
            obtain rfl : g = g' := by injection eg with eg; injection eg
            obtain ⟨z0, z1, z2⟩ := hrow j d HY.out
            have E0 := cell_grown (w := W4) (a := ⟨g, j * 3, none⟩) gl' z0
            have E1 := cell_grown (w := W4) (a := ⟨g, j * 3 + 1, none⟩) gl' z1
            have E2 := cell_grown (w := W4) (a := ⟨g, j * 3 + 2, none⟩) gl' z2
            have hgt : ¬ (nw' < d.d) := by omega
            clear y0 y1 y2 H hX eW eg gl
            by_cases hj0 : (0 : Int) < (j : Int)
            · obtain ⟨p, hp⟩ : ∃ p : Nat, (j : Int) - 1 = (p : Int) := ⟨j - 1, by omega⟩
              have hpD : p < D.length := by omega
              obtain ⟨q, hq⟩ : ∃ q, D[p]? = some q := ⟨_, List.getElem?_eq_getElem hpD⟩
              obtain ⟨t0, t1, t2⟩ := hrow p q hq
              have E3 := cell_grown (w := W4) (a := ⟨g, p * 3, none⟩) gl' t0
              have E4 := cell_grown (w := W4) (a := ⟨g, p * 3 + 1, none⟩) gl' t1
              have E5 := cell_grown (w := W4) (a := ⟨g, p * 3 + 2, none⟩) gl' t2
              have p0 : (0 : Int) ≤ (p : Int) := by omega
              have p1 : (p : Int) < (n : Int) := by omega
              have hk1 : 0 < j := by omega
              have HO2 := Lib.hid (fun n os => rahead_grown q d true (by
                have h1 := hq; have h2 := HY.out
                rw [HD.out.1] at h1 h2
                exact (due_ah HD.out.2.2.2.2.2.2 (by omega) h1 h2).symm) W4 n os)
              clear hrow z0 z1 z2 t0 t1 t2 hq
              go_wp2_with fail
              rw [← EW4.out]
              refine wp_region_quiet_grown (by kernel_rfl) (by kernel_rfl) ?_
              repeat (first | go_big_quiet_step ((go_at_call 27; refine HO2.out _ _)) | quiet_step ((go_at_call 27; refine HO2.out _ _)))
              refine wpQuiet_nil ?_
              intro _ hw'
              obtain ⟨⟨nq, osq⟩, hw''⟩ := hw'
              subst hw''
              have H6 := Lib.hid (H5.out.quiet ((Kept.grow (F := fun _ => False) (Kept.refl _ W4) nq osq).below (fun _ e => e.elim) (Nat.le_refl _)))
              go_wp2_with fail
              go_roundw
              case rel => exact ⟨j + 1, by go_num, by omega, H6.out⟩
              case measure => simp [intOf]; omega
            · have hdj : decide ((0 : Int) < (j : Int)) = false := by simpa using hj0
              have hk1 : ¬ 0 < j := by omega
              clear hrow z0 z1 z2
              go_wp2_with fail
              rw [← EW4.out]
              refine wp_region_quiet_grown (by kernel_rfl) (by kernel_rfl) ?_
              repeat (first | go_big_quiet_step (fail) | quiet_step (fail))
              refine wpQuiet_nil ?_
              intro _ hw'
              obtain ⟨⟨nq, osq⟩, hw''⟩ := hw'
              subst hw''
              have H6 := Lib.hid (H5.out.quiet ((Kept.grow (F := fun _ => False) (Kept.refl _ W4) nq osq).below (fun _ e => e.elim) (Nat.le_refl _)))
              go_wp2_with fail
              go_roundw
              case rel => exact ⟨j + 1, by go_num, by omega, H6.out⟩
              case measure => simp [intOf]; omega
          · obtain rfl : j = n := by omega
            obtain ⟨⟨y, bt⟩, ey⟩ : ∃ y, y = topI (ord (xs (cutAll D L))) := ⟨_, rfl⟩
            have HT := Lib.hid (s1_top H ey)
            have hgt : bt = true → nw' < y.d := fun hb => by
              rw [HD.out.1, due_left HD.out.2.2.2.2.2.2] at ey
              have := top_drop (now := nw') (ord (xs L)) (by rw [← ey]; exact hb)
              rw [← ey] at this; exact this
            have hsub : (m : Int) - (j : Int) = (m2 : Int) := by have := HD.out.2.2.2.2.1; omega
            have hm : (m : Int) < 500 := by have := HD.out.2.2.2.2.2.1; omega
            clear H ey
            go_wp2_with fail
            refine HT.out.mono ?_
            rintro e w4 ⟨rfl, H⟩
            have hX := H.box #[.int .i64 y.id, .int .u64 y.d, .int .u64 y.n] 44
            obtain ⟨va, eva⟩ : ∃ va, va = w4.heap.size := ⟨_, rfl⟩
            obtain ⟨W4, eW⟩ : ∃ W4, W4 = w4.alloc (.cells #[.int .i64 y.id, .int .u64 y.d, .int .u64 y.n] 44) := ⟨_, rfl⟩
            rw [← eva, ← eW] at hX
            have EW4 := Lib.hid (And.intro eva eW)
            have HLen2 := Lib.hid (s1_len hX HD.out.2.2.2.1)
            have vb := hX.blk (g := va) (t := 44) (cs := #[.int .i64 y.id, .int .u64 y.d, .int .u64 y.n]) (by simp)
            have v1 := vb.cell 1
            have vl := vb.lt
            simp at v1
            have H6 := Lib.hid (show DL w s (k + 1) nw' W4 from ⟨_, _, _, hX.less (G := []) (fun f hf => by simp at hf), by have := HO.out.2.1; omega, Nat.le_trans (cutAll_le _ _) (by have := HO.out.2.2.1; omega), HO.out.2.2.2.1.1, HO.out.2.2.2.1.2⟩)
            rw [eW, eva] at v1 vl
            clear H hX eva eW vb
            cases bt with
            | false =>
              clear v1 vl
              go_wp2_with (first
                | (go_at_call 22; rw [← EW4.out.2]; refine HLen2.out.mono ?_; rintro e w' ⟨rfl, rfl⟩)
                | fail)
              go_roundw
              case rel => exact ⟨k + 1, nw', by go_num, rfl, by omega, H6.out⟩
              case measure => simp [intOf]; omega
            | true =>
              have hg2 : ¬ (y.d ≤ nw') := by have := hgt rfl; omega
              clear hgt
              go_wp2_with (first
                | (go_at_call 22; rw [← EW4.out.2]; refine HLen2.out.mono ?_; rintro e w' ⟨rfl, rfl⟩)
                | fail)
              go_roundw
              case rel => exact ⟨k + 1, nw', by go_num, rfl, by omega, H6.out⟩
              case measure => simp [intOf]; omega
      · have n2 : (kd == 2) = false := by simpa using k2
        have H3 := Lib.hid (HX.out.less (G := []) (fun f hf => by simp at hf))
        clear k0 k1 k2 k3
        go_wp2_with fail
        go_roundw
        case rel => exact ⟨k + 1, nw', by go_num, rfl, by omega, _, _, _, H3.out, by have := HO.out.2.1; omega, by have := HO.out.2.2.1; omega, HO.out.2.2.2.1.1, HO.out.2.2.2.1.2⟩
        case measure => simp [intOf]; omega
    · obtain rfl : k = l.length := by omega
      have H9 := Lib.hid H.bel; clear H
      go_wp2_with fail
      go_ret
      exact ⟨rfl, H9.out⟩

set_option maxHeartbeats 4000000 in
set_option maxRecDepth 100000 in
theorem due_law (w : World) (A : Option Addr) (c : Nat) (l : List Cal) (hA : ArgOps w A l) :
    Calls Try.prog 7 #[.slice A l.length c] w fun e w' => e = .returned (.bool true) ∧ Below w.heap.size w w' := by
  by_cases hn : l.length ≤ 100
  · exact dueL_any w A c l hn hA
  · clear hA
    have h1 : (100 : Int) < (l.length : Int) := by omega
    clear hn
    go_enter Try.func7, Try.ntmps7
    go_wp2_with fail
    refine (alive_any w).mono ?_
    rintro e w1 ⟨rfl, hb1⟩
    have HB1 := Lib.hid hb1
    clear hb1
    go_wp2_with fail
    go_ret
    exact ⟨rfl, HB1.out⟩
end Go.Proofs.Ytncdohbdmpfefaa
