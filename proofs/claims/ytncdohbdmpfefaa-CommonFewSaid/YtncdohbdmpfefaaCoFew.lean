/-
  CommonFew.
-/
import Derived.Test.YtncdohbdmpfefaaCoFewP
import Derived.Test.YtncdohbdmpfefaaCoDueL
namespace Go.Proofs.Ytncdohbdmpfefaa
open Go.RowKit Go.Maps Go.ChangeMaps Go.Shelf Go.Sort

/-- What the second loop keeps. -/
def FL (w : World) (s k : Nat) (T : List Int) (l : List Cal) (nw : Int) (W : World) : Prop := ∃ L nx, S1 w s T L nx W [] ∧ nx ≤ (k : Int) ∧ L.length ≤ k ∧ 0 ≤ nw ∧ nw ≤ (k : Int) * 1048576 ∧ FI (l.take k) T L nw
theorem take_snoc {l : List Cal} {k : Nat} {x : Cal} (h : l[k]? = some x) : l.take (k + 1) = l.take k ++ [x] := by rw [List.take_add_one, h]; rfl

set_option maxHeartbeats 16000000 in
set_option maxRecDepth 100000 in
theorem few_any (w : World) (A Az : Option Addr) (c cz : Nat) (l : List Cal) (zs : List Int) (hn : l.length ≤ 100) (hz : zs.length ≤ 10) (hA : ArgOps w A l) (hZ : ArgN .u64 0 18446744073709551615 w Az zs) :
    Calls Try.prog 6 #[.slice A l.length c, .slice Az zs.length cz] w fun e w' => e = .returned (.bool true) ∧ Below w.heap.size w w' := by
  have HA := Lib.hid (And.intro hA hZ)
  clear hA hZ
  go_enter Try.func6, Try.ntmps6
  go_wp2_with fail
  refine (alive_any w).mono ?_
  rintro e w1 ⟨rfl, hb1⟩
  have HB1 := Lib.hid ((st_start w).quiet noQ_stable noQ_stable hb1)
  clear hb1
  go_wp2_with fail
  refine (st_new noQ_stable HB1.out).mono ?_
  rintro e w2 ⟨s, rfl, H⟩
  have H2 := Lib.hid (show S1 w s [] [] 0 w2 [] from H); clear H
  go_wp2_with fail
  go_loopw [7, 8] (fun q i wr => ∃ (k qn : Nat) (T : List Int), i = .int .i64 (k : Int) ∧ q = .int .i64 (qn : Int) ∧ k ≤ zs.length ∧ qn = T.length ∧ Tc zs k T ∧ S1 w s T [] 0 wr []) (fun _ i _ => zs.length - (intOf i).toNat)
  case atStart => exact ⟨0, 0, [], rfl, rfl, Nat.zero_le _, rfl, ⟨by simp, Nat.le_refl _⟩, H2.out⟩
  case round =>
    obtain ⟨k, qn, T, rfl, rfl, hk, hq, ht, H⟩ := hrel
    by_cases hlt : k < zs.length
    · obtain ⟨b, off, x, rfl, hbl, hzk, hok, x0⟩ := HA.out.2.at_ H.bel hlt
      have b0 : (0 : Int) ≤ (k : Int) := by omega
      have b1 : (k : Int) < (zs.length : Int) := by omega
      have b2 : (qn : Int) ≤ 10 := by have := ht.len; omega
      have HC := s1_common H (t := x) hok
      have HQ := Lib.hid hq
      rcases ht.step hzk (by omega) with ⟨e1, e2, h3⟩ | ⟨e1, e2, h3⟩
      · rw [e1, e2] at HC
        have HC := Lib.hid HC
        have H3 := Lib.hid h3
        clear hzk hok H ht e1 e2 h3 hq
        go_wp2_with fail
        refine HC.out.mono ?_
        rintro e w4 ⟨rfl, H⟩
        have H4 := Lib.hid H; clear H
        go_wp2_with fail
        go_roundw
        case rel => exact ⟨k + 1, qn, T, by go_num, rfl, by omega, HQ.out, H3.out, H4.out⟩
        case measure => simp [intOf]; omega
      · rw [e1, e2] at HC
        have HC := Lib.hid HC
        have H3 := Lib.hid h3
        clear hzk hok H ht e1 e2 h3 hq
        go_wp2_with fail
        refine HC.out.mono ?_
        rintro e w4 ⟨rfl, H⟩
        have H4 := Lib.hid H; clear H
        go_wp2_with fail
        go_roundw
        case rel => exact ⟨k + 1, qn + 1, T ++ [x], by go_num, by go_num, by omega, by rw [HQ.out]; simp, H3.out, H4.out⟩
        case measure => simp [intOf]; omega
    · obtain rfl : k = zs.length := by omega
      have hq10 : (qn : Int) ≤ 10 := by have := ht.len; omega
      have HT := Lib.hid (And.intro hq ht)
      have H4 := Lib.hid H; clear H hq ht
      go_wp2_with fail
      go_loopw [10, 11] (fun t i wr => ∃ (k : Nat) (nw : Int), i = .int .i64 (k : Int) ∧ t = .int .u64 nw ∧ k ≤ l.length ∧ FL w s k T l nw wr) (fun _ i _ => l.length - (intOf i).toNat)
      case atStart => exact ⟨0, 0, rfl, rfl, Nat.zero_le _, _, _, H4.out, Int.le_refl _, Nat.le_refl _, Int.le_refl _, by simp, FI.nil⟩
      case round =>
        obtain ⟨k, nw, rfl, rfl, hk, L, nx, H, hnx, hl, hw0, hw1, hfi⟩ := hrel
        by_cases hlt : k < l.length
        · obtain ⟨b, off, x, rfl, hbl, hz, hok, x0, x1, x2, x3⟩ := HA.out.1.at_ H.bel hlt
          have hX := H.box (encC x) 33
          obtain ⟨nw', hnw⟩ : ∃ nw', nw' = nw + x.nw % 1048576 := ⟨_, rfl⟩
          have hm0 : 0 ≤ x.nw % 1048576 := by omega
          have hm1 : x.nw % 1048576 < 1048576 := by omega
          have hw2 : 0 ≤ nw' ∧ nw' ≤ (k + 1 : Nat) * 1048576 := by omega
          have HO := Lib.hid (And.intro hok (And.intro hnx (And.intro hl (And.intro hw2 (And.intro (show U nw' from ⟨hw2.1, by omega⟩) (And.intro hfi (And.intro (show nw ≤ nw' by omega) hz)))))))
          have b0 : (0 : Int) ≤ (k : Int) := by omega
          have b1 : (k : Int) < (l.length : Int) := by omega
          obtain ⟨xk, exk⟩ : ∃ xk, xk = wr.heap.size := ⟨_, rfl⟩
          obtain ⟨W, eW⟩ : ∃ W, W = wr.alloc (.cells (encC x) 33) := ⟨_, rfl⟩
          rw [← exk, ← eW] at hX
          have HX := Lib.hid (show S1 w s T L nx W [XB xk x] from hX)
          unfold encC at eW
          obtain ⟨kd, ekd⟩ : ∃ kd, kd = x.k := ⟨_, rfl⟩
          have EK := Lib.hid ekd
          obtain ⟨c0, -, c2, -, -⟩ := xb_cells HX.out List.mem_cons_self
          rw [eW, exk] at c0 c2
          rw [← ekd] at c0 x0 eW
          have EW := Lib.hid (And.intro exk (And.intro eW hnw))
          have HN := Lib.hid (show nx < 1000000 ∧ L.length < 500 from ⟨by omega, by omega⟩)
          have hr : Int.tmod x.nw 1048576 = x.nw % 1048576 := Int.tmod_eq_emod_of_nonneg hok.nw.1
          have hwr : IntKind.u64.wrap (nw + x.nw % 1048576) = nw + x.nw % 1048576 := by rw [IntKind.wrap_u64]; omega
          have hwm : IntKind.u64.wrap (x.nw % 1048576) = x.nw % 1048576 := by rw [IntKind.wrap_u64]; omega
          have hw6 : (nw + x.nw % 1048576) % 18446744073709551616 = nw + x.nw % 1048576 := by omega
          have hw7 : x.nw % 1048576 % 18446744073709551616 = x.nw % 1048576 := by omega
          clear ekd exk eW hX hz hok hnx hl hw0 hw1 hw2 H hnw hfi
          go_upto_if 67 with fail
          rw [← EW.out.1, ← EW.out.2.1, ← EW.out.2.2]
          clear c0 c2 x0 x1 x2 x3 hr hwr hwm hw6 hw7 hm0 hm1
          obtain ⟨c0, c1, c2, c3, cl⟩ := xb_cells HX.out List.mem_cons_self
          rw [← EK.out] at c0
          by_cases k0 : kd = 0
          · have HP := Lib.hid (s1_add HX.out HO.out.1.id HO.out.2.2.2.2.1 HO.out.1.af HN.out.1 HN.out.2)
            have HF := Lib.hid (show FI (l.take (k + 1)) T (addT L T nx x.id nw' x.af) nw' from by rw [take_snoc HO.out.2.2.2.2.2.2.2]; exact HO.out.2.2.2.2.2.1.add (by rw [← EK.out]; exact k0) HO.out.2.2.2.2.2.2.1)
            subst k0
            go_wp2_with fail
            refine HP.out.mono ?_
            rintro e w3 ⟨rfl, H⟩
            have H3 := Lib.hid (H.less (G := []) (fun f hf => by simp at hf)); clear H
            go_wp2_with fail
            go_roundw
            case rel => exact ⟨k + 1, nw', by go_num, rfl, by omega, _, _, H3.out, by have := addN_le (nx := nx) (id := x.id); have := HO.out.2.1; omega, Nat.le_trans addT_le (by have := HO.out.2.2.1; omega), HO.out.2.2.2.1.1, HO.out.2.2.2.1.2, HF.out⟩
            case measure => simp [intOf]; omega
          have n0 : (kd == 0) = false := by simpa using k0
          have HS := Lib.hid (fun (L' : List En) (hs : ∀ e ∈ L', e ∈ L) => show FI (l.take (k + 1)) T L' nw' from by rw [take_snoc HO.out.2.2.2.2.2.2.2]; exact HO.out.2.2.2.2.2.1.sub (by rw [← EK.out]; exact k0) HO.out.2.2.2.2.2.2.1 hs)
          by_cases k1 : kd = 1
          · have HP := Lib.hid (s1_cut HX.out HO.out.1.id)
            subst k1
            clear k0
            go_wp2_with fail
            refine HP.out.mono ?_
            rintro e w3 ⟨rfl, H⟩
            have H3 := Lib.hid (H.less (G := []) (fun f hf => by simp at hf)); clear H
            go_wp2_with fail
            go_roundw
            case rel => exact ⟨k + 1, nw', by go_num, rfl, by omega, _, _, H3.out, by have := HO.out.2.1; omega, Nat.le_trans (cutL_le _) (by have := HO.out.2.2.1; omega), HO.out.2.2.2.1.1, HO.out.2.2.2.1.2, HS.out _ (fun e he => (cutL_mem.1 he).1)⟩
            case measure => simp [intOf]; omega
          have n1 : (kd == 1) = false := by simpa using k1
          by_cases k2 : kd = 2
          · have HP := Lib.hid (s1_due HX.out HO.out.2.2.2.2.1 rfl rfl)
            subst k2
            clear k0 k1
            go_wp2_with fail
            refine HP.out.mono ?_
            rintro e w3 ⟨A3, c3', rfl, H⟩
            have H3 := Lib.hid (H.less (G := []) (fun f hf => by simp at hf)); clear H
            go_wp2_with fail
            go_roundw
            case rel => exact ⟨k + 1, nw', by go_num, rfl, by omega, _, _, H3.out, by have := HO.out.2.1; omega, Nat.le_trans (cutAll_le _ _) (by have := HO.out.2.2.1; omega), HO.out.2.2.2.1.1, HO.out.2.2.2.1.2, HS.out _ (cutAll_sub _ _)⟩
            case measure => simp [intOf]; omega
          · have n2 : (kd == 2) = false := by simpa using k2
            have H3 := Lib.hid (HX.out.less (G := []) (fun f hf => by simp at hf))
            clear k0 k1 k2
            go_wp2_with fail
            go_roundw
            case rel => exact ⟨k + 1, nw', by go_num, rfl, by omega, _, _, H3.out, by have := HO.out.2.1; omega, by have := HO.out.2.2.1; omega, HO.out.2.2.2.1.1, HO.out.2.2.2.1.2, HS.out _ (fun e he => he)⟩
            case measure => simp [intOf]; omega
        · obtain rfl : k = l.length := by omega
          rw [List.take_length] at hfi
          obtain ⟨D, eD⟩ : ∃ D, D = ord (xs L) := ⟨_, rfl⟩
          obtain ⟨n, en⟩ : ∃ n, n = D.length := ⟨_, rfl⟩
          obtain ⟨hh, eh⟩ : ∃ hh, hh = (heads L T).length := ⟨_, rfl⟩
          have hnL : n = L.length := by rw [en, eD, ord_len, xs_len]
          have hle : hh ≤ qn + (D.filter fun x => oth l T x.id).length := by rw [eh, HT.out.1, eD]; exact few_le hfi
          have HD := Lib.hid (And.intro eD (And.intro en (And.intro hnL (And.intro hle eh))))
          have bn : (n : Int) ≤ 100 := by omega
          have H5 := Lib.hid (s1_all H eD en)
          clear eD en eh hnL hle hfi H hnx hl hw0 hw1
          go_wp2_with fail
          refine H5.out.mono ?_
          rintro e w5 ⟨A5, c5, rfl, H⟩
          have H6 := Lib.hid (H.less (G := [.row (.slice A5 n c5) D]) (by simp)); clear H
          go_wp2_with fail
          go_loopw [14, 15] (fun o i wr => ∃ k ov : Nat, i = .int .i64 (k : Int) ∧ o = .int .i64 (ov : Int) ∧ k ≤ n ∧ ov = ((D.take k).filter fun x => oth l T x.id).length ∧ S1 w s T L nx wr [.row (.slice A5 n c5) D]) (fun _ i _ => n - (intOf i).toNat)
          case atStart => exact ⟨0, 0, rfl, rfl, Nat.zero_le _, rfl, H6.out⟩
          case round =>
            obtain ⟨k, ov, rfl, rfl, hk, hov, H⟩ := hrel
            by_cases hlt : k < n
            · have hkD : k < D.length := by rw [← HD.out.2.1]; exact hlt
              obtain ⟨d, hd⟩ : ∃ d, D[k]? = some d := ⟨_, List.getElem?_eq_getElem hkD⟩
              have hov2 : (ov : Int) ≤ 100 := by
                have h1 := List.length_filter_le (fun x => oth l T x.id) (D.take k)
                rw [List.length_take] at h1
                omega
              have hcnt := cnt_step (fun x => oth l T x.id) hd
              rw [← hov] at hcnt
              have HC := Lib.hid (And.intro hcnt (And.intro hd hkD))
              have H7 := Lib.hid H
              have b0 : (0 : Int) ≤ (k : Int) := by omega
              have b1 : (k : Int) < (n : Int) := by omega
              have hl1 : (-1 : Int) ≤ (l.length : Int) - 1 := by omega
              clear H hov hcnt hd
              go_wp2_with fail
              go_loopw [14, 16] (fun o i wr => ∃ z : Int, i = .int .i64 z ∧ o = .int .i64 (ov : Int) ∧ -1 ≤ z ∧ z < (l.length : Int) ∧ (∀ (j : Nat) y, z < (j : Int) → l[j]? = some y → ¬ (y.k = 0 ∧ y.id = d.id)) ∧ S1 w s T L nx wr [.row (.slice A5 n c5) D]) (fun _ i _ => (intOf i + 1).toNat)
              case atStart => exact ⟨(l.length : Int) - 1, by go_num, rfl, by omega, by omega, fun j y hj hy => by have := (List.getElem?_eq_some_iff.1 hy).1; omega, H7.out⟩
              case round =>
                obtain ⟨z, rfl, rfl, hz1, hz2, hno, H⟩ := hrel
                by_cases hz0 : 0 ≤ z
                · obtain ⟨p, rfl⟩ : ∃ p : Nat, z = (p : Int) := ⟨z.toNat, by omega⟩
                  obtain ⟨b, off, x, rfl, hbl, hz, hok, x0, x1, x2, x3⟩ := HA.out.1.at_ H.bel (k := p) (by omega)
                  obtain ⟨g, rfl, gl, hrow⟩ := (H.row (A := A5) (n := n) (c := c5) (P := D) (by simp)) (Nat.zero_lt_of_lt hkD)
                  obtain ⟨y0, y1, y2⟩ := hrow k d HC.out.2.1
                  have HN := Lib.hid (And.intro hz hno)
                  have HX := Lib.hid (fun j => H.drewN j)
                  clear hz hno H hrow y1 y2 x2 hok
                  by_cases k0 : x.k = 0
                  · by_cases hid : x.id = d.id
                    · rw [k0] at x0
                      rw [hid] at x1
                      have e0 : (d.id == d.id) = true := by simp
                      have HL := Lib.hid (lastA_at HN.out.1 ⟨k0, hid⟩ (fun j y hj hy => HN.out.2 j y (by omega) hy))
                      clear k0 hid
                      go_wp2_with fail
                      go_quiet (fail)
                      have H8 := Lib.hid (HX.out nq)
                      clear x0 x1 x3 y0 hbl gl
                      go_wp2_with fail
                      go_loopw [17, 18] (fun sb j wr => ∃ (m : Nat) (sv : Bool), j = .int .i64 (m : Int) ∧ sb = .bool sv ∧ m ≤ zs.length ∧ sv = shr zs m x.af ∧ S1 w s T L nx wr [.row (.slice (some ⟨g, 0, none⟩) n c5) D]) (fun _ j _ => zs.length - (intOf j).toNat)
                      case atStart => exact ⟨0, false, rfl, rfl, Nat.zero_le _, shr_zero.symm, H8.out⟩
                      case round =>
                        obtain ⟨m, sv, rfl, rfl, hm, hsv, H⟩ := hrel
                        by_cases hmz : m < zs.length
                        · obtain ⟨bz, offz, zx, rfl, hzl, hzz, hzok, z0⟩ := HA.out.2.at_ H.bel hmz
                          obtain ⟨b', off', x', eb, hbl, hz, -, -, -, -, x3⟩ := HA.out.1.at_ H.bel (k := p) (by omega)
                          obtain rfl : x' = x := by have := HN.out.1; rw [hz] at this; exact Option.some.inj this
                          obtain ⟨rfl, rfl⟩ : b = b' ∧ off = off' := by injection eb with eb; injection eb with e1 e2; exact ⟨e1, e2⟩
                          have hst := shr_step (a := x'.af) hzz
                          rw [← hsv] at hst
                          have HS := Lib.hid hst
                          have HX := Lib.hid (fun j => H.drewN j)
                          have bm0 : (0 : Int) ≤ (m : Int) := by omega
                          have bm1 : (m : Int) < (zs.length : Int) := by omega
                          clear hst hsv H hzz hz eb hzok
                          cases sv with
                          | true =>
                            go_wp2_with fail
                            go_quiet (fail)
                            go_wp2_with fail
                            go_roundw
                            case rel => exact ⟨m + 1, true, by go_num, rfl, by omega, by rw [HS.out]; rfl, HX.out _⟩
                            case measure => simp [intOf]; omega
                          | false =>
                            by_cases e1 : zx = x'.af
                            · rw [← e1] at x3
                              by_cases e2 : zx = 18446744073709551615
                              · have f1 : (zx == zx) = true := by simp
                                have HS2 := Lib.hid (show false = shr zs (m + 1) x'.af from by rw [HS.out, e1, ← e1, e2]; rfl)
                                clear e1
                                subst e2
                                go_wp2_with fail
                                go_quiet (fail)
                                go_wp2_with fail
                                go_roundw
                                case rel => exact ⟨m + 1, false, by go_num, rfl, by omega, HS2.out, HX.out _⟩
                                case measure => simp [intOf]; omega
                              · have f1 : (zx == zx) = true := by simp
                                have f2 : (zx == 18446744073709551615) = false := by simpa using e2
                                have f3 : (zx != 18446744073709551615) = true := by simpa using e2
                                have HS2 := Lib.hid (show true = shr zs (m + 1) x'.af from by rw [HS.out, ← e1, f1, f2]; rfl)
                                clear e1 e2
                                go_wp2_with fail
                                go_quiet (fail)
                                go_wp2_with fail
                                go_roundw
                                case rel => exact ⟨m + 1, true, by go_num, rfl, by omega, HS2.out, HX.out _⟩
                                case measure => simp [intOf]; omega
                            · have f1 : (zx == x'.af) = false := by simpa using e1
                              have HS2 := Lib.hid (show false = shr zs (m + 1) x'.af from by rw [HS.out, f1]; rfl)
                              clear e1
                              go_wp2_with fail
                              go_quiet (fail)
                              go_wp2_with fail
                              go_roundw
                              case rel => exact ⟨m + 1, false, by go_num, rfl, by omega, HS2.out, HX.out _⟩
                              case measure => simp [intOf]; omega
                        · obtain rfl : m = zs.length := by omega
                          rw [shr_all HT.out.2] at hsv
                          have H9 := Lib.hid H
                          clear H
                          cases sv with
                          | true =>
                            have hp : oth l T d.id = false := by rw [oth_some HL.out]; simpa using hsv.symm
                            have HV := Lib.hid (show ov = ((D.take (k + 1)).filter fun x => oth l T x.id).length from by rw [HC.out.1, hp]; rfl)
                            clear hp hsv
                            go_wp2_with fail
                            go_roundw
                            case rel => exact ⟨k + 1, ov, by go_num, rfl, by omega, HV.out, H9.out⟩
                            case measure => simp [intOf]; omega
                          | false =>
                            have hp : oth l T d.id = true := by rw [oth_some HL.out]; simpa using hsv.symm
                            have HV := Lib.hid (show ov + 1 = ((D.take (k + 1)).filter fun x => oth l T x.id).length from by rw [HC.out.1, hp]; rfl)
                            clear hp hsv
                            go_wp2_with fail
                            go_roundw
                            case rel => exact ⟨k + 1, ov + 1, by go_num, by go_num, by omega, HV.out, H9.out⟩
                            case measure => simp [intOf]; omega
                    · rw [k0] at x0
                      have e0 : (x.id == d.id) = false := by simpa using hid
                      have e1 : (x.id != d.id) = true := by simpa using hid
                      have HP := Lib.hid (show ∀ (j : Nat) y, (p : Int) - 1 < (j : Int) → l[j]? = some y → ¬ (y.k = 0 ∧ y.id = d.id) from fun j y hj hy => by
                        by_cases hjp : j = p
                        · subst hjp
                          rw [HN.out.1] at hy
                          cases hy
                          exact fun e => hid e.2
                        · exact HN.out.2 j y (by omega) hy)
                      clear hid
                      go_wp2_with fail
                      go_quiet (fail)
                      go_wp2_with fail
                      go_roundw
                      case rel => exact ⟨(p : Int) - 1, by go_num, rfl, by omega, by omega, HP.out, HX.out _⟩
                      case measure => simp [intOf] <;> omega
                  · have e0 : (x.k == 0) = false := by simpa using k0
                    have e1 : (x.k != 0) = true := by simpa using k0
                    have HP := Lib.hid (show ∀ (j : Nat) y, (p : Int) - 1 < (j : Int) → l[j]? = some y → ¬ (y.k = 0 ∧ y.id = d.id) from fun j y hj hy => by
                      by_cases hjp : j = p
                      · subst hjp
                        rw [HN.out.1] at hy
                        cases hy
                        exact fun e => k0 e.1
                      · exact HN.out.2 j y (by omega) hy)
                    clear k0
                    go_wp2_with fail
                    go_quiet (fail)
                    go_wp2_with fail
                    go_roundw
                    case rel => exact ⟨(p : Int) - 1, by go_num, rfl, by omega, by omega, HP.out, HX.out _⟩
                    case measure => simp [intOf] <;> omega
                · obtain rfl : z = -1 := by omega
                  have hp : oth l T d.id = false := oth_none (lastA_all fun j y hy => hno j y (by omega) hy)
                  have HV := Lib.hid (show ov = ((D.take (k + 1)).filter fun x => oth l T x.id).length from by rw [HC.out.1, hp]; rfl)
                  have H9 := Lib.hid H
                  clear hp hno H
                  go_wp2_with fail
                  go_roundw
                  case rel => exact ⟨k + 1, ov, by go_num, rfl, by omega, HV.out, H9.out⟩
                  case measure => simp [intOf]; omega
            · obtain rfl : k = n := by omega
              rw [show D.take k = D from by rw [HD.out.2.1]; exact List.take_length] at hov
              have hle : (hh : Int) ≤ (qn : Int) + (ov : Int) := by have := HD.out.2.2.2.1; rw [← hov] at this; omega
              have hov2 : (ov : Int) ≤ 100 := by
                have h1 := List.length_filter_le (fun x => oth l T x.id) D
                have := HD.out.2.1
                omega
              have HE := Lib.hid H.bel
              have HH := Lib.hid (s1_heap H HD.out.2.2.2.2)
              have HL := Lib.hid (s1_len H HD.out.2.2.1)
              clear H hov
              go_wp2_with (first
                | (go_at_call 24; refine HH.out.mono ?_; rintro e w' ⟨rfl, rfl⟩)
                | (go_at_call 22; refine HL.out.mono ?_; rintro e w' ⟨rfl, rfl⟩)
                | fail)
              go_ret
              exact ⟨rfl, HE.out⟩

set_option maxHeartbeats 4000000 in
set_option maxRecDepth 100000 in
theorem few_law (w : World) (A Az : Option Addr) (c cz : Nat) (l : List Cal) (zs : List Int) (hA : ArgOps w A l) (hZ : ArgN .u64 0 18446744073709551615 w Az zs) :
    Calls Try.prog 6 #[.slice A l.length c, .slice Az zs.length cz] w fun e w' => e = .returned (.bool true) ∧ Below w.heap.size w w' := by
  by_cases hn : l.length ≤ 100
  · by_cases hz : zs.length ≤ 10
    · exact few_any w A Az c cz l zs hn hz hA hZ
    · clear hA hZ
      have h1 : ¬ ((100 : Int) < (l.length : Int)) := by omega
      have h2 : (10 : Int) < (zs.length : Int) := by omega
      clear hn hz
      go_enter Try.func6, Try.ntmps6
      go_wp2_with fail
      refine (alive_any w).mono ?_
      rintro e w1 ⟨rfl, hb1⟩
      have HB1 := Lib.hid hb1
      clear hb1
      go_wp2_with fail
      go_ret
      exact ⟨rfl, HB1.out⟩
  · clear hA hZ
    have h1 : (100 : Int) < (l.length : Int) := by omega
    clear hn
    go_enter Try.func6, Try.ntmps6
    go_wp2_with fail
    refine (alive_any w).mono ?_
    rintro e w1 ⟨rfl, hb1⟩
    have HB1 := Lib.hid hb1
    clear hb1
    go_wp2_with fail
    go_ret
    exact ⟨rfl, HB1.out⟩
end Go.Proofs.Ytncdohbdmpfefaa
