/-
  CommonLeaves.
-/
import Derived.Test.YtncdohbdmpfefaaCoAlike
import Derived.StillTailTactics
import Derived.Deep.QuietTactic
import Derived.BigQuiet
namespace Go.Proofs.Ytncdohbdmpfefaa
open Go.RowKit Go.Maps Go.ChangeMaps Go.Shelf

section
variable {L : List En} {T : List Int} {nx : Int}
theorem cut_addT {id now after : Int} (h : hasI L id = false) : cutL id (addT L T nx id now after) = L := by
  unfold addT
  split
  · exact cutL_none h
  · unfold addL
    rw [show (⟨id, dl now after, nx⟩ : It).id = id from rfl, cutL_none h]
    unfold cutL
    rw [List.filter_append]
    have := cutL_none h
    unfold cutL at this
    rw [this]
    simp
theorem has_addT {id now after : Int} (h : hasI L id = false) : hasI (addT L T nx id now after) id = decide (0 ≤ id) := by
  unfold addT
  split
  · rename_i h1
    rw [h]
    have : ¬ (0 ≤ id) := by omega
    simp [this]
  · rename_i h1
    have h2 : 0 ≤ id := by omega
    unfold addL hasI
    simp [h2]
theorem get_addT (hi : CInv L T nx) {id now after : Int} (h : hasI L id = false) (h0 : 0 ≤ id) : (getI (addT L T nx id now after) id).id = id := by
  have hm : hasI (addT L T nx id now after) id = true := by rw [has_addT h]; simpa using h0
  unfold getI
  cases hf : (addT L T nx id now after).find? (fun e => e.x.id == id) with
  | none =>
    rw [List.find?_eq_none] at hf
    obtain ⟨e, he, e1⟩ := hasI_true.1 hm
    exact absurd e1 (by simpa using hf e he)
  | some e => simpa using List.find?_some hf
end

section
variable {w W : World} {s : Nat} {T : List Int} {L : List En} {nx : Int} {F : List Fb}
/-- The one set. -/
def S1 (w : World) (s : Nat) (T : List Int) (L : List En) (nx : Int) (W : World) (F : List Fb) : Prop := St (SetQ w.heap.size s L T nx) NoQ w W F
theorem S1.bel (H : S1 w s T L nx W F) : Below w.heap.size w W := St.bel H
theorem S1.box (H : S1 w s T L nx W F) (cs : Array Value) (t : TypeId) : S1 w s T L nx (W.alloc (.cells cs t)) (.blk W.heap.size t cs :: F) := St.box H (setQ_stable _ _ _ _ _) noQ_stable cs t
theorem S1.drewN (H : S1 w s T L nx W F) (n : Nat) : S1 w s T L nx (W.drewN n) F := St.drewN H (setQ_stable _ _ _ _ _) noQ_stable n
theorem S1.drew (H : S1 w s T L nx W F) : S1 w s T L nx W.drew F := St.drew H (setQ_stable _ _ _ _ _) noQ_stable
theorem S1.less {G : List Fb} (H : S1 w s T L nx W F) (h : ∀ f ∈ G, f ∈ F) : S1 w s T L nx W G := St.less H h
theorem S1.blk (H : S1 w s T L nx W F) {g : Nat} {t : TypeId} {cs : Array Value} (h : Fb.blk g t cs ∈ F) : Blk W g t cs := St.fact H h
theorem S1.row (H : S1 w s T L nx W F) {A : Option Addr} {n c : Nat} {P : List It} (h : Fb.row (.slice A n c) P ∈ F) : Rd W A P := OwnI.rd (St.fact H h : Fb.holds W (.row (.slice A n c) P))
theorem s1_add (H : S1 w s T L nx W F) {id now after : Int} (hid : I id) (hnow : U now) (haf : U after) (h1 : nx < 1000000) (hl : L.length < 500) :
    Calls Try.prog 10 #[.pointer (some ⟨s, 0, none⟩), .int .i64 id, .int .u64 now, .int .u64 after] W fun e W' => e = .returned (.int .i64 (addE id)) ∧ S1 w s T (addT L T nx id now after) (addN nx id) W' F :=
  st_add noQ_stable H hid hnow haf h1 hl
theorem s1_cut (H : S1 w s T L nx W F) {j : Int} (hj : I j) : Calls Try.prog 12 #[.pointer (some ⟨s, 0, none⟩), .int .i64 j] W fun e W' => e = .returned (.bool (hasI L j)) ∧ S1 w s T (cutL j L) nx W' F := st_cut noQ_stable H hj
theorem s1_common (H : S1 w s T L nx W F) {t : Int} (ht : U t) : Calls Try.prog 17 #[.pointer (some ⟨s, 0, none⟩), .int .u64 t] W fun e W' => e = .returned (.int .i64 (comE T t)) ∧ S1 w s (comT T t) L nx W' F := st_common noQ_stable H ht
theorem s1_find (H : S1 w s T L nx W F) {j : Int} (hj : I j) {y : It} (hy : y = getI L j) {b : Bool} (hb : b = hasI L j) : Calls Try.prog 20 #[.pointer (some ⟨s, 0, none⟩), .int .i64 j] W fun e W' => e = .returned (.tuple #[.agg #[.int .i64 y.id, .int .u64 y.d, .int .u64 y.n], .bool b]) ∧ S1 w s T L nx W' F := by
  subst hy; subst hb
  exact st_find noQ_stable H hj
theorem s1_top (H : S1 w s T L nx W F) {y : It} {b : Bool} (h : (y, b) = topI (ord (xs L))) : Calls Try.prog 21 #[.pointer (some ⟨s, 0, none⟩)] W fun e W' => e = .returned (.tuple #[.agg #[.int .i64 y.id, .int .u64 y.d, .int .u64 y.n], .bool b]) ∧ S1 w s T L nx W' F := by
  have := st_top noQ_stable H
  rw [← h] at this
  exact this
theorem s1_all (H : S1 w s T L nx W F) {D : List It} (hd : D = ord (xs L)) {n : Nat} (hn : n = D.length) : Calls Try.prog 23 #[.pointer (some ⟨s, 0, none⟩)] W fun e W' => ∃ A c, e = .returned (.slice A n c) ∧ S1 w s T L nx W' (.row (.slice A n c) D :: F) := by
  subst hn; subst hd
  exact st_all noQ_stable H
theorem s1_due (H : S1 w s T L nx W F) {now : Int} (hnow : U now) {D : List It} (hd : D = dueD now (xs L)) {n : Nat} (hn : n = D.length) :
    Calls Try.prog 14 #[.pointer (some ⟨s, 0, none⟩), .int .u64 now] W fun e W' => ∃ A c, e = .returned (.slice A n c) ∧ S1 w s T (cutAll D L) nx W' (.row (.slice A n c) D :: F) := by
  subst hn; subst hd
  exact st_due noQ_stable H hnow
theorem s1_len (H : S1 w s T L nx W F) {n : Nat} (hn : n = L.length) : Calls Try.prog 22 #[.pointer (some ⟨s, 0, none⟩)] W fun e W' => e = .returned (.int .i64 (n : Int)) ∧ W = W' := by
  subst hn; exact st_len H
theorem s1_heap (H : S1 w s T L nx W F) {n : Nat} (hn : n = (heads L T).length) : Calls Try.prog 24 #[.pointer (some ⟨s, 0, none⟩)] W fun e W' => e = .returned (.int .i64 (n : Int)) ∧ W = W' := by
  subst hn; exact st_heap H
theorem S1.inv (H : S1 w s T L nx W F) : CInv L T nx := St.set_inv H
end

set_option maxHeartbeats 16000000 in
set_option maxRecDepth 100000 in
theorem leaves_any (w : World) (An Aa : Option Addr) (cn ca : Nat) (ns afs : List Int) (id now af : Int) (hid : I id) (hnow : U now) (haf : U af) (hn : ns.length ≤ 60) (hna : ns.length ≤ afs.length) (hA : ArgN .u16 0 65535 w An ns) (hB : ArgN .u16 0 65535 w Aa afs) :
    Calls Try.prog 8 #[.slice An ns.length cn, .slice Aa afs.length ca, .int .i64 id, .int .u64 now, .int .u64 af] w fun e w' => e = .returned (.bool true) ∧ Below w.heap.size w w' := by
  have HA := Lib.hid (And.intro hA hB)
  have HI := Lib.hid (And.intro hid (And.intro hnow haf))
  have b60 : (ns.length : Int) ≤ 60 := by omega
  have b61 : (ns.length : Int) ≤ (afs.length : Int) := by omega
  clear hA hB
  go_enter Try.func8, Try.ntmps8
  go_wp2_with fail
  refine (alive_any w).mono ?_
  rintro e w1 ⟨rfl, hb1⟩
  have HB1 := Lib.hid ((st_start w).quiet noQ_stable noQ_stable hb1)
  clear hb1
  go_wp2_with fail
  refine (st_new noQ_stable HB1.out).mono ?_
  rintro e w2 ⟨s, rfl, H⟩
  have H2 := Lib.hid (show S1 w s [] [] 0 w2 [] from H); clear H
  go_upto_if 46 with fail
  go_cut [] (fun wx => ∃ T, S1 w s T [] 0 wx [])
  case first =>
    by_cases h0 : 0 < afs.length
    · obtain ⟨b, off, x, rfl, hbl, hz, hok, x0⟩ := HA.out.2.at_ H2.out.bel h0
      have b1 : (0 : Int) < (afs.length : Int) := by omega
      simp at x0
      have HC := Lib.hid (s1_common H2.out (t := x) ⟨hok.1, by omega⟩)
      clear hz
      go_wp2_with fail
      refine HC.out.mono ?_
      rintro e w4 ⟨rfl, H⟩
      have H4 := Lib.hid H; clear H
      go_wp2_with fail
      go_meet
      case rel => exact ⟨_, H4.out⟩
    · have b1 : ¬ ((0 : Int) < (afs.length : Int)) := by omega
      go_wp2_with fail
      go_meet
      case rel => exact ⟨_, H2.out⟩
  case rest =>
    obtain ⟨T, H⟩ := hcut
    clear H2
    have H3 := Lib.hid H; clear H
    go_wp2_with fail
    go_loopw [13] (fun i wr => ∃ k : Nat, i = .int .i64 (k : Int) ∧ k ≤ ns.length ∧ ∃ L nx, S1 w s T L nx wr [] ∧ nx ≤ (k : Int) ∧ L.length ≤ k) (fun i _ => ns.length - (intOf i).toNat)
    case atStart => exact ⟨0, rfl, Nat.zero_le _, _, _, H3.out, Int.le_refl _, Nat.le_refl _⟩
    case round =>
      obtain ⟨k, rfl, hk, L, nx, H, hnx, hl⟩ := hrel
      by_cases hlt : k < ns.length
      · obtain ⟨b, off, x, rfl, hbl, hz, hok, x0⟩ := HA.out.1.at_ H.bel hlt
        obtain ⟨bb, boff, y, rfl, hbbl, hyz, hyok, y0⟩ := HA.out.2.at_ H.bel (Nat.lt_of_lt_of_le hlt hna)
        have b0 : (0 : Int) ≤ (k : Int) := by omega
        have b1 : (k : Int) < (ns.length : Int) := by omega
        have b3 : (k : Int) < (afs.length : Int) := by omega
        have HP := Lib.hid (And.intro (s1_add H.drew (id := (k : Int)) (now := x) (after := y) ⟨by omega, by omega⟩ ⟨hok.1, by omega⟩ ⟨hyok.1, by omega⟩ (by omega) (by omega)) (And.intro hnx hl))
        clear hz hyz H hnx hl
        go_wp2_with fail
        go_still_tail 12, (by kernel_rfl)
        change wpList _ _ _ _ _ wr.drew
        go_wp2_with fail
        refine HP.out.1.mono ?_
        rintro e w3 ⟨rfl, H⟩
        have H4 := Lib.hid H; clear H
        go_wp2_with fail
        go_roundw
        case rel => exact ⟨k + 1, by go_num, by omega, _, _, H4.out, by have := addN_le (nx := nx) (id := (k : Int)); have := HP.out.2.1; omega, Nat.le_trans addT_le (by have := HP.out.2.2; omega)⟩
        case measure => simp [intOf]; omega
      · obtain rfl : k = ns.length := by omega
        have HL := Lib.hid (show nx < 1000000 ∧ L.length < 500 from ⟨by omega, by omega⟩)
        have H4 := Lib.hid H
        have HI4 := Lib.hid H.inv
        obtain ⟨y, ey⟩ : ∃ y, y = getI L id := ⟨_, rfl⟩
        have HF := Lib.hid (fun b hb => s1_find H (j := id) hid ey (b := b) hb)
        clear H hnx hl ey
        cases hh : hasI L id with
        | true =>
          have HF := Lib.hid (HF.out true hh.symm)
          clear hh
          go_wp2_with fail
          refine HF.out.mono ?_
          rintro e w4 ⟨rfl, H⟩
          have H5 := Lib.hid (H.box #[.int .i64 y.id, .int .u64 y.d, .int .u64 y.n] 44).bel; clear H
          go_wp2_with fail
          go_ret
          exact ⟨rfl, H5.out⟩
        | false =>
          have HF := Lib.hid (HF.out false hh.symm)
          obtain ⟨D, eD⟩ : ∃ D, D = ord (xs L) := ⟨_, rfl⟩
          obtain ⟨n, en⟩ : ∃ n, n = D.length := ⟨_, rfl⟩
          obtain ⟨z, ez⟩ : ∃ z, z = getI (addT L T nx id now af) id := ⟨_, rfl⟩
          have hz0 : 0 ≤ id → z.id = id := fun h0 => by rw [ez]; exact get_addT HI4.out hh h0
          have HD := Lib.hid (And.intro eD (And.intro en (And.intro ez (show n = L.length from by rw [en, eD, ord_len, xs_len]))))
          obtain ⟨ae, eae⟩ : ∃ ae, ae = addE id := ⟨_, rfl⟩
          obtain ⟨bb, ebb⟩ : ∃ bb, bb = decide (0 ≤ id) := ⟨_, rfl⟩
          have HC := Lib.hid (show cutL id (addT L T nx id now af) = L ∧ hasI (addT L T nx id now af) id = bb ∧ ae = addE id ∧ bb = decide (0 ≤ id) from ⟨cut_addT hh, by rw [ebb]; exact has_addT hh, eae, ebb⟩)
          clear hh eD en ez eae ebb
          go_wp2_with fail
          refine HF.out.mono ?_
          rintro e w4 ⟨rfl, H⟩
          have H5 := Lib.hid (H.box #[.int .i64 y.id, .int .u64 y.d, .int .u64 y.n] 44); clear H
          go_wp2_with fail
          refine (s1_all H5.out HD.out.1 HD.out.2.1).mono ?_
          rintro e w5 ⟨A5, c5, rfl, H⟩
          have H6 := Lib.hid H; clear H
          go_wp2_with fail
          refine (s1_add H6.out HI.out.1 HI.out.2.1 HI.out.2.2 HL.out.1 HL.out.2).mono ?_
          rintro e w6 ⟨rfl, H⟩
          rw [← HC.out.2.2.1]
          have H7 := Lib.hid H; clear H
          go_wp2_with fail
          refine (s1_find H7.out HI.out.1 HD.out.2.2.1 HC.out.2.1.symm).mono ?_
          rintro e w7 ⟨rfl, H⟩
          obtain ⟨za, eza⟩ : ∃ za, za = w7.heap.size := ⟨_, rfl⟩
          have H8 := H.box #[.int .i64 z.id, .int .u64 z.d, .int .u64 z.n] 44
          rw [← eza] at H8
          have HZ := Lib.hid eza
          have H8 := Lib.hid H8; clear H eza
          go_wp2_with fail
          refine (s1_cut H8.out HI.out.1).mono ?_
          rintro e w8 ⟨rfl, H⟩
          rw [HC.out.2.1]
          rw [HC.out.1] at H
          have H9 := Lib.hid H; clear H
          go_wp2_with fail
          refine (s1_all H9.out HD.out.1 HD.out.2.1).mono ?_
          rintro e w9 ⟨A9, c9, rfl, H⟩
          have H10 := Lib.hid H
          have HLen := Lib.hid (s1_len H HD.out.2.2.2)
          have zb := H.blk (g := za) (t := 44) (cs := #[.int .i64 z.id, .int .u64 z.d, .int .u64 z.n]) (by simp)
          have z0 := zb.cell 0
          have zl := zb.lt
          simp at z0
          clear H zb
          go_upto_region 21 with fail
          rw [← HZ.out]
          go_cut [129] (fun s wx => s = .bool false ∧ wx = w9)
          case first =>
            by_cases hneg : 0 ≤ id
            · obtain rfl : ae = 0 := by rw [HC.out.2.2.1]; exact if_neg (by omega)
              obtain rfl : bb = true := by rw [HC.out.2.2.2]; simpa using hneg
              have e2 := hz0 hneg
              rw [e2] at z0
              clear e2 hz0
              go_wp2_with (first
                | (go_at_call 22; refine HLen.out.mono ?_; rintro e w' ⟨rfl, rfl⟩)
                | fail)
              go_meet
              case rel => exact ⟨by simp, rfl⟩
            · obtain rfl : ae = 2 := by rw [HC.out.2.2.1]; exact if_pos (by omega)
              obtain rfl : bb = false := by rw [HC.out.2.2.2]; simpa using hneg
              clear hz0
              go_wp2_with (first
                | (go_at_call 22; refine HLen.out.mono ?_; rintro e w' ⟨rfl, rfl⟩)
                | fail)
              go_meet
              case rel => exact ⟨by simp, rfl⟩
          case rest =>
            obtain ⟨rfl, rfl⟩ := hcut
            clear hz0 z0 zl
            have H11 := Lib.hid (H10.out.less (G := [.row (.slice A9 n c9) D, .row (.slice A5 n c5) D]) (by simp))
            go_wp2_with fail
            go_loopw [22] (fun i wr => ∃ k : Nat, i = .int .i64 (k : Int) ∧ k ≤ n ∧ S1 w s T L (addN nx id) wr [.row (.slice A9 n c9) D, .row (.slice A5 n c5) D]) (fun i _ => n - (intOf i).toNat)
            case atStart => exact ⟨0, rfl, Nat.zero_le _, H11.out⟩
            case round =>
              obtain ⟨k, rfl, hk, H⟩ := hrel
              have bn : (n : Int) ≤ 500 := by rw [HD.out.2.2.2]; have := HL.out.2; omega
              by_cases hlt : k < n
              · have hkD : k < D.length := by rw [← HD.out.2.1]; exact hlt
                obtain ⟨g1, rfl, l1, r1⟩ := (H.row (A := A9) (n := n) (c := c9) (P := D) (by simp)) (Nat.zero_lt_of_lt hkD)
                obtain ⟨g2, rfl, l2, r2⟩ := (H.row (A := A5) (n := n) (c := c5) (P := D) (by simp)) (Nat.zero_lt_of_lt hkD)
                obtain ⟨v, hv⟩ : ∃ v, D[k]? = some v := ⟨_, List.getElem?_eq_getElem hkD⟩
                obtain ⟨p0, p1, p2⟩ := r1 k v hv
                obtain ⟨q0, q1, q2⟩ := r2 k v hv
                have b0 : (0 : Int) ≤ (k : Int) := by omega
                have b1 : (k : Int) < (n : Int) := by omega
                have HX := Lib.hid (fun j => H.drewN j)
                clear r1 r2 hv H
                go_wp2_with fail
                go_quiet (fail)
                go_wp2_with fail
                go_roundw
                case rel => exact ⟨k + 1, by go_num, by omega, HX.out _⟩
                case measure => simp [intOf]; omega
              · obtain rfl : k = n := by omega
                obtain ⟨⟨v, bt⟩, ev⟩ : ∃ v, v = topI (ord (xs L)) := ⟨_, rfl⟩
                have HT := Lib.hid (s1_top H ev)
                clear H
                go_wp2_with fail
                refine HT.out.mono ?_
                rintro e w10 ⟨rfl, H⟩
                have H := H.box #[.int .i64 v.id, .int .u64 v.d, .int .u64 v.n] 44
                obtain ⟨va, eva⟩ : ∃ va, va = w10.heap.size := ⟨_, rfl⟩
                obtain ⟨W, eW⟩ : ∃ W, W = w10.alloc (.cells #[.int .i64 v.id, .int .u64 v.d, .int .u64 v.n] 44) := ⟨_, rfl⟩
                rw [← eva, ← eW] at H
                have EW := Lib.hid (And.intro eva eW)
                have vb := H.blk (g := va) (t := 44) (cs := #[.int .i64 v.id, .int .u64 v.d, .int .u64 v.n]) (by simp)
                have v0 := vb.cell 0
                have v1 := vb.cell 1
                have v2 := vb.cell 2
                have vl := vb.lt
                simp at v0 v1 v2
                have hr := H.row (A := A9) (n := k) (c := c9) (P := D) (by simp)
                have HE := Lib.hid (fun j => (H.drewN j).bel)
                rw [← HD.out.1] at ev
                have hkn := HD.out.2.1
                clear H vb eva eW
                cases hD : D with
                | nil =>
                  rw [hD] at ev hkn
                  simp [topI] at ev hkn
                  obtain ⟨rfl, rfl⟩ := ev
                  subst hkn
                  clear hr hD
                  go_wp2_with fail
                  rw [← EW.out.2, ← EW.out.1]
                  go_quiet (fail)
                  go_wp2_with fail
                  go_ret
                  exact ⟨rfl, HE.out _⟩
                | cons d R =>
                  rw [hD] at ev hkn
                  simp only [topI, Prod.mk.injEq] at ev
                  obtain ⟨rfl, rfl⟩ := ev
                  obtain ⟨g1, rfl, l1, r1⟩ := hr (by rw [hD]; simp)
                  obtain ⟨p0, p1, p2⟩ := r1 0 v (by rw [hD]; rfl)
                  simp at p0 p1 p2
                  have bk : 0 < k := by simp at hkn; omega
                  have b1 : (0 : Int) < (k : Int) := by omega
                  have e0 : (v.id == v.id) = true := by simp
                  have e1 : (v.d == v.d) = true := by simp
                  have e2 : (v.n == v.n) = true := by simp
                  clear hr r1 hD hkn
                  go_wp2_with fail
                  rw [← EW.out.2, ← EW.out.1]
                  go_quiet (fail)
                  go_wp2_with fail
                  go_ret
                  exact ⟨rfl, HE.out _⟩

set_option maxHeartbeats 4000000 in
set_option maxRecDepth 100000 in
theorem leaves_law (w : World) (An Aa : Option Addr) (cn ca : Nat) (ns afs : List Int) (id now af : Int) (hid : I id) (hnow : U now) (haf : U af) (hA : ArgN .u16 0 65535 w An ns) (hB : ArgN .u16 0 65535 w Aa afs) :
    Calls Try.prog 8 #[.slice An ns.length cn, .slice Aa afs.length ca, .int .i64 id, .int .u64 now, .int .u64 af] w fun e w' => e = .returned (.bool true) ∧ Below w.heap.size w w' := by
  by_cases hn : ns.length ≤ 60
  · by_cases hz : ns.length ≤ afs.length
    · exact leaves_any w An Aa cn ca ns afs id now af hid hnow haf hn hz hA hB
    · clear hA hB
      have h1 : ¬ ((60 : Int) < (ns.length : Int)) := by omega
      have h2 : (afs.length : Int) < (ns.length : Int) := by omega
      clear hn hz
      go_enter Try.func8, Try.ntmps8
      go_wp2_with fail
      refine (alive_any w).mono ?_
      rintro e w1 ⟨rfl, hb1⟩
      have HB1 := Lib.hid hb1
      clear hb1
      go_wp2_with fail
      go_ret
      exact ⟨rfl, HB1.out⟩
  · clear hA hB
    have h1 : (60 : Int) < (ns.length : Int) := by omega
    clear hn
    go_enter Try.func8, Try.ntmps8
    go_wp2_with fail
    refine (alive_any w).mono ?_
    rintro e w1 ⟨rfl, hb1⟩
    have HB1 := Lib.hid hb1
    clear hb1
    go_wp2_with fail
    go_ret
    exact ⟨rfl, HB1.out⟩
end Go.Proofs.Ytncdohbdmpfefaa
