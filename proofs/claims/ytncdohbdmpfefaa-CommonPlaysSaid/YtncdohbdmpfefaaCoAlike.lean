/-
  CommonAlike.
-/
import Derived.Test.YtncdohbdmpfefaaCoOpen
import Derived.Deep.CutBlock
import Derived.Deep.RegionHeld3
import Derived.Deep.DeepCutAuto
namespace Go.Proofs.Ytncdohbdmpfefaa
open Go.RowKit Go.Maps Go.ChangeMaps Go.Shelf

section
variable {L L1 L2 : List En} {T : List Int} {nx : Int}
theorem xs_len : (xs L).length = L.length := by simp [xs]
theorem hasI_xs (h : xs L1 = xs L2) (j : Int) : hasI L1 j = hasI L2 j := by
  have e : ∀ L, hasI L j = (xs L).any fun x => x.id == j := fun L => by unfold hasI xs; rw [List.any_map]; rfl
  rw [e, e, h]
theorem xs_addT {id now after : Int} : xs (addT L T nx id now after) = if id < 0 then xs L else del id (xs L) ++ [⟨id, dl now after, nx⟩] := by
  unfold addT
  split
  · rfl
  · unfold addL
    rw [xs_append, xs_cut]; rfl
theorem cutL_le (k : Int) : (cutL k L).length ≤ L.length := List.length_filter_le _ _
theorem addT_le {id now after : Int} : (addT L T nx id now after).length ≤ L.length + 1 := by
  unfold addT
  split
  · omega
  · unfold addL
    have := cutL_le (L := L) id
    simp; omega
theorem addN_le {id : Int} : addN nx id ≤ nx + 1 := by unfold addN; split <;> omega
theorem cutAll_le : ∀ (D : List It) (L : List En), (cutAll D L).length ≤ L.length
  | [], L => Nat.le_refl _
  | x :: D, L => Nat.le_trans (cutAll_le D (cutL x.id L)) (cutL_le _)
theorem xs_cutAll : ∀ (D : List It) (L1 L2 : List En), xs L1 = xs L2 → xs (cutAll D L1) = xs (cutAll D L2)
  | [], _, _, h => h
  | x :: D, L1, L2, h => xs_cutAll D _ _ (by rw [xs_cut, xs_cut, h])
theorem ord_len (X : List It) : (ord X).length = X.length := (ord_perm X).length_eq
theorem dueD_len (now : Int) : (dueD now (xs L)).length ≤ L.length := by
  have h1 : (dueD now (xs L)).length ≤ (ord (xs L)).length := (List.takeWhile_sublist _).length_le
  rw [ord_len, xs_len] at h1
  exact h1
end

def encC (x : Cal) : Array Value := #[.int .i64 x.k, .int .i64 x.id, .int .u64 x.nw, .int .u64 x.af]
/-- A call that a law has laid. -/
def XB (xk : Nat) (x : Cal) : Fb := .blk xk 33 (encC x)
section
variable {Q1 Q2 : World → (Nat → Prop) → Prop} {w W : World} {F : List Fb} {xk : Nat} {x : Cal}
theorem xb_cells (H : St Q1 Q2 w W F) (hb : XB xk x ∈ F) :
    W.cell? ⟨xk, 0, none⟩ = some (.int .i64 x.k) ∧ W.cell? ⟨xk, 1, none⟩ = some (.int .i64 x.id) ∧ W.cell? ⟨xk, 2, none⟩ = some (.int .u64 x.nw) ∧ W.cell? ⟨xk, 3, none⟩ = some (.int .u64 x.af) ∧ xk < W.heap.size := by
  have b : Blk W xk 33 (encC x) := H.fact hb
  exact ⟨b.cell 0, b.cell 1, b.cell 2, b.cell 3, b.lt⟩
theorem xb_c3 (H : St Q1 Q2 w W F) (hb : XB xk x ∈ F) :
    W.cell? ⟨xk, 1, none⟩ = some (.int .i64 x.id) ∧ W.cell? ⟨xk, 2, none⟩ = some (.int .u64 x.nw) ∧ W.cell? ⟨xk, 3, none⟩ = some (.int .u64 x.af) := by
  obtain ⟨-, h1, h2, h3, -⟩ := xb_cells H hb
  exact ⟨h1, h2, h3⟩
theorem xb_c1 (H : St Q1 Q2 w W F) (hb : XB xk x ∈ F) : W.cell? ⟨xk, 1, none⟩ = some (.int .i64 x.id) := (xb_cells H hb).2.1
end

/-- The two sets. -/
def S2 (w : World) (s t : Nat) (T : List Int) (L1 L2 : List En) (nx : Int) (W : World) (F : List Fb) : Prop := St (SetQ w.heap.size s L1 T nx) (SetQ w.heap.size t L2 [] nx) w W F
def Mid (w : World) (s t k : Nat) (F : List Fb) (W : World) : Prop := ∃ T L1 L2 nx, S2 w s t T L1 L2 nx W F ∧ xs L1 = xs L2 ∧ nx ≤ (k : Int) ∧ L1.length ≤ k ∧ L2.length ≤ k
section
variable {w W : World} {s t : Nat} {T : List Int} {L1 L2 : List En} {nx : Int} {F : List Fb}
theorem S2.q1 : Stable (SetQ w.heap.size s L1 T nx) := setQ_stable _ _ _ _ _
theorem s2_add2 {n2 : Int} (H : St (SetQ w.heap.size s L1 T n2) (SetQ w.heap.size t L2 [] nx) w W F) {id now after : Int} (hid : I id) (hnow : U now) (haf : U after) (h1 : nx < 1000000) (hl : L2.length < 500) :
    Calls Try.prog 10 #[.pointer (some ⟨t, 0, none⟩), .int .i64 id, .int .u64 now, .int .u64 after] W fun e W' => e = .returned (.int .i64 (addE id)) ∧ St (SetQ w.heap.size s L1 T n2) (SetQ w.heap.size t (addT L2 [] nx id now after) [] (addN nx id)) w W' F := by
  refine (st_add (setQ_stable _ _ _ _ _) H.swap hid hnow haf h1 hl).mono ?_
  rintro e W' ⟨rfl, h⟩
  exact ⟨rfl, h.swap⟩
theorem s2_cut2 (H : S2 w s t T L1 L2 nx W F) {j : Int} (hj : I j) (b : Bool) (hb : b = hasI L2 j) :
    Calls Try.prog 12 #[.pointer (some ⟨t, 0, none⟩), .int .i64 j] W fun e W' => e = .returned (.bool b) ∧ S2 w s t T L1 (cutL j L2) nx W' F := by
  subst hb
  refine (st_cut (setQ_stable _ _ _ _ _) (St.swap H) hj).mono ?_
  rintro e W' ⟨rfl, h⟩
  exact ⟨rfl, h.swap⟩
theorem s2_due1 (H : S2 w s t T L1 L2 nx W F) {now : Int} (hnow : U now) {D : List It} (hd : D = dueD now (xs L1)) {n : Nat} (hn : n = D.length) :
    Calls Try.prog 14 #[.pointer (some ⟨s, 0, none⟩), .int .u64 now] W fun e W' => ∃ A c, e = .returned (.slice A n c) ∧ S2 w s t T (cutAll D L1) L2 nx W' (.row (.slice A n c) D :: F) := by
  subst hn; subst hd
  exact st_due (setQ_stable _ _ _ _ _) H hnow
theorem s2_due2 (H : S2 w s t T L1 L2 nx W F) {now : Int} (hnow : U now) {D : List It} (hd : D = dueD now (xs L2)) {n : Nat} (hn : n = D.length) :
    Calls Try.prog 14 #[.pointer (some ⟨t, 0, none⟩), .int .u64 now] W fun e W' => ∃ A c, e = .returned (.slice A n c) ∧ S2 w s t T L1 (cutAll D L2) nx W' (.row (.slice A n c) D :: F) := by
  subst hn; subst hd
  refine (st_due (setQ_stable _ _ _ _ _) (St.swap H) hnow).mono ?_
  rintro e W' ⟨A, c, rfl, h⟩
  exact ⟨A, c, rfl, h.swap⟩
theorem s2_top1 (H : S2 w s t T L1 L2 nx W F) {y : It} {b : Bool} (h : (y, b) = topI (ord (xs L1))) :
    Calls Try.prog 21 #[.pointer (some ⟨s, 0, none⟩)] W fun e W' => e = .returned (.tuple #[.agg #[.int .i64 y.id, .int .u64 y.d, .int .u64 y.n], .bool b]) ∧ S2 w s t T L1 L2 nx W' F := by
  have := st_top (setQ_stable _ _ _ _ _) H
  rw [← h] at this
  exact this
theorem s2_top2 (H : S2 w s t T L1 L2 nx W F) {y : It} {b : Bool} (h : (y, b) = topI (ord (xs L2))) :
    Calls Try.prog 21 #[.pointer (some ⟨t, 0, none⟩)] W fun e W' => e = .returned (.tuple #[.agg #[.int .i64 y.id, .int .u64 y.d, .int .u64 y.n], .bool b]) ∧ S2 w s t T L1 L2 nx W' F := by
  have := st_top (setQ_stable _ _ _ _ _) (St.swap H)
  rw [← h] at this
  refine this.mono ?_
  rintro e W' ⟨rfl, h⟩
  exact ⟨rfl, h.swap⟩
theorem s2_all1 (H : S2 w s t T L1 L2 nx W F) {D : List It} (hd : D = ord (xs L1)) {n : Nat} (hn : n = D.length) :
    Calls Try.prog 23 #[.pointer (some ⟨s, 0, none⟩)] W fun e W' => ∃ A c, e = .returned (.slice A n c) ∧ S2 w s t T L1 L2 nx W' (.row (.slice A n c) D :: F) := by
  subst hn; subst hd
  exact st_all (setQ_stable _ _ _ _ _) H
theorem s2_all2 (H : S2 w s t T L1 L2 nx W F) {D : List It} (hd : D = ord (xs L2)) {n : Nat} (hn : n = D.length) :
    Calls Try.prog 23 #[.pointer (some ⟨t, 0, none⟩)] W fun e W' => ∃ A c, e = .returned (.slice A n c) ∧ S2 w s t T L1 L2 nx W' (.row (.slice A n c) D :: F) := by
  subst hn; subst hd
  refine (st_all (setQ_stable _ _ _ _ _) (St.swap H)).mono ?_
  rintro e W' ⟨A, c, rfl, h⟩
  exact ⟨A, c, rfl, h.swap⟩
theorem s2_len1 (H : S2 w s t T L1 L2 nx W F) {n : Nat} (hn : n = L1.length) : Calls Try.prog 22 #[.pointer (some ⟨s, 0, none⟩)] W fun e W' => e = .returned (.int .i64 (n : Int)) ∧ W = W' := by
  subst hn; exact st_len H
theorem s2_len2 (H : S2 w s t T L1 L2 nx W F) {n : Nat} (hn : n = L2.length) : Calls Try.prog 22 #[.pointer (some ⟨t, 0, none⟩)] W fun e W' => e = .returned (.int .i64 (n : Int)) ∧ W = W' := by
  subst hn; exact st_len (St.swap H)
/-- Two rows of the same items. -/
theorem s2_same (H : S2 w s t T L1 L2 nx W F) {A1 A2 : Option Addr} {c1 c2 n : Nat} {D : List It} (h1 : Fb.row (.slice A1 n c1) D ∈ F) (h2 : Fb.row (.slice A2 n c2) D ∈ F) (hn : n = D.length) (hl : n ≤ 100000) :
    Calls Try.prog 15 #[.slice A1 n c1, .slice A2 n c2] W fun e W' => e = .returned (.bool true) ∧ S2 w s t T L1 L2 nx W' F := by
  have r1 := OwnI.rd (St.fact H h1 : Fb.holds W (.row (.slice A1 n c1) D))
  have r2 := OwnI.rd (St.fact H h2 : Fb.holds W (.row (.slice A2 n c2) D))
  subst hn
  refine (same_yes W A1 A2 c1 c2 D hl r1 r2).mono ?_
  rintro e W' ⟨rfl, j, rfl⟩
  exact ⟨rfl, St.drewN H (setQ_stable _ _ _ _ _) (setQ_stable _ _ _ _ _) j⟩
end

set_option maxHeartbeats 16000000 in
set_option maxRecDepth 100000 in
theorem alike_any (w : World) (A Az : Option Addr) (c cz : Nat) (l : List Cal) (zs : List Int) (hn : l.length ≤ 100) (hz : zs.length ≤ 10) (hA : ArgOps w A l) (hZ : ArgN .u64 0 18446744073709551615 w Az zs) :
    Calls Try.prog 5 #[.slice A l.length c, .slice Az zs.length cz] w fun e w' => e = .returned (.bool true) ∧ Below w.heap.size w w' := by
  have HA := Lib.hid (And.intro hA hZ)
  clear hA hZ
  go_enter Try.func5, Try.ntmps5
  go_wp2_with fail
  refine (alive_any w).mono ?_
  rintro e w1 ⟨rfl, hb1⟩
  have HB1 := Lib.hid ((st_start w).quiet noQ_stable noQ_stable hb1)
  clear hb1
  go_wp2_with fail
  refine (st_new noQ_stable HB1.out).mono ?_
  rintro e w2 ⟨s, rfl, H⟩
  have H2 := Lib.hid H.swap; clear H
  go_wp2_with fail
  refine (st_new (setQ_stable _ _ _ _ _) H2.out).mono ?_
  rintro e w3 ⟨t, rfl, H⟩
  have H3 := Lib.hid H.swap; clear H
  go_wp2_with fail
  go_loopw [8] (fun i wr => ∃ k : Nat, i = .int .i64 (k : Int) ∧ k ≤ zs.length ∧ ∃ T, S2 w s t T [] [] 0 wr []) (fun i _ => zs.length - (intOf i).toNat)
  case atStart => exact ⟨0, rfl, Nat.zero_le _, _, H3.out⟩
  case round =>
    obtain ⟨k, rfl, hk, T, H⟩ := hrel
    by_cases hlt : k < zs.length
    · obtain ⟨b, off, x, rfl, hbl, hz, hok, x0⟩ := HA.out.2.at_ (St.bel H) hlt
      have b0 : (0 : Int) ≤ (k : Int) := by omega
      have b1 : (k : Int) < (zs.length : Int) := by omega
      have HC := Lib.hid (st_common (setQ_stable _ _ _ _ _) H (t := x) hok)
      clear hz hok H
      go_wp2_with fail
      refine HC.out.mono ?_
      rintro e w4 ⟨rfl, H⟩
      have H4 := Lib.hid H; clear H
      go_wp2_with fail
      go_roundw
      case rel => exact ⟨k + 1, by go_num, by omega, _, H4.out⟩
      case measure => simp [intOf]; omega
    · obtain rfl : k = zs.length := by omega
      have H4 := Lib.hid H; clear H
      go_wp2_with fail
      go_loopw [9] (fun i wr => ∃ k : Nat, i = .int .i64 (k : Int) ∧ k ≤ l.length ∧ Mid w s t k [] wr) (fun i _ => l.length - (intOf i).toNat)
      case atStart => exact ⟨0, rfl, Nat.zero_le _, _, _, _, _, H4.out, rfl, Int.le_refl _, Nat.le_refl _, Nat.le_refl _⟩
      case round =>
        obtain ⟨k, rfl, hk, T, L1, L2, nx, H, hx, hnx, hl1, hl2⟩ := hrel
        by_cases hlt : k < l.length
        · obtain ⟨b, off, x, rfl, hbl, hz, hok, x0, x1, x2, x3⟩ := HA.out.1.at_ (St.bel H) hlt
          have hX := St.box H (setQ_stable _ _ _ _ _) (setQ_stable _ _ _ _ _) (encC x) 33
          have HO := Lib.hid (And.intro hok (And.intro hx (And.intro hnx (And.intro hl1 hl2))))
          have b0 : (0 : Int) ≤ (k : Int) := by omega
          have b1 : (k : Int) < (l.length : Int) := by omega
          obtain ⟨xk, exk⟩ : ∃ xk, xk = wr.heap.size := ⟨_, rfl⟩
          obtain ⟨W, eW⟩ : ∃ W, W = wr.alloc (.cells (encC x) 33) := ⟨_, rfl⟩
          rw [← exk, ← eW] at hX
          have HX := Lib.hid (show S2 w s t T L1 L2 nx W [XB xk x] from hX)
          unfold encC at eW
          obtain ⟨kd, ekd⟩ : ∃ kd, kd = x.k := ⟨_, rfl⟩
          have EK := Lib.hid ekd
          have c0 := (xb_cells HX.out List.mem_cons_self).1
          rw [eW, exk] at c0
          rw [← ekd] at c0 x0 eW
          have EW := Lib.hid (And.intro exk eW)
          have HN := Lib.hid (show nx < 1000000 ∧ L1.length < 500 ∧ L2.length < 500 from ⟨by omega, by omega, by omega⟩)
          clear ekd exk eW hX hz hok hx hnx hl1 hl2 H
          go_upto_block 4 with fail
          rw [← EW.out.1, ← EW.out.2]
          clear c0
          obtain ⟨c0, c1, c2, c3, cl⟩ := xb_cells HX.out List.mem_cons_self
          rw [← EK.out] at c0
          go_cut [11] (fun s11 wx => s11 = .bool true ∧ Mid w s t (k + 1) [XB xk x] wx)
          case first =>
            have hE := St.drew HX.out (setQ_stable _ _ _ _ _) (setQ_stable _ _ _ _ _)
            by_cases k0 : kd = 0
            · skip

              have HP := Lib.hid (st_add (setQ_stable _ _ _ _ _) hE HO.out.1.id HO.out.1.nw HO.out.1.af HN.out.1 HN.out.2.1)
              subst k0
              go_wp2_with fail
              go_region_held3 (fun W' => W'.cell? ⟨xk, 1, none⟩ = some (.int .i64 x.id) ∧ W'.cell? ⟨xk, 2, none⟩ = some (.int .u64 x.nw) ∧ W'.cell? ⟨xk, 3, none⟩ = some (.int .u64 x.af))
                (exact xb_c3 hE List.mem_cons_self)
                (first
                  | (go_at_call 10; with_reducible (refine HP.out.mono ?_); rintro e w5 ⟨rfl, hE⟩; have HQ := Lib.hid (s2_add2 hE HO.out.1.id HO.out.1.nw HO.out.1.af HN.out.1 HN.out.2.2))
                  | (go_at_call 10; with_reducible (refine HQ.out.mono ?_); rintro e w6 ⟨rfl, hE⟩))
              have H4 := Lib.hid (show Mid w s t (k + 1) [XB xk x] w6 from ⟨_, _, _, _, hE, by rw [xs_addT, xs_addT, HO.out.2.1], by have := addN_le (nx := nx) (id := x.id); have := HO.out.2.2.1; omega, Nat.le_trans addT_le (by have := HO.out.2.2.2.1; omega), Nat.le_trans addT_le (by have := HO.out.2.2.2.2; omega)⟩)
              clear hE
              go_wp2_with fail
              go_meet
              case rel => exact ⟨by simp, H4.out⟩
            have n0 : (kd == 0) = false := by simpa using k0
            by_cases k1 : kd = 1
            · skip

              have HP := Lib.hid (st_cut (setQ_stable _ _ _ _ _) hE HO.out.1.id)
              have HQ := Lib.hid (fun (W' : World) (h : St (SetQ w.heap.size s (cutL x.id L1) T nx) (SetQ w.heap.size t L2 [] nx) w W' [XB xk x]) => s2_cut2 h HO.out.1.id (hasI L1 x.id) (hasI_xs HO.out.2.1 _))
              subst k1
              clear k0
              go_wp2_with fail
              go_region_held3 (fun W' => W'.cell? ⟨xk, 1, none⟩ = some (.int .i64 x.id))
                (exact xb_c1 hE List.mem_cons_self)
                (first
                  | (go_at_call 12; with_reducible (refine HP.out.mono ?_); rintro e w5 ⟨rfl, hE⟩)
                  | (go_at_call 12; with_reducible (refine (HQ.out _ hE).mono ?_); rintro e w6 ⟨rfl, hE⟩))
              have H4 := Lib.hid (show Mid w s t (k + 1) [XB xk x] w6 from ⟨_, _, _, _, hE, by rw [xs_cut, xs_cut, HO.out.2.1], by have := HO.out.2.2.1; omega, Nat.le_trans (cutL_le _) (by have := HO.out.2.2.2.1; omega), Nat.le_trans (cutL_le _) (by have := HO.out.2.2.2.2; omega)⟩)
              clear hE
              go_wp2_with fail
              go_meet
              case rel => exact ⟨by simp, H4.out⟩
            have n1 : (kd == 1) = false := by simpa using k1
            clear hE
            by_cases k2 : kd = 2
            · skip

              obtain ⟨D, eD⟩ : ∃ D, D = dueD x.nw (xs L1) := ⟨_, rfl⟩
              obtain ⟨n, en⟩ : ∃ n, n = D.length := ⟨_, rfl⟩
              have HP := Lib.hid (s2_due1 HX.out HO.out.1.nw eD en)
              have ED := Lib.hid (show D = dueD x.nw (xs L2) ∧ n = D.length ∧ n ≤ 100000 from ⟨by rw [eD, HO.out.2.1], en, by rw [en, eD]; have := dueD_len (L := L1) x.nw; have := HN.out.2.1; omega⟩)
              subst k2
              clear k0 k1 eD en
              go_wp2_with fail
              refine HP.out.mono ?_
              rintro e w5 ⟨A5, c5, rfl, hE⟩
              have HQ := Lib.hid (s2_due2 hE HO.out.1.nw ED.out.1 ED.out.2.1)
              clear c0 c1 c2 c3 cl
              obtain ⟨c0, c1, c2, c3, cl⟩ := xb_cells hE (List.mem_cons_of_mem _ List.mem_cons_self)
              clear hE
              go_wp2_with fail
              refine HQ.out.mono ?_
              rintro e w6 ⟨A6, c6, rfl, hE⟩
              have HS := Lib.hid (s2_same hE (A1 := A5) (A2 := A6) (c1 := c5) (c2 := c6) (n := n) (D := D) (by simp) (by simp) ED.out.2.1 ED.out.2.2)
              clear hE
              go_wp2_with fail
              refine HS.out.mono ?_
              rintro e w7 ⟨rfl, hE⟩
              have H4 := Lib.hid (show Mid w s t (k + 1) [XB xk x] w7 from ⟨_, _, _, _, St.less hE (by simp), xs_cutAll _ _ _ HO.out.2.1, by have := HO.out.2.2.1; omega, Nat.le_trans (cutAll_le _ _) (by have := HO.out.2.2.2.1; omega), Nat.le_trans (cutAll_le _ _) (by have := HO.out.2.2.2.2; omega)⟩)
              clear hE
              go_wp2_with fail
              go_meet
              case rel => exact ⟨rfl, H4.out⟩
            · skip

              have n2 : (kd == 2) = false := by simpa using k2
              have H3 := Lib.hid (show Mid w s t (k + 1) [XB xk x] W from ⟨_, _, _, _, HX.out, HO.out.2.1, by have := HO.out.2.2.1; omega, by have := HO.out.2.2.2.1; omega, by have := HO.out.2.2.2.2; omega⟩)
              clear k0 k1 k2
              go_wp2_with fail
              go_meet
              case rel => exact ⟨rfl, H3.out⟩
          case rest =>

            clear c0 c1 c2 c3 cl HX EW HO HN x0 x1 x2 x3
            obtain ⟨rfl, T, L1, L2, nx, hX, hx, hnx, hl1, hl2⟩ := hcut
            obtain ⟨⟨y, bt⟩, ey⟩ : ∃ y, y = topI (ord (xs L1)) := ⟨_, rfl⟩
            obtain ⟨D, eD⟩ : ∃ D, D = ord (xs L1) := ⟨_, rfl⟩
            obtain ⟨n, en⟩ : ∃ n, n = D.length := ⟨_, rfl⟩
            obtain ⟨m, em⟩ : ∃ m, m = L1.length := ⟨_, rfl⟩
            have HO := Lib.hid (show xs L1 = xs L2 ∧ nx ≤ ((k + 1 : Nat) : Int) ∧ L1.length ≤ k + 1 ∧ L2.length ≤ k + 1 from ⟨hx, hnx, hl1, hl2⟩)
            have E1 := Lib.hid (show (y, bt) = topI (ord (xs L1)) ∧ D = ord (xs L1) ∧ m = L1.length ∧ n = D.length ∧ n ≤ 100000 from ⟨ey, eD, em, en, by rw [en, eD, ord_len, xs_len]; omega⟩)
            have E2 := Lib.hid (show (y, bt) = topI (ord (xs L2)) ∧ D = ord (xs L2) ∧ m = L2.length from ⟨by rw [ey, hx], by rw [eD, hx], by rw [em, ← xs_len, hx, xs_len]⟩)
            have HX := Lib.hid hX
            clear hX hx hnx hl1 hl2 ey eD en em
            go_wp2_with fail
            refine (s2_top1 HX.out E1.out.1).mono ?_
            rintro e w5 ⟨rfl, hE⟩
            have H5 := Lib.hid (St.box hE (setQ_stable _ _ _ _ _) (setQ_stable _ _ _ _ _) #[.int .i64 y.id, .int .u64 y.d, .int .u64 y.n] 44)
            clear hE
            go_wp2_with fail
            refine (s2_top2 H5.out E2.out.1).mono ?_
            rintro e w6 ⟨rfl, hE⟩
            have hE := St.box hE (setQ_stable _ _ _ _ _) (setQ_stable _ _ _ _ _) #[.int .i64 y.id, .int .u64 y.d, .int .u64 y.n] 44
            obtain ⟨ya, eya⟩ : ∃ ya, ya = w5.heap.size := ⟨_, rfl⟩
            obtain ⟨za, eza⟩ : ∃ za, za = w6.heap.size := ⟨_, rfl⟩
            obtain ⟨W6, eW6⟩ : ∃ W6, W6 = w6.alloc (.cells #[.int .i64 y.id, .int .u64 y.d, .int .u64 y.n] 44) := ⟨_, rfl⟩
            rw [← eya, ← eza, ← eW6] at hE
            have H6 := Lib.hid (show S2 w s t T L1 L2 nx W6 [.blk za 44 #[.int .i64 y.id, .int .u64 y.d, .int .u64 y.n], .blk ya 44 #[.int .i64 y.id, .int .u64 y.d, .int .u64 y.n], XB xk x] from hE)
            have EA := Lib.hid (And.intro eya (And.intro eza eW6))
            have ba : Blk W6 ya _ _ := St.fact H6.out (f := .blk ya 44 #[.int .i64 y.id, .int .u64 y.d, .int .u64 y.n]) (by simp)
            have bz : Blk W6 za _ _ := St.fact H6.out (f := .blk za 44 #[.int .i64 y.id, .int .u64 y.d, .int .u64 y.n]) (by simp)
            have a0 := ba.cell 0
            have a1 := ba.cell 1
            have a2 := ba.cell 2
            have al := ba.lt
            have z0 := bz.cell 0
            have z1 := bz.cell 1
            have z2 := bz.cell 2
            have zl := bz.lt
            simp at a0 a1 a2 z0 z1 z2
            rw [eya, eW6] at a0 a1 a2 al
            rw [eza, eW6] at z0 z1 z2 zl
            have e0 : (y.id == y.id) = true := by simp
            have e1 : (y.d == y.d) = true := by simp
            have e2 : (y.n == y.n) = true := by simp
            have eb : (bt == bt) = true := by simp
            clear hE eya eza eW6 ba bz
            go_wp2_with fail
            rw [← EA.out.2.2]
            clear a0 a1 a2 al z0 z1 z2 zl
            refine (s2_all1 H6.out E1.out.2.1 E1.out.2.2.2.1).mono ?_
            rintro e w7 ⟨A7, c7, rfl, hE⟩
            have H7 := Lib.hid hE; clear hE
            go_wp2_with fail
            refine (s2_all2 H7.out E2.out.2.1 E1.out.2.2.2.1).mono ?_
            rintro e w8 ⟨A8, c8, rfl, hE⟩
            have HS := Lib.hid (s2_same hE (A1 := A7) (A2 := A8) (c1 := c7) (c2 := c8) (n := n) (D := D) (by simp) (by simp) E1.out.2.2.2.1 E1.out.2.2.2.2)
            clear hE
            go_wp2_with fail
            refine HS.out.mono ?_
            rintro e w9 ⟨rfl, hE⟩
            have H9 := Lib.hid hE; clear hE
            have HL1 := Lib.hid (s2_len1 H9.out E1.out.2.2.1)
            have HL2 := Lib.hid (s2_len2 H9.out E2.out.2.2)
            go_wp2_with (first
              | (go_at_call 22; with_reducible (refine HL1.out.mono ?_); rintro e w' ⟨rfl, rfl⟩)
              | (go_at_call 22; with_reducible (refine HL2.out.mono ?_); rintro e w' ⟨rfl, rfl⟩)
              | fail)
            go_roundw
            case rel => exact ⟨k + 1, by go_num, by omega, T, L1, L2, nx, St.less H9.out (fun f hf => by simp at hf), HO.out.1, HO.out.2.1, HO.out.2.2.1, HO.out.2.2.2⟩
            case measure => simp [intOf]; omega
        · obtain rfl : k = l.length := by omega
          have H9 := Lib.hid (St.bel H); clear H
          go_wp2_with fail
          go_ret
          exact ⟨rfl, H9.out⟩

set_option maxHeartbeats 4000000 in
set_option maxRecDepth 100000 in
theorem alike_law (w : World) (A Az : Option Addr) (c cz : Nat) (l : List Cal) (zs : List Int) (hA : ArgOps w A l) (hZ : ArgN .u64 0 18446744073709551615 w Az zs) :
    Calls Try.prog 5 #[.slice A l.length c, .slice Az zs.length cz] w fun e w' => e = .returned (.bool true) ∧ Below w.heap.size w w' := by
  by_cases hn : l.length ≤ 100
  · by_cases hz : zs.length ≤ 10
    · exact alike_any w A Az c cz l zs hn hz hA hZ
    · clear hA hZ
      have h1 : ¬ ((100 : Int) < (l.length : Int)) := by omega
      have h2 : (10 : Int) < (zs.length : Int) := by omega
      clear hn hz
      go_enter Try.func5, Try.ntmps5
      go_wp2_with fail
      refine (alive_any w).mono ?_
      rintro e w1 ⟨rfl, hb1⟩
      have HB1 := Lib.hid hb1
      clear hb1
      go_wp2_with fail
      go_ret
      exact ⟨rfl, HB1.out⟩
  · clear hA hZ
    have h1 : (100 : Int) < (l.length : Int) := by omega
    clear hn
    go_enter Try.func5, Try.ntmps5
    go_wp2_with fail
    refine (alive_any w).mono ?_
    rintro e w1 ⟨rfl, hb1⟩
    have HB1 := Lib.hid hb1
    clear hb1
    go_wp2_with fail
    go_ret
    exact ⟨rfl, HB1.out⟩
end Go.Proofs.Ytncdohbdmpfefaa
