/-
  CommonPlays.
-/
import Derived.Test.YtncdohbdmpfefaaCoPl
namespace Go.Proofs.Ytncdohbdmpfefaa
open Go.RowKit Go.Maps Go.ChangeMaps Go.Shelf Go.Sort

/-- What a round keeps. -/
def PMid (w : World) (s r k : Nat) (F : List Fb) (W : World) : Prop := ∃ T L nx, P2 w s r T L nx W F ∧ nx ≤ (k : Int) ∧ L.length ≤ k
/-- What is found among the first ones. -/
def fnd (D : List It) (k : Nat) (id : Int) : Option It := (D.take k).find? fun x => x.id == id
theorem fnd_step {D : List It} {k : Nat} {x : It} {id : Int} (hu : Uniq D) (hx : D[k]? = some x) : fnd D (k + 1) id = if x.id = id then some x else fnd D k id := by
  unfold fnd
  rw [List.take_add_one, hx, List.find?_append]
  by_cases h : x.id = id
  · rw [if_pos h]
    have hn : (D.take k).find? (fun x => x.id == id) = none := by
      rw [List.find?_eq_none]
      intro y hy
      simp only [beq_iff_eq]
      intro e
      obtain ⟨j, hj⟩ := List.mem_iff_getElem?.1 hy
      rw [List.getElem?_take] at hj
      split at hj
      · rename_i hjk
        have h2 : (D.map (·.id))[j]? = some y.id := by rw [List.getElem?_map, hj]; rfl
        have h3 : (D.map (·.id))[k]? = some x.id := by rw [List.getElem?_map, hx]; rfl
        rw [e, ← h, ← h3] at h2
        have hjl := (List.getElem?_eq_some_iff.1 hj).1
        have := (List.getElem?_inj (by simpa using hjl) hu).1 h2
        omega
      · cases hj
    rw [hn]
    simp [h]
  · rw [if_neg h]
    cases hf : (D.take k).find? (fun x => x.id == id) with
    | none => simp [h]
    | some y => rfl
theorem fnd_all {L : List En} (hn : (L.map fun e => e.x.id).Nodup) {id : Int} : ((fnd (ord (xs L)) (ord (xs L)).length id).getD ⟨0, 0, 0⟩ = getI L id) ∧ ((fnd (ord (xs L)) (ord (xs L)).length id).isSome = hasI L id) := by
  unfold fnd
  rw [List.take_length]
  cases hh : hasI L id with
  | true =>
    obtain ⟨e, he, hid⟩ := hasI_true.1 hh
    rw [getI_yes hn he hid]
    have hm : e.x ∈ ord (xs L) := (ord_perm _).mem_iff.2 (List.mem_map_of_mem (f := fun e : En => e.x) he)
    cases hf : (ord (xs L)).find? (fun x => x.id == id) with
    | none =>
      rw [List.find?_eq_none] at hf
      exact absurd hid (by simpa using hf e.x hm)
    | some y =>
      have h1 : y.id = id := by simpa using List.find?_some hf
      have h2 := (ord_perm _).mem_iff.1 (List.mem_of_find?_eq_some hf)
      obtain ⟨e2, he2, rfl⟩ := List.mem_map.1 h2
      have := en_inj hn he2 he (by rw [h1, hid])
      subst this
      exact ⟨rfl, rfl⟩
  | false =>
    rw [getI_no hh]
    have hf : (ord (xs L)).find? (fun x => x.id == id) = none := by
      rw [List.find?_eq_none]
      intro y hy
      obtain ⟨e, he, rfl⟩ := List.mem_map.1 ((ord_perm _).mem_iff.1 hy)
      simpa using hasI_false.1 hh e he
    rw [hf]
    exact ⟨rfl, rfl⟩

theorem top_or {t : It} {tb : Bool} {D : List It} (h : (t, tb) = topI D) : (tb = false ∧ D = []) ∨ (tb = true ∧ ∃ R, D = t :: R) := by
  cases D with
  | nil => exact .inl ⟨congrArg Prod.snd h, rfl⟩
  | cons d R => exact .inr ⟨congrArg Prod.snd h, R, by rw [show t = d from congrArg Prod.fst h]⟩
/-- The cells that the round's last comparisons read. -/
theorem pl_c9 {w W : World} {s r : Nat} {T : List Int} {L : List En} {nx : Int} {F : List Fb} {y z t : It} {ya za ta : Nat} (H : P2 w s r T L nx W F) (hy : Fb.blk ya 44 #[.int .i64 y.id, .int .u64 y.d, .int .u64 y.n] ∈ F) (hz : Fb.blk za 44 #[.int .i64 z.id, .int .u64 z.d, .int .u64 z.n] ∈ F) (ht : Fb.blk ta 44 #[.int .i64 t.id, .int .u64 t.d, .int .u64 t.n] ∈ F) :
    W.cell? ⟨ya, 0, none⟩ = some (.int .i64 y.id) ∧ W.cell? ⟨ya, 1, none⟩ = some (.int .u64 y.d) ∧ W.cell? ⟨ya, 2, none⟩ = some (.int .u64 y.n) ∧
      W.cell? ⟨za, 0, none⟩ = some (.int .i64 z.id) ∧ W.cell? ⟨za, 1, none⟩ = some (.int .u64 z.d) ∧ W.cell? ⟨za, 2, none⟩ = some (.int .u64 z.n) ∧
      W.cell? ⟨ta, 0, none⟩ = some (.int .i64 t.id) ∧ W.cell? ⟨ta, 1, none⟩ = some (.int .u64 t.d) ∧ W.cell? ⟨ta, 2, none⟩ = some (.int .u64 t.n) := by
  have b1 := H.blk hy
  have b2 := H.blk hz
  have b3 := H.blk ht
  exact ⟨b1.cell 0, b1.cell 1, b1.cell 2, b2.cell 0, b2.cell 1, b2.cell 2, b3.cell 0, b3.cell 1, b3.cell 2⟩

theorem pl_c12 {w W : World} {s r : Nat} {T : List Int} {L : List En} {nx : Int} {F : List Fb} {y z t : It} {ya za ta g n c : Nat} {D R : List It} (H : P2 w s r T L nx W F) (hy : Fb.blk ya 44 #[.int .i64 y.id, .int .u64 y.d, .int .u64 y.n] ∈ F) (hz : Fb.blk za 44 #[.int .i64 z.id, .int .u64 z.d, .int .u64 z.n] ∈ F) (ht : Fb.blk ta 44 #[.int .i64 t.id, .int .u64 t.d, .int .u64 t.n] ∈ F) (hg : Fb.row (.slice (some ⟨g, 0, none⟩) n c) D ∈ F) (hD : D = t :: R) :
    W.cell? ⟨ya, 0, none⟩ = some (.int .i64 y.id) ∧ W.cell? ⟨ya, 1, none⟩ = some (.int .u64 y.d) ∧ W.cell? ⟨ya, 2, none⟩ = some (.int .u64 y.n) ∧
      W.cell? ⟨za, 0, none⟩ = some (.int .i64 z.id) ∧ W.cell? ⟨za, 1, none⟩ = some (.int .u64 z.d) ∧ W.cell? ⟨za, 2, none⟩ = some (.int .u64 z.n) ∧
      W.cell? ⟨ta, 0, none⟩ = some (.int .i64 t.id) ∧ W.cell? ⟨ta, 1, none⟩ = some (.int .u64 t.d) ∧ W.cell? ⟨ta, 2, none⟩ = some (.int .u64 t.n) ∧
      W.cell? ⟨g, 0, none⟩ = some (.int .i64 t.id) ∧ W.cell? ⟨g, 1, none⟩ = some (.int .u64 t.d) ∧ W.cell? ⟨g, 2, none⟩ = some (.int .u64 t.n) := by
  obtain ⟨a0, a1, a2, a3, a4, a5, a6, a7, a8⟩ := pl_c9 H hy hz ht
  subst hD
  obtain ⟨g', e, -, hr⟩ := (H.row hg) (Nat.zero_lt_succ _)
  obtain rfl : g = g' := by injection e with e; injection e
  obtain ⟨d0, d1, d2⟩ := hr 0 t rfl
  exact ⟨a0, a1, a2, a3, a4, a5, a6, a7, a8, by simpa using d0, by simpa using d1, by simpa using d2⟩

theorem pl_same2 {w W : World} {s r : Nat} {T : List Int} {L : List En} {nx : Int} {F : List Fb} {A1 A2 : Option Addr} {c1 c2 n : Nat} {D : List It} (H : P2 w s r T L nx W (.row (.slice A1 n c1) D :: F)) (h2 : Fb.row (.slice A2 n c2) D ∈ Fb.row (.slice A1 n c1) D :: F) (hn : n = D.length) (hl : n ≤ 100000) :
    Calls Try.prog 15 #[.slice A1 n c1, .slice A2 n c2] W fun e W' => e = .returned (.bool true) ∧ P2 w s r T L nx W' (.row (.slice A1 n c1) D :: F) := pl_same (setQ_stable _ _ _ _ _) (refQ_stable _ _ _ _ _) H List.mem_cons_self h2 hn hl

set_option maxHeartbeats 16000000 in
set_option maxRecDepth 100000 in
theorem plays_any (w : World) (A : Option Addr) (c : Nat) (l : List Cal) (hn : l.length ≤ 100) (hA : ArgOps w A l) :
    Calls Try.prog 3 #[.slice A l.length c] w fun e w' => e = .returned (.bool true) ∧ Below w.heap.size w w' := by
  have HA := Lib.hid hA
  clear hA
  go_enter Try.func3, Try.ntmps3
  go_wp2_with fail
  refine (st_new noQ_stable (st_start w)).mono ?_
  rintro e w2 ⟨s, rfl, H⟩
  have H2 := pl_start (show S1 w s [] [] 0 w2 [] from H)
  obtain ⟨r, er⟩ : ∃ r, r = w2.heap.size := ⟨_, rfl⟩
  rw [← er] at H2
  have ER := Lib.hid er
  have H2 := Lib.hid H2
  clear H er
  go_wp2_with fail
  rw [← ER.out]
  go_loopw [5] (fun i wr => ∃ k : Nat, i = .int .i64 (k : Int) ∧ k ≤ l.length ∧ PMid w s r k [] wr) (fun i _ => l.length - (intOf i).toNat)
  case atStart => exact ⟨0, rfl, Nat.zero_le _, _, _, _, H2.out, Int.le_refl _, Nat.le_refl _⟩
  case round =>
    obtain ⟨k, rfl, hk, T, L, nx, H, hnx, hl⟩ := hrel
    by_cases hlt : k < l.length
    · obtain ⟨b, off, x, rfl, hbl, hz, hok, x0, x1, x2, x3⟩ := HA.out.at_ H.bel hlt
      have hX := H.box (encC x) 33
      have HO := Lib.hid (And.intro hok (And.intro hnx (And.intro hl H.inv)))
      have b0 : (0 : Int) ≤ (k : Int) := by omega
      have b1 : (k : Int) < (l.length : Int) := by omega
      obtain ⟨xk, exk⟩ : ∃ xk, xk = wr.heap.size := ⟨_, rfl⟩
      obtain ⟨W, eW⟩ : ∃ W, W = wr.alloc (.cells (encC x) 33) := ⟨_, rfl⟩
      rw [← exk, ← eW] at hX
      have HX := Lib.hid (show P2 w s r T L nx W [XB xk x] from hX)
      unfold encC at eW
      obtain ⟨kd, ekd⟩ : ∃ kd, kd = x.k := ⟨_, rfl⟩
      have EK := Lib.hid ekd
      have c0 := (xb_cells HX.out List.mem_cons_self).1
      rw [eW, exk] at c0
      rw [← ekd] at c0 x0 eW
      have EW := Lib.hid (And.intro exk eW)
      have HN := Lib.hid (show nx < 1000000 ∧ L.length < 500 from ⟨by omega, by omega⟩)
      clear ekd exk eW hX hz hok hnx hl H
      go_upto_block 2 with fail
      rw [← EW.out.1, ← EW.out.2]
      clear c0
      obtain ⟨c0, c1, c2, c3, cl⟩ := xb_cells HX.out List.mem_cons_self
      rw [← EK.out] at c0
      go_cut [7] (fun s7 wx => s7 = .bool true ∧ PMid w s r (k + 1) [XB xk x] wx)
      case first =>
        have hE := HX.out.drew
        by_cases k0 : kd = 0
        · have HP := Lib.hid (pl_add hE HO.out.1.id HO.out.1.nw HO.out.1.af HN.out.1 HN.out.2)
          have HQ := Lib.hid (fun (W' : World) (h : St (SetQ w.heap.size s (addT L T nx x.id x.nw x.af) T (addN nx x.id)) (RefQ w.heap.size r L T nx) w W' [XB xk x]) => pl_radd HO.out.2.2.2 h HO.out.1.id HO.out.1.nw HO.out.1.af HN.out.1 HN.out.2)
          subst k0
          go_wp2_with fail
          go_region_held3 (fun W' => W'.cell? ⟨xk, 1, none⟩ = some (.int .i64 x.id) ∧ W'.cell? ⟨xk, 2, none⟩ = some (.int .u64 x.nw) ∧ W'.cell? ⟨xk, 3, none⟩ = some (.int .u64 x.af))
            (exact xb_c3 hE List.mem_cons_self)
            (first
              | (go_at_call 10; with_reducible (refine HP.out.mono ?_); rintro e w5 ⟨rfl, hE⟩)
              | (go_at_call 11; with_reducible (refine (HQ.out _ hE).mono ?_); rintro e w6 ⟨rfl, hE⟩))
          have H4 := Lib.hid (show PMid w s r (k + 1) [XB xk x] w6 from ⟨_, _, _, hE, by have := addN_le (nx := nx) (id := x.id); have := HO.out.2.1; omega, Nat.le_trans addT_le (by have := HO.out.2.2.1; omega)⟩)
          clear hE
          go_wp2_with fail
          go_meet
          case rel => exact ⟨by simp, H4.out⟩
        have n0 : (kd == 0) = false := by simpa using k0
        by_cases k1 : kd = 1
        · have HP := Lib.hid (pl_cut hE HO.out.1.id)
          have HQ := Lib.hid (fun (W' : World) (h : St (SetQ w.heap.size s (cutL x.id L) T nx) (RefQ w.heap.size r L T nx) w W' [XB xk x]) => pl_rcut HO.out.2.2.2 h x.id)
          subst k1
          clear k0
          go_wp2_with fail
          go_region_held3 (fun W' => W'.cell? ⟨xk, 1, none⟩ = some (.int .i64 x.id))
            (exact xb_c1 hE List.mem_cons_self)
            (first
              | (go_at_call 12; with_reducible (refine HP.out.mono ?_); rintro e w5 ⟨rfl, hE⟩)
              | (go_at_call 13; with_reducible (refine (HQ.out _ hE).mono ?_); rintro e w6 ⟨rfl, hE⟩))
          have H4 := Lib.hid (show PMid w s r (k + 1) [XB xk x] w6 from ⟨_, _, _, hE, by have := HO.out.2.1; omega, Nat.le_trans (cutL_le _) (by have := HO.out.2.2.1; omega)⟩)
          clear hE
          go_wp2_with fail
          go_meet
          case rel => exact ⟨by simp, H4.out⟩
        have n1 : (kd == 1) = false := by simpa using k1
        by_cases k3 : kd = 3
        · have HP := Lib.hid (pl_common hE HO.out.1.af)
          have HQ := Lib.hid (fun (W' : World) (h : St (SetQ w.heap.size s L (comT T x.af) nx) (RefQ w.heap.size r L T nx) w W' [XB xk x]) => pl_rmake HO.out.2.2.2 h HO.out.1.af)
          subst k3
          clear k0 k1
          go_wp2_with fail
          go_region_held3 (fun W' => W'.cell? ⟨xk, 3, none⟩ = some (.int .u64 x.af))
            (exact (xb_c3 hE List.mem_cons_self).2.2)
            (first
              | (go_at_call 17; with_reducible (refine HP.out.mono ?_); rintro e w5 ⟨rfl, hE⟩)
              | (go_at_call 18; with_reducible (refine (HQ.out _ hE).mono ?_); rintro e w6 ⟨rfl, hE⟩))
          have H4 := Lib.hid (show PMid w s r (k + 1) [XB xk x] w6 from ⟨_, _, _, hE, by have := HO.out.2.1; omega, by have := HO.out.2.2.1; omega⟩)
          clear hE
          go_wp2_with fail
          go_meet
          case rel => exact ⟨by simp, H4.out⟩
        have n3 : (kd == 3) = false := by simpa using k3
        clear hE
        by_cases k2 : kd = 2
        · obtain ⟨D, eD⟩ : ∃ D, D = dueD x.nw (xs L) := ⟨_, rfl⟩
          obtain ⟨n, en⟩ : ∃ n, n = D.length := ⟨_, rfl⟩
          have HP := Lib.hid (pl_due HX.out HO.out.1.nw eD en)
          have ED := Lib.hid (show D = dueD x.nw (xs L) ∧ n = D.length ∧ n ≤ 100000 from ⟨eD, en, by rw [en, eD]; have := dueD_len (L := L) x.nw; have := HN.out.2; omega⟩)
          subst k2
          clear k0 k1 k3 eD en
          go_wp2_with fail
          refine HP.out.mono ?_
          rintro e w5 ⟨A5, c5, rfl, hE⟩
          have HQ := Lib.hid (pl_rdue HO.out.2.2.2 hE x.nw ED.out.1 ED.out.2.1)
          clear c0 c1 c2 c3 cl
          obtain ⟨c0, c1, c2, c3, cl⟩ := xb_cells hE (List.mem_cons_of_mem _ List.mem_cons_self)
          clear hE
          go_wp2_with fail
          refine HQ.out.mono ?_
          rintro e w6 ⟨A6, c6, rfl, hE⟩
          have HS := Lib.hid (pl_same (setQ_stable _ _ _ _ _) (refQ_stable _ _ _ _ _) hE (A1 := A5) (A2 := A6) (c1 := c5) (c2 := c6) (n := n) (D := D) (by simp) (by simp) ED.out.2.1 ED.out.2.2)
          clear hE
          go_wp2_with fail
          refine HS.out.mono ?_
          rintro e w7 ⟨rfl, hE⟩
          have H4 := Lib.hid (show PMid w s r (k + 1) [XB xk x] w7 from ⟨_, _, _, St.less hE (by simp), by have := HO.out.2.1; omega, Nat.le_trans (cutAll_le _ _) (by have := HO.out.2.2.1; omega)⟩)
          clear hE
          go_wp2_with fail
          go_meet
          case rel => exact ⟨rfl, H4.out⟩
        · have n2 : (kd == 2) = false := by simpa using k2
          have H3 := Lib.hid (show PMid w s r (k + 1) [XB xk x] W from ⟨_, _, _, HX.out, by have := HO.out.2.1; omega, by have := HO.out.2.2.1; omega⟩)
          clear k0 k1 k2 k3
          go_wp2_with fail
          go_meet
          case rel => exact ⟨rfl, H3.out⟩
      case rest =>
        clear c0 c1 c2 c3 cl HX EW HN x0 x1 x2 x3
        obtain ⟨rfl, T, L, nx, hX, hnx, hl⟩ := hcut
        obtain ⟨D, eD⟩ : ∃ D, D = ord (xs L) := ⟨_, rfl⟩
        obtain ⟨n, en⟩ : ∃ n, n = D.length := ⟨_, rfl⟩
        obtain ⟨y, ey⟩ : ∃ y, y = getI L x.id := ⟨_, rfl⟩
        obtain ⟨yb, eyb⟩ : ∃ yb, yb = hasI L x.id := ⟨_, rfl⟩
        have hnL : n = L.length := by rw [en, eD, ord_len, xs_len]
        have hn1 : (n : Int) ≤ 100000 := by omega
        have HO2 := Lib.hid (And.intro hX.inv (And.intro hnx (And.intro hl (And.intro eD (And.intro en (And.intro ey (And.intro eyb hnL)))))))
        have HX := Lib.hid hX
        clear hX hnx hl eD en ey eyb hnL
        go_wp2_with fail
        refine (pl_rall HX.out HO2.out.2.2.2.1 HO2.out.2.2.2.2.1).mono ?_
        rintro e w3 ⟨A9, c9, rfl, hE⟩
        obtain ⟨-, c1, -, -, cl⟩ := xb_cells hE (List.mem_cons_of_mem _ List.mem_cons_self)
        have H4 := Lib.hid hE
        clear hE
        go_wp2_with fail
        refine (pl_find H4.out HO.out.1.id HO2.out.2.2.2.2.2.1 HO2.out.2.2.2.2.2.2.1).mono ?_
        rintro e w4 ⟨rfl, hE⟩
        have HLo := Lib.hid (show ∀ f ∈ [Fb.row (.slice A9 n c9) D, XB xk x], ∀ i, f.uses i → i < w4.heap.size from fun f hf i hi => Fb.lt (St.fact hE hf) hi)
        have hE := hE.box #[.int .i64 y.id, .int .u64 y.d, .int .u64 y.n] 44
        obtain ⟨ya, eya⟩ : ∃ ya, ya = w4.heap.size := ⟨_, rfl⟩
        obtain ⟨W4, eW4⟩ : ∃ W4, W4 = w4.alloc (.cells #[.int .i64 y.id, .int .u64 y.d, .int .u64 y.n] 44) := ⟨_, rfl⟩
        rw [← eya, ← eW4] at hE
        have hsz : W4.heap.size = w4.heap.size + 1 := by rw [eW4]; simp
        have EW4 := Lib.hid (And.intro eya eW4)
        have hE := hE.box #[.int .i64 0, .int .u64 0, .int .u64 0] 44
        rw [hsz] at hE
        obtain ⟨za, eza⟩ : ∃ za, za = w4.heap.size + 1 := ⟨_, rfl⟩
        obtain ⟨W5, eW5⟩ : ∃ W5, W5 = W4.alloc (.cells #[.int .i64 0, .int .u64 0, .int .u64 0] 44) := ⟨_, rfl⟩
        rw [← eza, ← eW5] at hE
        have EW5 := Lib.hid (And.intro eza eW5)
        have H5 := Lib.hid hE
        clear hE eya eW4 eza eW5 c1 cl hsz
        have HLo2 := Lib.hid (show ya ≠ za ∧ ∀ f ∈ [Fb.row (.slice A9 n c9) D, XB xk x], ¬ f.uses za from ⟨by rw [EW4.out.1, EW5.out.1]; omega, fun f hf hu => by have := HLo.out f hf za hu; rw [EW5.out.1] at this; omega⟩)
        go_upto_region 24 with fail
        rw [← EW4.out.2, ← EW5.out.2, ← EW5.out.1, ← EW4.out.1]
        go_wp2_with fail
        go_loopw [13, 14] (fun f i wr => ∃ (j : Nat) (fb : Bool) (v : It), i = .int .i64 (j : Int) ∧ f = .bool fb ∧ j ≤ n ∧ fb = (fnd D j x.id).isSome ∧ v = (fnd D j x.id).getD ⟨0, 0, 0⟩ ∧ P2 w s r T L nx wr [.blk za 44 #[.int .i64 v.id, .int .u64 v.d, .int .u64 v.n], .blk ya 44 #[.int .i64 y.id, .int .u64 y.d, .int .u64 y.n], .row (.slice A9 n c9) D, XB xk x]) (fun _ i _ => n - (intOf i).toNat)
        case atStart => exact ⟨0, false, ⟨0, 0, 0⟩, rfl, rfl, Nat.zero_le _, rfl, rfl, H5.out⟩
        case round =>
          obtain ⟨j, fb, v, rfl, rfl, hj, hfb, hv, H⟩ := hrel
          by_cases hjn : j < n
          · have hjD : j < D.length := by rw [← HO2.out.2.2.2.2.1]; exact hjn
            obtain ⟨d, hd⟩ : ∃ d, D[j]? = some d := ⟨_, List.getElem?_eq_getElem hjD⟩
            obtain ⟨g, rfl, gl, hrow⟩ := (H.row (A := A9) (n := n) (c := c9) (P := D) (by simp)) (Nat.zero_lt_of_lt hjD)
            obtain ⟨d0, d1, d2⟩ := hrow j d hd
            obtain ⟨-, c1, -, -, cl⟩ := xb_cells H (by simp : XB xk x ∈ _)
            have hu : Uniq D := by
              rw [HO2.out.2.2.2.1]
              exact (HO2.out.1.uniq).perm (ord_perm _)
            have hst := fnd_step (id := x.id) hu hd
            have b2 : (0 : Int) ≤ (j : Int) := by omega
            have b3 : (j : Int) < (n : Int) := by omega
            have HD := Lib.hid (fun q => H.drewN q)
            by_cases hid : d.id = x.id
            · rw [if_pos hid] at hst
              have HV := Lib.hid (show true = (fnd D (j + 1) x.id).isSome ∧ d = (fnd D (j + 1) x.id).getD ⟨0, 0, 0⟩ from by rw [hst]; exact ⟨rfl, rfl⟩)
              have f1 : (d.id == x.id) = true := by simpa using hid
              rw [hid] at d0
              have f2 : (x.id == x.id) = true := by simp
              have HR := Lib.hid (And.intro hd hid)
              clear hst hfb hv hu hrow H d1 d2 f1 hid hd
              go_wp2_with fail
              go_quiet (fail)
              have HE := HD.out nq
              obtain ⟨Wq, eWq⟩ : ∃ Wq, Wq = wr.drewN nq := ⟨_, rfl⟩
              rw [← eWq] at HE ⊢
              have EWq := Lib.hid eWq
              obtain ⟨g', eg, gl', hrow⟩ := (HE.row (A := some ⟨g, 0, none⟩) (n := n) (c := c9) (P := D) (by simp)) (Nat.zero_lt_of_lt hjD)
              obtain rfl : g = g' := by injection eg with eg; injection eg
              obtain ⟨d0, d1, d2⟩ := hrow j d HR.out.1
              have zb := HE.blk (g := za) (t := 44) (cs := #[.int .i64 v.id, .int .u64 v.d, .int .u64 v.n]) (by simp)
              have z0 := zb.cell 0
              have z1 := zb.cell 1
              have z2 := zb.cell 2
              have zf0 := zb.frozen 0
              have zf1 := zb.frozen 1
              have zf2 := zb.frozen 2
              have zl := zb.lt
              simp at z0 z1 z2
              have kk : Kept (fun i => i = za) Wq (((Wq.setCell ⟨za, 0, none⟩ (.int .i64 d.id)).setCell ⟨za, 1, none⟩ (.int .u64 d.d)).setCell ⟨za, 2, none⟩ (.int .u64 d.n)) := (((Kept.refl (fun i => i = za) Wq).setCell (p := ⟨za, 0, none⟩) rfl _).setCell (p := ⟨za, 1, none⟩) rfl _).setCell (p := ⟨za, 2, none⟩) rfl _
              have HS := Lib.hid (HE.store (g := za) (t := 44) (cs := #[.int .i64 v.id, .int .u64 v.d, .int .u64 v.n]) (cs' := #[.int .i64 d.id, .int .u64 d.d, .int .u64 d.n]) (by simp) kk (by have := ((zb.set_ 0 (.int .i64 d.id)).set_ 1 (.int .u64 d.d)).set_ 2 (.int .u64 d.n); simpa using this) (G := [.blk ya 44 #[.int .i64 y.id, .int .u64 y.d, .int .u64 y.n], .row (.slice (some ⟨g, 0, none⟩) n c9) D, XB xk x]) (fun f hf => by
                rcases List.mem_cons.1 hf with rfl | hf
                · exact ⟨by simp, fun e => HLo2.out.1 (show ya = za from (show za = ya from e).symm)⟩
                · exact ⟨by simp at hf ⊢; exact .inr (.inr hf), HLo2.out.2 f hf⟩))
              clear HE eWq eg hrow zb kk
              go_wp2_with fail
              go_roundw
              case rel => exact ⟨j + 1, true, d, by go_num, rfl, by omega, HV.out.1, HV.out.2, HS.out⟩
              case measure => simp [intOf]; omega
            · rw [if_neg hid] at hst
              have HV := Lib.hid (show fb = (fnd D (j + 1) x.id).isSome ∧ v = (fnd D (j + 1) x.id).getD ⟨0, 0, 0⟩ from by rw [hst]; exact ⟨hfb, hv⟩)
              have f1 : (d.id == x.id) = false := by simpa using hid
              clear hst hid hfb hv hu hrow hd H d1 d2
              go_wp2_with fail
              go_quiet (fail)
              go_wp2_with fail
              go_roundw
              case rel => exact ⟨j + 1, fb, v, by go_num, rfl, by omega, HV.out.1, HV.out.2, HD.out _⟩
              case measure => simp [intOf]; omega
          · obtain ej : n = j := by omega
            subst ej
            have HFA := fnd_all (L := L) HO2.out.1.ids (id := x.id)
            have e1 : y = v := by rw [hv, HO2.out.2.2.2.2.2.1, HO2.out.2.2.2.2.1, HO2.out.2.2.2.1]; exact HFA.1.symm
            have e2 : yb = fb := by rw [hfb, HO2.out.2.2.2.2.2.2.1, HO2.out.2.2.2.2.1, HO2.out.2.2.2.1]; exact HFA.2.symm
            subst e1
            subst e2
            obtain ⟨⟨t, tb⟩, et⟩ : ∃ p, p = topI (ord (xs L)) := ⟨_, rfl⟩
            obtain ⟨q, eq⟩ : ∃ q, q = (heads L T).length := ⟨_, rfl⟩
            have ETD := Lib.hid (top_or et)
            rw [← HO2.out.2.2.2.1] at ETD
            have HQ := Lib.hid (And.intro et eq)
            have H6 := Lib.hid H
            clear H HFA hfb hv hj hjn et eq
            go_wp2_with fail
            refine (pl_top H6.out HQ.out.1).mono ?_
            rintro e w6 ⟨rfl, hE⟩
            have hE := hE.box #[.int .i64 t.id, .int .u64 t.d, .int .u64 t.n] 44
            obtain ⟨ta, eta⟩ : ∃ ta, ta = w6.heap.size := ⟨_, rfl⟩
            obtain ⟨W6, eW6⟩ : ∃ W6, W6 = w6.alloc (.cells #[.int .i64 t.id, .int .u64 t.d, .int .u64 t.n] 44) := ⟨_, rfl⟩
            rw [← eta, ← eW6] at hE
            have EW6 := Lib.hid (And.intro eta eW6)
            have H7 := Lib.hid hE
            clear hE eta eW6 H6
            have f0 : (y.id == y.id) = true := by simp
            have f1 : (y.d == y.d) = true := by simp
            have f2 : (y.n == y.n) = true := by simp
            have f3 : (yb == yb) = true := by simp
            have HL := Lib.hid (fun (W' : World) (F : List Fb) (h : P2 w s r T L nx W' F) => pl_len h HO2.out.2.2.2.2.2.2.2)
            have HA9 := Lib.hid (fun (W' : World) (F : List Fb) (h : P2 w s r T L nx W' F) => pl_all h HO2.out.2.2.2.1 HO2.out.2.2.2.2.1)
            have HHp := Lib.hid (fun (W' : World) (F : List Fb) (h : P2 w s r T L nx W' F) => pl_heap h HQ.out.2)
            have HRh := Lib.hid (fun (W' : World) (F : List Fb) (h : P2 w s r T L nx W' F) => pl_rheap h HQ.out.2)
            have HSm := Lib.hid (fun (W' : World) (A8 : Option Addr) (c8 : Nat) (F : List Fb) (h : P2 w s r T L nx W' (.row (.slice A8 n c8) D :: F)) (hm : Fb.row (.slice A9 n c9) D ∈ Fb.row (.slice A8 n c8) D :: F) => pl_same2 h hm HO2.out.2.2.2.2.1 (by omega))
            rcases ETD.out with ⟨rfl, hD⟩ | ⟨rfl, R, hD⟩
            · have hz : n = 0 := by rw [HO2.out.2.2.2.2.1, hD]; rfl
              have hd : decide ((0 : Int) < (n : Int)) = false := by rw [hz]; rfl
              have hnn : ((n : Int) == (n : Int)) = true := by simp
              have hd2 : decide (0 < n) = false := by rw [hz]; rfl
              clear hz hD ETD
              go_wp2_with fail
              rw [← EW6.out.2, ← EW6.out.1]
              have hE7 := P2.drew H7.out
              have HE := Lib.hid hE7
              have HC := Lib.hid (pl_c9 (y := y) (z := y) (t := t) (ya := ya) (za := za) (ta := ta) hE7 (by simp) (by simp) (by simp))
              clear hE7
              refine wp_region_held_drew (S := (fun W' => W'.cell? ⟨ya, 0, none⟩ = some (.int .i64 y.id) ∧ W'.cell? ⟨ya, 1, none⟩ = some (.int .u64 y.d) ∧ W'.cell? ⟨ya, 2, none⟩ = some (.int .u64 y.n) ∧ W'.cell? ⟨za, 0, none⟩ = some (.int .i64 y.id) ∧ W'.cell? ⟨za, 1, none⟩ = some (.int .u64 y.d) ∧ W'.cell? ⟨za, 2, none⟩ = some (.int .u64 y.n) ∧ W'.cell? ⟨ta, 0, none⟩ = some (.int .i64 t.id) ∧ W'.cell? ⟨ta, 1, none⟩ = some (.int .u64 t.d) ∧ W'.cell? ⟨ta, 2, none⟩ = some (.int .u64 t.n))) (by kernel_rfl) HC.out (fun hHeld => ?_)
              refine wpAnyH_take (i := 0) (oi := { dst := some 121, op := Op.move (Operand.tmp 7), type := 4, pos := "law.go:50", after := #[], guard := none }) (v := .bool true) rfl (by kernel_rfl) (by kernel_rfl) (by kernel_rfl) (fun _ _ _ h => h) (Or.inl ⟨by rfl, by intro w hSw; (try dsimp only at hSw); go_simp⟩) (by assumption) ?_
              try simp only [Act.put, List.setIfInBounds_toArray, List.set_cons_zero, List.set_cons_succ]
              refine wpAnyH_take (i := 1) (oi := { dst := some 122, op := Op.unOp UnOp.not 4 (Operand.tmp 121), type := 4, pos := "law.go:50", after := #[{ on := 0, ground := Ground.data }], guard := none }) (v := .bool false) rfl (by kernel_rfl) (by kernel_rfl) (by kernel_rfl) (fun _ _ _ h => h) (Or.inl ⟨by rfl, by intro w hSw; (try dsimp only at hSw); go_simp⟩) (by assumption) ?_
              try simp only [Act.put, List.setIfInBounds_toArray, List.set_cons_zero, List.set_cons_succ]
              refine wpAnyH_take (i := 2) (oi := { dst := some 123, op := Op.move (Operand.tmp 122), type := 4, pos := "law.go:50", after := #[{ on := 1, ground := Ground.data }], guard := none }) (v := .bool false) rfl (by kernel_rfl) (by kernel_rfl) (by kernel_rfl) (fun _ _ _ h => h) (Or.inl ⟨by rfl, by intro w hSw; (try dsimp only at hSw); go_simp⟩) (by assumption) ?_
              try simp only [Act.put, List.setIfInBounds_toArray, List.set_cons_zero, List.set_cons_succ]
              refine wpAnyH_take (i := 3) (oi := { dst := some 124, op := Op.load 44 (Operand.tmp 10), type := 44, pos := "law.go:50", after := #[{ on := 2, ground := Ground.guard }], guard := some (2, false) }) (v := .agg #[.int .i64 y.id, .int .u64 y.d, .int .u64 y.n]) rfl (by kernel_rfl) (by kernel_rfl) (by kernel_rfl) (fun _ _ _ h => h) (Or.inl ⟨by rfl, by intro w hSw; (try dsimp only at hSw); go_simp⟩) (by assumption) ?_
              try simp only [Act.put, List.setIfInBounds_toArray, List.set_cons_zero, List.set_cons_succ]
              refine wpAnyH_take (i := 4) (oi := { dst := some 125, op := Op.load 44 (Operand.tmp 12), type := 44, pos := "law.go:50", after := #[{ on := 2, ground := Ground.guard }], guard := some (2, false) }) (v := .agg #[.int .i64 y.id, .int .u64 y.d, .int .u64 y.n]) rfl (by kernel_rfl) (by kernel_rfl) (by kernel_rfl) (fun _ _ _ h => h) (Or.inl ⟨by rfl, by intro w hSw; (try dsimp only at hSw); go_simp⟩) (by assumption) ?_
              try simp only [Act.put, List.setIfInBounds_toArray, List.set_cons_zero, List.set_cons_succ]
              refine wpAnyH_take (i := 5) (oi := { dst := some 126, op := Op.binOp BinOp.neq 44 (Operand.tmp 124) (Operand.tmp 125) 44, type := 4, pos := "law.go:50", after := #[{ on := 3, ground := Ground.data }, { on := 4, ground := Ground.data }, { on := 2, ground := Ground.guard }], guard := some (2, false) }) (v := .bool false) rfl (by kernel_rfl) (by kernel_rfl) (by kernel_rfl) (fun _ _ _ h => h) (Or.inl ⟨by rfl, by intro w hSw; (try dsimp only at hSw); go_simp⟩) (by assumption) ?_
              try simp only [Act.put, List.setIfInBounds_toArray, List.set_cons_zero, List.set_cons_succ]
              refine wpAnyH_take (i := 6) (oi := { dst := some 127, op := Op.pick (Operand.tmp 123) (Operand.const (Value.bool true)) (Operand.tmp 126), type := 4, pos := "law.go:50", after := #[{ on := 2, ground := Ground.data }, { on := 5, ground := Ground.data }], guard := none }) (v := .bool false) rfl (by kernel_rfl) (by kernel_rfl) (by kernel_rfl) (fun _ _ _ h => h) (Or.inl ⟨by rfl, by intro w hSw; (try dsimp only at hSw); go_simp⟩) (by assumption) ?_
              try simp only [Act.put, List.setIfInBounds_toArray, List.set_cons_zero, List.set_cons_succ]
              refine wpAnyH_take (i := 7) (oi := { dst := some 128, op := Op.move (Operand.tmp 127), type := 4, pos := "law.go:50", after := #[{ on := 6, ground := Ground.data }, { on := 2, ground := Ground.chain }], guard := none }) (v := .bool false) rfl (by kernel_rfl) (by kernel_rfl) (by kernel_rfl) (fun _ _ _ h => h) (Or.inl ⟨by rfl, by intro w hSw; (try dsimp only at hSw); go_simp⟩) (by assumption) ?_
              try simp only [Act.put, List.setIfInBounds_toArray, List.set_cons_zero, List.set_cons_succ]
              refine wpAnyH_take (i := 8) (oi := { dst := some 129, op := Op.move (Operand.tmp 11), type := 4, pos := "law.go:50", after := #[{ on := 7, ground := Ground.guard }], guard := some (7, false) }) (v := .bool yb) rfl (by kernel_rfl) (by kernel_rfl) (by kernel_rfl) (fun _ _ _ h => h) (Or.inl ⟨by rfl, by intro w hSw; (try dsimp only at hSw); go_simp⟩) (by assumption) ?_
              try simp only [Act.put, List.setIfInBounds_toArray, List.set_cons_zero, List.set_cons_succ]
              refine wpAnyH_take (i := 9) (oi := { dst := some 130, op := Op.move (Operand.tmp 13), type := 4, pos := "law.go:50", after := #[{ on := 7, ground := Ground.guard }], guard := some (7, false) }) (v := .bool yb) rfl (by kernel_rfl) (by kernel_rfl) (by kernel_rfl) (fun _ _ _ h => h) (Or.inl ⟨by rfl, by intro w hSw; (try dsimp only at hSw); go_simp⟩) (by assumption) ?_
              try simp only [Act.put, List.setIfInBounds_toArray, List.set_cons_zero, List.set_cons_succ]
              refine wpAnyH_take (i := 10) (oi := { dst := some 131, op := Op.binOp BinOp.neq 4 (Operand.tmp 129) (Operand.tmp 130) 4, type := 4, pos := "law.go:50", after := #[{ on := 8, ground := Ground.data }, { on := 9, ground := Ground.data }, { on := 7, ground := Ground.guard }], guard := some (7, false) }) (v := .bool false) rfl (by kernel_rfl) (by kernel_rfl) (by kernel_rfl) (fun _ _ _ h => h) (Or.inl ⟨by rfl, by intro w hSw; (try dsimp only at hSw); go_simp⟩) (by assumption) ?_
              try simp only [Act.put, List.setIfInBounds_toArray, List.set_cons_zero, List.set_cons_succ]
              refine wpAnyH_take (i := 11) (oi := { dst := some 132, op := Op.pick (Operand.tmp 128) (Operand.const (Value.bool true)) (Operand.tmp 131), type := 4, pos := "law.go:50", after := #[{ on := 7, ground := Ground.data }, { on := 10, ground := Ground.data }], guard := none }) (v := .bool false) rfl (by kernel_rfl) (by kernel_rfl) (by kernel_rfl) (fun _ _ _ h => h) (Or.inl ⟨by rfl, by intro w hSw; (try dsimp only at hSw); go_simp⟩) (by assumption) ?_
              try simp only [Act.put, List.setIfInBounds_toArray, List.set_cons_zero, List.set_cons_succ]
              refine wpAnyH_take (i := 12) (oi := { dst := some 133, op := Op.move (Operand.tmp 132), type := 4, pos := "law.go:50", after := #[{ on := 11, ground := Ground.data }, { on := 7, ground := Ground.chain }], guard := none }) (v := .bool false) rfl (by kernel_rfl) (by kernel_rfl) (by kernel_rfl) (fun _ _ _ h => h) (Or.inl ⟨by rfl, by intro w hSw; (try dsimp only at hSw); go_simp⟩) (by assumption) ?_
              try simp only [Act.put, List.setIfInBounds_toArray, List.set_cons_zero, List.set_cons_succ]
              refine wpAnyH_take (i := 13) (oi := { dst := some 134, op := Op.move (Operand.tmp 16), type := 4, pos := "law.go:50", after := #[{ on := 12, ground := Ground.guard }], guard := some (12, false) }) (v := .bool false) rfl (by kernel_rfl) (by kernel_rfl) (by kernel_rfl) (fun _ _ _ h => h) (Or.inl ⟨by rfl, by intro w hSw; (try dsimp only at hSw); go_simp⟩) (by assumption) ?_
              try simp only [Act.put, List.setIfInBounds_toArray, List.set_cons_zero, List.set_cons_succ]
              refine wpAnyH_take (i := 14) (oi := { dst := some 135, op := Op.move (Operand.tmp 9), type := 26, pos := "law.go:50", after := #[{ on := 12, ground := Ground.guard }], guard := some (12, false) }) (v := .slice A9 n c9) rfl (by kernel_rfl) (by kernel_rfl) (by kernel_rfl) (fun _ _ _ h => h) (Or.inl ⟨by rfl, by intro w hSw; (try dsimp only at hSw); go_simp⟩) (by assumption) ?_
              try simp only [Act.put, List.setIfInBounds_toArray, List.set_cons_zero, List.set_cons_succ]
              refine wpAnyH_take (i := 15) (oi := { dst := some 136, op := Op.call { callee := Callee.builtin Builtin.len, args := #[Operand.tmp 135], argTypes := #[26] }, type := 3, pos := "law.go:50", after := #[{ on := 14, ground := Ground.data }, { on := 12, ground := Ground.guard }], guard := some (12, false) }) (v := .int .i64 (n : Int)) rfl (by kernel_rfl) (by kernel_rfl) (by kernel_rfl) (fun _ _ _ h => h) (Or.inl ⟨by rfl, by intro w hSw; (try dsimp only at hSw); go_simp⟩) (by assumption) ?_
              try simp only [Act.put, List.setIfInBounds_toArray, List.set_cons_zero, List.set_cons_succ]
              refine wpAnyH_take (i := 16) (oi := { dst := some 137, op := Op.binOp BinOp.gtr 3 (Operand.tmp 136) (Operand.const (Value.int IntKind.i64 0)) 3, type := 4, pos := "law.go:50", after := #[{ on := 15, ground := Ground.data }, { on := 12, ground := Ground.guard }], guard := some (12, false) }) (v := .bool false) rfl (by kernel_rfl) (by kernel_rfl) (by kernel_rfl) (fun _ _ _ h => h) (Or.inl ⟨by rfl, by intro w hSw; (try dsimp only at hSw); go_simp⟩) (by assumption) ?_
              try simp only [Act.put, List.setIfInBounds_toArray, List.set_cons_zero, List.set_cons_succ]
              refine wpAnyH_take (i := 17) (oi := { dst := some 138, op := Op.binOp BinOp.neq 4 (Operand.tmp 134) (Operand.tmp 137) 4, type := 4, pos := "law.go:50", after := #[{ on := 13, ground := Ground.data }, { on := 16, ground := Ground.data }, { on := 12, ground := Ground.guard }], guard := some (12, false) }) (v := .bool false) rfl (by kernel_rfl) (by kernel_rfl) (by kernel_rfl) (fun _ _ _ h => h) (Or.inl ⟨by rfl, by intro w hSw; (try dsimp only at hSw); go_simp⟩) (by assumption) ?_
              try simp only [Act.put, List.setIfInBounds_toArray, List.set_cons_zero, List.set_cons_succ]
              refine wpAnyH_take (i := 18) (oi := { dst := some 139, op := Op.pick (Operand.tmp 133) (Operand.const (Value.bool true)) (Operand.tmp 138), type := 4, pos := "law.go:50", after := #[{ on := 12, ground := Ground.data }, { on := 17, ground := Ground.data }], guard := none }) (v := .bool false) rfl (by kernel_rfl) (by kernel_rfl) (by kernel_rfl) (fun _ _ _ h => h) (Or.inl ⟨by rfl, by intro w hSw; (try dsimp only at hSw); go_simp⟩) (by assumption) ?_
              try simp only [Act.put, List.setIfInBounds_toArray, List.set_cons_zero, List.set_cons_succ]
              refine wpAnyH_take (i := 19) (oi := { dst := some 140, op := Op.move (Operand.tmp 139), type := 4, pos := "law.go:50", after := #[{ on := 18, ground := Ground.data }, { on := 12, ground := Ground.chain }], guard := none }) (v := .bool false) rfl (by kernel_rfl) (by kernel_rfl) (by kernel_rfl) (fun _ _ _ h => h) (Or.inl ⟨by rfl, by intro w hSw; (try dsimp only at hSw); go_simp⟩) (by assumption) ?_
              try simp only [Act.put, List.setIfInBounds_toArray, List.set_cons_zero, List.set_cons_succ]
              refine wpAnyH_take (i := 20) (oi := { dst := some 141, op := Op.move (Operand.tmp 16), type := 4, pos := "law.go:50", after := #[{ on := 19, ground := Ground.guard }], guard := some (19, false) }) (v := .bool false) rfl (by kernel_rfl) (by kernel_rfl) (by kernel_rfl) (fun _ _ _ h => h) (Or.inl ⟨by rfl, by intro w hSw; (try dsimp only at hSw); go_simp⟩) (by assumption) ?_
              try simp only [Act.put, List.setIfInBounds_toArray, List.set_cons_zero, List.set_cons_succ]
              refine wpAnyH_take (i := 21) (oi := { dst := some 142, op := Op.move (Operand.tmp 141), type := 4, pos := "law.go:50", after := #[{ on := 20, ground := Ground.data }, { on := 19, ground := Ground.chain }, { on := 19, ground := Ground.guard }], guard := some (19, false) }) (v := .bool false) rfl (by kernel_rfl) (by kernel_rfl) (by kernel_rfl) (fun _ _ _ h => h) (Or.inl ⟨by rfl, by intro w hSw; (try dsimp only at hSw); go_simp⟩) (by assumption) ?_
              try simp only [Act.put, List.setIfInBounds_toArray, List.set_cons_zero, List.set_cons_succ]
              refine wpAnyH_take (i := 22) (oi := { dst := some 143, op := Op.load 44 (Operand.tmp 15), type := 44, pos := "law.go:50", after := #[{ on := 21, ground := Ground.guard }], guard := some (21, true) }) (v := undef) rfl (by kernel_rfl) (by kernel_rfl) (by kernel_rfl) (fun _ _ _ h => h) (Or.inr ⟨by rfl, rfl⟩) (by assumption) ?_
              try simp only [Act.put, List.setIfInBounds_toArray, List.set_cons_zero, List.set_cons_succ]
              refine wpAnyH_take (i := 23) (oi := { dst := some 144, op := Op.move (Operand.tmp 9), type := 26, pos := "law.go:50", after := #[{ on := 21, ground := Ground.guard }], guard := some (21, true) }) (v := undef) rfl (by kernel_rfl) (by kernel_rfl) (by kernel_rfl) (fun _ _ _ h => h) (Or.inr ⟨by rfl, rfl⟩) (by assumption) ?_
              try simp only [Act.put, List.setIfInBounds_toArray, List.set_cons_zero, List.set_cons_succ]
              refine wpAnyH_take (i := 24) (oi := { dst := some 145, op := Op.indexAddr 26 (Operand.tmp 144) (Operand.const (Value.int IntKind.i64 0)), type := 0, pos := "law.go:50", after := #[{ on := 23, ground := Ground.data }, { on := 21, ground := Ground.guard }], guard := some (21, true) }) (v := undef) rfl (by kernel_rfl) (by kernel_rfl) (by kernel_rfl) (fun _ _ _ h => h) (Or.inr ⟨by rfl, rfl⟩) (by assumption) ?_
              try simp only [Act.put, List.setIfInBounds_toArray, List.set_cons_zero, List.set_cons_succ]
              refine wpAnyH_take (i := 25) (oi := { dst := some 146, op := Op.load 44 (Operand.tmp 145), type := 44, pos := "law.go:50", after := #[{ on := 24, ground := Ground.data }, { on := 21, ground := Ground.guard }], guard := some (21, true) }) (v := undef) rfl (by kernel_rfl) (by kernel_rfl) (by kernel_rfl) (fun _ _ _ h => h) (Or.inr ⟨by rfl, rfl⟩) (by assumption) ?_
              try simp only [Act.put, List.setIfInBounds_toArray, List.set_cons_zero, List.set_cons_succ]
              refine wpAnyH_take (i := 26) (oi := { dst := some 147, op := Op.binOp BinOp.neq 44 (Operand.tmp 143) (Operand.tmp 146) 44, type := 4, pos := "law.go:50", after := #[{ on := 22, ground := Ground.data }, { on := 25, ground := Ground.data }, { on := 21, ground := Ground.guard }], guard := some (21, true) }) (v := undef) rfl (by kernel_rfl) (by kernel_rfl) (by kernel_rfl) (fun _ _ _ h => h) (Or.inr ⟨by rfl, rfl⟩) (by assumption) ?_
              try simp only [Act.put, List.setIfInBounds_toArray, List.set_cons_zero, List.set_cons_succ]
              refine wpAnyH_take (i := 27) (oi := { dst := some 148, op := Op.pick (Operand.tmp 142) (Operand.tmp 147) (Operand.const (Value.bool false)), type := 4, pos := "law.go:50", after := #[{ on := 21, ground := Ground.data }, { on := 26, ground := Ground.data }, { on := 19, ground := Ground.guard }], guard := some (19, false) }) (v := .bool false) rfl (by kernel_rfl) (by kernel_rfl) (by kernel_rfl) (fun _ _ _ h => h) (Or.inl ⟨by rfl, by intro w hSw; (try dsimp only at hSw); go_simp⟩) (by assumption) ?_
              try simp only [Act.put, List.setIfInBounds_toArray, List.set_cons_zero, List.set_cons_succ]
              refine wpAnyH_take (i := 28) (oi := { dst := some 149, op := Op.pick (Operand.tmp 140) (Operand.const (Value.bool true)) (Operand.tmp 148), type := 4, pos := "law.go:50", after := #[{ on := 19, ground := Ground.data }, { on := 27, ground := Ground.data }], guard := none }) (v := .bool false) rfl (by kernel_rfl) (by kernel_rfl) (by kernel_rfl) (fun _ _ _ h => h) (Or.inl ⟨by rfl, by intro w hSw; (try dsimp only at hSw); go_simp⟩) (by assumption) ?_
              try simp only [Act.put, List.setIfInBounds_toArray, List.set_cons_zero, List.set_cons_succ]
              refine wpAnyH_take (i := 29) (oi := { dst := some 150, op := Op.move (Operand.tmp 149), type := 4, pos := "law.go:50", after := #[{ on := 28, ground := Ground.data }, { on := 21, ground := Ground.chain }], guard := none }) (v := .bool false) rfl (by kernel_rfl) (by kernel_rfl) (by kernel_rfl) (fun _ _ _ h => h) (Or.inl ⟨by rfl, by intro w hSw; (try dsimp only at hSw); go_simp⟩) (by assumption) ?_
              try simp only [Act.put, List.setIfInBounds_toArray, List.set_cons_zero, List.set_cons_succ]
              refine wpAnyH_take (i := 30) (oi := { dst := some 151, op := Op.move (Operand.tmp 3), type := 23, pos := "law.go:50", after := #[{ on := 29, ground := Ground.guard }], guard := some (29, false) }) (v := .pointer (some ⟨s, 0, none⟩)) rfl (by kernel_rfl) (by kernel_rfl) (by kernel_rfl) (fun _ _ _ h => h) (Or.inl ⟨by rfl, by intro w hSw; (try dsimp only at hSw); go_simp⟩) (by assumption) ?_
              try simp only [Act.put, List.setIfInBounds_toArray, List.set_cons_zero, List.set_cons_succ]
              refine wpAnyH_take (i := 32) (oi := { dst := some 153, op := Op.move (Operand.tmp 9), type := 26, pos := "law.go:50", after := #[{ on := 29, ground := Ground.guard }], guard := some (29, false) }) (v := .slice A9 n c9) rfl (by kernel_rfl) (by kernel_rfl) (by kernel_rfl) (fun _ _ _ h => h) (Or.inl ⟨by rfl, by intro w hSw; (try dsimp only at hSw); go_simp⟩) (by assumption) ?_
              try simp only [Act.put, List.setIfInBounds_toArray, List.set_cons_zero, List.set_cons_succ]
              refine wpAnyH_take (i := 33) (oi := { dst := some 154, op := Op.call { callee := Callee.builtin Builtin.len, args := #[Operand.tmp 153], argTypes := #[26] }, type := 3, pos := "law.go:50", after := #[{ on := 32, ground := Ground.data }, { on := 29, ground := Ground.guard }], guard := some (29, false) }) (v := .int .i64 (n : Int)) rfl (by kernel_rfl) (by kernel_rfl) (by kernel_rfl) (fun _ _ _ h => h) (Or.inl ⟨by rfl, by intro w hSw; (try dsimp only at hSw); go_simp⟩) (by assumption) ?_
              try simp only [Act.put, List.setIfInBounds_toArray, List.set_cons_zero, List.set_cons_succ]
              refine wpAnyH_ready (rs := [31]) (by kernel_rfl) (by simp) ?_
              refine AllReadyH.cons (o := { dst := some 152, op := Op.call { callee := Callee.value (Operand.func 22), args := #[Operand.tmp 151], argTypes := #[23] }, type := 3, pos := "law.go:50", after := #[{ on := 30, ground := Ground.data }, { on := 29, ground := Ground.chain }, { on := 29, ground := Ground.guard }], guard := some (29, false) }) rfl (fun K hK => ?_) AllReadyH.nil
              go_simp
              refine (HL.out _ _ HE.out).mono ?_
              rintro e w' ⟨rfl, rfl⟩
              first | refine hK.out _ _ HC.out (fun hHeld2 => ?_) | (go_wp2_with fail; refine hK.out _ _ HC.out (fun hHeld2 => ?_))
              clear hK K hHeld
              have hHeld := hHeld2
              clear hHeld2
              try simp only [Act.put, List.setIfInBounds_toArray, List.set_cons_zero, List.set_cons_succ]
              refine wpAnyH_take (i := 34) (oi := { dst := some 155, op := Op.binOp BinOp.neq 3 (Operand.tmp 152) (Operand.tmp 154) 3, type := 4, pos := "law.go:50", after := #[{ on := 31, ground := Ground.data }, { on := 33, ground := Ground.data }, { on := 29, ground := Ground.guard }], guard := some (29, false) }) (v := .bool false) rfl (by kernel_rfl) (by kernel_rfl) (by kernel_rfl) (fun _ _ _ h => h) (Or.inl ⟨by rfl, by intro w hSw; (try dsimp only at hSw); go_simp⟩) (by assumption) ?_
              try simp only [Act.put, List.setIfInBounds_toArray, List.set_cons_zero, List.set_cons_succ]
              refine wpAnyH_take (i := 35) (oi := { dst := some 156, op := Op.pick (Operand.tmp 150) (Operand.const (Value.bool true)) (Operand.tmp 155), type := 4, pos := "law.go:50", after := #[{ on := 29, ground := Ground.data }, { on := 34, ground := Ground.data }], guard := none }) (v := .bool false) rfl (by kernel_rfl) (by kernel_rfl) (by kernel_rfl) (fun _ _ _ h => h) (Or.inl ⟨by rfl, by intro w hSw; (try dsimp only at hSw); go_simp⟩) (by assumption) ?_
              try simp only [Act.put, List.setIfInBounds_toArray, List.set_cons_zero, List.set_cons_succ]
              refine wpAnyH_take (i := 36) (oi := { dst := some 157, op := Op.move (Operand.tmp 156), type := 4, pos := "law.go:50", after := #[{ on := 35, ground := Ground.data }, { on := 31, ground := Ground.chain }], guard := none }) (v := .bool false) rfl (by kernel_rfl) (by kernel_rfl) (by kernel_rfl) (fun _ _ _ h => h) (Or.inl ⟨by rfl, by intro w hSw; (try dsimp only at hSw); go_simp⟩) (by assumption) ?_
              try simp only [Act.put, List.setIfInBounds_toArray, List.set_cons_zero, List.set_cons_succ]
              refine wpAnyH_take (i := 37) (oi := { dst := some 158, op := Op.move (Operand.tmp 3), type := 23, pos := "law.go:50", after := #[{ on := 36, ground := Ground.guard }], guard := some (36, false) }) (v := .pointer (some ⟨s, 0, none⟩)) rfl (by kernel_rfl) (by kernel_rfl) (by kernel_rfl) (fun _ _ _ h => h) (Or.inl ⟨by rfl, by intro w hSw; (try dsimp only at hSw); go_simp⟩) (by assumption) ?_
              try simp only [Act.put, List.setIfInBounds_toArray, List.set_cons_zero, List.set_cons_succ]
              refine wpAnyH_take (i := 39) (oi := { dst := some 160, op := Op.move (Operand.tmp 9), type := 26, pos := "law.go:50", after := #[{ on := 36, ground := Ground.guard }], guard := some (36, false) }) (v := .slice A9 n c9) rfl (by kernel_rfl) (by kernel_rfl) (by kernel_rfl) (fun _ _ _ h => h) (Or.inl ⟨by rfl, by intro w hSw; (try dsimp only at hSw); go_simp⟩) (by assumption) ?_
              try simp only [Act.put, List.setIfInBounds_toArray, List.set_cons_zero, List.set_cons_succ]
              refine wpAnyH_ready (rs := [38]) (by kernel_rfl) (by simp) ?_
              refine AllReadyH.cons (o := { dst := some 159, op := Op.call { callee := Callee.value (Operand.func 23), args := #[Operand.tmp 158], argTypes := #[23] }, type := 26, pos := "law.go:50", after := #[{ on := 37, ground := Ground.data }, { on := 36, ground := Ground.chain }, { on := 36, ground := Ground.guard }], guard := some (36, false) }) rfl (fun K hK => ?_) AllReadyH.nil
              go_simp
              refine (HA9.out _ _ HE.out).mono ?_
              rintro e w7 ⟨A8, c8, rfl, hE7⟩
              have HE := Lib.hid hE7
              have HC := Lib.hid (pl_c9 (y := y) (z := y) (t := t) (ya := ya) (za := za) (ta := ta) hE7 (by simp) (by simp) (by simp))
              clear hE7
              first | refine hK.out _ _ HC.out (fun hHeld2 => ?_) | (go_wp2_with fail; refine hK.out _ _ HC.out (fun hHeld2 => ?_))
              clear hK K hHeld
              have hHeld := hHeld2
              clear hHeld2
              try simp only [Act.put, List.setIfInBounds_toArray, List.set_cons_zero, List.set_cons_succ]
              refine wpAnyH_ready (rs := [40]) (by kernel_rfl) (by simp) ?_
              refine AllReadyH.cons (o := { dst := some 161, op := Op.call { callee := Callee.value (Operand.func 15), args := #[Operand.tmp 159, Operand.tmp 160], argTypes := #[26, 26] }, type := 4, pos := "law.go:50", after := #[{ on := 38, ground := Ground.data }, { on := 39, ground := Ground.data }, { on := 38, ground := Ground.chain }, { on := 36, ground := Ground.guard }], guard := some (36, false) }) rfl (fun K hK => ?_) AllReadyH.nil
              go_simp
              refine (HSm.out _ _ _ _ HE.out (by simp)).mono ?_
              rintro e w8 ⟨rfl, hE7⟩
              have HE := Lib.hid hE7
              have HC := Lib.hid (pl_c9 (y := y) (z := y) (t := t) (ya := ya) (za := za) (ta := ta) hE7 (by simp) (by simp) (by simp))
              clear hE7
              first | refine hK.out _ _ HC.out (fun hHeld2 => ?_) | (go_wp2_with fail; refine hK.out _ _ HC.out (fun hHeld2 => ?_))
              clear hK K hHeld
              have hHeld := hHeld2
              clear hHeld2
              try simp only [Act.put, List.setIfInBounds_toArray, List.set_cons_zero, List.set_cons_succ]
              refine wpAnyH_take (i := 41) (oi := { dst := some 162, op := Op.unOp UnOp.not 4 (Operand.tmp 161), type := 4, pos := "law.go:50", after := #[{ on := 40, ground := Ground.data }, { on := 36, ground := Ground.guard }], guard := some (36, false) }) (v := .bool false) rfl (by kernel_rfl) (by kernel_rfl) (by kernel_rfl) (fun _ _ _ h => h) (Or.inl ⟨by rfl, by intro w hSw; (try dsimp only at hSw); go_simp⟩) (by assumption) ?_
              try simp only [Act.put, List.setIfInBounds_toArray, List.set_cons_zero, List.set_cons_succ]
              refine wpAnyH_take (i := 42) (oi := { dst := some 163, op := Op.pick (Operand.tmp 157) (Operand.const (Value.bool true)) (Operand.tmp 162), type := 4, pos := "law.go:50", after := #[{ on := 36, ground := Ground.data }, { on := 41, ground := Ground.data }], guard := none }) (v := .bool false) rfl (by kernel_rfl) (by kernel_rfl) (by kernel_rfl) (fun _ _ _ h => h) (Or.inl ⟨by rfl, by intro w hSw; (try dsimp only at hSw); go_simp⟩) (by assumption) ?_
              try simp only [Act.put, List.setIfInBounds_toArray, List.set_cons_zero, List.set_cons_succ]
              refine wpAnyH_take (i := 43) (oi := { dst := some 164, op := Op.move (Operand.tmp 163), type := 4, pos := "law.go:50", after := #[{ on := 42, ground := Ground.data }, { on := 40, ground := Ground.chain }], guard := none }) (v := .bool false) rfl (by kernel_rfl) (by kernel_rfl) (by kernel_rfl) (fun _ _ _ h => h) (Or.inl ⟨by rfl, by intro w hSw; (try dsimp only at hSw); go_simp⟩) (by assumption) ?_
              try simp only [Act.put, List.setIfInBounds_toArray, List.set_cons_zero, List.set_cons_succ]
              refine wpAnyH_take (i := 44) (oi := { dst := some 165, op := Op.move (Operand.tmp 3), type := 23, pos := "law.go:50", after := #[{ on := 43, ground := Ground.guard }], guard := some (43, false) }) (v := .pointer (some ⟨s, 0, none⟩)) rfl (by kernel_rfl) (by kernel_rfl) (by kernel_rfl) (fun _ _ _ h => h) (Or.inl ⟨by rfl, by intro w hSw; (try dsimp only at hSw); go_simp⟩) (by assumption) ?_
              try simp only [Act.put, List.setIfInBounds_toArray, List.set_cons_zero, List.set_cons_succ]
              refine wpAnyH_take (i := 46) (oi := { dst := some 167, op := Op.move (Operand.tmp 4), type := 25, pos := "law.go:50", after := #[{ on := 43, ground := Ground.guard }], guard := some (43, false) }) (v := .pointer (some ⟨r, 0, none⟩)) rfl (by kernel_rfl) (by kernel_rfl) (by kernel_rfl) (fun _ _ _ h => h) (Or.inl ⟨by rfl, by intro w hSw; (try dsimp only at hSw); go_simp⟩) (by assumption) ?_
              try simp only [Act.put, List.setIfInBounds_toArray, List.set_cons_zero, List.set_cons_succ]
              refine wpAnyH_ready (rs := [45]) (by kernel_rfl) (by simp) ?_
              refine AllReadyH.cons (o := { dst := some 166, op := Op.call { callee := Callee.value (Operand.func 24), args := #[Operand.tmp 165], argTypes := #[23] }, type := 3, pos := "law.go:50", after := #[{ on := 44, ground := Ground.data }, { on := 43, ground := Ground.chain }, { on := 43, ground := Ground.guard }], guard := some (43, false) }) rfl (fun K hK => ?_) AllReadyH.nil
              go_simp
              refine (HHp.out _ _ HE.out).mono ?_
              rintro e w' ⟨rfl, rfl⟩
              first | refine hK.out _ _ HC.out (fun hHeld2 => ?_) | (go_wp2_with fail; refine hK.out _ _ HC.out (fun hHeld2 => ?_))
              clear hK K hHeld
              have hHeld := hHeld2
              clear hHeld2
              try simp only [Act.put, List.setIfInBounds_toArray, List.set_cons_zero, List.set_cons_succ]
              refine wpAnyH_ready (rs := [47]) (by kernel_rfl) (by simp) ?_
              refine AllReadyH.cons (o := { dst := some 168, op := Op.call { callee := Callee.value (Operand.func 25), args := #[Operand.tmp 167], argTypes := #[25] }, type := 3, pos := "law.go:50", after := #[{ on := 46, ground := Ground.data }, { on := 45, ground := Ground.chain }, { on := 43, ground := Ground.guard }], guard := some (43, false) }) rfl (fun K hK => ?_) AllReadyH.nil
              go_simp
              refine (HRh.out _ _ HE.out).mono ?_
              rintro e w9 ⟨rfl, hE7⟩
              have HE := Lib.hid hE7
              have HC := Lib.hid (pl_c9 (y := y) (z := y) (t := t) (ya := ya) (za := za) (ta := ta) hE7 (by simp) (by simp) (by simp))
              clear hE7
              first | refine hK.out _ _ HC.out (fun hHeld2 => ?_) | (go_wp2_with fail; refine hK.out _ _ HC.out (fun hHeld2 => ?_))
              clear hK K hHeld
              have hHeld := hHeld2
              clear hHeld2
              try simp only [Act.put, List.setIfInBounds_toArray, List.set_cons_zero, List.set_cons_succ]
              refine wpAnyH_take (i := 48) (oi := { dst := some 169, op := Op.binOp BinOp.neq 3 (Operand.tmp 166) (Operand.tmp 168) 3, type := 4, pos := "law.go:50", after := #[{ on := 45, ground := Ground.data }, { on := 47, ground := Ground.data }, { on := 43, ground := Ground.guard }], guard := some (43, false) }) (v := .bool false) rfl (by kernel_rfl) (by kernel_rfl) (by kernel_rfl) (fun _ _ _ h => h) (Or.inl ⟨by rfl, by intro w hSw; (try dsimp only at hSw); go_simp⟩) (by assumption) ?_
              try simp only [Act.put, List.setIfInBounds_toArray, List.set_cons_zero, List.set_cons_succ]
              refine wpAnyH_take (i := 49) (oi := { dst := some 170, op := Op.pick (Operand.tmp 164) (Operand.const (Value.bool true)) (Operand.tmp 169), type := 4, pos := "law.go:50", after := #[{ on := 43, ground := Ground.data }, { on := 48, ground := Ground.data }], guard := none }) (v := .bool false) rfl (by kernel_rfl) (by kernel_rfl) (by kernel_rfl) (fun _ _ _ h => h) (Or.inl ⟨by rfl, by intro w hSw; (try dsimp only at hSw); go_simp⟩) (by assumption) ?_
              try simp only [Act.put, List.setIfInBounds_toArray, List.set_cons_zero, List.set_cons_succ]
              refine wpAnyH_done (by kernel_rfl) ?_ _
              have H8 := Lib.hid (show PMid w s r (k + 1) [] w9 from ⟨_, _, _, P2.less HE.out (fun f hf => by simp at hf), HO2.out.2.1, HO2.out.2.2.1⟩)
              clear HE HC
              go_wp2_with fail
              go_roundw
              case rel => exact ⟨k + 1, by go_num, by omega, H8.out⟩
              case measure => simp [intOf]; omega
            · have hz : 0 < n := by rw [HO2.out.2.2.2.2.1, hD]; exact Nat.zero_lt_succ _
              have hd : decide ((0 : Int) < (n : Int)) = true := decide_eq_true (by omega)
              have hz1 : (0 : Int) < (n : Int) := by omega
              have hnn : ((n : Int) == (n : Int)) = true := by simp
              obtain ⟨g, rfl, gl, hrow⟩ := (H4.out.row (A := A9) (n := n) (c := c9) (P := D) (by simp)) (by rw [← HO2.out.2.2.2.2.1]; exact hz)
              clear gl hrow ETD
              have t0 : (t.id == t.id) = true := by simp
              have t1 : (t.d == t.d) = true := by simp
              have t2 : (t.n == t.n) = true := by simp
              have HDR := Lib.hid hD
              clear hD
              go_wp2_with fail
              rw [← EW6.out.2, ← EW6.out.1]
              have hE7 := P2.drew H7.out
              have HE := Lib.hid hE7
              have HC := Lib.hid (pl_c12 (y := y) (z := y) (t := t) (ya := ya) (za := za) (ta := ta) hE7 (by simp) (by simp) (by simp) (show Fb.row (.slice (some ⟨g, 0, none⟩) n c9) D ∈ _ by simp) HDR.out)
              clear hE7
              refine wp_region_held_drew (S := (fun W' => W'.cell? ⟨ya, 0, none⟩ = some (.int .i64 y.id) ∧ W'.cell? ⟨ya, 1, none⟩ = some (.int .u64 y.d) ∧ W'.cell? ⟨ya, 2, none⟩ = some (.int .u64 y.n) ∧ W'.cell? ⟨za, 0, none⟩ = some (.int .i64 y.id) ∧ W'.cell? ⟨za, 1, none⟩ = some (.int .u64 y.d) ∧ W'.cell? ⟨za, 2, none⟩ = some (.int .u64 y.n) ∧ W'.cell? ⟨ta, 0, none⟩ = some (.int .i64 t.id) ∧ W'.cell? ⟨ta, 1, none⟩ = some (.int .u64 t.d) ∧ W'.cell? ⟨ta, 2, none⟩ = some (.int .u64 t.n) ∧ W'.cell? ⟨g, 0, none⟩ = some (.int .i64 t.id) ∧ W'.cell? ⟨g, 1, none⟩ = some (.int .u64 t.d) ∧ W'.cell? ⟨g, 2, none⟩ = some (.int .u64 t.n))) (by kernel_rfl) HC.out (fun hHeld => ?_)
              refine wpAnyH_take (i := 0) (oi := { dst := some 121, op := Op.move (Operand.tmp 7), type := 4, pos := "law.go:50", after := #[], guard := none }) (v := .bool true) rfl (by kernel_rfl) (by kernel_rfl) (by kernel_rfl) (fun _ _ _ h => h) (Or.inl ⟨by rfl, by intro w hSw; (try dsimp only at hSw); go_simp⟩) (by assumption) ?_
              try simp only [Act.put, List.setIfInBounds_toArray, List.set_cons_zero, List.set_cons_succ]
              refine wpAnyH_take (i := 1) (oi := { dst := some 122, op := Op.unOp UnOp.not 4 (Operand.tmp 121), type := 4, pos := "law.go:50", after := #[{ on := 0, ground := Ground.data }], guard := none }) (v := .bool false) rfl (by kernel_rfl) (by kernel_rfl) (by kernel_rfl) (fun _ _ _ h => h) (Or.inl ⟨by rfl, by intro w hSw; (try dsimp only at hSw); go_simp⟩) (by assumption) ?_
              try simp only [Act.put, List.setIfInBounds_toArray, List.set_cons_zero, List.set_cons_succ]
              refine wpAnyH_take (i := 2) (oi := { dst := some 123, op := Op.move (Operand.tmp 122), type := 4, pos := "law.go:50", after := #[{ on := 1, ground := Ground.data }], guard := none }) (v := .bool false) rfl (by kernel_rfl) (by kernel_rfl) (by kernel_rfl) (fun _ _ _ h => h) (Or.inl ⟨by rfl, by intro w hSw; (try dsimp only at hSw); go_simp⟩) (by assumption) ?_
              try simp only [Act.put, List.setIfInBounds_toArray, List.set_cons_zero, List.set_cons_succ]
              refine wpAnyH_take (i := 3) (oi := { dst := some 124, op := Op.load 44 (Operand.tmp 10), type := 44, pos := "law.go:50", after := #[{ on := 2, ground := Ground.guard }], guard := some (2, false) }) (v := .agg #[.int .i64 y.id, .int .u64 y.d, .int .u64 y.n]) rfl (by kernel_rfl) (by kernel_rfl) (by kernel_rfl) (fun _ _ _ h => h) (Or.inl ⟨by rfl, by intro w hSw; (try dsimp only at hSw); go_simp⟩) (by assumption) ?_
              try simp only [Act.put, List.setIfInBounds_toArray, List.set_cons_zero, List.set_cons_succ]
              refine wpAnyH_take (i := 4) (oi := { dst := some 125, op := Op.load 44 (Operand.tmp 12), type := 44, pos := "law.go:50", after := #[{ on := 2, ground := Ground.guard }], guard := some (2, false) }) (v := .agg #[.int .i64 y.id, .int .u64 y.d, .int .u64 y.n]) rfl (by kernel_rfl) (by kernel_rfl) (by kernel_rfl) (fun _ _ _ h => h) (Or.inl ⟨by rfl, by intro w hSw; (try dsimp only at hSw); go_simp⟩) (by assumption) ?_
              try simp only [Act.put, List.setIfInBounds_toArray, List.set_cons_zero, List.set_cons_succ]
              refine wpAnyH_take (i := 5) (oi := { dst := some 126, op := Op.binOp BinOp.neq 44 (Operand.tmp 124) (Operand.tmp 125) 44, type := 4, pos := "law.go:50", after := #[{ on := 3, ground := Ground.data }, { on := 4, ground := Ground.data }, { on := 2, ground := Ground.guard }], guard := some (2, false) }) (v := .bool false) rfl (by kernel_rfl) (by kernel_rfl) (by kernel_rfl) (fun _ _ _ h => h) (Or.inl ⟨by rfl, by intro w hSw; (try dsimp only at hSw); go_simp⟩) (by assumption) ?_
              try simp only [Act.put, List.setIfInBounds_toArray, List.set_cons_zero, List.set_cons_succ]
              refine wpAnyH_take (i := 6) (oi := { dst := some 127, op := Op.pick (Operand.tmp 123) (Operand.const (Value.bool true)) (Operand.tmp 126), type := 4, pos := "law.go:50", after := #[{ on := 2, ground := Ground.data }, { on := 5, ground := Ground.data }], guard := none }) (v := .bool false) rfl (by kernel_rfl) (by kernel_rfl) (by kernel_rfl) (fun _ _ _ h => h) (Or.inl ⟨by rfl, by intro w hSw; (try dsimp only at hSw); go_simp⟩) (by assumption) ?_
              try simp only [Act.put, List.setIfInBounds_toArray, List.set_cons_zero, List.set_cons_succ]
              refine wpAnyH_take (i := 7) (oi := { dst := some 128, op := Op.move (Operand.tmp 127), type := 4, pos := "law.go:50", after := #[{ on := 6, ground := Ground.data }, { on := 2, ground := Ground.chain }], guard := none }) (v := .bool false) rfl (by kernel_rfl) (by kernel_rfl) (by kernel_rfl) (fun _ _ _ h => h) (Or.inl ⟨by rfl, by intro w hSw; (try dsimp only at hSw); go_simp⟩) (by assumption) ?_
              try simp only [Act.put, List.setIfInBounds_toArray, List.set_cons_zero, List.set_cons_succ]
              refine wpAnyH_take (i := 8) (oi := { dst := some 129, op := Op.move (Operand.tmp 11), type := 4, pos := "law.go:50", after := #[{ on := 7, ground := Ground.guard }], guard := some (7, false) }) (v := .bool yb) rfl (by kernel_rfl) (by kernel_rfl) (by kernel_rfl) (fun _ _ _ h => h) (Or.inl ⟨by rfl, by intro w hSw; (try dsimp only at hSw); go_simp⟩) (by assumption) ?_
              try simp only [Act.put, List.setIfInBounds_toArray, List.set_cons_zero, List.set_cons_succ]
              refine wpAnyH_take (i := 9) (oi := { dst := some 130, op := Op.move (Operand.tmp 13), type := 4, pos := "law.go:50", after := #[{ on := 7, ground := Ground.guard }], guard := some (7, false) }) (v := .bool yb) rfl (by kernel_rfl) (by kernel_rfl) (by kernel_rfl) (fun _ _ _ h => h) (Or.inl ⟨by rfl, by intro w hSw; (try dsimp only at hSw); go_simp⟩) (by assumption) ?_
              try simp only [Act.put, List.setIfInBounds_toArray, List.set_cons_zero, List.set_cons_succ]
              refine wpAnyH_take (i := 10) (oi := { dst := some 131, op := Op.binOp BinOp.neq 4 (Operand.tmp 129) (Operand.tmp 130) 4, type := 4, pos := "law.go:50", after := #[{ on := 8, ground := Ground.data }, { on := 9, ground := Ground.data }, { on := 7, ground := Ground.guard }], guard := some (7, false) }) (v := .bool false) rfl (by kernel_rfl) (by kernel_rfl) (by kernel_rfl) (fun _ _ _ h => h) (Or.inl ⟨by rfl, by intro w hSw; (try dsimp only at hSw); go_simp⟩) (by assumption) ?_
              try simp only [Act.put, List.setIfInBounds_toArray, List.set_cons_zero, List.set_cons_succ]
              refine wpAnyH_take (i := 11) (oi := { dst := some 132, op := Op.pick (Operand.tmp 128) (Operand.const (Value.bool true)) (Operand.tmp 131), type := 4, pos := "law.go:50", after := #[{ on := 7, ground := Ground.data }, { on := 10, ground := Ground.data }], guard := none }) (v := .bool false) rfl (by kernel_rfl) (by kernel_rfl) (by kernel_rfl) (fun _ _ _ h => h) (Or.inl ⟨by rfl, by intro w hSw; (try dsimp only at hSw); go_simp⟩) (by assumption) ?_
              try simp only [Act.put, List.setIfInBounds_toArray, List.set_cons_zero, List.set_cons_succ]
              refine wpAnyH_take (i := 12) (oi := { dst := some 133, op := Op.move (Operand.tmp 132), type := 4, pos := "law.go:50", after := #[{ on := 11, ground := Ground.data }, { on := 7, ground := Ground.chain }], guard := none }) (v := .bool false) rfl (by kernel_rfl) (by kernel_rfl) (by kernel_rfl) (fun _ _ _ h => h) (Or.inl ⟨by rfl, by intro w hSw; (try dsimp only at hSw); go_simp⟩) (by assumption) ?_
              try simp only [Act.put, List.setIfInBounds_toArray, List.set_cons_zero, List.set_cons_succ]
              refine wpAnyH_take (i := 13) (oi := { dst := some 134, op := Op.move (Operand.tmp 16), type := 4, pos := "law.go:50", after := #[{ on := 12, ground := Ground.guard }], guard := some (12, false) }) (v := .bool true) rfl (by kernel_rfl) (by kernel_rfl) (by kernel_rfl) (fun _ _ _ h => h) (Or.inl ⟨by rfl, by intro w hSw; (try dsimp only at hSw); go_simp⟩) (by assumption) ?_
              try simp only [Act.put, List.setIfInBounds_toArray, List.set_cons_zero, List.set_cons_succ]
              refine wpAnyH_take (i := 14) (oi := { dst := some 135, op := Op.move (Operand.tmp 9), type := 26, pos := "law.go:50", after := #[{ on := 12, ground := Ground.guard }], guard := some (12, false) }) (v := .slice (some ⟨g, 0, none⟩) n c9) rfl (by kernel_rfl) (by kernel_rfl) (by kernel_rfl) (fun _ _ _ h => h) (Or.inl ⟨by rfl, by intro w hSw; (try dsimp only at hSw); go_simp⟩) (by assumption) ?_
              try simp only [Act.put, List.setIfInBounds_toArray, List.set_cons_zero, List.set_cons_succ]
              refine wpAnyH_take (i := 15) (oi := { dst := some 136, op := Op.call { callee := Callee.builtin Builtin.len, args := #[Operand.tmp 135], argTypes := #[26] }, type := 3, pos := "law.go:50", after := #[{ on := 14, ground := Ground.data }, { on := 12, ground := Ground.guard }], guard := some (12, false) }) (v := .int .i64 (n : Int)) rfl (by kernel_rfl) (by kernel_rfl) (by kernel_rfl) (fun _ _ _ h => h) (Or.inl ⟨by rfl, by intro w hSw; (try dsimp only at hSw); go_simp⟩) (by assumption) ?_
              try simp only [Act.put, List.setIfInBounds_toArray, List.set_cons_zero, List.set_cons_succ]
              refine wpAnyH_take (i := 16) (oi := { dst := some 137, op := Op.binOp BinOp.gtr 3 (Operand.tmp 136) (Operand.const (Value.int IntKind.i64 0)) 3, type := 4, pos := "law.go:50", after := #[{ on := 15, ground := Ground.data }, { on := 12, ground := Ground.guard }], guard := some (12, false) }) (v := .bool true) rfl (by kernel_rfl) (by kernel_rfl) (by kernel_rfl) (fun _ _ _ h => h) (Or.inl ⟨by rfl, by intro w hSw; (try dsimp only at hSw); go_simp⟩) (by assumption) ?_
              try simp only [Act.put, List.setIfInBounds_toArray, List.set_cons_zero, List.set_cons_succ]
              refine wpAnyH_take (i := 17) (oi := { dst := some 138, op := Op.binOp BinOp.neq 4 (Operand.tmp 134) (Operand.tmp 137) 4, type := 4, pos := "law.go:50", after := #[{ on := 13, ground := Ground.data }, { on := 16, ground := Ground.data }, { on := 12, ground := Ground.guard }], guard := some (12, false) }) (v := .bool false) rfl (by kernel_rfl) (by kernel_rfl) (by kernel_rfl) (fun _ _ _ h => h) (Or.inl ⟨by rfl, by intro w hSw; (try dsimp only at hSw); go_simp⟩) (by assumption) ?_
              try simp only [Act.put, List.setIfInBounds_toArray, List.set_cons_zero, List.set_cons_succ]
              refine wpAnyH_take (i := 18) (oi := { dst := some 139, op := Op.pick (Operand.tmp 133) (Operand.const (Value.bool true)) (Operand.tmp 138), type := 4, pos := "law.go:50", after := #[{ on := 12, ground := Ground.data }, { on := 17, ground := Ground.data }], guard := none }) (v := .bool false) rfl (by kernel_rfl) (by kernel_rfl) (by kernel_rfl) (fun _ _ _ h => h) (Or.inl ⟨by rfl, by intro w hSw; (try dsimp only at hSw); go_simp⟩) (by assumption) ?_
              try simp only [Act.put, List.setIfInBounds_toArray, List.set_cons_zero, List.set_cons_succ]
              refine wpAnyH_take (i := 19) (oi := { dst := some 140, op := Op.move (Operand.tmp 139), type := 4, pos := "law.go:50", after := #[{ on := 18, ground := Ground.data }, { on := 12, ground := Ground.chain }], guard := none }) (v := .bool false) rfl (by kernel_rfl) (by kernel_rfl) (by kernel_rfl) (fun _ _ _ h => h) (Or.inl ⟨by rfl, by intro w hSw; (try dsimp only at hSw); go_simp⟩) (by assumption) ?_
              try simp only [Act.put, List.setIfInBounds_toArray, List.set_cons_zero, List.set_cons_succ]
              refine wpAnyH_take (i := 20) (oi := { dst := some 141, op := Op.move (Operand.tmp 16), type := 4, pos := "law.go:50", after := #[{ on := 19, ground := Ground.guard }], guard := some (19, false) }) (v := .bool true) rfl (by kernel_rfl) (by kernel_rfl) (by kernel_rfl) (fun _ _ _ h => h) (Or.inl ⟨by rfl, by intro w hSw; (try dsimp only at hSw); go_simp⟩) (by assumption) ?_
              try simp only [Act.put, List.setIfInBounds_toArray, List.set_cons_zero, List.set_cons_succ]
              refine wpAnyH_take (i := 21) (oi := { dst := some 142, op := Op.move (Operand.tmp 141), type := 4, pos := "law.go:50", after := #[{ on := 20, ground := Ground.data }, { on := 19, ground := Ground.chain }, { on := 19, ground := Ground.guard }], guard := some (19, false) }) (v := .bool true) rfl (by kernel_rfl) (by kernel_rfl) (by kernel_rfl) (fun _ _ _ h => h) (Or.inl ⟨by rfl, by intro w hSw; (try dsimp only at hSw); go_simp⟩) (by assumption) ?_
              try simp only [Act.put, List.setIfInBounds_toArray, List.set_cons_zero, List.set_cons_succ]
              refine wpAnyH_take (i := 22) (oi := { dst := some 143, op := Op.load 44 (Operand.tmp 15), type := 44, pos := "law.go:50", after := #[{ on := 21, ground := Ground.guard }], guard := some (21, true) }) (v := .agg #[.int .i64 t.id, .int .u64 t.d, .int .u64 t.n]) rfl (by kernel_rfl) (by kernel_rfl) (by kernel_rfl) (fun _ _ _ h => h) (Or.inl ⟨by rfl, by intro w hSw; (try dsimp only at hSw); go_simp⟩) (by assumption) ?_
              try simp only [Act.put, List.setIfInBounds_toArray, List.set_cons_zero, List.set_cons_succ]
              refine wpAnyH_take (i := 23) (oi := { dst := some 144, op := Op.move (Operand.tmp 9), type := 26, pos := "law.go:50", after := #[{ on := 21, ground := Ground.guard }], guard := some (21, true) }) (v := .slice (some ⟨g, 0, none⟩) n c9) rfl (by kernel_rfl) (by kernel_rfl) (by kernel_rfl) (fun _ _ _ h => h) (Or.inl ⟨by rfl, by intro w hSw; (try dsimp only at hSw); go_simp⟩) (by assumption) ?_
              try simp only [Act.put, List.setIfInBounds_toArray, List.set_cons_zero, List.set_cons_succ]
              refine wpAnyH_take (i := 24) (oi := { dst := some 145, op := Op.indexAddr 26 (Operand.tmp 144) (Operand.const (Value.int IntKind.i64 0)), type := 0, pos := "law.go:50", after := #[{ on := 23, ground := Ground.data }, { on := 21, ground := Ground.guard }], guard := some (21, true) }) (v := .pointer (some ⟨g, 0, none⟩)) rfl (by kernel_rfl) (by kernel_rfl) (by kernel_rfl) (fun _ _ _ h => h) (Or.inl ⟨by rfl, by intro w hSw; (try dsimp only at hSw); go_simp⟩) (by assumption) ?_
              try simp only [Act.put, List.setIfInBounds_toArray, List.set_cons_zero, List.set_cons_succ]
              refine wpAnyH_take (i := 25) (oi := { dst := some 146, op := Op.load 44 (Operand.tmp 145), type := 44, pos := "law.go:50", after := #[{ on := 24, ground := Ground.data }, { on := 21, ground := Ground.guard }], guard := some (21, true) }) (v := .agg #[.int .i64 t.id, .int .u64 t.d, .int .u64 t.n]) rfl (by kernel_rfl) (by kernel_rfl) (by kernel_rfl) (fun _ _ _ h => h) (Or.inl ⟨by rfl, by intro w hSw; (try dsimp only at hSw); go_simp⟩) (by assumption) ?_
              try simp only [Act.put, List.setIfInBounds_toArray, List.set_cons_zero, List.set_cons_succ]
              refine wpAnyH_take (i := 26) (oi := { dst := some 147, op := Op.binOp BinOp.neq 44 (Operand.tmp 143) (Operand.tmp 146) 44, type := 4, pos := "law.go:50", after := #[{ on := 22, ground := Ground.data }, { on := 25, ground := Ground.data }, { on := 21, ground := Ground.guard }], guard := some (21, true) }) (v := .bool false) rfl (by kernel_rfl) (by kernel_rfl) (by kernel_rfl) (fun _ _ _ h => h) (Or.inl ⟨by rfl, by intro w hSw; (try dsimp only at hSw); go_simp⟩) (by assumption) ?_
              try simp only [Act.put, List.setIfInBounds_toArray, List.set_cons_zero, List.set_cons_succ]
              refine wpAnyH_take (i := 27) (oi := { dst := some 148, op := Op.pick (Operand.tmp 142) (Operand.tmp 147) (Operand.const (Value.bool false)), type := 4, pos := "law.go:50", after := #[{ on := 21, ground := Ground.data }, { on := 26, ground := Ground.data }, { on := 19, ground := Ground.guard }], guard := some (19, false) }) (v := .bool false) rfl (by kernel_rfl) (by kernel_rfl) (by kernel_rfl) (fun _ _ _ h => h) (Or.inl ⟨by rfl, by intro w hSw; (try dsimp only at hSw); go_simp⟩) (by assumption) ?_
              try simp only [Act.put, List.setIfInBounds_toArray, List.set_cons_zero, List.set_cons_succ]
              refine wpAnyH_take (i := 28) (oi := { dst := some 149, op := Op.pick (Operand.tmp 140) (Operand.const (Value.bool true)) (Operand.tmp 148), type := 4, pos := "law.go:50", after := #[{ on := 19, ground := Ground.data }, { on := 27, ground := Ground.data }], guard := none }) (v := .bool false) rfl (by kernel_rfl) (by kernel_rfl) (by kernel_rfl) (fun _ _ _ h => h) (Or.inl ⟨by rfl, by intro w hSw; (try dsimp only at hSw); go_simp⟩) (by assumption) ?_
              try simp only [Act.put, List.setIfInBounds_toArray, List.set_cons_zero, List.set_cons_succ]
              refine wpAnyH_take (i := 29) (oi := { dst := some 150, op := Op.move (Operand.tmp 149), type := 4, pos := "law.go:50", after := #[{ on := 28, ground := Ground.data }, { on := 21, ground := Ground.chain }], guard := none }) (v := .bool false) rfl (by kernel_rfl) (by kernel_rfl) (by kernel_rfl) (fun _ _ _ h => h) (Or.inl ⟨by rfl, by intro w hSw; (try dsimp only at hSw); go_simp⟩) (by assumption) ?_
              try simp only [Act.put, List.setIfInBounds_toArray, List.set_cons_zero, List.set_cons_succ]
              refine wpAnyH_take (i := 30) (oi := { dst := some 151, op := Op.move (Operand.tmp 3), type := 23, pos := "law.go:50", after := #[{ on := 29, ground := Ground.guard }], guard := some (29, false) }) (v := .pointer (some ⟨s, 0, none⟩)) rfl (by kernel_rfl) (by kernel_rfl) (by kernel_rfl) (fun _ _ _ h => h) (Or.inl ⟨by rfl, by intro w hSw; (try dsimp only at hSw); go_simp⟩) (by assumption) ?_
              try simp only [Act.put, List.setIfInBounds_toArray, List.set_cons_zero, List.set_cons_succ]
              refine wpAnyH_take (i := 32) (oi := { dst := some 153, op := Op.move (Operand.tmp 9), type := 26, pos := "law.go:50", after := #[{ on := 29, ground := Ground.guard }], guard := some (29, false) }) (v := .slice (some ⟨g, 0, none⟩) n c9) rfl (by kernel_rfl) (by kernel_rfl) (by kernel_rfl) (fun _ _ _ h => h) (Or.inl ⟨by rfl, by intro w hSw; (try dsimp only at hSw); go_simp⟩) (by assumption) ?_
              try simp only [Act.put, List.setIfInBounds_toArray, List.set_cons_zero, List.set_cons_succ]
              refine wpAnyH_take (i := 33) (oi := { dst := some 154, op := Op.call { callee := Callee.builtin Builtin.len, args := #[Operand.tmp 153], argTypes := #[26] }, type := 3, pos := "law.go:50", after := #[{ on := 32, ground := Ground.data }, { on := 29, ground := Ground.guard }], guard := some (29, false) }) (v := .int .i64 (n : Int)) rfl (by kernel_rfl) (by kernel_rfl) (by kernel_rfl) (fun _ _ _ h => h) (Or.inl ⟨by rfl, by intro w hSw; (try dsimp only at hSw); go_simp⟩) (by assumption) ?_
              try simp only [Act.put, List.setIfInBounds_toArray, List.set_cons_zero, List.set_cons_succ]
              refine wpAnyH_ready (rs := [31]) (by kernel_rfl) (by simp) ?_
              refine AllReadyH.cons (o := { dst := some 152, op := Op.call { callee := Callee.value (Operand.func 22), args := #[Operand.tmp 151], argTypes := #[23] }, type := 3, pos := "law.go:50", after := #[{ on := 30, ground := Ground.data }, { on := 29, ground := Ground.chain }, { on := 29, ground := Ground.guard }], guard := some (29, false) }) rfl (fun K hK => ?_) AllReadyH.nil
              go_simp
              refine (HL.out _ _ HE.out).mono ?_
              rintro e w' ⟨rfl, rfl⟩
              first | refine hK.out _ _ HC.out (fun hHeld2 => ?_) | (go_wp2_with fail; refine hK.out _ _ HC.out (fun hHeld2 => ?_))
              clear hK K hHeld
              have hHeld := hHeld2
              clear hHeld2
              try simp only [Act.put, List.setIfInBounds_toArray, List.set_cons_zero, List.set_cons_succ]
              refine wpAnyH_take (i := 34) (oi := { dst := some 155, op := Op.binOp BinOp.neq 3 (Operand.tmp 152) (Operand.tmp 154) 3, type := 4, pos := "law.go:50", after := #[{ on := 31, ground := Ground.data }, { on := 33, ground := Ground.data }, { on := 29, ground := Ground.guard }], guard := some (29, false) }) (v := .bool false) rfl (by kernel_rfl) (by kernel_rfl) (by kernel_rfl) (fun _ _ _ h => h) (Or.inl ⟨by rfl, by intro w hSw; (try dsimp only at hSw); go_simp⟩) (by assumption) ?_
              try simp only [Act.put, List.setIfInBounds_toArray, List.set_cons_zero, List.set_cons_succ]
              refine wpAnyH_take (i := 35) (oi := { dst := some 156, op := Op.pick (Operand.tmp 150) (Operand.const (Value.bool true)) (Operand.tmp 155), type := 4, pos := "law.go:50", after := #[{ on := 29, ground := Ground.data }, { on := 34, ground := Ground.data }], guard := none }) (v := .bool false) rfl (by kernel_rfl) (by kernel_rfl) (by kernel_rfl) (fun _ _ _ h => h) (Or.inl ⟨by rfl, by intro w hSw; (try dsimp only at hSw); go_simp⟩) (by assumption) ?_
              try simp only [Act.put, List.setIfInBounds_toArray, List.set_cons_zero, List.set_cons_succ]
              refine wpAnyH_take (i := 36) (oi := { dst := some 157, op := Op.move (Operand.tmp 156), type := 4, pos := "law.go:50", after := #[{ on := 35, ground := Ground.data }, { on := 31, ground := Ground.chain }], guard := none }) (v := .bool false) rfl (by kernel_rfl) (by kernel_rfl) (by kernel_rfl) (fun _ _ _ h => h) (Or.inl ⟨by rfl, by intro w hSw; (try dsimp only at hSw); go_simp⟩) (by assumption) ?_
              try simp only [Act.put, List.setIfInBounds_toArray, List.set_cons_zero, List.set_cons_succ]
              refine wpAnyH_take (i := 37) (oi := { dst := some 158, op := Op.move (Operand.tmp 3), type := 23, pos := "law.go:50", after := #[{ on := 36, ground := Ground.guard }], guard := some (36, false) }) (v := .pointer (some ⟨s, 0, none⟩)) rfl (by kernel_rfl) (by kernel_rfl) (by kernel_rfl) (fun _ _ _ h => h) (Or.inl ⟨by rfl, by intro w hSw; (try dsimp only at hSw); go_simp⟩) (by assumption) ?_
              try simp only [Act.put, List.setIfInBounds_toArray, List.set_cons_zero, List.set_cons_succ]
              refine wpAnyH_take (i := 39) (oi := { dst := some 160, op := Op.move (Operand.tmp 9), type := 26, pos := "law.go:50", after := #[{ on := 36, ground := Ground.guard }], guard := some (36, false) }) (v := .slice (some ⟨g, 0, none⟩) n c9) rfl (by kernel_rfl) (by kernel_rfl) (by kernel_rfl) (fun _ _ _ h => h) (Or.inl ⟨by rfl, by intro w hSw; (try dsimp only at hSw); go_simp⟩) (by assumption) ?_
              try simp only [Act.put, List.setIfInBounds_toArray, List.set_cons_zero, List.set_cons_succ]
              refine wpAnyH_ready (rs := [38]) (by kernel_rfl) (by simp) ?_
              refine AllReadyH.cons (o := { dst := some 159, op := Op.call { callee := Callee.value (Operand.func 23), args := #[Operand.tmp 158], argTypes := #[23] }, type := 26, pos := "law.go:50", after := #[{ on := 37, ground := Ground.data }, { on := 36, ground := Ground.chain }, { on := 36, ground := Ground.guard }], guard := some (36, false) }) rfl (fun K hK => ?_) AllReadyH.nil
              go_simp
              refine (HA9.out _ _ HE.out).mono ?_
              rintro e w7 ⟨A8, c8, rfl, hE7⟩
              have HE := Lib.hid hE7
              have HC := Lib.hid (pl_c12 (y := y) (z := y) (t := t) (ya := ya) (za := za) (ta := ta) hE7 (by simp) (by simp) (by simp) (show Fb.row (.slice (some ⟨g, 0, none⟩) n c9) D ∈ _ by simp) HDR.out)
              clear hE7
              first | refine hK.out _ _ HC.out (fun hHeld2 => ?_) | (go_wp2_with fail; refine hK.out _ _ HC.out (fun hHeld2 => ?_))
              clear hK K hHeld
              have hHeld := hHeld2
              clear hHeld2
              try simp only [Act.put, List.setIfInBounds_toArray, List.set_cons_zero, List.set_cons_succ]
              refine wpAnyH_ready (rs := [40]) (by kernel_rfl) (by simp) ?_
              refine AllReadyH.cons (o := { dst := some 161, op := Op.call { callee := Callee.value (Operand.func 15), args := #[Operand.tmp 159, Operand.tmp 160], argTypes := #[26, 26] }, type := 4, pos := "law.go:50", after := #[{ on := 38, ground := Ground.data }, { on := 39, ground := Ground.data }, { on := 38, ground := Ground.chain }, { on := 36, ground := Ground.guard }], guard := some (36, false) }) rfl (fun K hK => ?_) AllReadyH.nil
              go_simp
              refine (HSm.out _ _ _ _ HE.out (by simp)).mono ?_
              rintro e w8 ⟨rfl, hE7⟩
              have HE := Lib.hid hE7
              have HC := Lib.hid (pl_c12 (y := y) (z := y) (t := t) (ya := ya) (za := za) (ta := ta) hE7 (by simp) (by simp) (by simp) (show Fb.row (.slice (some ⟨g, 0, none⟩) n c9) D ∈ _ by simp) HDR.out)
              clear hE7
              first | refine hK.out _ _ HC.out (fun hHeld2 => ?_) | (go_wp2_with fail; refine hK.out _ _ HC.out (fun hHeld2 => ?_))
              clear hK K hHeld
              have hHeld := hHeld2
              clear hHeld2
              try simp only [Act.put, List.setIfInBounds_toArray, List.set_cons_zero, List.set_cons_succ]
              refine wpAnyH_take (i := 41) (oi := { dst := some 162, op := Op.unOp UnOp.not 4 (Operand.tmp 161), type := 4, pos := "law.go:50", after := #[{ on := 40, ground := Ground.data }, { on := 36, ground := Ground.guard }], guard := some (36, false) }) (v := .bool false) rfl (by kernel_rfl) (by kernel_rfl) (by kernel_rfl) (fun _ _ _ h => h) (Or.inl ⟨by rfl, by intro w hSw; (try dsimp only at hSw); go_simp⟩) (by assumption) ?_
              try simp only [Act.put, List.setIfInBounds_toArray, List.set_cons_zero, List.set_cons_succ]
              refine wpAnyH_take (i := 42) (oi := { dst := some 163, op := Op.pick (Operand.tmp 157) (Operand.const (Value.bool true)) (Operand.tmp 162), type := 4, pos := "law.go:50", after := #[{ on := 36, ground := Ground.data }, { on := 41, ground := Ground.data }], guard := none }) (v := .bool false) rfl (by kernel_rfl) (by kernel_rfl) (by kernel_rfl) (fun _ _ _ h => h) (Or.inl ⟨by rfl, by intro w hSw; (try dsimp only at hSw); go_simp⟩) (by assumption) ?_
              try simp only [Act.put, List.setIfInBounds_toArray, List.set_cons_zero, List.set_cons_succ]
              refine wpAnyH_take (i := 43) (oi := { dst := some 164, op := Op.move (Operand.tmp 163), type := 4, pos := "law.go:50", after := #[{ on := 42, ground := Ground.data }, { on := 40, ground := Ground.chain }], guard := none }) (v := .bool false) rfl (by kernel_rfl) (by kernel_rfl) (by kernel_rfl) (fun _ _ _ h => h) (Or.inl ⟨by rfl, by intro w hSw; (try dsimp only at hSw); go_simp⟩) (by assumption) ?_
              try simp only [Act.put, List.setIfInBounds_toArray, List.set_cons_zero, List.set_cons_succ]
              refine wpAnyH_take (i := 44) (oi := { dst := some 165, op := Op.move (Operand.tmp 3), type := 23, pos := "law.go:50", after := #[{ on := 43, ground := Ground.guard }], guard := some (43, false) }) (v := .pointer (some ⟨s, 0, none⟩)) rfl (by kernel_rfl) (by kernel_rfl) (by kernel_rfl) (fun _ _ _ h => h) (Or.inl ⟨by rfl, by intro w hSw; (try dsimp only at hSw); go_simp⟩) (by assumption) ?_
              try simp only [Act.put, List.setIfInBounds_toArray, List.set_cons_zero, List.set_cons_succ]
              refine wpAnyH_take (i := 46) (oi := { dst := some 167, op := Op.move (Operand.tmp 4), type := 25, pos := "law.go:50", after := #[{ on := 43, ground := Ground.guard }], guard := some (43, false) }) (v := .pointer (some ⟨r, 0, none⟩)) rfl (by kernel_rfl) (by kernel_rfl) (by kernel_rfl) (fun _ _ _ h => h) (Or.inl ⟨by rfl, by intro w hSw; (try dsimp only at hSw); go_simp⟩) (by assumption) ?_
              try simp only [Act.put, List.setIfInBounds_toArray, List.set_cons_zero, List.set_cons_succ]
              refine wpAnyH_ready (rs := [45]) (by kernel_rfl) (by simp) ?_
              refine AllReadyH.cons (o := { dst := some 166, op := Op.call { callee := Callee.value (Operand.func 24), args := #[Operand.tmp 165], argTypes := #[23] }, type := 3, pos := "law.go:50", after := #[{ on := 44, ground := Ground.data }, { on := 43, ground := Ground.chain }, { on := 43, ground := Ground.guard }], guard := some (43, false) }) rfl (fun K hK => ?_) AllReadyH.nil
              go_simp
              refine (HHp.out _ _ HE.out).mono ?_
              rintro e w' ⟨rfl, rfl⟩
              first | refine hK.out _ _ HC.out (fun hHeld2 => ?_) | (go_wp2_with fail; refine hK.out _ _ HC.out (fun hHeld2 => ?_))
              clear hK K hHeld
              have hHeld := hHeld2
              clear hHeld2
              try simp only [Act.put, List.setIfInBounds_toArray, List.set_cons_zero, List.set_cons_succ]
              refine wpAnyH_ready (rs := [47]) (by kernel_rfl) (by simp) ?_
              refine AllReadyH.cons (o := { dst := some 168, op := Op.call { callee := Callee.value (Operand.func 25), args := #[Operand.tmp 167], argTypes := #[25] }, type := 3, pos := "law.go:50", after := #[{ on := 46, ground := Ground.data }, { on := 45, ground := Ground.chain }, { on := 43, ground := Ground.guard }], guard := some (43, false) }) rfl (fun K hK => ?_) AllReadyH.nil
              go_simp
              refine (HRh.out _ _ HE.out).mono ?_
              rintro e w9 ⟨rfl, hE7⟩
              have HE := Lib.hid hE7
              have HC := Lib.hid (pl_c12 (y := y) (z := y) (t := t) (ya := ya) (za := za) (ta := ta) hE7 (by simp) (by simp) (by simp) (show Fb.row (.slice (some ⟨g, 0, none⟩) n c9) D ∈ _ by simp) HDR.out)
              clear hE7
              first | refine hK.out _ _ HC.out (fun hHeld2 => ?_) | (go_wp2_with fail; refine hK.out _ _ HC.out (fun hHeld2 => ?_))
              clear hK K hHeld
              have hHeld := hHeld2
              clear hHeld2
              try simp only [Act.put, List.setIfInBounds_toArray, List.set_cons_zero, List.set_cons_succ]
              refine wpAnyH_take (i := 48) (oi := { dst := some 169, op := Op.binOp BinOp.neq 3 (Operand.tmp 166) (Operand.tmp 168) 3, type := 4, pos := "law.go:50", after := #[{ on := 45, ground := Ground.data }, { on := 47, ground := Ground.data }, { on := 43, ground := Ground.guard }], guard := some (43, false) }) (v := .bool false) rfl (by kernel_rfl) (by kernel_rfl) (by kernel_rfl) (fun _ _ _ h => h) (Or.inl ⟨by rfl, by intro w hSw; (try dsimp only at hSw); go_simp⟩) (by assumption) ?_
              try simp only [Act.put, List.setIfInBounds_toArray, List.set_cons_zero, List.set_cons_succ]
              refine wpAnyH_take (i := 49) (oi := { dst := some 170, op := Op.pick (Operand.tmp 164) (Operand.const (Value.bool true)) (Operand.tmp 169), type := 4, pos := "law.go:50", after := #[{ on := 43, ground := Ground.data }, { on := 48, ground := Ground.data }], guard := none }) (v := .bool false) rfl (by kernel_rfl) (by kernel_rfl) (by kernel_rfl) (fun _ _ _ h => h) (Or.inl ⟨by rfl, by intro w hSw; (try dsimp only at hSw); go_simp⟩) (by assumption) ?_
              try simp only [Act.put, List.setIfInBounds_toArray, List.set_cons_zero, List.set_cons_succ]
              refine wpAnyH_done (by kernel_rfl) ?_ _
              have H8 := Lib.hid (show PMid w s r (k + 1) [] w9 from ⟨_, _, _, P2.less HE.out (fun f hf => by simp at hf), HO2.out.2.1, HO2.out.2.2.1⟩)
              clear HE HC
              go_wp2_with fail
              go_roundw
              case rel => exact ⟨k + 1, by go_num, by omega, H8.out⟩
              case measure => simp [intOf]; omega
    · obtain rfl : k = l.length := by omega
      have H9 := Lib.hid H.bel; clear H
      go_wp2_with fail
      go_ret
      exact ⟨rfl, H9.out⟩

set_option maxHeartbeats 4000000 in
set_option maxRecDepth 100000 in
theorem plays_law (w : World) (A : Option Addr) (c : Nat) (l : List Cal) (hA : ArgOps w A l) :
    Calls Try.prog 3 #[.slice A l.length c] w fun e w' => e = .returned (.bool true) ∧ Below w.heap.size w w' := by
  by_cases hn : l.length ≤ 100
  · exact plays_any w A c l hn hA
  · clear hA
    have h1 : (100 : Int) < (l.length : Int) := by omega
    clear hn
    go_enter Try.func3, Try.ntmps3
    go_wp2_with fail
    go_ret
    exact ⟨rfl, Below.refl _ _⟩
end Go.Proofs.Ytncdohbdmpfefaa
