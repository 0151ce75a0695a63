/-
  The reference's All.
-/
import Derived.Test.YtncdohbdmpfefaaCoRefMake
namespace Go.Proofs.Ytncdohbdmpfefaa
open Go.RowKit Go.Maps Go.ChangeMaps Go.Shelf Go.Sort

/-- The place where an item belongs. -/
theorem rput_list {x : It} : ∀ {S : List It} {k : Nat}, k ≤ S.length → (∀ i y, i < k → S[i]? = some y → Lt y x) → (∀ y, S[k]? = some y → ¬ Lt y x) → S.take k ++ x :: S.drop k = ins x S
  | [], k, hk, _, _ => by
    have : k = 0 := by simpa using hk
    subst this; rfl
  | y :: S, 0, _, _, h2 => by
    unfold ins
    rw [if_neg (h2 y rfl)]
    rfl
  | y :: S, k + 1, hk, h1, h2 => by
    unfold ins
    rw [if_pos (h1 0 y (by omega) rfl), List.take_succ_cons, List.drop_succ_cons, List.cons_append]
    rw [rput_list (k := k) (by simpa using hk) (fun i z hi hz => h1 (i + 1) z (by omega) hz) (fun z hz => h2 z hz)]
theorem ord_take {X : List It} (hu : Uniq X) {k : Nat} {x : It} (hx : X[k]? = some x) : ins x (ord (X.take k)) = ord (X.take (k + 1)) := by
  have ht : X.take (k + 1) = X.take k ++ [x] := by rw [List.take_add_one, hx]; rfl
  have hn : ∀ y ∈ ord (X.take k), y.id ≠ x.id := by
    intro y hy
    have h1 := uniq_take hu (k + 1)
    rw [ht] at h1
    unfold Uniq at h1
    rw [List.map_append, List.nodup_append] at h1
    exact h1.2.2 _ (List.mem_map_of_mem ((ord_perm _).mem_iff.1 hy)) _ (by simp)
  refine (ord_eq (uniq_take hu (k + 1)) (ins_srt (ord_srt (uniq_take hu k)) hn) ?_).symm
  rw [ht]
  exact ((ins_perm x _).trans ((ord_perm _).cons x)).trans (List.perm_append_singleton x _).symm

/-- While All lays one more. -/
structure AllT (w W : World) (B r : Nat) (vl vq vc : Value) (X : List It) (Q T : List Int) (nx : Int) (u : Value) (S : List It) (v : Value) (P : List It) : Prop where
  R : RS W B r vl vq vc X Q T nx
  old : ∀ k, RO r vl vq vc k → k < w.heap.size
  b : Below w.heap.size w W
  O : rowI.own W w.heap.size u S
  O2 : rowI.own W w.heap.size v P
  ap : ∀ i, u.ownBlock = some i → v.ownBlock ≠ some i
section
variable {w W W' : World} {B r : Nat} {vl vq vc u v v' : Value} {X S P P' : List It} {Q T : List Int} {nx : Int}
theorem AllT.below (h : AllT w W B r vl vq vc X Q T nx u S v P) (hb : Below W.heap.size W W') : AllT w W' B r vl vq vc X Q T nx u S v P :=
  ⟨h.R.below hb, h.old, h.b.trans (hb.mono h.b.size), RowK.own_below h.O hb, RowK.own_below h.O2 hb, h.ap⟩
theorem AllT.alloc (h : AllT w W B r vl vq vc X Q T nx u S v P) (o : Obj) : AllT w (W.alloc o) B r vl vq vc X Q T nx u S v P := h.below ((Below.refl _ W).alloc (Nat.le_refl _) _)
theorem AllT.grow (h : AllT w W B r vl vq vc X Q T nx u S v P) (hg : W.grownBy W' v.ownBlock) (O' : rowI.own W' w.heap.size v' P') (ho : v'.ownBlock = v.ownBlock ∨ v'.ownBlock = some W.heap.size) : AllT w W' B r vl vq vc X Q T nx u S v' P' := by
  refine ⟨h.R.same fun k hk => hg.block k (h.R.lt hk).1 (fun e => by have := (RowK.own_lt h.O2 e.symm).2; have := h.old k hk; omega), h.old, h.b.grown hg h.b.size (fun k e => (RowK.own_lt h.O2 e).2), RowK.own_same h.O (fun k e => hg.block k (RowK.own_lt h.O e).1 (fun e2 => h.ap k e e2.symm)), O', fun i e e2 => ?_⟩
  rcases ho with h1 | h1
  · exact h.ap i e (h1 ▸ e2)
  · rw [h1] at e2
    have := (RowK.own_lt h.O e).1
    cases e2; omega
theorem AllT.set (h : AllT w W B r vl vq vc X Q T nx u S v P) : W.cell? ⟨r, 0, none⟩ = some vl ∧ r < W.heap.size := ⟨h.R.blk.cell 0, h.R.blk.lt⟩
theorem AllT.shows {g n c : Nat} (h : AllT w W B r vl vq vc X Q T nx (.slice (some ⟨g, 0, none⟩) n c) S v P) : rowI.shows W (some ⟨g, 0, none⟩) S := fun _ => by
  rcases RowK.own_form h.O with ⟨e, _⟩ | ⟨g', c', e, _, hg, _, hl⟩
  · cases e
  · obtain rfl : g = g' := by injection e with e1; injection e1 with e1; injection e1
    exact ⟨g, 0, rfl, hg, hl⟩
theorem AllT.lies {g n c : Nat} (h : AllT w W B r vl vq vc X Q T nx (.slice (some ⟨g, 0, none⟩) n c) S v P) : rowI.lies W g 0 S ∧ g < W.heap.size := by
  rcases RowK.own_form h.O with ⟨e, _⟩ | ⟨g', c', e, _, hg, _, hl⟩
  · cases e
  · obtain rfl : g = g' := by injection e with e1; injection e1 with e1; injection e1
    exact ⟨hl, hg⟩
theorem AllT.turn (h : AllT w W B r vl vq vc X Q T nx u S v P) : AllT w W B r vl vq vc X Q T nx v P (.slice none 0 0) [] := ⟨h.R, h.old, h.b, h.O2, RowK.own_nil _ _, fun i _ e => by cases e⟩
theorem AllT.dropAt {g n c : Nat} (h : AllT w W B r vl vq vc X Q T nx (.slice (some ⟨g, 0, none⟩) n c) S v P) (hc : S.length ≤ c) (k : Nat) : rowI.shows W (if c = k then (some ⟨g, 0, none⟩ : Option Addr) else some ⟨g, k * 3, none⟩) (S.drop k) := by
  have := RowK.cut_drop h.lies.1 h.lies.2 hc k
  rw [Nat.zero_add] at this
  exact this
theorem AllT.dropLt {g n c : Nat} (h : AllT w W B r vl vq vc X Q T nx (.slice (some ⟨g, 0, none⟩) n c) S v P) (k : Nat) : rowI.shows W (some ⟨g, k * 3, none⟩) (S.drop k) := fun _ => ⟨g, k * 3, rfl, h.lies.2, by have := RowK.lies_drop h.lies.1 k; rw [Nat.zero_add] at this; exact this⟩
end

set_option maxHeartbeats 8000000 in
set_option maxRecDepth 100000 in
theorem rall_rs {w : World} {B r : Nat} {vl vq vc : Value} {X : List It} {Q T : List Int} {nx : Int} (R : RS w B r vl vq vc X Q T nx) (hlen : X.length ≤ 1000) (hu : Uniq X) (hA : ∀ a ∈ X, ∀ b ∈ X, Ah a b = decide (Lt a b)) :
    Calls Try.prog 19 #[.pointer (some ⟨r, 0, none⟩)] w fun e w' => ∃ v, e = .returned v ∧ rowI.own w' w.heap.size v (ord X) ∧ Below w.heap.size w w' := by
  obtain ⟨Al, cl, Aq, cq, Ac, cc, rfl, rfl, rfl⟩ := R.forms
  have H0 := Lib.hid (show AllT w w B r (.slice Al X.length cl) (.slice Aq Q.length cq) (.slice Ac T.length cc) X Q T nx (.slice none 0 0) (ord (X.take 0)) (.slice none 0 0) [] from ⟨R, fun k hk => (R.lt hk).1, Below.refl _ _, by rw [List.take_zero]; exact RowK.own_nil _ _, RowK.own_nil _ _, fun i e => by cases e⟩)
  have HU := Lib.hid (And.intro hu hA)
  have hl1 : (X.length : Int) ≤ 1000 := by omega
  clear R hu hA
  go_enter Try.func19, Try.ntmps19
  go_wp2_with fail
  go_loopw [3, 4] (fun u i wr => ∃ k : Nat, i = .int .i64 (k : Int) ∧ k ≤ X.length ∧ AllT w wr B r (.slice Al X.length cl) (.slice Aq Q.length cq) (.slice Ac T.length cc) X Q T nx u (ord (X.take k)) (.slice none 0 0) []) (fun _ i _ => X.length - (intOf i).toNat)
  case atStart => exact ⟨0, rfl, Nat.zero_le _, H0.out⟩
  case round =>
    obtain ⟨k, rfl, hk, G⟩ := hrel
    obtain ⟨c0, rl⟩ := G.set
    by_cases hkl : k < X.length
    · obtain ⟨x, hx⟩ : ∃ x, X[k]? = some x := ⟨_, List.getElem?_eq_getElem hkl⟩
      obtain ⟨S, eS⟩ : ∃ S, S = ord (X.take k) := ⟨_, rfl⟩
      have hSl : S.length = k := by rw [eS, ord_len, List.length_take]; omega
      have hSm : ∀ y ∈ S, y ∈ X := fun y hy => by rw [eS] at hy; exact List.take_subset _ _ ((ord_perm _).mem_iff.1 hy)
      rw [← eS] at G
      have HS := Lib.hid (And.intro eS (And.intro hSm (And.intro (ord_take HU.out.1 hx) hSl)))
      have hS1000 : (S.length : Int) ≤ 1000 := by omega
      obtain ⟨gx, rfl⟩ : ∃ gx, Al = some ⟨gx, 0, none⟩ := by
        rcases RowK.own_form G.R.rl with ⟨_, h0⟩ | ⟨g, c, e, _⟩
        · rw [h0] at hkl; simp at hkl
        · injection e with e1; exact ⟨g, e1⟩
      have HX := Lib.hid hx
      have hxX := List.mem_of_getElem? hx
      have b0 : (0 : Int) ≤ (k : Int) := by omega
      have b1 : (k : Int) < (X.length : Int) := by omega
      rcases RowK.own_form G.O with ⟨rfl, hS0⟩ | ⟨gu, cu, rfl, hcu, hgu, _, hlu⟩
      · skip
        have hins : ins x [] = ord (X.take (k + 1)) := by rw [← HS.out.2.2.1, ← HS.out.1, hS0]
        rw [hS0] at G
        have HG := Lib.hid G
        have HI := Lib.hid hins
        clear hx eS hSm G hSl hS0 hins
        go_wp2_with fail
        go_loopw [5] (fun a wq => a = .int .i64 0 ∧ wq = wr) (fun a _ => 0)
        case atStart => exact ⟨rfl, rfl⟩
        case round =>
          obtain ⟨rfl, rfl⟩ := hrel
          go_wp2_with fail
          go_quiet (fail)
          have G := HG.out.below (Kept.below (F := fun _ => False) ((Kept.refl _ wr).drewN nq) (fun _ e => e.elim) (Nat.le_refl _))
          obtain ⟨wq, hwq⟩ : ∃ wq, wq = wr.drewN nq := ⟨_, rfl⟩
          rw [← hwq] at G ⊢
          clear HG hwq c0 rl
          have HG := Lib.hid G
          clear G
          go_wp2_with (first
            | (at_builtin; refine RowK.append (R := rowI) rfl _ _ rfl w.heap.size (.slice none 0 0) [] [] rfl HG.out.O2 none 0 0 rfl rfl (RowK.shows_nil) (fun _ => ⟨rfl, rfl⟩) (by simp) HG.out.b.size ?_; intro u1 w1 O1 hg1 ho1; have T1 := Lib.hid (HG.out.grow hg1 O1 ho1); obtain ⟨c0, rl⟩ := T1.out.set; obtain ⟨x0, x1, x2, gl⟩ := T1.out.R.cellX HX.out; obtain ⟨A1, n1, k1, hu1⟩ := RowK.own_slice O1; subst hu1; clear O1 hg1 ho1)
            | (at_builtin; refine RowK.append (R := rowI) rfl _ _ rfl w.heap.size _ ([] ++ []) [x] rfl (T1.out.alloc _).O2 _ 1 1 rfl rfl (RowK.new_shows (R := rowI) w1 x _) (fun e => by cases e) (by simp) (T1.out.alloc _).b.size ?_; intro u2 w2 O2 hg2 ho2; have T2 := Lib.hid ((T1.out.alloc _).grow hg2 O2 ho2); obtain ⟨A2, n2, k2, hu2⟩ := RowK.own_slice O2; subst hu2; clear O2 hg2 ho2)
            | (at_builtin; refine RowK.append (R := rowI) rfl _ _ rfl w.heap.size _ ([] ++ [] ++ [x]) [] rfl T2.out.O2 none 0 0 rfl rfl (RowK.shows_nil) (fun _ => ⟨rfl, rfl⟩) (by simp) T2.out.b.size ?_; intro u3 w3 O3 hg3 ho3; have T3 := Lib.hid (T2.out.grow hg3 O3 ho3); obtain ⟨A3, n3, k3, hu3⟩ := RowK.own_slice O3; subst hu3; clear O3 hg3 ho3))
          all_goals
            have e : [] ++ [] ++ [x] ++ [] = ord (X.take (k + 1)) := by rw [← HI.out]; rfl
            exact ⟨⟨k + 1, by go_num, by omega, by rw [← e]; exact T3.out.turn⟩, by simp [intOf]; omega⟩
      · have HG := Lib.hid G
        clear hx eS hSm G hlu hgu hSl
        go_wp2_with fail
        go_loopw [5] (fun a wr => ∃ p : Nat, a = .int .i64 (p : Int) ∧ p ≤ S.length ∧ (∀ i y, i < p → S[i]? = some y → Lt y x) ∧ AllT w wr B r (.slice (some ⟨gx, 0, none⟩) X.length cl) (.slice Aq Q.length cq) (.slice Ac T.length cc) X Q T nx (.slice (some ⟨gu, 0, none⟩) S.length cu) S (.slice none 0 0) []) (fun a _ => S.length - (intOf a).toNat)
        case atStart => exact ⟨0, rfl, Nat.zero_le _, fun i y h => by omega, HG.out⟩
        case round =>
          obtain ⟨p, rfl, hp, hb, G⟩ := hrel
          have c3 : (0 : Int) ≤ (p : Int) := by omega
          clear HG
          by_cases hps : p < S.length
          · obtain ⟨y, hy⟩ : ∃ y, S[p]? = some y := ⟨_, List.getElem?_eq_getElem hps⟩
            obtain ⟨c0, rl⟩ := G.set
            obtain ⟨x0, x1, x2, gl⟩ := G.R.cellX HX.out
            obtain ⟨hlu, hgu⟩ := G.lies
            obtain ⟨y0, y1, y2⟩ := rowI_cells hlu hy
            have E0 := cell_grown (w := wr) (a := ⟨r, 0, none⟩) rl c0
            have E1 := cell_grown (w := wr) (a := ⟨gu, p * 3, none⟩) hgu y0
            have E2 := cell_grown (w := wr) (a := ⟨gu, p * 3 + 1, none⟩) hgu y1
            have E3 := cell_grown (w := wr) (a := ⟨gu, p * 3 + 2, none⟩) hgu y2
            have E4 := cell_grown (w := wr) (a := ⟨gx, k * 3, none⟩) gl x0
            have E5 := cell_grown (w := wr) (a := ⟨gx, k * 3 + 1, none⟩) gl x1
            have E6 := cell_grown (w := wr) (a := ⟨gx, k * 3 + 2, none⟩) gl x2
            have hAh := HU.out.2 y (HS.out.2.1 y (List.mem_of_getElem? hy)) x hxX
            have b4 : (p : Int) < (S.length : Int) := by omega
            by_cases hxy : Lt y x
            · have HO := Lib.hid (fun n os => rahead_grown y x true (by rw [hAh]; simp [hxy]) wr n os)
              have HN := Lib.hid (show ∀ i z, i < p + 1 → S[i]? = some z → Lt z x from fun i z hi hz => by
                by_cases e : i = p
                · subst e; rw [hy] at hz; cases hz; exact hxy
                · exact hb i z (by omega) hz)
              have HG := Lib.hid (fun n os => G.below ((Kept.grow (F := fun _ => False) (Kept.refl _ wr) n os).below (fun _ e => e.elim) (Nat.le_refl _)))
              clear G hy hlu y0 y1 y2 x0 x1 x2 hAh hxy hb
              go_wp2_with fail
              refine wp_region_quiet_grown (by kernel_rfl) (by kernel_rfl) ?_
              repeat (first | go_big_quiet_step ((go_at_call 27; refine HO.out _ _)) | quiet_step ((go_at_call 27; refine HO.out _ _)))
              refine wpQuiet_nil ?_
              intro _ hw'
              obtain ⟨⟨nq, osq⟩, hw''⟩ := hw'
              subst hw''
              have G' := Lib.hid (HG.out nq osq)
              clear c0 E0 E1 E2 E3 E4 E5 E6
              go_wp2_with fail
              go_roundw
              case rel => exact ⟨p + 1, by go_num, by omega, HN.out, G'.out⟩
              case measure => simp [intOf]; omega
            · have HO := Lib.hid (fun n os => rahead_grown y x false (by rw [hAh]; simp [hxy]) wr n os)
              have HN := Lib.hid (show ∀ z, S[p]? = some z → ¬ Lt z x from fun z hz => by rw [hy] at hz; cases hz; exact hxy)
              have HB := Lib.hid hb
              have HG := Lib.hid (fun n os => G.below ((Kept.grow (F := fun _ => False) (Kept.refl _ wr) n os).below (fun _ e => e.elim) (Nat.le_refl _)))
              clear G hy hlu y0 y1 y2 x0 x1 x2 hAh hxy hb
              go_wp2_with fail
              refine wp_region_quiet_grown (by kernel_rfl) (by kernel_rfl) ?_
              repeat (first | go_big_quiet_step ((go_at_call 27; refine HO.out _ _)) | quiet_step ((go_at_call 27; refine HO.out _ _)))
              refine wpQuiet_nil ?_
              intro _ hw'
              obtain ⟨⟨nq, osq⟩, hw''⟩ := hw'
              subst hw''
              have G := HG.out nq osq
              obtain ⟨wq, hwq⟩ : ∃ wq, wq = grow (wr.drewN nq) osq := ⟨_, rfl⟩
              rw [← hwq] at G ⊢
              clear HG hwq c0 rl E0 E1 E2 E3 E4 E5 E6
              have HG := Lib.hid G
              have hput := rput_list hp HB.out HN.out
              have HP := Lib.hid hput
              have hlt : (S.take p).length = p := by rw [List.length_take]; omega
              have hld : (S.drop p).length = S.length - p := List.length_drop
              have HL := Lib.hid (And.intro hlt hld)
              obtain ⟨c0, rl⟩ := G.set
              have b5 : (p : Int) ≤ (cu : Int) := by omega
              have b6 : (S.length : Int) ≤ (cu : Int) := by omega
              have b7 : (p : Int) ≤ (S.length : Int) := by omega
              clear hlt hld G hput
              go_wp2_with (first
                | (at_builtin; refine RowK.append (R := rowI) rfl _ _ rfl w.heap.size (.slice none 0 0) [] (S.take p) rfl HG.out.O2 (some ⟨gu, 0, none⟩) p cu HL.out.1.symm rfl (RowK.cut_take HG.out.shows p) (fun e => by cases e) (by have := HL.out.1; rw [List.length_nil]; omega) HG.out.b.size ?_; intro u1 w1 O1 hg1 ho1; have T1 := Lib.hid (HG.out.grow hg1 O1 ho1); obtain ⟨c0, rl⟩ := T1.out.set; obtain ⟨x0, x1, x2, gl⟩ := T1.out.R.cellX HX.out; obtain ⟨A1, n1, k1, hu1⟩ := RowK.own_slice O1; subst hu1; clear O1 hg1 ho1)
                | (at_builtin; refine RowK.append (R := rowI) rfl _ _ rfl w.heap.size _ ([] ++ S.take p) [x] rfl (T1.out.alloc _).O2 _ 1 1 rfl rfl (RowK.new_shows (R := rowI) w1 x _) (fun e => by cases e) (by have := HL.out.1; rw [List.nil_append, List.length_singleton]; omega) (T1.out.alloc _).b.size ?_; intro u2 w2 O2 hg2 ho2; have T2 := Lib.hid ((T1.out.alloc _).grow hg2 O2 ho2); obtain ⟨A2, n2, k2, hu2⟩ := RowK.own_slice O2; subst hu2; clear O2 hg2 ho2)
                | (at_builtin; refine RowK.append (R := rowI) rfl _ _ rfl w.heap.size _ ([] ++ S.take p ++ [x]) (S.drop p) rfl T2.out.O2 _ _ _ HL.out.2.symm rfl (T2.out.dropLt p) (fun e => by cases e) (by have := HL.out.1; have := HL.out.2; rw [List.nil_append, List.length_append, List.length_singleton]; omega) T2.out.b.size ?_; intro u3 w3 O3 hg3 ho3; have T3 := Lib.hid (T2.out.grow hg3 O3 ho3); obtain ⟨A3, n3, k3, hu3⟩ := RowK.own_slice O3; subst hu3; clear O3 hg3 ho3))
              all_goals
                have e : [] ++ S.take p ++ [x] ++ S.drop p = ord (X.take (k + 1)) := by rw [← HS.out.2.2.1, ← HS.out.1, ← HP.out]; simp
                exact ⟨⟨k + 1, by go_num, by omega, by rw [← e]; exact T3.out.turn⟩, by simp [intOf]; omega⟩
          · have HN := Lib.hid (show ∀ z, S[p]? = some z → ¬ Lt z x from fun z hz => by have := (List.getElem?_eq_some_iff.1 hz).1; omega)
            have HB := Lib.hid hb
            have HC := Lib.hid hcu
            have hpl : ¬ (p : Int) < (S.length : Int) := by omega
            have HG := Lib.hid (fun n => G.below (Kept.below (F := fun _ => False) ((Kept.refl _ wr).drewN n) (fun _ e => e.elim) (Nat.le_refl _)))
            clear G hb
            go_wp2_with fail
            go_quiet (fail)
            have G := HG.out nq
            obtain ⟨wq, hwq⟩ : ∃ wq, wq = wr.drewN nq := ⟨_, rfl⟩
            rw [← hwq] at G ⊢
            clear HG hwq c0 rl
            have HG := Lib.hid G
            have hput := rput_list hp HB.out HN.out
            have HP := Lib.hid hput
            have hlt : (S.take p).length = p := by rw [List.length_take]; omega
            have hld : (S.drop p).length = S.length - p := List.length_drop
            have HL := Lib.hid (And.intro hlt hld)
            obtain ⟨c0, rl⟩ := G.set
            have b5 : (p : Int) ≤ (cu : Int) := by omega
            have b6 : (S.length : Int) ≤ (cu : Int) := by omega
            have b7 : (p : Int) ≤ (S.length : Int) := by omega
            clear hlt hld G hput
            go_wp2_with (first
              | (at_builtin; refine RowK.append (R := rowI) rfl _ _ rfl w.heap.size (.slice none 0 0) [] (S.take p) rfl HG.out.O2 (some ⟨gu, 0, none⟩) p cu HL.out.1.symm rfl (RowK.cut_take HG.out.shows p) (fun e => by cases e) (by have := HL.out.1; rw [List.length_nil]; omega) HG.out.b.size ?_; intro u1 w1 O1 hg1 ho1; have T1 := Lib.hid (HG.out.grow hg1 O1 ho1); obtain ⟨c0, rl⟩ := T1.out.set; obtain ⟨x0, x1, x2, gl⟩ := T1.out.R.cellX HX.out; obtain ⟨A1, n1, k1, hu1⟩ := RowK.own_slice O1; subst hu1; clear O1 hg1 ho1)
              | (at_builtin; refine RowK.append (R := rowI) rfl _ _ rfl w.heap.size _ ([] ++ S.take p) [x] rfl (T1.out.alloc _).O2 _ 1 1 rfl rfl (RowK.new_shows (R := rowI) w1 x _) (fun e => by cases e) (by have := HL.out.1; rw [List.nil_append, List.length_singleton]; omega) (T1.out.alloc _).b.size ?_; intro u2 w2 O2 hg2 ho2; have T2 := Lib.hid ((T1.out.alloc _).grow hg2 O2 ho2); obtain ⟨A2, n2, k2, hu2⟩ := RowK.own_slice O2; subst hu2; clear O2 hg2 ho2)
              | (at_builtin; refine RowK.append (R := rowI) rfl _ _ rfl w.heap.size _ ([] ++ S.take p ++ [x]) (S.drop p) rfl T2.out.O2 _ _ _ HL.out.2.symm rfl (T2.out.dropAt HC.out p) (fun e => by first | cases e | (split at e <;> cases e)) (by have := HL.out.1; have := HL.out.2; rw [List.nil_append, List.length_append, List.length_singleton]; omega) T2.out.b.size ?_; intro u3 w3 O3 hg3 ho3; have T3 := Lib.hid (T2.out.grow hg3 O3 ho3); obtain ⟨A3, n3, k3, hu3⟩ := RowK.own_slice O3; subst hu3; clear O3 hg3 ho3))
            all_goals
              have e : [] ++ S.take p ++ [x] ++ S.drop p = ord (X.take (k + 1)) := by rw [← HS.out.2.2.1, ← HS.out.1, ← HP.out]; simp
              exact ⟨⟨k + 1, by go_num, by omega, by rw [← e]; exact T3.out.turn⟩, by simp [intOf]; omega⟩
    · obtain rfl : k = X.length := by omega
      rw [List.take_length] at G
      obtain ⟨A1, n1, k1, hu1⟩ := RowK.own_slice G.O
      subst hu1
      have HG := Lib.hid (And.intro G.O G.b)
      clear G
      go_wp2_with fail
      go_ret
      exact ⟨_, rfl, HG.out.1, HG.out.2⟩
theorem ah_eq {L : List En} {T : List Int} {nx : Int} (h : CInv L T nx) : ∀ a ∈ xs L, ∀ b ∈ xs L, Ah a b = decide (Lt a b) := fun a ha b hb => by
  by_cases hl : Lt a b
  · rw [lt_ah h ha hb hl]; simp [hl]
  · have : Ah a b = false := by
      unfold Ah
      unfold Lt at hl
      simp
      omega
    rw [this]; simp [hl]
theorem rall_any {W : World} {B r : Nat} {L : List En} {T : List Int} {nx : Int} {O : Nat → Prop} (H : RefQ B r L T nx W O) (h : CInv L T nx) :
    Calls Try.prog 19 #[.pointer (some ⟨r, 0, none⟩)] W fun e w' => ∃ v, e = .returned v ∧ rowI.own w' W.heap.size v (ord (xs L)) ∧ Below W.heap.size W w' := by
  obtain ⟨vl, vq, vc, R, ho⟩ := H
  exact rall_rs R (by rw [xs_len]; have := h.len; omega) h.uniq (ah_eq h)
end Go.Proofs.Ytncdohbdmpfefaa
