/-
  The reference's put.
-/
import Derived.Test.YtfflbbohgndjfaaHpRef
namespace Go.Proofs.Ytfflbbohgndjfaa
open Go.RowKit Go.Maps Go.ChangeMaps Go.Sort

theorem showO_new (w : World) (t : TypeId) (x : It) : ∃ off, (some ⟨w.heap.size, 0, none⟩ : Option Addr) = some ⟨w.heap.size, off, none⟩ ∧ ShowO (w.alloc (.cells #[.int .i64 x.id, .int .u64 x.d, .int .u64 x.n] t)) w.heap.size off [x] := by
  have b := Blk.new w t #[.int .i64 x.id, .int .u64 x.d, .int .u64 x.n]
  refine ⟨0, rfl, fun i y hy => ?_⟩
  have hi := (List.getElem?_eq_some_iff.1 hy).1
  obtain rfl : i = 0 := by simpa using hi
  cases hy
  exact ⟨b.cell 0, b.cell 1, b.cell 2⟩
/-- While put looks for the place. -/
structure PutRel (w : World) (B r : Nat) (v : Value) (S : List It) (x : It) (k : Nat) (wr : World) : Prop where
  R : Rf wr B r v S
  X : Blk wr w.heap.size 31 #[.int .i64 x.id, .int .u64 x.d, .int .u64 x.n]
  b : Below w.heap.size w wr
  kl : k ≤ S.length
  a : ∀ i y, i < k → S[i]? = some y → Lt y x
theorem PutRel.grow {w wr : World} {B r k : Nat} {v : Value} {S : List It} {x : It} (h : PutRel w B r v S x k wr) (n : Nat) (os : Array Obj) : PutRel w B r v S x k (grow (wr.drewN n) os) := by
  have bq : Below wr.heap.size wr (Sort.grow (wr.drewN n) os) := (Kept.grow (F := fun _ => False) (Kept.refl _ wr) n os).below (fun _ e => e.elim) (Nat.le_refl _)
  exact ⟨h.R.below bq, h.X.same (bq.block _ h.X.lt), h.b.trans (bq.mono h.b.size), h.kl, h.a⟩
theorem PutRel.done {w wr w3 : World} {B r k : Nat} {v u : Value} {S : List It} {x : It} (h : PutRel w B r v S x k wr) (hx : ∀ y, S[k]? = some y → ¬ Lt y x) (hb : Below wr.heap.size wr w3) (O : OwnIt w3 wr.heap.size u ([] ++ S.take k ++ [x] ++ S.drop k)) :
    Rf (w3.setCell ⟨r, 0, none⟩ u) B r u (ins x S) ∧ RM w (w3.setCell ⟨r, 0, none⟩ u) r v u := by
  have e : [] ++ S.take k ++ [x] ++ S.drop k = ins x S := by rw [← put_list h.kl h.a hx]; simp
  rw [e] at O
  obtain ⟨h1, h2⟩ := h.R.store hb O
  exact ⟨h1, (RM.of_below h.b).trans h2⟩
theorem PutRel.next {w wr : World} {B r k : Nat} {v : Value} {S : List It} {x y : It} (h : PutRel w B r v S x k wr) (hy : S[k]? = some y) (hlt : Lt y x) : PutRel w B r v S x (k + 1) wr := by
  refine ⟨h.R, h.X, h.b, (List.getElem?_eq_some_iff.1 hy).1, fun i z hi hz => ?_⟩
  by_cases e : i = k
  · subst e; rw [hy] at hz; cases hz; exact hlt
  · exact h.a i z (by omega) hz
theorem own_g {w : World} {B g n c : Nat} {S : List It} (h : OwnIt w B (.slice (some ⟨g, 0, none⟩) n c) S) : g < w.heap.size ∧ RowAt w g S := by
  rcases h.cap with ⟨e, _⟩ | ⟨g', c', e, _, hg, _, hrow⟩
  · injection e with e1; cases e1
  · injection e with e1; injection e1 with e2; injection e2 with e3; subst e3; exact ⟨hg, hrow⟩

set_option maxHeartbeats 8000000 in
set_option maxRecDepth 100000 in
theorem put_g {w : World} {B r g c : Nat} {S : List It} (R : Rf w B r (.slice (some ⟨g, 0, none⟩) S.length c) S) (hlen : S.length ≤ 1000) (hc : S.length ≤ c) (x : It) : Calls Try.prog 33 #[.pointer (some ⟨r, 0, none⟩), .agg #[.int .i64 x.id, .int .u64 x.d, .int .u64 x.n]] w fun e w' =>
    e = .returned (.tuple #[]) ∧ ∃ v', Rf w' B r v' (ins x S) ∧ RM w w' r (.slice (some ⟨g, 0, none⟩) S.length c) v' := by
  have h0 : PutRel w B r (.slice (some ⟨g, 0, none⟩) S.length c) S x 0 (w.alloc (.cells #[.int .i64 x.id, .int .u64 x.d, .int .u64 x.n] 31)) :=
    ⟨R.below ((Below.refl _ w).alloc (Nat.le_refl _) _), Blk.new _ _ _, (Below.refl _ w).alloc (Nat.le_refl _) _, Nat.zero_le _, fun i y h => by omega⟩
  have H0 := Lib.hid h0
  have hS0 : (0 : Int) ≤ (S.length : Int) := by omega
  clear h0 R
  go_enter Try.func33, Try.ntmps33
  go_wp2_with fail
  go_loopw [4] (fun i wr => ∃ k : Nat, i = .int .i64 (k : Int) ∧ PutRel w B r (.slice (some ⟨g, 0, none⟩) S.length c) S x k wr) (fun i _ => S.length - (intOf i).toNat)
  case atStart => exact ⟨0, rfl, H0.out⟩
  case round =>
    obtain ⟨k, rfl, G⟩ := hrel
    have hk := G.kl
    have b0 : (0 : Int) ≤ (k : Int) := by omega
    have HR := Lib.hid (own_g G.R.row)
    have hfol : Try.prog.follows Departure.mixedOrders = true := by kernel_rfl
    have HG := Lib.hid G
    by_cases hkl : k < S.length
    · have hy := List.getElem?_eq_getElem hkl
      obtain ⟨y, ey⟩ : ∃ y, y = S[k] := ⟨_, rfl⟩
      rw [← ey] at hy
      have b1 : (k : Int) < (S.length : Int) := by omega
      obtain ⟨y0, y1, y2⟩ := HR.out.2 k y hy
      have c0 := G.R.blk.cell 0
      have t0 := G.X.cell 0
      have t1 := G.X.cell 1
      have t2 := G.X.cell 2
      simp at c0 t0 t1 t2
      have E0 := cell_grown (w := wr) (a := ⟨r, 0, none⟩) G.R.blk.lt c0
      have E1 := cell_grown (w := wr) (a := ⟨g, k * 3, none⟩) HR.out.1 y0
      have E2 := cell_grown (w := wr) (a := ⟨g, k * 3 + 1, none⟩) HR.out.1 y1
      have E3 := cell_grown (w := wr) (a := ⟨g, k * 3 + 2, none⟩) HR.out.1 y2
      have E4 := cell_grown (w := wr) (a := ⟨w.heap.size, 0, none⟩) G.X.lt t0
      have E5 := cell_grown (w := wr) (a := ⟨w.heap.size, 1, none⟩) G.X.lt t1
      have E6 := cell_grown (w := wr) (a := ⟨w.heap.size, 2, none⟩) G.X.lt t2
      have HY := Lib.hid hy
      by_cases hxy : Lt y x
      · have HO := Lib.hid (fun n os => ahead_grown y x hxy wr n os)
        have HX := Lib.hid hxy
        clear G hy ey y0 y1 y2 t0 t1 t2 hxy
        go_wp2_with fail
        go_quiet_grown ((go_at_call 29; refine HO.out _ _))
        have G' := Lib.hid ((HG.out.next HY.out HX.out).grow nq osq)
        go_wp2_with fail
        go_roundw
        case rel => exact ⟨k + 1, by go_num, G'.out⟩
        case measure => simp [intOf]; omega
      · have HO := Lib.hid (fun n os => aheadNot_grown y x hxy wr n os)
        have HN : Hid (∀ z, S[k]? = some z → ¬ Lt z x) := Lib.hid (fun z hz => by rw [hy] at hz; cases hz; exact hxy)
        clear G hy ey y0 y1 y2 t0 t1 t2 hxy
        go_wp2_with fail
        go_quiet_grown ((go_at_call 29; refine HO.out _ _))
        clear E0 E1 E2 E3 E4 E5 E6 c0
        have G' := HG.out.grow nq osq
        obtain ⟨wq, hwq⟩ : ∃ wq, wq = grow (wr.drewN nq) osq := ⟨_, rfl⟩
        rw [← hwq] at G' ⊢
        clear HG HR
        have HR := Lib.hid (own_g G'.R.row)
        have HG := Lib.hid G'
        clear G' hwq
        have o0 : OwnIt wq wq.heap.size (.slice none 0 0) [] := World.ownsRow_nil _ _ _ _
        have rl := HG.out.R.blk.lt
        have c0 := HG.out.R.blk.cell 0
        simp at c0
        have HT := Lib.hid (And.intro o0 HG.out.X)
        have hkk := HG.out.kl
        have hlt : (S.take k).length = k := by rw [List.length_take]; omega
        have hld : (S.drop k).length = S.length - k := List.length_drop
        have HLn := Lib.hid (And.intro hlt hld)
        have b5 : (k : Int) ≤ (c : Int) := by omega
        have b6 : (S.length : Int) ≤ (c : Int) := by omega
        have b7 : (k : Int) ≤ (S.length : Int) := by omega
        clear o0 hlt hld
        go_wp2_with (first
          | (at_builtin; refine wpList_append_off rfl _ _ rfl wq.heap.size (.slice none 0 0) [] (S.take k) rfl HT.out.1 _ g k c HLn.out.1.symm rfl (after_take HR.out.2 k) (by have := HLn.out.1; rw [List.length_nil]; omega) (Nat.le_refl _) ?_; intro u1 w1 O1 hg1 ho1; have b1 := due_b7 hg1; have X1 := HT.out.2.same (b1.block _ HT.out.2.lt); have t0 := X1.cell 0; have t1 := X1.cell 1; have t2 := X1.cell 2; simp at t0 t1 t2; have c1 := (b1.cell (p := ⟨r, 0, none⟩) rl).trans c0; have B1 := Lib.hid (And.intro b1 O1); clear X1 O1 b1 hg1 ho1)
          | (at_builtin; refine wpList_append_off rfl _ _ rfl wq.heap.size u1 ([] ++ S.take k) [x] rfl (B1.out.2.below ((Below.refl _ w1).alloc (Nat.le_refl _) _)) _ w1.heap.size 1 1 rfl rfl (showO_new w1 _ x) (by have := HLn.out.1; rw [List.nil_append, List.length_singleton]; omega) (by have := B1.out.1.size; simp; omega) ?_; intro u2 w2 O2 hg2 ho2; have b2 := Below.grown ((B1.out.1.alloc B1.out.1.size _)) hg2 (by have := B1.out.1.size; simp; omega) (fun k e => (own_lt B1.out.2 e).2); have c2 := (b2.cell (p := ⟨r, 0, none⟩) rl).trans c0; have B2 := Lib.hid (And.intro b2 O2); clear O2 b2 hg2 ho2)
          | (at_builtin; refine wpList_append_off rfl _ _ rfl wq.heap.size u2 ([] ++ S.take k ++ [x]) (S.drop k) rfl B2.out.2 _ g _ _ HLn.out.2.symm rfl (showO_later ⟨k * 3, rfl, RowAt.drop HR.out.2 k⟩ (B2.out.1.block g HR.out.1)) (by have := HLn.out.1; have := HLn.out.2; rw [List.nil_append, List.length_append, List.length_singleton]; omega) B2.out.1.size ?_; intro u3 w3 O3 hg3 ho3; have b3 := B2.out.1.grown hg3 B2.out.1.size (fun k e => (own_lt B2.out.2 e).2); have c3 := (b3.cell (p := ⟨r, 0, none⟩) rl).trans c0; have rl3 := Nat.lt_of_lt_of_le rl b3.size; have fr := (HG.out.R.blk.same (b3.block r rl)).frozen; have F3 := Lib.hid (PutRel.done HG.out HN.out b3 O3); obtain ⟨A3, n3, d3, hu3⟩ := own_form O3; subst hu3; clear O3 b3 hg3 ho3))
        all_goals
          go_end0
          first | (have hcj : c = k := by assumption
                   rw [hcj] at F3
                   first | exact ⟨_, F3.out.1, F3.out.2⟩ | exact ⟨rfl, _, F3.out.1, F3.out.2⟩) | exact ⟨_, F3.out.1, F3.out.2⟩ | exact ⟨rfl, ⟨_, F3.out.1⟩, F3.out.2⟩ | exact ⟨rfl, _, F3.out.1, F3.out.2⟩
    · have HN : Hid (∀ z, S[k]? = some z → ¬ Lt z x) := Lib.hid (fun z hz => by have := (List.getElem?_eq_some_iff.1 hz).1; omega)
      have hnl : ¬ (k : Int) < (S.length : Int) := by omega
      clear G
      have o0 : OwnIt wr wr.heap.size (.slice none 0 0) [] := World.ownsRow_nil _ _ _ _
      have rl := HG.out.R.blk.lt
      have c0 := HG.out.R.blk.cell 0
      simp at c0
      have HT := Lib.hid (And.intro o0 HG.out.X)
      have hkk := HG.out.kl
      have hlt : (S.take k).length = k := by rw [List.length_take]; omega
      have hld : (S.drop k).length = S.length - k := List.length_drop
      have HLn := Lib.hid (And.intro hlt hld)
      have b5 : (k : Int) ≤ (c : Int) := by omega
      have b6 : (S.length : Int) ≤ (c : Int) := by omega
      have b7 : (k : Int) ≤ (S.length : Int) := by omega
      clear o0 hlt hld
      go_wp2_with (first
        | (at_builtin; refine wpList_append_off rfl _ _ rfl wr.heap.size (.slice none 0 0) [] (S.take k) rfl HT.out.1 _ g k c HLn.out.1.symm rfl (after_take HR.out.2 k) (by have := HLn.out.1; rw [List.length_nil]; omega) (Nat.le_refl _) ?_; intro u1 w1 O1 hg1 ho1; have b1 := due_b7 hg1; have X1 := HT.out.2.same (b1.block _ HT.out.2.lt); have t0 := X1.cell 0; have t1 := X1.cell 1; have t2 := X1.cell 2; simp at t0 t1 t2; have c1 := (b1.cell (p := ⟨r, 0, none⟩) rl).trans c0; have B1 := Lib.hid (And.intro b1 O1); clear X1 O1 b1 hg1 ho1)
        | (at_builtin; refine wpList_append_off rfl _ _ rfl wr.heap.size u1 ([] ++ S.take k) [x] rfl (B1.out.2.below ((Below.refl _ w1).alloc (Nat.le_refl _) _)) _ w1.heap.size 1 1 rfl rfl (showO_new w1 _ x) (by have := HLn.out.1; rw [List.nil_append, List.length_singleton]; omega) (by have := B1.out.1.size; simp; omega) ?_; intro u2 w2 O2 hg2 ho2; have b2 := Below.grown ((B1.out.1.alloc B1.out.1.size _)) hg2 (by have := B1.out.1.size; simp; omega) (fun k e => (own_lt B1.out.2 e).2); have c2 := (b2.cell (p := ⟨r, 0, none⟩) rl).trans c0; have B2 := Lib.hid (And.intro b2 O2); clear O2 b2 hg2 ho2)
        | (at_builtin; refine wpList_append_off rfl _ _ rfl wr.heap.size u2 ([] ++ S.take k ++ [x]) (S.drop k) rfl B2.out.2 _ g _ _ HLn.out.2.symm rfl (showO_later (after_drop HR.out.2 hc k) (B2.out.1.block g HR.out.1)) (by have := HLn.out.1; have := HLn.out.2; rw [List.nil_append, List.length_append, List.length_singleton]; omega) B2.out.1.size ?_; intro u3 w3 O3 hg3 ho3; have b3 := B2.out.1.grown hg3 B2.out.1.size (fun k e => (own_lt B2.out.2 e).2); have c3 := (b3.cell (p := ⟨r, 0, none⟩) rl).trans c0; have rl3 := Nat.lt_of_lt_of_le rl b3.size; have fr := (HG.out.R.blk.same (b3.block r rl)).frozen; have F3 := Lib.hid (PutRel.done HG.out HN.out b3 O3); obtain ⟨A3, n3, d3, hu3⟩ := own_form O3; subst hu3; clear O3 b3 hg3 ho3))
      all_goals
        go_end0
        first | (have hcj : c = k := by assumption
                 rw [hcj] at F3
                 first | exact ⟨_, F3.out.1, F3.out.2⟩ | exact ⟨rfl, _, F3.out.1, F3.out.2⟩) | exact ⟨_, F3.out.1, F3.out.2⟩ | exact ⟨rfl, ⟨_, F3.out.1⟩, F3.out.2⟩ | exact ⟨rfl, _, F3.out.1, F3.out.2⟩

set_option maxHeartbeats 8000000 in
set_option maxRecDepth 100000 in
theorem put_nil {w : World} {B r : Nat} (R : Rf w B r (.slice none 0 0) []) (x : It) : Calls Try.prog 33 #[.pointer (some ⟨r, 0, none⟩), .agg #[.int .i64 x.id, .int .u64 x.d, .int .u64 x.n]] w fun e w' =>
    e = .returned (.tuple #[]) ∧ ∃ v', Rf w' B r v' (ins x []) ∧ RM w w' r (.slice none 0 0) v' := by
  have h0 : PutRel w B r (.slice none 0 0) [] x 0 (w.alloc (.cells #[.int .i64 x.id, .int .u64 x.d, .int .u64 x.n] 31)) :=
    ⟨R.below ((Below.refl _ w).alloc (Nat.le_refl _) _), Blk.new _ _ _, (Below.refl _ w).alloc (Nat.le_refl _) _, Nat.zero_le _, fun i y h => by omega⟩
  obtain ⟨wr, hwr⟩ : ∃ wr, wr = w.alloc (.cells #[.int .i64 x.id, .int .u64 x.d, .int .u64 x.n] 31) := ⟨_, rfl⟩
  rw [← hwr] at h0
  have HW := Lib.hid hwr
  have HG := Lib.hid h0
  have c0' := h0.R.blk.cell 0
  simp at c0'
  have HN : Hid (∀ z, ([] : List It)[0]? = some z → ¬ Lt z x) := Lib.hid (fun z hz => by cases hz)
  clear h0 R hwr
  go_enter Try.func33, Try.ntmps33
  go_wp2_with fail
  rw [← HW.out]
  go_loopw [4] (fun i wq => i = .int .i64 0 ∧ wq = wr) (fun i _ => 0)
  case atStart => exact ⟨rfl, rfl⟩
  case round =>
    obtain ⟨rfl, rfl⟩ := hrel
    have o0 : OwnIt wr wr.heap.size (.slice none 0 0) [] := World.ownsRow_nil _ _ _ _
    have rl := HG.out.R.blk.lt
    have c0 := HG.out.R.blk.cell 0
    simp at c0
    have HT := Lib.hid (And.intro o0 HG.out.X)
    clear o0
    go_wp2_with (first
      | (at_builtin; refine wpList_append_it rfl _ _ rfl wr.heap.size (.slice none 0 0) [] [] rfl HT.out.1 none 0 rfl (fun _ => ⟨rfl, rfl⟩) (fun h => by simp at h) (by simp) (Nat.le_refl _) ?_; intro u1 w1 O1 hg1 ho1; have b1 := due_b7 hg1; have X1 := HT.out.2.same (b1.block _ HT.out.2.lt); have t0 := X1.cell 0; have t1 := X1.cell 1; have t2 := X1.cell 2; simp at t0 t1 t2; have c1 := (b1.cell (p := ⟨r, 0, none⟩) rl).trans c0; have B1 := Lib.hid (And.intro b1 O1); clear X1 O1 b1 hg1 ho1)
      | (at_builtin; refine wpList_append_off rfl _ _ rfl wr.heap.size u1 ([] ++ []) [x] rfl (B1.out.2.below ((Below.refl _ w1).alloc (Nat.le_refl _) _)) _ w1.heap.size 1 1 rfl rfl (showO_new w1 _ x) (by simp) (by have := B1.out.1.size; simp; omega) ?_; intro u2 w2 O2 hg2 ho2; have b2 := Below.grown ((B1.out.1.alloc B1.out.1.size _)) hg2 (by have := B1.out.1.size; simp; omega) (fun k e => (own_lt B1.out.2 e).2); have c2 := (b2.cell (p := ⟨r, 0, none⟩) rl).trans c0; have B2 := Lib.hid (And.intro b2 O2); clear O2 b2 hg2 ho2)
      | (at_builtin; refine wpList_append_it rfl _ _ rfl wr.heap.size u2 ([] ++ [] ++ [x]) [] rfl B2.out.2 none 0 rfl (fun _ => ⟨rfl, rfl⟩) (fun h => by simp at h) (by simp) B2.out.1.size ?_; intro u3 w3 O3 hg3 ho3; have b3 := B2.out.1.grown hg3 B2.out.1.size (fun k e => (own_lt B2.out.2 e).2); have c3 := (b3.cell (p := ⟨r, 0, none⟩) rl).trans c0; have rl3 := Nat.lt_of_lt_of_le rl b3.size; have fr := (HG.out.R.blk.same (b3.block r rl)).frozen; have F3 := Lib.hid (PutRel.done HG.out HN.out b3 (by simpa using O3)); obtain ⟨A3, n3, d3, hu3⟩ := own_form O3; subst hu3; clear O3 b3 hg3 ho3))
    all_goals
      go_end0
      first | exact ⟨_, F3.out.1, F3.out.2⟩ | exact ⟨rfl, ⟨_, F3.out.1⟩, F3.out.2⟩ | exact ⟨rfl, _, F3.out.1, F3.out.2⟩
end Go.Proofs.Ytfflbbohgndjfaa
