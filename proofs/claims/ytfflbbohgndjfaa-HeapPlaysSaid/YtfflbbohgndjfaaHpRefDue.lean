/-
  The reference's Due.
-/
import Derived.Test.YtfflbbohgndjfaaHpRefOps
namespace Go.Proofs.Ytfflbbohgndjfaa
open Go.RowKit Go.Maps Go.ChangeMaps Go.Sort

/-- While Due takes items out. -/
structure DueR (w : World) (B r : Nat) (v : Value) (xs rest : List It) (k : Nat) (u : Value) (v1 : Value) (wr : World) : Prop where
  O : OwnIt wr w.heap.size u (xs.take k)
  ap : ∀ k, u.ownBlock = some k → v1.ownBlock ≠ some k
  R : Rf wr B r v1 (xs.drop k ++ rest)
  M : RM w wr r v v1
  rl : r < w.heap.size
/-- An append to what was taken. -/
theorem DueR.app {w wr w1 : World} {B r k : Nat} {v v1 u u1 : Value} {xs rest : List It} {x : It} {o : Obj} (h : DueR w B r v xs rest k u v1 wr) (hg : (wr.alloc o).grownBy w1 u.ownBlock) : Rf w1 B r v1 (xs.drop k ++ rest) ∧ RM w w1 r v v1 := by
  have hk : Kept (fun k => u.ownBlock = some k) wr w1 := ((Kept.refl _ wr).alloc o).grown hg (fun k e _ => e)
  refine ⟨h.R.kept hk (fun e => by have := (own_lt h.O e).2; have := h.rl; omega) (fun i e e2 => h.ap i e2 e), ⟨(h.M.1.alloc o).grown hg (fun k e hl => by have := (own_lt h.O e).2; omega), h.M.2⟩⟩
theorem DueR.next {w wr w1 w2 : World} {B r k : Nat} {v v1 v2 u u1 : Value} {xs rest : List It} {x : It} {o : Obj} (h : DueR w B r v xs rest k u v1 wr) (hx : xs[k]? = some x)
    (hg : (wr.alloc o).grownBy w1 u.ownBlock) (O1 : OwnIt w1 w.heap.size u1 (xs.take k ++ [x])) (ho : u1.ownBlock = u.ownBlock ∨ u1.ownBlock = some (wr.alloc o).heap.size)
    (R2 : Rf w2 B r v2 (xs.drop (k + 1) ++ rest)) (M2 : RM w1 w2 r v1 v2) : DueR w B r v xs rest (k + 1) u1 v2 w2 := by
  obtain ⟨_, M1⟩ := h.app (x := x) (u1 := u1) hg
  refine ⟨?_, fun i e e2 => ?_, R2, M1.trans M2, h.rl⟩
  · rw [take_snoc' hx]
    exact own_same O1 (fun i e => M2.1.block i (own_lt O1 e).1 (fun e2 => by have := (own_lt O1 e).2; have := h.rl; omega))
  · rcases M2.2 with rfl | hn
    · rcases ho with e3 | e3
      · exact h.ap i (e3 ▸ e) e2
      · rw [e3] at e; cases e
        have := (own_lt h.R.row e2).1
        rw [World.size_alloc] at this; omega
    · have := hn i e2
      have := (own_lt O1 e).1
      omega

theorem cut_head {w : World} {B r : Nat} {v : Value} {S : List It} {x : It} (R : Rf w B r v (x :: S)) (hlen : (x :: S).length ≤ 1000) (hu : Uniq (x :: S)) : Calls Try.prog 35 #[.pointer (some ⟨r, 0, none⟩), .int .i64 0] w fun e w' =>
    e = .returned (.tuple #[]) ∧ ∃ v', Rf w' B r v' S ∧ RM w w' r v v' := by
  have := cut_any R hlen hu (j := 0) rfl
  rw [del_head hu] at this
  exact this
set_option maxHeartbeats 4000000 in
set_option maxRecDepth 100000 in
theorem rdue_any {w : World} {B r : Nat} {v : Value} {S : List It} (R0 : Rf w B r v S) (hlen : S.length ≤ 1000) (hu : Uniq S) (now : Int) {xs rest : List It} (hS : S = xs ++ rest) (hle : ∀ x ∈ xs, x.d ≤ now) (hgt : ∀ y ∈ rest, now < y.d) : Calls Try.prog 23 #[.pointer (some ⟨r, 0, none⟩), .int .u64 now] w fun e w' =>
    ∃ u v', e = .returned u ∧ DueR w B r v xs rest xs.length u v' w' := by
  have h0 : DueR w B r v xs rest 0 (.slice none 0 0) v w := ⟨World.ownsRow_nil _ _ _ _, (fun k e => by cases e), (by rw [List.drop_zero, ← hS]; exact R0), ⟨Kept.refl _ _, .inl rfl⟩, R0.blk.lt⟩
  have H0 := Lib.hid h0
  have HS := Lib.hid (And.intro hS (And.intro hle (And.intro hgt hu)))
  clear R0 h0 hS hle hgt hu
  go_enter Try.func23, Try.ntmps23
  go_wp2_with fail
  go_loopw [5] (fun u wr => ∃ (k : Nat) (v1 : Value), k ≤ xs.length ∧ DueR w B r v xs rest k u v1 wr) (fun u _ => match u with | .slice _ n _ => xs.length - n | _ => 0)
  case atStart => exact ⟨0, v, Nat.zero_le _, H0.out⟩
  case round =>
    obtain ⟨k, v1, hk, G⟩ := hrel
    obtain ⟨A5, c5, hu5, -, -⟩ := G.O.shows
    rw [List.length_take, Nat.min_eq_left hk] at hu5
    subst hu5
    have HG := Lib.hid G
    have rl := G.R.blk.lt
    have c0 := G.R.blk.cell 0
    simp at c0
    by_cases hkl : k < xs.length
    · have hx := List.getElem?_eq_getElem hkl
      obtain ⟨x, ex⟩ : ∃ x, x = xs[k] := ⟨_, rfl⟩
      rw [← ex] at hx
      have e1 : xs.drop k ++ rest = x :: (xs.drop (k + 1) ++ rest) := by rw [drop_cons hx]; rfl
      have hle := HS.out.2.1 x (List.mem_of_getElem? hx)
      have hR := G.R
      rw [e1] at hR
      rcases hR.row.cap with ⟨_, h⟩ | ⟨g, c, rfl, hc, hg, _, hrow⟩
      · cases h
      obtain ⟨x0, x1, x2⟩ := hrow 0 x rfl
      simp only [Nat.zero_mul, Nat.zero_add] at x0 x1 x2
      have hul : Uniq (x :: (xs.drop (k + 1) ++ rest)) ∧ (x :: (xs.drop (k + 1) ++ rest)).length ≤ 1000 := by
        rw [← e1]
        have hsub : (xs.drop k ++ rest).Sublist S := by rw [HS.out.1]; exact (List.drop_sublist k xs).append_right rest
        refine ⟨?_, Nat.le_trans hsub.length_le hlen⟩
        have := HS.out.2.2.2
        unfold Uniq at *
        exact List.Pairwise.sublist (hsub.map _) this
      have hcl : (xs.take k).length + 1 ≤ 100000 := by
        have h1 := congrArg List.length HS.out.1
        rw [List.length_append] at h1
        rw [List.length_take]; omega
      have HX := Lib.hid (And.intro hx (And.intro e1 (And.intro hul.1 (And.intro hul.2 hcl))))
      clear G ex hR hrow hx e1 hul hcl
      go_wp2_with (at_builtin; refine wpList_append_off rfl _ _ rfl w.heap.size (.slice A5 k c5) (xs.take k) [x] rfl (HG.out.O.below ((Below.refl _ wr).alloc (Nat.le_refl _) _)) _ wr.heap.size 1 1 rfl rfl (showO_new wr _ x) (by have := HX.out.2.2.2.2; rw [List.length_singleton]; exact this) (by have := HG.out.M.1.size; simp; omega) ?_; intro u1 w1 O1 hg1 ho1; obtain ⟨R1, M1⟩ := HG.out.app (x := x) (u1 := u1) hg1; rw [HX.out.2.1] at R1; have hC := Lib.hid (cut_head R1 HX.out.2.2.2.1 HX.out.2.2.1); have HM := Lib.hid (And.intro hg1 (And.intro O1 ho1)); clear R1 M1 O1 hg1 ho1)
      refine hC.out.mono ?_
      rintro e w2 ⟨rfl, v2, R2, M2⟩
      have HN := HG.out.next HX.out.1 HM.out.1 HM.out.2.1 HM.out.2.2 R2 M2
      obtain ⟨A6, c6, hu6, -, -⟩ := HN.O.shows
      rw [List.length_take, Nat.min_eq_left (by omega)] at hu6
      subst hu6
      have HN := Lib.hid HN
      clear R2 M2
      go_wp2_with fail
      go_roundw
      case rel => exact ⟨k + 1, v2, by omega, HN.out⟩
      case measure => simp; omega
    · have hkx : k = xs.length := by omega
      have HK := Lib.hid hkx
      have e0 : xs.drop k ++ rest = rest := by rw [hkx, List.drop_length]; rfl
      have hR := G.R
      rw [e0] at hR
      cases hrest : rest with
      | nil =>
        rw [hrest] at hR
        obtain ⟨A7, c7, hu7, -, -⟩ := hR.row.shows
        subst hu7
        simp at c0
        clear G hR e0 hkx
        go_wp2_with fail
        go_ret
        exact ⟨_, _, rfl, by rw [← HK.out]; exact HG.out⟩
      | cons y t =>
        rw [hrest] at hR
        have hgt := HS.out.2.2.1 y (by rw [hrest]; exact List.mem_cons_self)
        have hnl : ¬ y.d ≤ now := by omega
        rcases hR.row.cap with ⟨_, h⟩ | ⟨g, c, rfl, hc, hg, _, hrow⟩
        · cases h
        obtain ⟨x0, x1, x2⟩ := hrow 0 y rfl
        simp only [Nat.zero_mul, Nat.zero_add] at x0 x1 x2
        clear G hR hrow e0 hkx
        go_wp2_with fail
        go_ret
        exact ⟨_, rfl, _, by rw [← HK.out]; first | exact HG.out | (rw [← hrest]; exact HG.out)⟩
end Go.Proofs.Ytfflbbohgndjfaa
