/-
  FdsetCounts, the walk: for any two sets it returns true, and nothing that lay has turned.
-/
import Derived.Test.YtokfinnmigfkiaaDoorSetLaws
import Derived.Test.YtokfinnmigfkiaaDoorLaid3
import Derived.Deep.RegionHeld3
import Derived.IntWalk
namespace Go.Proofs.YtokfinnmigfkiaaDoor
open Go.RowKit Go.Shelf

attribute [local go_sem] Oper.semAt_some
/-- Two sets in their variables. -/
def Env2 (w : World) (B0 B1 a b c d : Nat) (W : World) : Prop := IsSet W B0 a b ∧ IsSet W B1 c d ∧ Below w.heap.size w W
theorem Env2.below {w : World} {B0 B1 a b c d : Nat} {W W' : World} (h : Env2 w B0 B1 a b c d W) (hb : Below W.heap.size W W') : Env2 w B0 B1 a b c d W' := ⟨h.1.below hb, h.2.1.below hb, below_endL h.2.2 hb⟩
theorem Env2.cells {w : World} {B0 B1 a b c d : Nat} {W : World} (h : Env2 w B0 B1 a b c d W) : W.cell? ⟨B0, 0, none⟩ = some (.int .u32 (a : Int)) ∧ W.cell? ⟨B0, 1, none⟩ = some (.int .u32 (b : Int)) ∧ W.cell? ⟨B1, 0, none⟩ = some (.int .u32 (c : Int)) ∧ W.cell? ⟨B1, 1, none⟩ = some (.int .u32 (d : Int)) := ⟨h.1.1, h.1.2.1, h.2.1.1, h.2.1.2.1⟩
theorem Env2.drew {w : World} {B0 B1 a b c d : Nat} {W : World} (h : Env2 w B0 B1 a b c d W) : Env2 w B0 B1 a b c d W.drew := ⟨h.1, h.2.1, h.2.2.drew⟩
theorem env2_new (w : World) (a b c d : Nat) : Env2 w w.heap.size (w.heap.size + 1) a b c d ((w.alloc (.cells #[.int .u32 (a : Int), .int .u32 (b : Int)] 25)).alloc (.cells #[.int .u32 (c : Int), .int .u32 (d : Int)] 25)) := by
  refine ⟨(isSet_new w a b).below ((Below.refl _ _).alloc (Nat.le_refl _) _), ?_, ((Below.refl _ _).alloc (Nat.le_refl _) _).alloc (by simp) _⟩
  have := isSet_new (w.alloc (.cells #[.int .u32 (a : Int), .int .u32 (b : Int)] 25)) c d
  simpa only [World.size_alloc] using this

set_option maxRecDepth 100000 in
set_option maxHeartbeats 4000000 in
theorem counts_any (a b c d : Nat) (w : World) (ha : a < 4294967296) (hb : b < 4294967296) (hc : c < 4294967296) (hd : d < 4294967296) (hh : Here w) :
    Calls Tryd.prog 9 #[.agg #[.int .u32 (a : Int), .int .u32 (b : Int)], .agg #[.int .u32 (c : Int), .int .u32 (d : Int)]] w fun e w' => e = .returned (.bool true) ∧ Below w.heap.size w w' := by
  have h0 := env2_new w a b c d
  obtain ⟨Y, hY⟩ : ∃ Y, (w.alloc (.cells #[.int .u32 (a : Int), .int .u32 (b : Int)] 25)).alloc (.cells #[.int .u32 (c : Int), .int .u32 (d : Int)] 25) = Y := ⟨_, rfl⟩
  rw [hY] at h0
  have hhY := hh.below h0.2.2
  obtain ⟨p0, hp0⟩ : ∃ x, a &&& c = x := ⟨_, rfl⟩
  obtain ⟨p1, hp1⟩ : ∃ x, b &&& d = x := ⟨_, rfl⟩
  obtain ⟨q0, hq0⟩ : ∃ x, a &&& (4294967295 - c) = x := ⟨_, rfl⟩
  obtain ⟨q1, hq1⟩ : ∃ x, b &&& (4294967295 - d) = x := ⟨_, rfl⟩
  obtain ⟨u0, hu0⟩ : ∃ x, a ||| c = x := ⟨_, rfl⟩
  obtain ⟨u1, hu1⟩ : ∃ x, b ||| d = x := ⟨_, rfl⟩
  have lp0 : p0 < 4294967296 := hp0 ▸ and_lt _ ha
  have lp1 : p1 < 4294967296 := hp1 ▸ and_lt _ hb
  have lq0 : q0 < 4294967296 := hq0 ▸ and_lt _ ha
  have lq1 : q1 < 4294967296 := hq1 ▸ and_lt _ hb
  have lu0 : u0 < 4294967296 := hu0 ▸ or_lt ha hc
  have lu1 : u1 < 4294967296 := hu1 ▸ or_lt hb hd
  have len2 := len_two a b c d
  have len3 := len_less a b c d hc hd
  have A1 := or_any a b c d
  have A2 := and_any a b c d
  have A3 := less_any a b c d
  rw [hu0, hu1] at A1
  rw [hp0, hp1] at A2
  rw [hq0, hq1] at A3
  have hA := Lib.hid (And.intro A1 (And.intro A2 A3))
  clear A1 A2 A3
  rw [hp0, hp1, hu0, hu1] at len2
  rw [hp0, hp1, hq0, hq1] at len3
  clear hp0 hp1 hq0 hq1 hu0 hu1
  have L1 := len_any u0 u1
  have L2 := len_any p0 p1
  have L3 := len_any q0 q1
  have L4 := len_any a b
  have L5 := len_any c d
  have lens := length_memI a b
  have lent := length_memI c d
  have lenp := length_memI p0 p1
  have lenu := length_memI u0 u1
  obtain ⟨nu, hnu⟩ : ∃ n, (memI u0 u1).length = n := ⟨_, rfl⟩
  obtain ⟨np, hnp⟩ : ∃ n, (memI p0 p1).length = n := ⟨_, rfl⟩
  obtain ⟨nq, hnq⟩ : ∃ n, (memI q0 q1).length = n := ⟨_, rfl⟩
  obtain ⟨nt, hnt⟩ : ∃ n, (memI c d).length = n := ⟨_, rfl⟩
  obtain ⟨ns, hns⟩ : ∃ n, (memI a b).length = n := ⟨_, rfl⟩
  rw [hnu] at L1 len2 lenu
  rw [hnp] at L2 len2 len3 lenp
  rw [hnq] at L3 len3
  rw [hns] at L4 len2 len3 lens
  rw [hnt] at L5 len2 lent
  have hL := Lib.hid (And.intro L1 (And.intro L2 (And.intro L3 (And.intro L4 L5))))
  clear L1 L2 L3 L4 L5 hnu hnp hnq hnt
  obtain ⟨k, hk⟩ : ∃ k, ns + nt = k := ⟨_, rfl⟩
  have hk2 : k ≤ 128 := by omega
  have G := Lib.hid (show (nu : Int) + (np : Int) = (k : Int) ∧ (ns : Int) + (nt : Int) = (k : Int) ∧ (ns : Int) - (np : Int) = (nq : Int) from ⟨by omega, by omega, by omega⟩)
  have hnq2 : nq ≤ 64 := by omega
  clear hk len2 len3
  have hTop := Lib.hid (top_any a b)
  have htl := top_last a b ha hb
  obtain ⟨tp, htp⟩ : ∃ x, topI a b = x := ⟨_, rfl⟩
  rw [htp] at hTop htl
  clear htp
  obtain ⟨ms, hms⟩ : ∃ x, memI a b = x := ⟨_, rfl⟩
  have hAll := all_any a b
  rw [hms] at hAll hns htl
  have HAll := Lib.hid hAll
  have Htl := Lib.hid htl
  clear hAll hms htl
  go_enter Tryd.func9, Tryd.ntmps9
  go_wp2_with fail
  clear hY hh
  refine (alive_any _ hhY).mono ?_
  rintro e w1 ⟨rfl, hb1⟩
  have h1 := h0.below hb1
  have hh1 := hhY.below hb1
  clear h0 hb1 hhY
  obtain ⟨⟨s0, s1, _, _⟩, ⟨t0, t1, _, _⟩, _⟩ := id h1
  go_wp2_with fail
  refine (HAll.out _ ha hb hh1.1 hh1.2.1).mono ?_
  rintro e w2 ⟨v2, rfl, hv2, hb2⟩
  have hE := h1.below hb2
  clear h1 hb2 hh1 s0 s1 t0 t1
  obtain ⟨av, capv, rfl, hmv, hzv, hcv⟩ := hv2
  rw [hns] at hmv hcv ⊢
  unfold maxLen at hmv
  obtain ⟨⟨s0, s1, _, _⟩, ⟨t0, t1, _, _⟩, _⟩ := id hE
  by_cases hz : ns = 0
  · have htp : tp = -1 := by
      have := Htl.out
      rw [List.length_eq_zero_iff.1 (hns.trans hz)] at this
      simpa using this.symm
    subst htp
    clear hns
    subst hz
    obtain ⟨g1, g2, g3⟩ := G.out
    have e1 : np = 0 := by omega
    have e2 : nq = 0 := by omega
    subst e1 e2
    have e3 : nu = k := by omega
    have e4 : nt = k := by omega
    subst e3 e4
    clear g1 g2 g3 G
    go_wp2_with fail
    have eqK : IntKind.i64.wrap (nt : Int) = (nt : Int) := IntWalk.i64_in _ (by omega)
    have hE := hE.drew
    go_region_held3 (fun W => W.cell? ⟨w.heap.size, 0, none⟩ = some (.int .u32 (a : Int)) ∧ W.cell? ⟨w.heap.size, 1, none⟩ = some (.int .u32 (b : Int)) ∧ W.cell? ⟨w.heap.size + 1, 0, none⟩ = some (.int .u32 (c : Int)) ∧ W.cell? ⟨w.heap.size + 1, 1, none⟩ = some (.int .u32 (d : Int)))
      (exact hE.cells)
      (first
        | (go_at_call 31; refine (hA.out.1 _ ha hb hc hd).mono ?_; rintro e w' ⟨rfl, hbx⟩; have hE := hE.below hbx)
        | (go_at_call 29; refine (hA.out.2.1 _ ha hb hc hd).mono ?_; rintro e w' ⟨rfl, hbx⟩; have hE := hE.below hbx)
        | (go_at_call 30; refine (hA.out.2.2 _ ha hb hc hd).mono ?_; rintro e w' ⟨rfl, hbx⟩; have hE := hE.below hbx)
        | (go_at_call 18; refine (hTop.out _ ha hb).mono ?_; rintro e w' ⟨rfl, hbx⟩; have hE := hE.below hbx)
        | (go_at_call_of 19 (Value.agg #[.int .u32 (u0 : Int), .int .u32 (u1 : Int)]); refine (hL.out.1 _ lu0 lu1).mono ?_; rintro e w' ⟨rfl, hbx⟩; have hE := hE.below hbx)
        | (go_at_call_of 19 (Value.agg #[.int .u32 (p0 : Int), .int .u32 (p1 : Int)]); refine (hL.out.2.1 _ lp0 lp1).mono ?_; rintro e w' ⟨rfl, hbx⟩; have hE := hE.below hbx)
        | (go_at_call_of 19 (Value.agg #[.int .u32 (q0 : Int), .int .u32 (q1 : Int)]); refine (hL.out.2.2.1 _ lq0 lq1).mono ?_; rintro e w' ⟨rfl, hbx⟩; have hE := hE.below hbx)
        | (go_at_call_of 19 (Value.agg #[.int .u32 (a : Int), .int .u32 (b : Int)]); refine (hL.out.2.2.2.1 _ ha hb).mono ?_; rintro e w' ⟨rfl, hbx⟩; have hE := hE.below hbx)
        | (go_at_call_of 19 (Value.agg #[.int .u32 (c : Int), .int .u32 (d : Int)]); refine (hL.out.2.2.2.2 _ hc hd).mono ?_; rintro e w' ⟨rfl, hbx⟩; have hE := hE.below hbx))
    go_wp2_with fail
    go_ret
    exact ⟨rfl, hE.2.2⟩
  · obtain ⟨m, hm⟩ : ∃ m, ns = m + 1 := ⟨ns - 1, by omega⟩
    rcases hcv with hcv | ⟨vb, voff, rfl, hvb, hcells⟩
    · rw [hcv] at hns; simp at hns; omega
    have hcl := hcells m (by omega)
    have hlast : ms[m]?.getD 0 = tp := by
      have := Htl.out
      rw [List.getLast?_eq_getElem?, hns, hm, Nat.add_sub_cancel, List.getElem?_eq_getElem (by omega)] at this
      rw [List.getElem?_eq_getElem (by omega)]
      exact this
    rw [hlast] at hcl
    have eqS1 : IntKind.i64.wrap ((nu : Int) + (np : Int)) = (k : Int) := by rw [G.out.1, IntWalk.i64_in _ (by omega)]
    have eqS2 : IntKind.i64.wrap ((ns : Int) + (nt : Int)) = (k : Int) := by rw [G.out.2.1, IntWalk.i64_in _ (by omega)]
    have eqS3 : IntKind.i64.wrap ((ns : Int) - (np : Int)) = (nq : Int) := by rw [G.out.2.2, IntWalk.i64_in _ (by omega)]
    have E1 := Lib.hid eqS1
    have E2 := Lib.hid eqS2
    have E3 := Lib.hid eqS3
    have f1 : (ns : Int) - 1 = (m : Int) := by omega
    have f2 : (m : Int) < (ns : Int) := by omega
    have f4 : m < ns := by omega
    have f3 : (0 : Int) < (ns : Int) := by omega
    clear hm hcells hlast eqS1 eqS2 eqS3 hns hvb hzv hmv
    go_wp2_with fail
    trace_state
    have eqS1 := E1.out
    have eqS2 := E2.out
    have eqS3 := E3.out
    clear f1 f2 f3 f4 hcl
    have hE := hE.drew
    go_region_held3 (fun W => W.cell? ⟨w.heap.size, 0, none⟩ = some (.int .u32 (a : Int)) ∧ W.cell? ⟨w.heap.size, 1, none⟩ = some (.int .u32 (b : Int)) ∧ W.cell? ⟨w.heap.size + 1, 0, none⟩ = some (.int .u32 (c : Int)) ∧ W.cell? ⟨w.heap.size + 1, 1, none⟩ = some (.int .u32 (d : Int)))
      (exact hE.cells)
      (first
        | (go_at_call 31; refine (hA.out.1 _ ha hb hc hd).mono ?_; rintro e w' ⟨rfl, hbx⟩; have hE := hE.below hbx)
        | (go_at_call 29; refine (hA.out.2.1 _ ha hb hc hd).mono ?_; rintro e w' ⟨rfl, hbx⟩; have hE := hE.below hbx)
        | (go_at_call 30; refine (hA.out.2.2 _ ha hb hc hd).mono ?_; rintro e w' ⟨rfl, hbx⟩; have hE := hE.below hbx)
        | (go_at_call 18; refine (hTop.out _ ha hb).mono ?_; rintro e w' ⟨rfl, hbx⟩; have hE := hE.below hbx)
        | (go_at_call_of 19 (Value.agg #[.int .u32 (u0 : Int), .int .u32 (u1 : Int)]); refine (hL.out.1 _ lu0 lu1).mono ?_; rintro e w' ⟨rfl, hbx⟩; have hE := hE.below hbx)
        | (go_at_call_of 19 (Value.agg #[.int .u32 (p0 : Int), .int .u32 (p1 : Int)]); refine (hL.out.2.1 _ lp0 lp1).mono ?_; rintro e w' ⟨rfl, hbx⟩; have hE := hE.below hbx)
        | (go_at_call_of 19 (Value.agg #[.int .u32 (q0 : Int), .int .u32 (q1 : Int)]); refine (hL.out.2.2.1 _ lq0 lq1).mono ?_; rintro e w' ⟨rfl, hbx⟩; have hE := hE.below hbx)
        | (go_at_call_of 19 (Value.agg #[.int .u32 (a : Int), .int .u32 (b : Int)]); refine (hL.out.2.2.2.1 _ ha hb).mono ?_; rintro e w' ⟨rfl, hbx⟩; have hE := hE.below hbx)
        | (go_at_call_of 19 (Value.agg #[.int .u32 (c : Int), .int .u32 (d : Int)]); refine (hL.out.2.2.2.2 _ hc hd).mono ?_; rintro e w' ⟨rfl, hbx⟩; have hE := hE.below hbx))
    go_wp2_with fail
    go_ret
    exact ⟨rfl, hE.2.2⟩
end Go.Proofs.YtokfinnmigfkiaaDoor
