/-
  FdsetSteps, the walk: for any set and any number it returns true, and nothing that lay has turned.
-/
import Derived.Test.YtnefjlglhnkbfaaDoorStepsLaws
import Derived.Test.YtnefjlglhnkbfaaDoorOne
import Derived.Test.YtnefjlglhnkbfaaDoorAll
import Derived.Deep.LoopGhost
import Derived.Outline
namespace Go.Proofs.YtnefjlglhnkbfaaDoor
open Go.RowKit Go.Shelf

attribute [local go_sem] Oper.semAt_some
theorem EnvL.one {w W : World} {B1 x1 y1 : Nat} (h : EnvL w [(B1, x1, y1)] W) :
    W.cell? ⟨B1, 0, none⟩ = some (.int .u32 (x1 : Int)) ∧ W.cell? ⟨B1, 1, none⟩ = some (.int .u32 (y1 : Int)) := h.cells (by simp)
theorem EnvL.three {w W : World} {B1 B2 B3 x1 x2 x3 y1 y2 y3 : Nat} (h : EnvL w [(B3, x3, y3), (B2, x2, y2), (B1, x1, y1)] W) :
    W.cell? ⟨B1, 0, none⟩ = some (.int .u32 (x1 : Int)) ∧ W.cell? ⟨B1, 1, none⟩ = some (.int .u32 (y1 : Int)) ∧ W.cell? ⟨B2, 0, none⟩ = some (.int .u32 (x2 : Int)) ∧ W.cell? ⟨B2, 1, none⟩ = some (.int .u32 (y2 : Int)) ∧ W.cell? ⟨B3, 0, none⟩ = some (.int .u32 (x3 : Int)) ∧ W.cell? ⟨B3, 1, none⟩ = some (.int .u32 (y3 : Int)) := by
  have h1 := h.cells (B := B1) (x := x1) (y := y1) (by simp)
  have h2 := h.cells (B := B2) (x := x2) (y := y2) (by simp)
  have h3 := h.cells (B := B3) (x := x3) (y := y3) (by simp)
  exact ⟨h1.1, h1.2, h2.1, h2.2, h3.1, h3.2⟩
/-- A slice of ints, read at a place. -/
theorem IsL.cell {w : World} {ad : Option Addr} {n cap : Nat} {zs : List Int} (h : IsL w (.slice ad n cap) zs) (k : Nat) (hk : k < n) : ∃ b off, ad = some ⟨b, off, none⟩ ∧ w.cell? ⟨b, off + k, none⟩ = some (.int .i64 (zs[k]?.getD 0)) := by
  obtain ⟨_, _, e, _, _, h⟩ := h
  cases e
  rcases h with h | ⟨b, off, rfl, _, hc⟩
  · rw [h] at hk; simp at hk
  · exact ⟨b, off, rfl, hc k hk⟩
theorem IsL.form {w : World} {v : Value} {zs : List Int} (h : IsL w v zs) : ∃ ad cap, v = .slice ad zs.length cap := by
  obtain ⟨a, cap, rfl, _⟩ := h
  exact ⟨a, cap, rfl⟩
theorem next_val {a b : Nat} {f x : Int} {t : Bool} (w : World) (ha : a < 4294967296) (hb : b < 4294967296) (hh : Here w) (h : nextI (memI a b) f = (x, t)) :
    Calls Tryd.prog 15 #[.agg #[.int .u32 (a : Int), .int .u32 (b : Int)], .int .i64 f] w fun e W' => e = .returned (.tuple #[.int .i64 x, .bool t]) ∧ Below w.heap.size w W' :=
  (next_any a b f w ha hb hh.1 hh.2.1).mono fun _ _ ⟨he, hw⟩ => ⟨by rw [he, h], hw⟩
/-- What holds throughout: the sets, the tables, the slice of all. -/
def EnvS (w : World) (l : List (Nat × Nat × Nat)) (v : Value) (ms : List Int) (W : World) : Prop := EnvL w l W ∧ Here W ∧ IsL W v ms
theorem EnvS.below {w : World} {l : List (Nat × Nat × Nat)} {v : Value} {ms : List Int} {W W' : World} (h : EnvS w l v ms W) (hb : Below W.heap.size W W') : EnvS w l v ms W' := ⟨h.1.below hb, h.2.1.below hb, h.2.2.below hb⟩
theorem EnvS.new {w : World} {l : List (Nat × Nat × Nat)} {v : Value} {ms : List Int} {W : World} (h : EnvS w l v ms W) (x y : Nat) : EnvS w ((W.heap.size, x, y) :: l) v ms (W.alloc (.cells #[.int .u32 (x : Int), .int .u32 (y : Int)] 25)) :=
  have hb : Below W.heap.size W (W.alloc (.cells #[.int .u32 (x : Int), .int .u32 (y : Int)] 25)) := (Below.refl _ _).alloc (Nat.le_refl _) _
  ⟨h.1.new x y, h.2.1.below hb, h.2.2.below hb⟩

set_option maxRecDepth 100000 in
set_option maxHeartbeats 4000000 in
theorem steps_any (a b : Nat) (q : Int) (w : World) (ha : a < 4294967296) (hb : b < 4294967296) (hq1 : -9223372036854775808 ≤ q) (hq2 : q ≤ 9223372036854775807) (hh : Here w) :
    Calls Tryd.prog 8 #[.agg #[.int .u32 (a : Int), .int .u32 (b : Int)], .int .i64 q] w fun e w' => e = .returned (.bool true) ∧ Below w.heap.size w w' := by
  have h0 : EnvL w [(w.heap.size, a, b)] (w.alloc (.cells #[.int .u32 (a : Int), .int .u32 (b : Int)] 25)) :=
    EnvL.new (l := []) ⟨fun _ hx => (List.not_mem_nil hx).elim, Below.refl _ _⟩ a b
  have hh0 := hh.below h0.2
  obtain ⟨l0, hl0⟩ : ∃ x, a &&& mask q.toNat = x := ⟨_, rfl⟩
  obtain ⟨l1, hl1⟩ : ∃ x, b &&& mask (q.toNat - 32) = x := ⟨_, rfl⟩
  obtain ⟨g0, hg0⟩ : ∃ x, a &&& (4294967295 - l0) = x := ⟨_, rfl⟩
  obtain ⟨g1, hg1⟩ : ∃ x, b &&& (4294967295 - l1) = x := ⟨_, rfl⟩
  have bl0 : l0 < 4294967296 := hl0 ▸ and_lt _ ha
  have bl1 : l1 < 4294967296 := hl1 ▸ and_lt _ hb
  have bg0 : g0 < 4294967296 := hg0 ▸ and_lt _ ha
  have bg1 : g1 < 4294967296 := hg1 ▸ and_lt _ hb
  have back0 : l0 ||| g0 = a := by rw [← hg0, ← hl0]; exact low_high a _ ha
  have back1 : l1 ||| g1 = b := by rw [← hg1, ← hl1]; exact low_high b _ hb
  have lows : ∀ x ∈ memI l0 l1, x < q := fun x hx => low_lt a b q x (by rw [hl0, hl1]; exact hx)
  have highs : ∀ x ∈ memI g0 g1, ¬ x < q := fun x hx => high_ge a b q ha hb x (by rw [hl0, hl1, hg0, hg1]; exact hx)
  have B1 := fun w => below_any a b q w ha hb hq2
  have B2 := fun w => less_any a b l0 l1 w ha hb bl0 bl1
  have B3 := fun w => or_any l0 l1 g0 g1 w bl0 bl1 bg0 bg1
  rw [hl0, hl1] at B1
  rw [hg0, hg1] at B2
  rw [back0, back1] at B3
  have HB := Lib.hid (And.intro B1 (And.intro B2 B3))
  clear B1 B2 B3 hl0 hl1 hg0 hg1 back0 back1
  have hms := memI_rises a b
  have h64 : ∀ x ∈ memI a b, 0 ≤ x ∧ x < 64 := fun x hx => by have := (mem_memI a b x).1 hx; omega
  have hstep := fun k hk => from_step hms (fun x hx => (h64 x hx).1) (k := k) hk
  have hend := from_end hms
  have hfu := from_u h64
  have N1 := fun W hW f x t h => next_val (a := a) (b := b) (f := f) (x := x) (t := t) W ha hb hW h
  have A1 := fun W (hW : Here W) => all_any a b W ha hb hW.1 hW.2.1
  have A2 := fun W (hW : Here W) => all_any l0 l1 W bl0 bl1 hW.1 hW.2.1
  have A3 := fun W (hW : Here W) => all_any g0 g1 W bg0 bg1 hW.1 hW.2.1
  have L1 := fun W => len_any a b W ha hb
  have hlen := length_memI a b
  have hlenl := length_memI l0 l1
  have hleng := length_memI g0 g1
  have hhas : ∀ (x : Nat), (x : Int) ∈ memI a b → x < 64 ∧ hasB a b x = true := fun x hx => by
    have := (mem_memI a b x).1 hx
    exact ⟨by omega, by simpa using this.2.2⟩
  obtain ⟨ms, hms'⟩ : ∃ x, memI a b = x := ⟨_, rfl⟩
  rw [hms'] at hstep hend hfu N1 A1 L1 hlen hhas h64
  obtain ⟨n, hn⟩ : ∃ n, ms.length = n := ⟨_, rfl⟩
  rw [hn] at hstep hend hfu hlen L1
  have hmem : ∀ k, k < n → ms[k]?.getD 0 ∈ ms := fun k hk => by rw [List.getElem?_eq_getElem (by omega)]; exact List.getElem_mem _
  have HN := Lib.hid hn
  have HC := Lib.hid (And.intro hstep (And.intro hend (And.intro hfu (And.intro N1 (And.intro hhas (And.intro h64 hmem))))))
  have HA := Lib.hid (And.intro A1 (And.intro A2 (And.intro A3 L1)))
  have HL := Lib.hid (And.intro lows highs)
  clear hms hms' hn hstep hend hfu N1 A1 A2 A3 L1 hhas lows highs h64 hmem hh
  go_enter Tryd.func8, Tryd.ntmps8
  go_wp2_with fail
  refine (alive_any _ hh0).mono ?_
  rintro e w1 ⟨rfl, hb1⟩
  have h1 := h0.below hb1
  have hh1 := hh0.below hb1
  clear h0 hh0 hb1
  obtain ⟨s0, s1⟩ := h1.one
  go_wp2_with fail
  refine (HA.out.1 _ hh1).mono ?_
  rintro e w2 ⟨v, rfl, hv, hb2⟩
  have hE : EnvS w [(w.heap.size, a, b)] v ms w2 := ⟨h1.below hb2, hh1.below hb2, hv⟩
  clear h1 hh1 hv hb2 s0 s1
  obtain ⟨av, cv, rfl⟩ := hE.2.2.form
  rw [HN.out] at hE ⊢
  have H1 := Lib.hid hE
  clear hE
  go_wp2_with fail
  go_loopw [7, 24] (fun f i wr => ∃ k : Nat, k ≤ n ∧ f = .int .i64 (fromI ms k) ∧ i = .int .i64 (k : Int) ∧ EnvS w [(w.heap.size, a, b)] (.slice av n cv) ms wr) (fun _ i _ => n - (intOf i).toNat)
  case atStart => exact ⟨0, by omega, rfl, rfl, H1.out⟩
  case round =>
    obtain ⟨k, hk, rfl, rfl, hE⟩ := hrel
    clear H1
    obtain ⟨s0, s1⟩ := hE.1.one
    have hfu := HC.out.2.2.1 k hk
    by_cases hlt : k < n
    · obtain ⟨hst, hle⟩ := HC.out.1 k hlt
      obtain ⟨bv, ov, rfl, hck⟩ := hE.2.2.cell k hlt
      have hmk := HC.out.2.2.2.2.2.2 k hlt
      have h6 := HC.out.2.2.2.2.2.1 _ hmk
      have hsucc : fromI ms (k + 1) = ms[k]?.getD 0 + 1 := rfl
      obtain ⟨f, hf⟩ : ∃ f, fromI ms k = f := ⟨_, rfl⟩
      rw [hf] at hst hle hfu ⊢
      obtain ⟨x, hx⟩ : ∃ x, ms[k]?.getD 0 = x := ⟨_, rfl⟩
      rw [hx] at hst hle hck hmk h6 hsucc
      obtain ⟨y, rfl⟩ : ∃ y : Nat, x = (y : Int) := ⟨x.toNat, by omega⟩
      have HX := Lib.hid hx
      have hhy := HC.out.2.2.2.2.1 y hmk
      have HS := Lib.hid hsucc
      have HT := Lib.hid (HC.out.2.2.2.1 wr hE.2.1 f (y : Int) true hst)
      have HE := Lib.hid hE
      obtain ⟨hy64, hyh⟩ := hhy
      have HH := Lib.hid (fun W => has_yes a b y W ha hb hy64 hyh)
      clear hsucc hst hE hx hf hmk hyh
      go_wp2_with fail
      refine HT.out.mono ?_
      rintro e w3 ⟨rfl, hb3⟩
      have hE := HE.out.below hb3
      clear HE hb3 s0 s1 hck
      obtain ⟨s0, s1⟩ := hE.1.one
      obtain ⟨b', o', e', hck⟩ := hE.2.2.cell k hlt
      rw [HX.out] at hck
      cases e'
      have HE := Lib.hid hE
      clear hE
      go_wp2_with fail
      refine (HH.out _).mono ?_
      rintro e w4 ⟨rfl, hb4⟩
      have hE := HE.out.below hb4
      clear HE hb4 s0 s1 hck
      go_wp2_with fail
      go_roundw
      case rel => exact ⟨k + 1, by omega, by rw [HS.out], by go_num, hE⟩
      case measure => simp [intOf]; omega
    · have hkn : n = k := by omega
      subst hkn
      have hend := HC.out.2.1
      obtain ⟨f, hf⟩ : ∃ f, fromI ms n = f := ⟨_, rfl⟩
      rw [hf] at hend hfu ⊢
      have HT := Lib.hid (HC.out.2.2.2.1 wr hE.2.1 f 0 false hend)
      have HE := Lib.hid hE
      clear hend hE hf
      go_wp2_with fail
      refine HT.out.mono ?_
      rintro e w3 ⟨rfl, hb3⟩
      have hE := HE.out.below hb3
      clear HE hb3 s0 s1 HT hfu
      obtain ⟨s0, s1⟩ := hE.1.one
      have HE := Lib.hid hE
      clear hE
      go_wp2_with fail
      refine (HB.out.1 _).mono ?_
      rintro e w4 ⟨rfl, hb4⟩
      have hE := (HE.out.below hb4).new l0 l1
      clear HE hb4 s0 s1
      obtain ⟨s0, s1⟩ := hE.1.cells (B := w.heap.size) (x := a) (y := b) (by simp)
      obtain ⟨t0, t1⟩ := hE.1.cells (B := w4.heap.size) (x := l0) (y := l1) (by simp)
      have HE := Lib.hid hE
      clear hE
      go_wp2_with fail
      refine (HB.out.2.1 _).mono ?_
      rintro e w5 ⟨rfl, hb5⟩
      have hE := (HE.out.below hb5).new g0 g1
      clear HE hb5 s0 s1 t0 t1
      obtain ⟨s0, s1, t0, t1, u0, u1⟩ := hE.1.three
      have HE := Lib.hid hE
      clear hE
      obtain ⟨wo, rfl⟩ : ∃ wo : World, wo = wr := ⟨_, rfl⟩
      go_wp2_with fail
      refine (HA.out.2.1 _ HE.out.2.1).mono ?_
      rintro e w6 ⟨v2, rfl, hv, hb6⟩
      have hE := HE.out.below hb6
      clear HE hb6 s0 s1 t0 t1 u0 u1
      obtain ⟨ad, cd, rfl⟩ := hv.form
      obtain ⟨ls, hls⟩ : ∃ x, memI l0 l1 = x := ⟨_, rfl⟩
      have hL := HL.out.1
      rw [hls] at hv hL ⊢
      have hlb : ls.length ≤ 64 := by rw [← hls]; exact length_memI _ _
      clear hls
      obtain ⟨m, hm⟩ : ∃ m, ls.length = m := ⟨_, rfl⟩
      have hmm : ∀ k, k < m → ls[k]?.getD 0 ∈ ls := fun k hk => by rw [List.getElem?_eq_getElem (by omega)]; exact List.getElem_mem _
      rw [hm] at hv hlb ⊢
      have HV := Lib.hid (And.intro hE hv)
      have HM := Lib.hid (And.intro hmm hL)
      clear hm hE hv hmm hL
      go_wp2_with fail
      go_loopw [72] (fun i wr => ∃ k : Nat, k ≤ m ∧ i = .int .i64 (k : Int) ∧ EnvS w [(w5.heap.size, g0, g1), (w4.heap.size, l0, l1), (w.heap.size, a, b)] (.slice av n cv) ms wr ∧ IsL wr (.slice ad m cd) ls) (fun i _ => m - (intOf i).toNat)
      case atStart => exact ⟨0, by omega, rfl, HV.out.1, HV.out.2⟩
      case round =>
      obtain ⟨k, hk, rfl, hE, hv⟩ := hrel
      clear HV
      by_cases hlt : k < m
      · obtain ⟨b', o', rfl, hck⟩ := hv.cell k hlt
        have hx := HM.out.2 _ (HM.out.1 k hlt)
        obtain ⟨x, hxx⟩ : ∃ x, ls[k]?.getD 0 = x := ⟨_, rfl⟩
        rw [hxx] at hck hx
        have HE := Lib.hid (And.intro hE hv)
        clear hE hv hxx
        go_wp2_with fail
        go_roundw
        case rel => exact ⟨k + 1, by omega, by go_num, HE.out.1, HE.out.2⟩
        case measure => simp [intOf]; omega
      have hkm : m = k := by omega
      subst hkm
      clear hv HM hlt
      obtain ⟨s0, s1, t0, t1, u0, u1⟩ := hE.1.three
      have HE := Lib.hid hE
      clear hE
      go_wp2_with fail
      refine (HA.out.2.2.1 _ HE.out.2.1).mono ?_
      rintro e w6 ⟨v3, rfl, hv, hb6⟩
      have hE := HE.out.below hb6
      clear HE hb6 s0 s1 t0 t1 u0 u1
      obtain ⟨ad, cd, rfl⟩ := hv.form
      obtain ⟨ls, hls⟩ : ∃ x, memI g0 g1 = x := ⟨_, rfl⟩
      have hL := HL.out.2
      rw [hls] at hv hL ⊢
      have hlb : ls.length ≤ 64 := by rw [← hls]; exact length_memI _ _
      clear hls
      obtain ⟨m, hm⟩ : ∃ m, ls.length = m := ⟨_, rfl⟩
      have hmm : ∀ k, k < m → ls[k]?.getD 0 ∈ ls := fun k hk => by rw [List.getElem?_eq_getElem (by omega)]; exact List.getElem_mem _
      rw [hm] at hv hlb ⊢
      have HV := Lib.hid (And.intro hE hv)
      have HM := Lib.hid (And.intro hmm hL)
      clear hm hE hv hmm hL
      go_wp2_with fail
      go_loopw [83] (fun i wr => ∃ k : Nat, k ≤ m ∧ i = .int .i64 (k : Int) ∧ EnvS w [(w5.heap.size, g0, g1), (w4.heap.size, l0, l1), (w.heap.size, a, b)] (.slice av n cv) ms wr ∧ IsL wr (.slice ad m cd) ls) (fun i _ => m - (intOf i).toNat)
      case atStart => exact ⟨0, by omega, rfl, HV.out.1, HV.out.2⟩
      case round =>
      obtain ⟨k, hk, rfl, hE, hv⟩ := hrel
      clear HV
      by_cases hlt : k < m
      · obtain ⟨b', o', rfl, hck⟩ := hv.cell k hlt
        have hx := HM.out.2 _ (HM.out.1 k hlt)
        obtain ⟨x, hxx⟩ : ∃ x, ls[k]?.getD 0 = x := ⟨_, rfl⟩
        rw [hxx] at hck hx
        have HE := Lib.hid (And.intro hE hv)
        clear hE hv hxx
        go_wp2_with fail
        go_roundw
        case rel => exact ⟨k + 1, by omega, by go_num, HE.out.1, HE.out.2⟩
        case measure => simp [intOf]; omega
      have hkm : m = k := by omega
      subst hkm
      clear hv HM hlt
      obtain ⟨s0, s1, t0, t1, u0, u1⟩ := hE.1.three
      have HE := Lib.hid hE
      clear hE
      have eqS := eq_same (a : Int) (b : Int)
      go_wp2_with fail
      have hE := HE.out.below ((Below.refl _ _).drew)
      go_region_held3 (fun W => W.cell? ⟨w.heap.size, 0, none⟩ = some (.int .u32 (a : Int)) ∧ W.cell? ⟨w.heap.size, 1, none⟩ = some (.int .u32 (b : Int)) ∧ W.cell? ⟨w4.heap.size, 0, none⟩ = some (.int .u32 (l0 : Int)) ∧ W.cell? ⟨w4.heap.size, 1, none⟩ = some (.int .u32 (l1 : Int)) ∧ W.cell? ⟨w5.heap.size, 0, none⟩ = some (.int .u32 (g0 : Int)) ∧ W.cell? ⟨w5.heap.size, 1, none⟩ = some (.int .u32 (g1 : Int)))
        (exact hE.1.three)
        (first
          | (go_at_call 31; refine (HB.out.2.2 _).mono ?_; rintro e w' ⟨rfl, hbx⟩; have hE := hE.below hbx)
          | (go_at_call 19; refine (HA.out.2.2.2 _).mono ?_; rintro e w' ⟨rfl, hbx⟩; have hE := hE.below hbx))
      go_wp2_with fail
      go_ret
      exact ⟨rfl, hE.1.2⟩
end Go.Proofs.YtnefjlglhnkbfaaDoor
