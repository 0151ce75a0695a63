/-
  The image of a world with one wire to outside.
-/
import Derived.Test.YtlephnfepofbbaaGreatDoorMtRow
import Derived.Lib.SmallJoins
namespace Go.Proofs.YtlephnfepofbbaaGreatDoor
open Go.RowKit Go.Shelf Go.Maps Go.ChangeMaps
attribute [local go_sem] Oper.semAt_some
variable {E : Prop}

/-- What an image is. -/
def ImgO (w : World) (xs : List ByteArray) (e : Ending) (w' : World) : Prop := ∃ v, e = .returned v ∧ RS.own w' w.heap.size v xs ∧ Below w.heap.size w w'
theorem nowS_size (n : Nat) : ¬ 9223372036854775807 < (⟨#[110, 111, 119, 32]⟩ : ByteArray).size + (⟨(Lib.decDigits n).toArray⟩ : ByteArray).size ∨ 9223372036854775807 < (Lib.decDigits n).length + 4 := by
  show ¬ 9223372036854775807 < 4 + (Lib.decDigits n).toArray.size ∨ _
  rw [List.size_toArray]; omega
theorem numsA_fd (L : Lay) : numsA (fun fd => L.at_ (oFd fd)) true 96 = [0] := by
  have e : (fun fd => (L.at_ (oFd fd)).isSome == true) = fun fd => fd == 0 := by
    funext fd
    unfold oFd Lay.at_
    by_cases h : fd = 0
    · subst h; rfl
    · rw [if_neg h]; simp [h]
  unfold numsA
  rw [show (fun i => (L.at_ (oFd i)).isSome == true) = fun fd => fd == 0 from e]
  decide
theorem list_none : T.new.list 32 = [] := by decide
theorem placeS_size : (placeS 0).size ≤ 60 := by
  have h1 := numS_size 0 (by decide)
  have e1 : (⟨#[32, 119, 105, 114, 101]⟩ : ByteArray).size = 5 := rfl
  have e2 : (⟨#[32, 101, 110, 100]⟩ : ByteArray).size = 4 := rfl
  unfold placeS
  simp only [ByteArray.size_append, e1, e2]; omega
theorem wireT_size {w : World} {B g n : Nat} {r : Bool → Nat} {F : Bool → Nat → Prop} {v : Value} {x : Wi} (h : Wr w B g n r F v x) (h1 : One x) : (wireT x).size ≤ 2000 := by
  have hul : ∀ k, (byU (x.e k).bs).length ≤ 400 := fun k => by
    obtain ⟨out, hr⟩ := h.ring k (h1.can k)
    have := hr.facts
    have := h1.cap
    unfold byU
    rw [List.length_map]; omega
  have hc := h1.cap
  have s0 := endS_size (x.e false).is (x.e false).shut _ x.cap (hul false) (by omega)
  have s1 := endS_size (x.e true).is (x.e true).shut _ x.cap (hul true) (by omega)
  have e1 : (⟨#[32, 114, 101, 115, 101, 116]⟩ : ByteArray).size = 6 := rfl
  unfold wireT wireS
  split
  · simp only [ByteArray.size_append, e1]; omega
  · simp only [ByteArray.size_append]; omega
attribute [-go_sem] Builtin.append_
set_option maxRecDepth 100000 in
set_option maxHeartbeats 8000000 in
theorem image_one {w : World} {B : Nat} {L : Lay} {N now : Nat} {x : Wi} (h : Wd w B L (oneS now x)) (h1 : One x) (hE : EnvI E N w) (hn : now < 18446744073709551616) : Calls Tryz.prog 23 #[.pointer (some ⟨L.p, 0, none⟩)] w (ImgO w (imgL now x)) := by
  have HM := Lib.hid (wmade_yes h.top)
  have c0 := h.top.cell 0
  simp at c0
  have lp := h.top.lt
  have lk := h.kept.lt
  have k0 := h.kept.c0
  have H := Lib.hid h
  have HI := Lib.hid (And.intro h1 hE)
  have HF := Lib.hid (fun W' (hB : Below w.heap.size w W') => fmtU_any now hn W' (hE.on hB).env)
  have hdl : (Lib.decDigits now).length ≤ 20 := dec_len now (by omega)
  obtain ⟨T, hT⟩ : ∃ T : ByteArray, T = ⟨(Lib.decDigits now).toArray⟩ := ⟨_, rfl⟩
  have hTs : T.size ≤ 20 := by rw [hT]; show (Lib.decDigits now).toArray.size ≤ 20; rw [List.size_toArray]; exact hdl
  rw [← hT] at HF
  have n1 : ¬ 9223372036854775807 < 4 + T.size := by omega
  have HT := Lib.hid (show nowS now = (⟨#[110, 111, 119, 32]⟩ : ByteArray) ++ T by rw [hT]; rfl)
  rw [show ((oneS now x).now : Int) = (now : Int) from rfl] at k0
  clear h h1 hE hdl hT
  refine (callsIn_wide (n := 6)).1 ?_
  refine callsIn_of_wp_marks Tryz.func23 rfl trivial ?_ rfl
  simp only [Tryz.ntmps23, List.size_toArray, List.length_cons, List.length_nil, Nat.reduceAdd, Nat.reduceSub, Array.replicate_succ, Array.replicate_zero, List.push_toArray, List.append_toArray, List.nil_append, List.cons_append]
  gi_wp2_with (refine ⟨trivial, ?_⟩; first
    | (gi_at_call 44; refine (callsIn_wide.2 HM.out).mono ?_; rintro e w1 ⟨rfl, rfl⟩)
    | (gi_at_call 50; refine (callsIn_wide.2 (HF.out _ ((Below.refl _ _).alloc (Nat.le_refl _) _))).mono ?_; rintro e w1 ⟨rfl, hb1⟩; have kb1 : Boxed w1 w.heap.size 59 (.pointer (some ⟨L.kb, 0, none⟩)) := (hb1.block _ (by simp)).trans (Boxed.new w _ _); have ck1 := kb1.cell; have lk1 := kb1.lt; have HB1 := Lib.hid (And.intro hb1 kb1); clear hb1 kb1)
    | (gi_at_call 51; refine (callsIn_wide.2 (numbers_call _ L.kb true)).mono ?_; rintro e w2 ⟨rfl, rfl⟩))
  obtain ⟨V, hV, v0, v1, v2, v3, v4, v5⟩ := four_boxes w1 9 56 59 4 (.string (⟨#[110, 111, 119, 32]⟩ ++ T)) (.slice (some ⟨w1.heap.size, 0, none⟩) 1 1) (.pointer (some ⟨L.kb, 0, none⟩)) (.bool true)
  rw [← hV]
  clear hV
  have hws : w.heap.size + 1 ≤ w1.heap.size := by have := HB1.out.1.size; simpa using this
  have hbV : Below w.heap.size w V := by
    have h1 : Below w.heap.size w w1 := ((Below.refl _ w).alloc (Nat.le_refl _) _).trans (HB1.out.1.mono (by simp))
    exact h1.trans (v0.below (fun _ e => e.elim) h1.size)
  have hc0 : ImJ w L.kb (w1.heap.size + 1) (w1.heap.size + 2) (w1.heap.size + 3) [nowS now] V := by
    refine ⟨(v0.block _ HB1.out.2.lt (fun e => e)).trans HB1.out.2, ⟨_, v2, ?_⟩, v3, v4, hbV, by omega⟩
    have v1' : V.heap[w1.heap.size]? = some (.cells #[.string (⟨#[110, 111, 119, 32]⟩ ++ T)] 9 (0, 0)) := v1
    refine ⟨rfl, .inr ⟨w1.heap.size, 1, _, rfl, by omega, v1', Nat.le_refl _, by unfold maxLen; omega, rfl, ?_⟩⟩
    rw [HT.out]; rfl
  have hTV := H.out.kept.same (hbV.block L.kb lk)
  refine rangeFunc_o (n := 6) (by omega) (gf := 98) (lb := #[.pointer (some ⟨w1.heap.size + 1 + 1, 0, none⟩), .pointer (some ⟨w1.heap.size + 1 + 1 + 1, 0, none⟩)]) rfl (enters_of Tryz.func98 (by kernel_rfl) rfl)
    (encs := encI) TCe (fun i => i < w.heap.size ∨ i = w1.heap.size + 2 ∨ i = w1.heap.size + 3) (num_o 5 (by omega) true hTV _ _ v3 v4 TCe _ V.heap.size ⟨by omega, .inr (.inl rfl)⟩ ⟨by omega, .inr (.inr rfl)⟩ ⟨by omega, .inl lk⟩) (fun _ => rfl)
    (fun pre W => ImJ w L.kb (w1.heap.size + 1) (w1.heap.size + 2) (w1.heap.size + 3) (nowS now :: pre.map fun _ => fdS) W) (fun _ _ _ => False)
    (fun s X Y hi hc => hi.chR hc (by omega)) (fun c s X Y hi hc => hi.elim) hc0 ?round ?done ?stop
  case round =>
    rintro l pre x0 W hz hS ⟨R, hR⟩
    rw [show (fun fd => L.at_ ((oneS now x).fds fd)) = fun fd => L.at_ (oFd fd) from rfl, numsA_fd] at hR
    obtain ⟨rfl, rfl⟩ : pre = [] ∧ x0 = 0 := by
      cases pre with
      | nil => simp at hR; exact ⟨rfl, hR.1⟩
      | cons a r => simp at hR
    have HS := Lib.hid hS
    clear hS hR hc0 hTV v0 v1 v2 v3 v4
    simp only [encI]
    gi_wp2_with fail
    refine ⟨KeepsFrom.refl _ _, KpO.refl _ _ _ _, fun W2 hc => ?_⟩
    have hS2 := HS.out.chR hc (by omega)
    obtain ⟨lb, hlb⟩ : ∃ lb, lb = w1.heap.size + 1 := ⟨_, rfl⟩
    rw [← hlb] at hS2 ⊢
    obtain ⟨v, hv, hrow⟩ := hS2.l
    obtain ⟨xs, hxs⟩ : ∃ xs, xs = (nowS now :: List.map (fun _ => fdS) ([] : List Nat)) := ⟨_, rfl⟩
    rw [← hxs] at hS2 hrow
    obtain ⟨nl, hnl⟩ : ∃ nl, nl = xs.length := ⟨_, rfl⟩
    have HNL := Lib.hid hnl
    have HJ := Lib.hid (And.intro hS2 (And.intro hv (And.intro hrow (show xs.length ≤ 10 by rw [hxs]; simp))))
    have hW2 : Wd W2 B L (oneS now x) := H.out.below hS2.bel
    have hwr := hW2.wire 0 x rfl
    have hE2 := HI.out.2.on hS2.bel
    have dk := hW2.kept.fd (i := 0) (by decide)
    have dk : W2.cell? ⟨L.kb, 2, none⟩ = some (.pointer (some ⟨L.wa 0, 1, none⟩)) := dk
    have lko : L.kb < W2.heap.size := Nat.lt_of_lt_of_le lk hS2.bel.size
    have hno : v.ownBlock ≠ some (L.kb) := fun e => by have := (RowK.own_lt hrow e).2; have := lk; omega
    have HSF := Lib.hid (show ∀ W', Below W2.heap.size W2 W' → W'.cell? ⟨lb, 0, none⟩ = some v ∧ W'.cell? ⟨w.heap.size, 0, none⟩ = some (.pointer (some ⟨L.kb, 0, none⟩)) ∧ W'.cell? ⟨L.kb, 2, none⟩ = some (.pointer (some ⟨L.wa 0, 1, none⟩)) from fun W' hB => ⟨(hB.cell (p := ⟨lb, 0, none⟩) hv.lt).trans hv.cell, (hB.cell (p := ⟨w.heap.size, 0, none⟩) hS2.k.lt).trans hS2.k.cell, (hB.cell (p := ⟨L.kb, 2, none⟩) lko).trans dk⟩)
    have HSB := Lib.hid (show ∀ W' : World, (∀ k, k < W2.heap.size → v.ownBlock ≠ some k → W'.heap[k]? = W2.heap[k]?) → W'.cell? ⟨lb, 0, none⟩ = some v ∧ W'.cell? ⟨w.heap.size, 0, none⟩ = some (.pointer (some ⟨L.kb, 0, none⟩)) ∧ W'.cell? ⟨L.kb, 2, none⟩ = some (.pointer (some ⟨L.wa 0, 1, none⟩)) from fun W' hB => ⟨(World.cell?_of_block (hB lb hv.lt (RS.nebox hrow hv (by decide)))).trans hv.cell, (World.cell?_of_block (hB w.heap.size hS2.k.lt (RS.nebox hrow hS2.k (by decide)))).trans hS2.k.cell, (World.cell?_of_block (hB (L.kb) lko hno)).trans dk⟩)
    have HA := Lib.hid (show Calls Tryz.prog 52 #[.int .i64 0] W2.drew fun e w' => e = .returned (.string (numS 0)) ∧ Below W2.heap.size W2 w' from (number_any 0 (by decide) W2.drew (hE2.on ((Below.refl _ W2).drew)).env).mono fun e w' h => ⟨h.1, ⟨h.2.os, h.2.tape, h.2.output, h.2.size, h.2.block⟩⟩)
    have HBF := Lib.hid (show ∀ w3, Below W2.heap.size W2 w3 → Calls Tryz.prog 53 #[.pointer (some ⟨L.wa 0, 1, none⟩)] w3 fun e w' => e = .returned (.string (placeS 0)) ∧ Below w3.heap.size w3 w' from fun w3 hB => place_any (((hW2.below hB).wire 0 x rfl).blk) HI.out.1.back (by decide) (hE2.on hB))
    have s2 := placeS_size
    obtain ⟨Y, hY⟩ : ∃ Y, Y = placeS 0 := ⟨_, rfl⟩
    have s1 := numS_size 0 (by decide)
    obtain ⟨X, hX⟩ : ∃ X, X = numS 0 := ⟨_, rfl⟩
    have HZ := Lib.hid (And.intro hX (And.intro hY hxs))
    rw [← hX] at HA s1
    rw [← hY] at HBF s2
    have m2 : ¬ 9223372036854775807 < 2 + X.size := by omega
    have m3 : ¬ 9223372036854775807 < 2 + X.size + Y.size := by omega
    obtain ⟨g, hg⟩ : ∃ g, g = L.wa 0 := ⟨_, rfl⟩
    rw [← hg] at HBF HSF HSB
    clear hX hY hxs hnl hwr hE2 hW2 dk lko hno hv hrow hS2 s1 s2 hg
    have HLB := Lib.hid (And.intro hlb (And.intro hws v5))
    clear hc hlb hws
    gi_wp2_with fail
    refine wpIn_region_held_last (S := (fun W' => W'.cell? ⟨lb, 0, none⟩ = some v ∧ W'.cell? ⟨w.heap.size, 0, none⟩ = some (.pointer (some ⟨L.kb, 0, none⟩)) ∧ W'.cell? ⟨L.kb, 2, none⟩ = some (.pointer (some ⟨g, 1, none⟩)))) (lets_round l) 14 (by rfl) (by kernel_rfl) (fun _ _ h => h) (by kernel_rfl) (by kernel_rfl) (k := 14) (by rfl) (HSF.out _ ((Below.refl _ _).drew)) (fun hHeld => ?_)
    refine wpAnyH_take (i := 0) (oi := { dst := some 27, op := Op.load 56 (Operand.tmp 4), type := 56, pos := "image.go:22", after := #[], guard := none }) (v := v) rfl (by kernel_rfl) (by kernel_rfl) (by kernel_rfl) (fun _ _ _ h => h) (Or.inl ⟨by rfl, by intro w hSw; (try dsimp only at hSw); go_simp⟩) (by assumption) ?_
    try simp only [Act.put, List.setIfInBounds_toArray, List.set_cons_zero, List.set_cons_succ]
    refine wpAnyH_take (i := 1) (oi := { dst := some 28, op := Op.move (Operand.tmp 5), type := 3, pos := "image.go:22", after := #[], guard := none }) (v := .int .i64 0) rfl (by kernel_rfl) (by kernel_rfl) (by kernel_rfl) (fun _ _ _ h => h) (Or.inl ⟨by rfl, by intro w hSw; (try dsimp only at hSw); go_simp⟩) (by assumption) ?_
    try simp only [Act.put, List.setIfInBounds_toArray, List.set_cons_zero, List.set_cons_succ]
    refine wpAnyH_take (i := 4) (oi := { dst := some 31, op := Op.load 59 (Operand.tmp 3), type := 59, pos := "image.go:22", after := #[], guard := none }) (v := .pointer (some ⟨L.kb, 0, none⟩)) rfl (by kernel_rfl) (by kernel_rfl) (by kernel_rfl) (fun _ _ _ h => h) (Or.inl ⟨by rfl, by intro w hSw; (try dsimp only at hSw); go_simp⟩) (by assumption) ?_
    try simp only [Act.put, List.setIfInBounds_toArray, List.set_cons_zero, List.set_cons_succ]
    refine wpAnyH_take (i := 5) (oi := { dst := some 32, op := Op.move (Operand.tmp 5), type := 3, pos := "image.go:22", after := #[], guard := none }) (v := .int .i64 0) rfl (by kernel_rfl) (by kernel_rfl) (by kernel_rfl) (fun _ _ _ h => h) (Or.inl ⟨by rfl, by intro w hSw; (try dsimp only at hSw); go_simp⟩) (by assumption) ?_
    try simp only [Act.put, List.setIfInBounds_toArray, List.set_cons_zero, List.set_cons_succ]
    refine wpAnyH_take (i := 6) (oi := { dst := some 33, op := Op.nilCheck (Operand.tmp 31), type := 0, pos := "image.go:22", after := #[{ on := 4, ground := Ground.data }], guard := none }) (v := .pointer (some ⟨L.kb, 0, none⟩)) rfl (by kernel_rfl) (by kernel_rfl) (by kernel_rfl) (fun _ _ _ h => h) (Or.inl ⟨by rfl, by intro w hSw; (try dsimp only at hSw); go_simp⟩) (by assumption) ?_
    try simp only [Act.put, List.setIfInBounds_toArray, List.set_cons_zero, List.set_cons_succ]
    refine wpAnyH_take (i := 7) (oi := { dst := some 34, op := Op.fieldAddr 66 (Operand.tmp 33) 2, type := 0, pos := "image.go:22", after := #[{ on := 6, ground := Ground.data }], guard := none }) (v := .pointer (some ⟨L.kb, 2, none⟩)) rfl (by kernel_rfl) (by kernel_rfl) (by kernel_rfl) (fun _ _ _ h => h) (Or.inl ⟨by rfl, by intro w hSw; (try dsimp only at hSw); go_simp⟩) (by assumption) ?_
    try simp only [Act.put, List.setIfInBounds_toArray, List.set_cons_zero, List.set_cons_succ]
    refine wpAnyH_take (i := 8) (oi := { dst := some 35, op := Op.indexAddr 64 (Operand.tmp 34) (Operand.tmp 32), type := 0, pos := "image.go:22", after := #[{ on := 7, ground := Ground.data }, { on := 5, ground := Ground.data }], guard := none }) (v := .pointer (some ⟨L.kb, 2, none⟩)) rfl (by kernel_rfl) (by kernel_rfl) (by kernel_rfl) (fun _ _ _ h => h) (Or.inl ⟨by rfl, by intro w hSw; (try dsimp only at hSw); go_simp⟩) (by assumption) ?_
    try simp only [Act.put, List.setIfInBounds_toArray, List.set_cons_zero, List.set_cons_succ]
    refine wpAnyH_take (i := 9) (oi := { dst := some 36, op := Op.load 63 (Operand.tmp 35), type := 63, pos := "image.go:22", after := #[{ on := 8, ground := Ground.data }], guard := none }) (v := .pointer (some ⟨g, 1, none⟩)) rfl (by kernel_rfl) (by kernel_rfl) (by kernel_rfl) (fun _ _ _ h => h) (Or.inl ⟨by rfl, by intro w hSw; (try dsimp only at hSw); go_simp⟩) (by assumption) ?_
    try simp only [Act.put, List.setIfInBounds_toArray, List.set_cons_zero, List.set_cons_succ]
    refine wpAnyH_ready (rs := [2]) (by kernel_rfl) (by simp) ?_
    refine AllReadyH.cons (o := { dst := some 29, op := Op.call { callee := Callee.value (Operand.func 52), args := #[Operand.tmp 28], argTypes := #[3] }, type := 9, pos := "image.go:22", after := #[{ on := 1, ground := Ground.data }], guard := none }) rfl (fun K hK => ?_) AllReadyH.nil
    go_simp
    refine HA.out.mono ?_
    rintro e w3 ⟨rfl, hb3⟩
    have HC := Lib.hid (HSF.out w3 hb3)
    have HB2 := Lib.hid (HBF.out w3 hb3)
    have HB3 := Lib.hid hb3
    clear hb3
    first | refine hK.out _ _ HC.out (fun hHeld2 => ?_) | (go_wp2_with fail; refine hK.out _ _ HC.out (fun hHeld2 => ?_))
    clear hK K hHeld
    have hHeld := hHeld2
    clear hHeld2
    try simp only [Act.put, List.setIfInBounds_toArray, List.set_cons_zero, List.set_cons_succ]
    refine wpAnyH_take (i := 3) (oi := { dst := some 30, op := Op.binOp BinOp.add 9 (Operand.const (Value.string { data := #[102, 100] })) (Operand.tmp 29) 9, type := 9, pos := "image.go:22", after := #[{ on := 2, ground := Ground.data }], guard := none }) (v := .string ((⟨#[102, 100]⟩ : ByteArray) ++ X)) rfl (by kernel_rfl) (by kernel_rfl) (by kernel_rfl) (fun _ _ _ h => h) (Or.inl ⟨by rfl, by intro w hSw; (try dsimp only at hSw); go_simp⟩) (by assumption) ?_
    try simp only [Act.put, List.setIfInBounds_toArray, List.set_cons_zero, List.set_cons_succ]
    refine wpAnyH_ready (rs := [10]) (by kernel_rfl) (by simp) ?_
    refine AllReadyH.cons (o := { dst := some 37, op := Op.call { callee := Callee.value (Operand.func 53), args := #[Operand.tmp 36], argTypes := #[63] }, type := 9, pos := "image.go:22", after := #[{ on := 9, ground := Ground.data }, { on := 2, ground := Ground.chain }], guard := none }) rfl (fun K hK => ?_) AllReadyH.nil
    go_simp
    refine HB2.out.mono ?_
    rintro e w4 ⟨rfl, hb4⟩
    have hb4 : Below W2.heap.size W2 w4 := HB3.out.trans (hb4.mono HB3.out.size)
    have HC := Lib.hid (HSF.out w4 hb4)
    have HB4 := Lib.hid hb4
    obtain ⟨gg, cap, w6, hrun, hown, hgr, hsm⟩ := HJ.out.1.app HJ.out.2.2.1 hb4 (((⟨#[102, 100]⟩ : ByteArray) ++ X) ++ Y) HJ.out.2.2.2
    rw [← HNL.out] at hrun hown
    have HG := Lib.hid (And.intro hown (And.intro hgr hsm))
    have HC6 := Lib.hid (HSB.out w6 hsm)
    clear hb4 hown hgr hsm
    first | refine hK.out _ _ HC.out (fun hHeld2 => ?_) | (go_wp2_with fail; refine hK.out _ _ HC.out (fun hHeld2 => ?_))
    clear hK K hHeld
    have hHeld := hHeld2
    clear hHeld2
    try simp only [Act.put, List.setIfInBounds_toArray, List.set_cons_zero, List.set_cons_succ]
    refine wpAnyH_take (i := 11) (oi := { dst := some 38, op := Op.binOp BinOp.add 9 (Operand.tmp 30) (Operand.tmp 37) 9, type := 9, pos := "image.go:22", after := #[{ on := 3, ground := Ground.data }, { on := 10, ground := Ground.data }], guard := none }) (v := .string (((⟨#[102, 100]⟩ : ByteArray) ++ X) ++ Y)) rfl (by kernel_rfl) (by kernel_rfl) (by kernel_rfl) (fun _ _ _ h => h) (Or.inl ⟨by rfl, by intro w hSw; (try dsimp only at hSw); go_simp⟩) (by assumption) ?_
    try simp only [Act.put, List.setIfInBounds_toArray, List.set_cons_zero, List.set_cons_succ]
    refine wpAnyH_ready (rs := [12]) (by kernel_rfl) (by simp) ?_
    refine AllReadyH.cons (o := { dst := some 39, op := Op.buildSlice 56 1 #[(0, Operand.tmp 38)], type := 56, pos := "image.go:22", after := #[{ on := 11, ground := Ground.data }], guard := none }) rfl (fun K hK => ?_) AllReadyH.nil
    go_simp
    clear HC
    have HC := Lib.hid (HSF.out _ (HB4.out.alloc HB4.out.size (.cells #[.string (((⟨#[102, 100]⟩ : ByteArray) ++ X) ++ Y)] 9)))
    first | refine hK.out _ _ HC.out (fun hHeld2 => ?_) | (go_wp2_with fail; refine hK.out _ _ HC.out (fun hHeld2 => ?_))
    clear hK K hHeld
    have hHeld := hHeld2
    clear hHeld2
    try simp only [Act.put, List.setIfInBounds_toArray, List.set_cons_zero, List.set_cons_succ]
    refine wpAnyH_ready (rs := [13]) (by kernel_rfl) (by simp) ?_
    refine AllReadyH.cons (o := { dst := some 40, op := Op.call { callee := Callee.builtin Builtin.append, args := #[Operand.tmp 27, Operand.tmp 39], argTypes := #[56, 56] }, type := 56, pos := "image.go:22", after := #[{ on := 0, ground := Ground.data }, { on := 12, ground := Ground.data }, { on := 10, ground := Ground.chain }], guard := none }) rfl (fun K hK => ?_) AllReadyH.nil
    go_simp
    clear HC
    have HC := HC6
    first | refine hK.out _ _ HC.out (fun hHeld2 => ?_) | (go_wp2_with fail; refine hK.out _ _ HC.out (fun hHeld2 => ?_))
    clear hK K hHeld
    have hHeld := hHeld2
    clear hHeld2
    try simp only [Act.put, List.setIfInBounds_toArray, List.set_cons_zero, List.set_cons_succ]
    refine wpAnyH_done (by kernel_rfl) ?_ _
    obtain ⟨hown, hgr, hsm⟩ := HG.out
    have i6 : Boxed w6 lb 56 v := (hsm lb HJ.out.2.1.lt (RS.nebox HJ.out.2.2.1 HJ.out.2.1 (by decide))).trans HJ.out.2.1
    have d6 := i6.cell
    have f6 := i6.frozen
    have l6 := i6.lt
    have HP := Lib.hid (HJ.out.1.post (N := V.heap.size) (Pr := fun i => i < w.heap.size ∨ i = w1.heap.size + 2 ∨ i = w1.heap.size + 3) HJ.out.2.1 HJ.out.2.2.1 HB4.out hgr hown (by obtain ⟨q1, q2, q3⟩ := HLB.out; omega) (by obtain ⟨q1, q2, q3⟩ := HLB.out; omega) (fun k hk => hk))
    clear hown hgr hsm i6 hrun
    show wpList _ _ _ _ _ _
    go_wp2_with fail
    refine ⟨HP.out.1, HP.out.2.1, ?_⟩
    have hp := HP.out.2.2.1
    obtain ⟨q1, q2, q3⟩ := HZ.out
    rw [q3, q2, q1] at hp
    exact hp
  case stop => rintro c pre W hp hf; exact hf.elim
  case done =>
    rintro xs0 W hS0 hI hD hz
    rw [show (fun fd => L.at_ ((oneS now x).fds fd)) = fun fd => L.at_ (oFd fd) from rfl, numsA_fd] at hS0
    subst hS0
    have hI : ImJ w L.kb (w1.heap.size + 1) (w1.heap.size + 2) (w1.heap.size + 3) [nowS now, fdS] W := hI
    obtain ⟨lb, hlb⟩ : ∃ lb, lb = w1.heap.size + 1 := ⟨_, rfl⟩
    rw [← hlb] at hI ⊢
    have hW := H.out.below hI.bel
    obtain ⟨g0, c, ev, hg0, hcw⟩ := hW.wrow (i := 0) (by show 0 < 1; omega)
    have ev : L.wv = .slice (some ⟨g0, 0, none⟩) 1 c := ev
    have k1 := hW.kept.c1
    rw [ev] at k1
    have cb := hI.k.cell
    have lbx := hI.k.lt
    have lk2 := hW.kept.lt
    have HS := Lib.hid (And.intro hI (And.intro hD hz))
    have HLB := Lib.hid (And.intro hlb (And.intro hws v5))
    have HEV := Lib.hid ev
    clear hW ev hI hD hz hlb hc0 hTV v0 v1 v2 v3 v4 v5
    gi_wp2_with fail
    gi_loopw [46] (fun i wr => (i = .int .i64 0 ∧ ImJ w L.kb lb (w1.heap.size + 2) (w1.heap.size + 3) [nowS now, fdS] wr ∧ wr.heap[V.heap.size]? = some (.deferred (some [])) ∧ V.heap.size + 2 ≤ wr.heap.size) ∨ (i = .int .i64 1 ∧ ImJ w L.kb lb (w1.heap.size + 2) (w1.heap.size + 3) (imgL now x) wr ∧ wr.heap[V.heap.size]? = some (.deferred (some [])) ∧ V.heap.size + 2 ≤ wr.heap.size)) (fun i _ => 1 - (intOf i).toNat)
    case atStart => exact .inl ⟨rfl, HS.out⟩
    case round =>
      rcases hrel with ⟨rfl, hS2, hD2, hz2⟩ | ⟨rfl, hS3, hD3, hz3⟩
      · obtain ⟨W2, rfl⟩ : ∃ W2, W2 = wr := ⟨_, rfl⟩
        obtain ⟨g0', c', ev', hg0', hcw'⟩ := (H.out.below hS2.bel).wrow (i := 0) (by show 0 < 1; omega)
        have ec : g0' = g0 := by
          have := HEV.out.symm.trans ev'
          injection this with e1
          injection e1 with e1
          injection e1 with e1
          exact e1.symm
        subst ec
        have HD2 := Lib.hid (And.intro hD2 hz2)
        clear ev' hD2 hz2
        obtain ⟨v, hv, hrow⟩ := hS2.l
        obtain ⟨xs, hxs⟩ : ∃ xs, xs = [nowS now, fdS] := ⟨_, rfl⟩
        rw [← hxs] at hS2 hrow
        obtain ⟨nl, hnl⟩ : ∃ nl, nl = xs.length := ⟨_, rfl⟩
        have HNL := Lib.hid hnl
        have HJ := Lib.hid (And.intro hS2 (And.intro hv (And.intro hrow (show xs.length ≤ 10 by rw [hxs]; simp))))
        have hW2 : Wd W2 B L (oneS now x) := H.out.below hS2.bel
        have hwr := hW2.wire 0 x rfl
        have hE2 := HI.out.2.on hS2.bel
        have dk : W2.cell? ⟨L.wa 0, 0, none⟩ = some (.int .i64 0) := hwr.blk.w0
        have lko : L.wa 0 < W2.heap.size := hwr.blk.lt
        have hno : v.ownBlock ≠ some (L.wa 0) := fun e => by have := (RowK.own_lt hrow e).2; have := (H.out.wire 0 x rfl).blk.lt; omega
        have HSF := Lib.hid (show ∀ W', Below W2.heap.size W2 W' → W'.cell? ⟨lb, 0, none⟩ = some v ∧ W'.cell? ⟨w.heap.size, 0, none⟩ = some (.pointer (some ⟨L.kb, 0, none⟩)) ∧ W'.cell? ⟨L.wa 0, 0, none⟩ = some (.int .i64 0) from fun W' hB => ⟨(hB.cell (p := ⟨lb, 0, none⟩) hv.lt).trans hv.cell, (hB.cell (p := ⟨w.heap.size, 0, none⟩) hS2.k.lt).trans hS2.k.cell, (hB.cell (p := ⟨L.wa 0, 0, none⟩) lko).trans dk⟩)
        have HSB := Lib.hid (show ∀ W' : World, (∀ k, k < W2.heap.size → v.ownBlock ≠ some k → W'.heap[k]? = W2.heap[k]?) → W'.cell? ⟨lb, 0, none⟩ = some v ∧ W'.cell? ⟨w.heap.size, 0, none⟩ = some (.pointer (some ⟨L.kb, 0, none⟩)) ∧ W'.cell? ⟨L.wa 0, 0, none⟩ = some (.int .i64 0) from fun W' hB => ⟨(World.cell?_of_block (hB lb hv.lt (RS.nebox hrow hv (by decide)))).trans hv.cell, (World.cell?_of_block (hB w.heap.size hS2.k.lt (RS.nebox hrow hS2.k (by decide)))).trans hS2.k.cell, (World.cell?_of_block (hB (L.wa 0) lko hno)).trans dk⟩)
        have HA := Lib.hid (show Calls Tryz.prog 52 #[.int .i64 0] W2.drew fun e w' => e = .returned (.string (numS 0)) ∧ Below W2.heap.size W2 w' from (number_any 0 (by decide) W2.drew (hE2.on ((Below.refl _ W2).drew)).env).mono fun e w' h => ⟨h.1, ⟨h.2.os, h.2.tape, h.2.output, h.2.size, h.2.block⟩⟩)
        have HBF := Lib.hid (show ∀ w3, Below W2.heap.size W2 w3 → Calls Tryz.prog 54 #[.pointer (some ⟨L.wa 0, 0, none⟩)] w3 fun e w' => e = .returned (.string (wireT x)) ∧ Below w3.heap.size w3 w' from fun w3 hB => wtext_any ((hW2.below hB).wire 0 x rfl) HI.out.1 (hE2.on hB))
        have s2 := wireT_size hwr HI.out.1
        obtain ⟨Y, hY⟩ : ∃ Y, Y = wireT x := ⟨_, rfl⟩
        have s1 := numS_size 0 (by decide)
        obtain ⟨X, hX⟩ : ∃ X, X = numS 0 := ⟨_, rfl⟩
        have HZ := Lib.hid (And.intro hX (And.intro hY hxs))
        rw [← hX] at HA s1
        rw [← hY] at HBF s2
        have m2 : ¬ 9223372036854775807 < 4 + X.size := by omega
        have m3 : ¬ 9223372036854775807 < 4 + X.size + Y.size := by omega
        clear hX hY hxs hnl hwr hE2 hW2 dk lko hno hv hrow hS2 s1 s2
        gi_wp2_with fail
        refine wpIn_region_held_norm (S := (fun W' => W'.cell? ⟨lb, 0, none⟩ = some v ∧ W'.cell? ⟨w.heap.size, 0, none⟩ = some (.pointer (some ⟨L.kb, 0, none⟩)) ∧ W'.cell? ⟨L.wa 0, 0, none⟩ = some (.int .i64 0))) lets_wide 12 (by rfl) (by kernel_rfl) (by kernel_rfl) (by kernel_rfl) (k := 12) (by rfl) (HSF.out _ ((Below.refl _ _).drew)) (fun hHeld => ?_)
        refine wpAnyH_take (i := 0) (oi := { dst := some 50, op := Op.load 56 (Operand.tmp 4), type := 56, pos := "image.go:25", after := #[], guard := none }) (v := v) rfl (by kernel_rfl) (by kernel_rfl) (by kernel_rfl) (fun _ _ _ h => h) (Or.inl ⟨by rfl, by intro w hSw; (try dsimp only at hSw); go_simp⟩) (by assumption) ?_
        try simp only [Act.put, List.setIfInBounds_toArray, List.set_cons_zero, List.set_cons_succ]
        refine wpAnyH_take (i := 1) (oi := { dst := some 51, op := Op.move (Operand.tmp 7), type := 96, pos := "image.go:25", after := #[], guard := none }) (v := .pointer (some ⟨L.wa 0, 0, none⟩)) rfl (by kernel_rfl) (by kernel_rfl) (by kernel_rfl) (fun _ _ _ h => h) (Or.inl ⟨by rfl, by intro w hSw; (try dsimp only at hSw); go_simp⟩) (by assumption) ?_
        try simp only [Act.put, List.setIfInBounds_toArray, List.set_cons_zero, List.set_cons_succ]
        refine wpAnyH_take (i := 2) (oi := { dst := some 52, op := Op.nilCheck (Operand.tmp 51), type := 0, pos := "image.go:25", after := #[{ on := 1, ground := Ground.data }], guard := none }) (v := .pointer (some ⟨L.wa 0, 0, none⟩)) rfl (by kernel_rfl) (by kernel_rfl) (by kernel_rfl) (fun _ _ _ h => h) (Or.inl ⟨by rfl, by intro w hSw; (try dsimp only at hSw); go_simp⟩) (by assumption) ?_
        try simp only [Act.put, List.setIfInBounds_toArray, List.set_cons_zero, List.set_cons_succ]
        refine wpAnyH_take (i := 3) (oi := { dst := some 53, op := Op.fieldAddr 104 (Operand.tmp 52) 0, type := 0, pos := "image.go:25", after := #[{ on := 2, ground := Ground.data }], guard := none }) (v := .pointer (some ⟨L.wa 0, 0, none⟩)) rfl (by kernel_rfl) (by kernel_rfl) (by kernel_rfl) (fun _ _ _ h => h) (Or.inl ⟨by rfl, by intro w hSw; (try dsimp only at hSw); go_simp⟩) (by assumption) ?_
        try simp only [Act.put, List.setIfInBounds_toArray, List.set_cons_zero, List.set_cons_succ]
        refine wpAnyH_take (i := 4) (oi := { dst := some 54, op := Op.load 3 (Operand.tmp 53), type := 3, pos := "image.go:25", after := #[{ on := 3, ground := Ground.data }], guard := none }) (v := .int .i64 0) rfl (by kernel_rfl) (by kernel_rfl) (by kernel_rfl) (fun _ _ _ h => h) (Or.inl ⟨by rfl, by intro w hSw; (try dsimp only at hSw); go_simp⟩) (by assumption) ?_
        try simp only [Act.put, List.setIfInBounds_toArray, List.set_cons_zero, List.set_cons_succ]
        refine wpAnyH_take (i := 7) (oi := { dst := some 57, op := Op.move (Operand.tmp 7), type := 96, pos := "image.go:25", after := #[], guard := none }) (v := .pointer (some ⟨L.wa 0, 0, none⟩)) rfl (by kernel_rfl) (by kernel_rfl) (by kernel_rfl) (fun _ _ _ h => h) (Or.inl ⟨by rfl, by intro w hSw; (try dsimp only at hSw); go_simp⟩) (by assumption) ?_
        try simp only [Act.put, List.setIfInBounds_toArray, List.set_cons_zero, List.set_cons_succ]
        refine wpAnyH_ready (rs := [5]) (by kernel_rfl) (by simp) ?_
        refine AllReadyH.cons (o := { dst := some 55, op := Op.call { callee := Callee.value (Operand.func 52), args := #[Operand.tmp 54], argTypes := #[3] }, type := 9, pos := "image.go:25", after := #[{ on := 4, ground := Ground.data }], guard := none }) rfl (fun K hK => ?_) AllReadyH.nil
        go_simp
        refine HA.out.mono ?_
        rintro e w3 ⟨rfl, hb3⟩
        have HC := Lib.hid (HSF.out w3 hb3)
        have HB2 := Lib.hid (HBF.out w3 hb3)
        have HB3 := Lib.hid hb3
        clear hb3
        first | refine hK.out _ _ HC.out (fun hHeld2 => ?_) | (go_wp2_with fail; refine hK.out _ _ HC.out (fun hHeld2 => ?_))
        clear hK K hHeld
        have hHeld := hHeld2
        clear hHeld2
        try simp only [Act.put, List.setIfInBounds_toArray, List.set_cons_zero, List.set_cons_succ]
        refine wpAnyH_take (i := 6) (oi := { dst := some 56, op := Op.binOp BinOp.add 9 (Operand.const (Value.string { data := #[119, 105, 114, 101] })) (Operand.tmp 55) 9, type := 9, pos := "image.go:25", after := #[{ on := 5, ground := Ground.data }], guard := none }) (v := .string ((⟨#[119, 105, 114, 101]⟩ : ByteArray) ++ X)) rfl (by kernel_rfl) (by kernel_rfl) (by kernel_rfl) (fun _ _ _ h => h) (Or.inl ⟨by rfl, by intro w hSw; (try dsimp only at hSw); go_simp⟩) (by assumption) ?_
        try simp only [Act.put, List.setIfInBounds_toArray, List.set_cons_zero, List.set_cons_succ]
        refine wpAnyH_ready (rs := [8]) (by kernel_rfl) (by simp) ?_
        refine AllReadyH.cons (o := { dst := some 58, op := Op.call { callee := Callee.value (Operand.func 54), args := #[Operand.tmp 57], argTypes := #[96] }, type := 9, pos := "image.go:25", after := #[{ on := 7, ground := Ground.data }, { on := 5, ground := Ground.chain }], guard := none }) rfl (fun K hK => ?_) AllReadyH.nil
        go_simp
        refine HB2.out.mono ?_
        rintro e w4 ⟨rfl, hb4⟩
        have hb4 : Below W2.heap.size W2 w4 := HB3.out.trans (hb4.mono HB3.out.size)
        have HC := Lib.hid (HSF.out w4 hb4)
        have HB4 := Lib.hid hb4
        obtain ⟨gg, cap, w6, hrun, hown, hgr, hsm⟩ := HJ.out.1.app HJ.out.2.2.1 hb4 (((⟨#[119, 105, 114, 101]⟩ : ByteArray) ++ X) ++ Y) HJ.out.2.2.2
        rw [← HNL.out] at hrun hown
        have HG := Lib.hid (And.intro hown (And.intro hgr hsm))
        have HC6 := Lib.hid (HSB.out w6 hsm)
        clear hb4 hown hgr hsm
        first | refine hK.out _ _ HC.out (fun hHeld2 => ?_) | (go_wp2_with fail; refine hK.out _ _ HC.out (fun hHeld2 => ?_))
        clear hK K hHeld
        have hHeld := hHeld2
        clear hHeld2
        try simp only [Act.put, List.setIfInBounds_toArray, List.set_cons_zero, List.set_cons_succ]
        refine wpAnyH_take (i := 9) (oi := { dst := some 59, op := Op.binOp BinOp.add 9 (Operand.tmp 56) (Operand.tmp 58) 9, type := 9, pos := "image.go:25", after := #[{ on := 6, ground := Ground.data }, { on := 8, ground := Ground.data }], guard := none }) (v := .string (((⟨#[119, 105, 114, 101]⟩ : ByteArray) ++ X) ++ Y)) rfl (by kernel_rfl) (by kernel_rfl) (by kernel_rfl) (fun _ _ _ h => h) (Or.inl ⟨by rfl, by intro w hSw; (try dsimp only at hSw); go_simp⟩) (by assumption) ?_
        try simp only [Act.put, List.setIfInBounds_toArray, List.set_cons_zero, List.set_cons_succ]
        refine wpAnyH_ready (rs := [10]) (by kernel_rfl) (by simp) ?_
        refine AllReadyH.cons (o := { dst := some 60, op := Op.buildSlice 56 1 #[(0, Operand.tmp 59)], type := 56, pos := "image.go:25", after := #[{ on := 9, ground := Ground.data }], guard := none }) rfl (fun K hK => ?_) AllReadyH.nil
        go_simp
        clear HC
        have HC := Lib.hid (HSF.out _ (HB4.out.alloc HB4.out.size (.cells #[.string (((⟨#[119, 105, 114, 101]⟩ : ByteArray) ++ X) ++ Y)] 9)))
        first | refine hK.out _ _ HC.out (fun hHeld2 => ?_) | (go_wp2_with fail; refine hK.out _ _ HC.out (fun hHeld2 => ?_))
        clear hK K hHeld
        have hHeld := hHeld2
        clear hHeld2
        try simp only [Act.put, List.setIfInBounds_toArray, List.set_cons_zero, List.set_cons_succ]
        refine wpAnyH_ready (rs := [11]) (by kernel_rfl) (by simp) ?_
        refine AllReadyH.cons (o := { dst := some 61, op := Op.call { callee := Callee.builtin Builtin.append, args := #[Operand.tmp 50, Operand.tmp 60], argTypes := #[56, 56] }, type := 56, pos := "image.go:25", after := #[{ on := 0, ground := Ground.data }, { on := 10, ground := Ground.data }, { on := 8, ground := Ground.chain }], guard := none }) rfl (fun K hK => ?_) AllReadyH.nil
        go_simp
        clear HC
        have HC := HC6
        first | refine hK.out _ _ HC.out (fun hHeld2 => ?_) | (go_wp2_with fail; refine hK.out _ _ HC.out (fun hHeld2 => ?_))
        clear hK K hHeld
        have hHeld := hHeld2
        clear hHeld2
        try simp only [Act.put, List.setIfInBounds_toArray, List.set_cons_zero, List.set_cons_succ]
        refine wpAnyH_done (by kernel_rfl) ?_ _
        obtain ⟨hown, hgr, hsm⟩ := HG.out
        have i6 : Boxed w6 lb 56 v := (hsm lb HJ.out.2.1.lt (RS.nebox HJ.out.2.2.1 HJ.out.2.1 (by decide))).trans HJ.out.2.1
        have d6 := i6.cell
        have f6 := i6.frozen
        have l6 := i6.lt
        have HP := Lib.hid (HJ.out.1.post (N := V.heap.size) (Pr := fun i => i < w.heap.size ∨ i = w1.heap.size + 2 ∨ i = w1.heap.size + 3) HJ.out.2.1 HJ.out.2.2.1 HB4.out hgr hown (by obtain ⟨q1, q2, q3⟩ := HLB.out; omega) (by obtain ⟨q1, q2, q3⟩ := HLB.out; omega) (fun k hk => hk))
        clear hown hgr hsm i6 hrun
        show wpList _ _ _ _ _ _
        go_wp2_with fail
        dsimp only [onlyN, Exit.inBlock, Exit.then]
        gi_wp2_with fail
        go_roundw
        case rel =>
          refine .inr ⟨by go_num, ?_, HP.out.2.2.2 _ _ (Nat.le_refl _) HD2.out.1 rfl, Nat.le_trans HD2.out.2 HP.out.2.1.size⟩
          have hp := HP.out.2.2.1
          obtain ⟨q1, q2, q3⟩ := HZ.out
          rw [q3, q2, q1] at hp
          exact hp
        case measure => simp [intOf]
      · have hW3 := H.out.below hS3.bel
        have cb3 := hS3.k.cell
        have lb3 := hS3.k.lt
        obtain ⟨v, hv, hrow⟩ := hS3.l
        have cl := hv.cell
        have ll := hv.lt
        have k98 := hW3.kept.c98
        have kn := hW3.kept.c99
        rw [show (Value.pointer (L.at_ (oneS now x).nt)) = .pointer none from rfl] at kn
        have lk3 := hW3.kept.lt
        have HL := Lib.hid (list_any hW3.sig)
        have HE := Lib.hid (And.intro hS3 (And.intro hD3 (And.intro hz3 (And.intro hv hrow))))
        clear hS3 hD3 hz3 hW3 hv hrow
        gi_wp2_with (refine ⟨trivial, ?_⟩; gi_at_call 55; refine (callsIn_wide.2 HL.out).mono ?_; rintro e w7 ⟨v7, rfl, hv7, hb7⟩; rw [show (oneS now x).sg.list 32 = [] from list_none] at hv7; obtain ⟨A1, c1, rfl, _⟩ := RowK.own_shows hv7; have hs7 := hb7.size; have cb := (hb7.cell (p := ⟨w.heap.size, 0, none⟩) lb3).trans cb3; have cl := (hb7.cell (p := ⟨lb, 0, none⟩) ll).trans cl; have kn := (hb7.cell (p := ⟨L.kb, 99, none⟩) lk3).trans kn; have lb3 := Nat.lt_of_lt_of_le lb3 hs7; have ll := Nat.lt_of_lt_of_le ll hs7; have lk3 := Nat.lt_of_lt_of_le lk3 hs7; have HB := Lib.hid hb7; clear hb7 hv7)
        gi_loopw [69] (fun v wr => v = .int .i64 0 ∧ wr = w7) (fun _ _ => 0)
        case atStart => exact ⟨rfl, rfl⟩
        case round =>
          obtain ⟨rfl, rfl⟩ := hrel
          gi_wp2_with fail
          obtain ⟨hS3, hD3, hz3, hv, hrow⟩ := HE.out
          have hrow2 := RowK.own_same hrow fun j e => HB.out.block j (RowK.own_lt hrow e).1
          have hbel := hS3.bel.trans (HB.out.mono hS3.bel.size)
          exact leaves_marks w.heap.size [V.heap.size] _ (by simp) (fun D hD' => by simp at hD'; subst hD'; exact ⟨by have := HLB.out; omega, (HB.out.block _ (by omega)).trans hD3⟩) (fun W' hc => ⟨_, results_tmp rfl _ _ _, _, rfl, RowK.own_chR hrow2 hc.toR, below_chR hbel hc.toR (Nat.le_refl _)⟩)
end Go.Proofs.YtlephnfepofbbaaGreatDoor
