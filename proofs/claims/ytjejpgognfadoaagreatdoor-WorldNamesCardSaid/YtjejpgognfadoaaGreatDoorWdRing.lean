/-
  A wire with its rings; fill and drain.
-/
import Derived.Test.YtjejpgognfadoaaGreatDoorWdEnd
namespace Go.Proofs.YtjejpgognfadoaaGreatDoor
open Go.RowKit Go.Maps Go.ChangeMaps

/-- What of two wires the rings hold. -/
def Wi.sameR (x y : Wi) : Prop := y.cap = x.cap ∧ ∀ k, (y.e k).can = (x.e k).can ∧ (y.e k).bs = (x.e k).bs ∧ (y.e k).inn = (x.e k).inn
section
variable {x y z : Wi}
theorem Wi.sameR.refl (x : Wi) : x.sameR x := ⟨rfl, fun _ => ⟨rfl, rfl, rfl⟩⟩
theorem Wi.sameR.trans (h : x.sameR y) (k : y.sameR z) : x.sameR z := ⟨k.1.trans h.1, fun j => ⟨(k.2 j).1.trans (h.2 j).1, (k.2 j).2.1.trans (h.2 j).2.1, (k.2 j).2.2.trans (h.2 j).2.2⟩⟩
theorem Wi.sameR_set (x : Wi) (k : Bool) (p : En) (h1 : p.can = (x.e k).can) (h2 : p.bs = (x.e k).bs) (h3 : p.inn = (x.e k).inn) : x.sameR (x.set k p) := ⟨rfl, fun j => by
  rw [Wi.set_e]
  split
  · subst_vars; exact ⟨h1, h2, h3⟩
  · exact ⟨rfl, rfl, rfl⟩⟩
theorem Wi.sameR_rd (x : Wi) (k : Bool) : x.sameR (x.rdRise k) := by
  unfold Wi.rdRise
  split
  · exact Wi.sameR_set x k _ rfl rfl rfl
  · exact Wi.sameR.refl x
theorem Wi.sameR_wr (x : Wi) (k : Bool) : x.sameR (x.wrRise k) := by
  unfold Wi.wrRise
  split
  · exact Wi.sameR_set x k _ rfl rfl rfl
  · exact Wi.sameR.refl x
theorem Wi.sameR_mark (x : Wi) (k : Bool) (n : Nat) : x.sameR (x.mark k n) := Wi.sameR_set x k _ rfl rfl rfl
theorem Wi.sameR_stop (x : Wi) (k : Bool) : x.sameR (x.stop k) := by
  unfold Wi.stop
  split
  · exact Wi.sameR.refl x
  · exact (Wi.sameR_set x k { x.e k with shut := true } rfl rfl rfl).trans (Wi.sameR_rd _ _)
theorem Wi.sameR_close (x : Wi) (k : Bool) : x.sameR (x.close k) := by
  unfold Wi.close
  split
  · exact (Wi.sameR_mark x k 3).trans (Wi.sameR_wr _ _)
  · exact ((Wi.sameR_mark x k 3).trans (Wi.sameR_rd _ _)).trans (Wi.sameR_wr _ _)
end

/-- A wire with its rings: the F's are their blocks. -/
structure Wr (W : World) (B g n : Nat) (r : Bool → Nat) (F : Bool → Nat → Prop) (v : Value) (x : Wi) : Prop where
  blk : Wb W g n r v x
  hB : B ≤ g
  hs : B ≤ W.heap.size
  ring : ∀ k, (x.e k).can = true → ∃ out, Rg W B (r k) (F k) x.cap (x.e k).bs (x.e k).inn out
  nor : ∀ k, (x.e k).can = false → ∀ b, ¬ F k b
  sep : ∀ k b, F k b → ¬ F (!k) b
  own : ∀ k, ¬ F k g
def FW (g : Nat) (F : Bool → Nat → Prop) (b : Nat) : Prop := b = g ∨ ∃ k, F k b
section
variable {w w' w'' : World} {B g n : Nat} {r : Bool → Nat} {F F' : Bool → Nat → Prop} {v : Value} {x y : Wi} {k : Bool}
theorem Wr.lt (h : Wr w B g n r F v x) {b : Nat} (hb : FW g F b) : b < w.heap.size ∧ B ≤ b := by
  rcases hb with rfl | ⟨k, hk⟩
  · exact ⟨h.blk.lt, h.hB⟩
  · cases hc : (x.e k).can with
    | true => obtain ⟨out, hr⟩ := h.ring k hc; exact hr.lt hk
    | false => exact absurd hk (h.nor k hc b)
theorem Wr.same (h : Wr w B g n r F v x) (e : ∀ b, FW g F b → w'.heap[b]? = w.heap[b]?) (hs : B ≤ w'.heap.size) : Wr w' B g n r F v x :=
  ⟨h.blk.same (e g (.inl rfl)), h.hB, hs, fun k hc => by
    obtain ⟨out, hr⟩ := h.ring k hc
    exact ⟨out, hr.same (fun b hb => e b (.inr ⟨k, hb⟩)) hs⟩, h.nor, h.sep, h.own⟩
theorem Wr.kept {G : Nat → Prop} (h : Wr w B g n r F v x) (q : Kept G w w') (hf : ∀ b, FW g F b → ¬ G b) : Wr w' B g n r F v x :=
  h.same (fun b hb => q.block b (h.lt hb).1 (hf b hb)) (Nat.le_trans h.hs q.size)
theorem Wr.drewN_ (h : Wr w B g n r F v x) (q : Nat) : Wr (w.drewN q) B g n r F v x := h.same (fun _ _ => rfl) h.hs
/-- Its block alone turned. -/
theorem Wr.turn (h : Wr w B g n r F v x) (hb : Wb w' g n r v y) (q : Kept (fun j => j = g) w w') (hr : x.sameR y) : Wr w' B g n r F v y :=
  ⟨hb, h.hB, Nat.le_trans h.hs q.size, fun k hc => by
    obtain ⟨h1, h2, h3⟩ := hr.2 k
    obtain ⟨out, hk⟩ := h.ring k (h1 ▸ hc)
    rw [hr.1, h2, h3]
    exact ⟨out, hk.kept q (fun b hb e => h.own k (e ▸ hb))⟩, fun k hc => h.nor k ((hr.2 k).1 ▸ hc), h.sep, h.own⟩
theorem FW.kept (q : Kept (fun j => j = g) w w') : Kept (FW g F) w w' := q.mono fun _ _ e => .inl e
/-- One of its rings turned. -/
theorem Wr.ring1 (h : Wr w B g n r F v x) (hc : (x.e k).can = true) {G : Nat → Prop} {bs : List Int} {inn out : Nat} (hr : Rg w' B (r k) G x.cap bs inn out) (m : Mv w w' (F k) G) :
    ∃ F', Wr w' B g n r F' v (x.set k { x.e k with bs := bs, inn := inn }) ∧ Mv w w' (FW g F) (FW g F') ∧ ∀ b, FW g F' b → FW g F b ∨ G b := by
  have hgF : ∀ b, G b → F k b ∨ w.heap.size ≤ b := m.o
  have hlg := h.blk.lt
  refine ⟨fun j => if j = k then G else F j, ⟨(h.blk.kept m.k (h.own k)).ring_ k bs inn, h.hB, Nat.le_trans h.hs m.k.size, fun j hj => ?_, fun j hj b hb => ?_, fun j b hb hb2 => ?_, fun j hb => ?_⟩, ⟨m.k.mono fun b _ e => .inr ⟨k, e⟩, fun b hb => ?_⟩, fun b hb => ?_⟩
  · by_cases e : j = k
    · subst e
      rw [Wi.set_same]
      simp only [if_true]
      exact ⟨out, hr⟩
    · rw [Wi.set_e, if_neg e] at hj ⊢
      simp only [if_neg e]
      obtain ⟨o2, h2⟩ := h.ring j hj
      refine ⟨o2, h2.kept m.k fun b hb hb2 => ?_⟩
      have : j = !k := by cases j <;> cases k <;> simp_all
      exact h.sep k b hb2 (this ▸ hb)
  · by_cases e : j = k
    · subst e
      rw [Wi.set_same] at hj
      exact absurd (hc.symm.trans hj) (by decide)
    · rw [Wi.set_e, if_neg e] at hj
      simp only [if_neg e] at hb
      exact h.nor j hj b hb
  · by_cases e : j = k
    · subst e
      have e2 : ¬ ((!j) = j) := by cases j <;> decide
      simp only [if_true] at hb
      simp only [if_neg e2] at hb2
      rcases hgF b hb with h1 | h1
      · exact h.sep j b h1 hb2
      · have := (h.lt (.inr ⟨_, hb2⟩)).1; omega
    · have e2 : (!j) = k := by cases j <;> cases k <;> simp_all
      simp only [if_neg e] at hb
      simp only [if_pos e2] at hb2
      rcases hgF b hb2 with h1 | h1
      · exact h.sep j b hb (e2 ▸ h1)
      · have := (h.lt (.inr ⟨_, hb⟩)).1; omega
  · by_cases e : j = k
    · simp only [if_pos e] at hb
      rcases hgF g hb with h1 | h1
      · exact h.own k h1
      · omega
    · simp only [if_neg e] at hb
      exact h.own j hb
  · rcases hb with rfl | ⟨j, hb⟩
    · exact .inl (.inl rfl)
    · by_cases e : j = k
      · simp only [if_pos e] at hb
        rcases hgF b hb with h1 | h1
        · exact .inl (.inr ⟨k, h1⟩)
        · exact .inr h1
      · simp only [if_neg e] at hb
        exact .inl (.inr ⟨j, hb⟩)
  · rcases hb with rfl | ⟨j, hb⟩
    · exact .inl (.inl rfl)
    · by_cases e : j = k
      · simp only [if_pos e] at hb
        exact .inr hb
      · simp only [if_neg e] at hb
        exact .inl (.inr ⟨j, hb⟩)

set_option maxHeartbeats 1000000 in
theorem fill_any (h : Wr w B g n r F v x) (k : Bool) (hc : (x.e k).can = true) (vz : Value) (zs : List Int) (hz : Src w (FW g F) vz zs) (hN : x.le 900000000) :
    Calls Tryz.prog 36 #[.pointer (some ⟨g, off k, none⟩), vz] w fun e w' =>
      e = .returned (.int .i64 (x.room k zs.length : Int)) ∧ ∃ F', Wr w' B g n r F' v (x.fill k zs) ∧ Mv w w' (FW g F) (FW g F') := by
  obtain ⟨out, hr⟩ := h.ring k hc
  have c4 := h.blk.c4 k
  rw [hc, rp_yes] at c4
  have hi := (hN k).1
  have hf := hr.facts
  have hrm : x.room k zs.length ≤ 65536 := by unfold Wi.room; omega
  obtain ⟨A, c, rfl, hc1, hc2, hsrc⟩ := hz
  have hsv : Src w (F k) (.slice A zs.length c) zs := ⟨A, c, rfl, hc1, hc2, fun h0 => by
    obtain ⟨b, o, e1, e2, e3, e4⟩ := hsrc h0
    exact ⟨b, o, e1, e2, fun e => e3 (.inr ⟨k, e⟩), e4⟩⟩
  have HP := Lib.hid (put_any hr _ zs hsv (by have : min zs.length (x.cap - (x.e k).bs.length) = x.room k zs.length := rfl; omega))
  have H := Lib.hid (And.intro h hN)
  have hle := Wi.le_put hN k zs
  by_cases h0 : 0 < x.room k zs.length
  · rw [show x.fill k zs = (x.put k zs).rdRise k from if_pos h0]
    have b0 : (0 : Int) < (x.room k zs.length : Int) := by omega
    have HL := Lib.hid (hle.mono (by omega : 900000000 + x.room k zs.length ≤ 1000000000))
    rw [show min zs.length (x.cap - (x.e k).bs.length) = x.room k zs.length from rfl] at HP
    obtain ⟨m, hm⟩ : ∃ m, m = x.room k zs.length := ⟨_, rfl⟩
    have HM := Lib.hid hm
    rw [← hm] at b0 HP h0 ⊢
    clear h hr hi hf hrm hsrc hsv hle hN hm
    go_enter Tryz.func36, Tryz.ntmps36
    go_wp2_with fail
    refine HP.out.mono ?_
    rintro e w1 ⟨rfl, G, h1, h2⟩
    obtain ⟨F1, h3, h4, _⟩ := H.out.1.ring1 (k := k) hc h1 h2
    rw [show x.set k { x.e k with bs := (x.e k).bs ++ zs.take m, inn := (x.e k).inn + m } = x.put k zs from by unfold Wi.put; rw [HM.out]] at h3
    have HR := Lib.hid (readsRise_any h3.blk k HL.out)
    have H3 := Lib.hid (And.intro h3 h4)
    clear h1 h2 h3 h4
    go_wp2_with fail
    refine HR.out.mono ?_
    rintro e w2 ⟨rfl, h5, h6⟩
    have HE := Lib.hid (And.intro (H3.out.1.turn h5 h6 (Wi.sameR_rd _ k)) (H3.out.2.trans ⟨FW.kept h6, fun b hb => .inl hb⟩))
    clear h5 h6
    go_wp2_with fail
    go_ret
    exact ⟨rfl, F1, HE.out⟩
  · rw [show x.fill k zs = x.put k zs from if_neg h0]
    have b0 : ¬ (0 : Int) < (x.room k zs.length : Int) := by omega
    rw [show min zs.length (x.cap - (x.e k).bs.length) = x.room k zs.length from rfl] at HP
    obtain ⟨m, hm⟩ : ∃ m, m = x.room k zs.length := ⟨_, rfl⟩
    have HM := Lib.hid hm
    rw [← hm] at b0 HP h0 ⊢
    clear h hr hi hf hrm hsrc hsv hle hN hm
    go_enter Tryz.func36, Tryz.ntmps36
    go_wp2_with fail
    refine HP.out.mono ?_
    rintro e w1 ⟨rfl, G, h1, h2⟩
    obtain ⟨F1, h3, h4, _⟩ := H.out.1.ring1 (k := k) hc h1 h2
    rw [show x.set k { x.e k with bs := (x.e k).bs ++ zs.take m, inn := (x.e k).inn + m } = x.put k zs from by unfold Wi.put; rw [HM.out]] at h3
    have H3 := Lib.hid (And.intro h3 h4)
    clear h1 h2 h3 h4
    go_wp2_with fail
    go_ret
    exact ⟨rfl, F1, H3.out⟩

set_option maxHeartbeats 1000000 in
theorem drain_any (h : Wr w B g n r F v x) (k : Bool) (hc : (x.e k).can = true) (m : Int) (hm : -9223372036854775808 ≤ m ∧ m ≤ 9223372036854775807) (hN : x.le 900000000) :
    Calls Tryz.prog 40 #[.pointer (some ⟨g, off k, none⟩), .int .i64 m] w fun e w' =>
      ∃ u F', e = .returned u ∧ RowB w' w.heap.size u ((x.e k).bs.take m.toNat) ∧ Wr w' B g n r F' v (x.drain k m.toNat) ∧ Mv w w' (FW g F) (FW g F') ∧ ∀ b, FW g F' b → FW g F b := by
  obtain ⟨out, hr⟩ := h.ring k hc
  have c4 := h.blk.c4 k
  rw [hc, rp_yes] at c4
  have HP := Lib.hid (take_any hr m hm)
  have H := Lib.hid (And.intro h hN)
  have hle := Wi.le_cut hN k m.toNat
  obtain ⟨xs, hxs⟩ : ∃ xs, xs = (x.e k).bs.take m.toNat := ⟨_, rfl⟩
  have HX := Lib.hid hxs
  have hdr : x.drain k m.toNat = if 0 < xs.length then (x.cut k m.toNat).wrRise (!k) else x.cut k m.toNat := by unfold Wi.drain; rw [hxs]
  rw [hdr]
  rw [← hxs] at HP ⊢
  have HLE := Lib.hid (hle.mono (by omega : 900000000 ≤ 1000000000))
  clear h hr hN hle hxs hdr
  by_cases h0 : 0 < xs.length
  · rw [if_pos h0]
    go_enter Tryz.func40, Tryz.ntmps40
    go_wp2_with fail
    refine HP.out.mono ?_
    rintro e w1 ⟨u, rfl, hrow, h1, h2⟩
    obtain ⟨A, hu, _⟩ := hrow.form
    obtain ⟨F1, h3, h4, h7⟩ := H.out.1.ring1 (k := k) hc h1 ⟨h2, fun _ e => .inl e⟩
    have H7 := Lib.hid (show ∀ b, FW g F1 b → FW g F b from fun b hb => (h7 b hb).elim (fun e => e) (fun e => .inr ⟨k, e⟩))
    clear h7
    rw [show x.set k { x.e k with bs := (x.e k).bs.drop m.toNat, inn := (x.e k).inn } = x.cut k m.toNat from rfl] at h3
    have HO := Lib.hid (other_any h3.blk k)
    have HR := Lib.hid (fun q => writesRise_any (h3.blk.drewN q) (!k) HLE.out)
    have H3 := Lib.hid (And.intro h3 (And.intro h4 hrow))
    have b0 : (0 : Int) < (xs.length : Int) := by omega
    subst hu
    clear h1 h2 h3 h4 hrow
    obtain ⟨L, hL⟩ : ∃ L, L = xs.length := ⟨_, rfl⟩
    rw [← hL] at b0 h0 H3 ⊢
    clear hL
    go_wp2_with fail
    refine HO.out.mono ?_
    rintro e w2 ⟨rfl, q, rfl⟩
    go_wp2_with fail
    refine (HR.out q).mono ?_
    rintro e w3 ⟨rfl, h5, h6⟩
    have HE := Lib.hid (show Wr w3 B g n r F1 v ((x.cut k m.toNat).wrRise (!k)) ∧ Mv w w3 (FW g F) (FW g F1) ∧ RowB w3 w.heap.size (.slice A L L) xs from by
      obtain ⟨a1, a2, a3⟩ := H3.out
      have k6 : Kept (fun j => j = g) w1 w3 := ((Kept.refl _ w1).drewN q).trans h6
      refine ⟨a1.turn h5 k6 (Wi.sameR_wr _ _), a2.trans ⟨FW.kept k6, fun b hb => .inl hb⟩, a3.kept k6 fun i hi e => ?_⟩
      subst e
      have := (a3.lt hi).2
      have := H.out.1.blk.lt
      omega)
    clear h5 h6
    go_wp2_with fail
    go_ret
    exact ⟨_, F1, rfl, HE.out.2.2, HE.out.1, HE.out.2.1, H7.out⟩
  · rw [if_neg h0]
    go_enter Tryz.func40, Tryz.ntmps40
    go_wp2_with fail
    refine HP.out.mono ?_
    rintro e w1 ⟨u, rfl, hrow, h1, h2⟩
    obtain ⟨A, hu, _⟩ := hrow.form
    obtain ⟨F1, h3, h4, h7⟩ := H.out.1.ring1 (k := k) hc h1 ⟨h2, fun _ e => .inl e⟩
    have H7 := Lib.hid (show ∀ b, FW g F1 b → FW g F b from fun b hb => (h7 b hb).elim (fun e => e) (fun e => .inr ⟨k, e⟩))
    clear h7
    rw [show x.set k { x.e k with bs := (x.e k).bs.drop m.toNat, inn := (x.e k).inn } = x.cut k m.toNat from rfl] at h3
    have H3 := Lib.hid (And.intro h3 (And.intro h4 hrow))
    have b0 : ¬ (0 : Int) < (xs.length : Int) := by omega
    subst hu
    clear h1 h2 h3 h4 hrow
    obtain ⟨L, hL⟩ : ∃ L, L = xs.length := ⟨_, rfl⟩
    rw [← hL] at b0 h0 H3 ⊢
    clear hL
    go_wp2_with fail
    go_ret
    exact ⟨_, F1, rfl, H3.out.2.2, H3.out.1, H3.out.2.1, H7.out⟩
end
end Go.Proofs.YtjejpgognfadoaaGreatDoor
