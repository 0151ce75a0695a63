/-
  The calls of an end that look, and those that turn its wire's block alone.
-/
import Derived.Test.YtjejpgognfadoaaGreatDoorWdMem
namespace Go.Proofs.YtjejpgognfadoaaGreatDoor
open Go.RowKit Go.Maps Go.ChangeMaps

section
variable {w w' : World} {g n : Nat} {r : Bool → Nat} {v : Value} {x : Wi} {k : Bool}
theorem canWrite_any (h : Wb w g n r v x) (k : Bool) : Calls Tryz.prog 43 #[.pointer (some ⟨g, off k, none⟩)] w fun e w' => e = .returned (.bool (x.e (!k)).can) ∧ ∃ m, w' = w.drewN m := by
  have H1 := Lib.hid (other_any h k)
  have H2 := Lib.hid (fun q => canRead_any (h.drewN q) (!k))
  clear h
  go_enter Tryz.func43, Tryz.ntmps43
  go_wp2_with fail
  refine H1.out.mono ?_
  rintro e w1 ⟨rfl, m, rfl⟩
  go_wp2_with fail
  refine (H2.out m).mono ?_
  rintro e w2 ⟨rfl, m', rfl⟩
  go_wp2_with fail
  go_ret
  exact ⟨rfl, m + m', by simp⟩
theorem noReader_any (h : Wb w g n r v x) (k : Bool) : Calls Tryz.prog 34 #[.pointer (some ⟨g, off k, none⟩)] w fun e w' => e = .returned (.bool (x.noReader k)) ∧ ∃ m, w' = w.drewN m := by
  have H1 := Lib.hid (other_any h k)
  have c2 := h.c2 (!k)
  clear h
  go_enter Tryz.func34, Tryz.ntmps34
  go_wp2_with fail
  refine H1.out.mono ?_
  rintro e w1 ⟨rfl, m, rfl⟩
  go_wp2_with fail
  go_ret
  exact ⟨ret_bool (by unfold Wi.noReader; exact decide_eq_decide.2 (by omega)), m, rfl⟩
theorem noWriter_any (h : Wb w g n r v x) (k : Bool) : Calls Tryz.prog 41 #[.pointer (some ⟨g, off k, none⟩)] w fun e w' => e = .returned (.bool (x.noWriter k)) ∧ ∃ m, w' = w.drewN m := by
  have H1 := Lib.hid (other_any h k)
  have H2 := Lib.hid (fun q => other_any (h.drewN q) k)
  have c2 := h.c2 (!k)
  have c3 := h.c3 (!k)
  clear h
  by_cases hi : (x.e (!k)).is = 3
  · have er : x.noWriter k = true := by unfold Wi.noWriter; simp [hi]
    rw [er]
    rw [hi] at c2
    clear er hi
    go_enter Tryz.func41, Tryz.ntmps41
    go_wp2_with fail
    refine H1.out.mono ?_
    rintro e w1 ⟨rfl, m, rfl⟩
    go_wp2_with fail
    go_ret
    exact ⟨rfl, m, rfl⟩
  · have e1 : ¬ ((x.e (!k)).is : Int) = 3 := by omega
    have er : x.noWriter k = (x.e (!k)).shut := by unfold Wi.noWriter; simp [hi]
    rw [er]
    obtain ⟨z, hz⟩ : ∃ z, z = ((x.e (!k)).is : Int) := ⟨_, rfl⟩
    rw [← hz] at c2 e1
    clear er hi hz
    go_enter Tryz.func41, Tryz.ntmps41
    go_wp2_with fail
    refine H1.out.mono ?_
    rintro e w1 ⟨rfl, m, rfl⟩
    go_wp2_with fail
    refine (H2.out m).mono ?_
    rintro e w2 ⟨rfl, m', rfl⟩
    go_wp2_with fail
    go_ret
    exact ⟨ret_bool (show (z == 3 || (x.e (!k)).shut) = (x.e (!k)).shut by rw [beq_eq_false_iff_ne.2 e1, Bool.false_or]), m + m', by simp⟩

theorem rdRise_yes (hc : (x.e k).can = true) : x.rdRise k = x.set k { x.e k with rd := (x.e k).rd + 1 } := if_pos hc
theorem rdRise_no (hc : (x.e k).can = false) : x.rdRise k = x := if_neg (by simp [hc])
theorem wrRise_yes (hc : (x.e (!k)).can = true) : x.wrRise k = x.set k { x.e k with wr := (x.e k).wr + 1 } := if_pos hc
theorem wrRise_no (hc : (x.e (!k)).can = false) : x.wrRise k = x := if_neg (by simp [hc])

theorem readsRise_any (h : Wb w g n r v x) (k : Bool) (hN : x.le 1000000000) : Calls Tryz.prog 68 #[.pointer (some ⟨g, off k, none⟩)] w fun e w' =>
    e = .returned (.tuple #[]) ∧ Wb w' g n r v (x.rdRise k) ∧ Kept (fun j => j = g) w w' := by
  have H1 := Lib.hid (canRead_any h k)
  have hb := (hN k).2.1
  cases hc : (x.e k).can with
  | true =>
    rw [hc] at H1
    rw [rdRise_yes hc]
    have HE := Lib.hid (fun m => And.intro ((h.drewN m).set5 k ((x.e k).rd + 1)) (((Kept.refl (fun j => j = g) w).drewN m).setCell (p := ⟨g, off k + 5, none⟩) rfl (.int .u64 (((x.e k).rd + 1 : Nat) : Int))))
    have c5 := h.c5 k
    have f5 := h.frozen (off k + 5)
    have e1 : IntKind.u64.wrap (((x.e k).rd : Int) + 1) = (((x.e k).rd + 1 : Nat) : Int) := by rw [IntWalk.u64_in _ (by omega)]; omega
    have b1 : (0 : Int) ≤ ((x.e k).rd : Int) := by omega
    have b2 : ((x.e k).rd : Int) ≤ 1000000000 := by omega
    obtain ⟨z, hz⟩ : ∃ z, z = (((x.e k).rd + 1 : Nat) : Int) := ⟨_, rfl⟩
    rw [← hz] at HE e1
    clear h hc hN hb hz
    go_enter Tryz.func68, Tryz.ntmps68
    go_wp2_with fail
    refine H1.out.mono ?_
    rintro e w1 ⟨rfl, m, rfl⟩
    go_wp2_with fail
    go_end0
    exact ⟨rfl, HE.out m⟩
  | false =>
    rw [hc] at H1
    rw [rdRise_no hc]
    have HE := Lib.hid h
    clear h hc hN hb
    go_enter Tryz.func68, Tryz.ntmps68
    go_wp2_with fail
    refine H1.out.mono ?_
    rintro e w1 ⟨rfl, m, rfl⟩
    go_wp2_with fail
    go_end0
    exact ⟨rfl, HE.out, (Kept.refl _ w).drewN m⟩
theorem writesRise_any (h : Wb w g n r v x) (k : Bool) (hN : x.le 1000000000) : Calls Tryz.prog 72 #[.pointer (some ⟨g, off k, none⟩)] w fun e w' =>
    e = .returned (.tuple #[]) ∧ Wb w' g n r v (x.wrRise k) ∧ Kept (fun j => j = g) w w' := by
  have H1 := Lib.hid (canWrite_any h k)
  have hb := (hN k).2.2
  cases hc : (x.e (!k)).can with
  | true =>
    rw [hc] at H1
    rw [wrRise_yes hc]
    have HE := Lib.hid (fun m => And.intro ((h.drewN m).set6 k ((x.e k).wr + 1)) (((Kept.refl (fun j => j = g) w).drewN m).setCell (p := ⟨g, off k + 6, none⟩) rfl (.int .u64 (((x.e k).wr + 1 : Nat) : Int))))
    have c5 := h.c6 k
    have f5 := h.frozen (off k + 6)
    have e1 : IntKind.u64.wrap (((x.e k).wr : Int) + 1) = (((x.e k).wr + 1 : Nat) : Int) := by rw [IntWalk.u64_in _ (by omega)]; omega
    have b1 : (0 : Int) ≤ ((x.e k).wr : Int) := by omega
    have b2 : ((x.e k).wr : Int) ≤ 1000000000 := by omega
    obtain ⟨z, hz⟩ : ∃ z, z = (((x.e k).wr + 1 : Nat) : Int) := ⟨_, rfl⟩
    rw [← hz] at HE e1
    clear h hc hN hb hz
    go_enter Tryz.func72, Tryz.ntmps72
    go_wp2_with fail
    refine H1.out.mono ?_
    rintro e w1 ⟨rfl, m, rfl⟩
    go_wp2_with fail
    go_end0
    exact ⟨rfl, HE.out m⟩
  | false =>
    rw [hc] at H1
    rw [wrRise_no hc]
    have HE := Lib.hid h
    clear h hc hN hb
    go_enter Tryz.func72, Tryz.ntmps72
    go_wp2_with fail
    refine H1.out.mono ?_
    rintro e w1 ⟨rfl, m, rfl⟩
    go_wp2_with fail
    go_end0
    exact ⟨rfl, HE.out, (Kept.refl _ w).drewN m⟩
theorem stop_any (h : Wb w g n r v x) (k : Bool) (hN : x.le 1000000000) : Calls Tryz.prog 42 #[.pointer (some ⟨g, off k, none⟩)] w fun e w' =>
    e = .returned (.tuple #[]) ∧ Wb w' g n r v (x.stop k) ∧ Kept (fun j => j = g) w w' := by
  have c3 := h.c3 k
  have f3 := h.frozen (off k + 3)
  cases hs : (x.e k).shut with
  | true =>
    rw [show x.stop k = x from if_pos hs]
    rw [hs] at c3
    have HE := Lib.hid h
    clear h hs hN f3
    go_enter Tryz.func42, Tryz.ntmps42
    go_wp2_with fail
    go_end0
    exact ⟨rfl, HE.out, Kept.refl _ w⟩
  | false =>
    rw [show x.stop k = (x.set k { x.e k with shut := true }).rdRise (!k) from if_neg (by simp [hs])]
    rw [hs] at c3
    have hS := h.set3 k true
    have HO := Lib.hid (other_any hS k)
    have HR := Lib.hid (fun m => readsRise_any (hS.drewN m) (!k) (Wi.le_set hN (show ({ x.e k with shut := true } : En).le _ from hN k)))
    clear h hs hN hS
    go_enter Tryz.func42, Tryz.ntmps42
    go_wp2_with fail
    refine HO.out.mono ?_
    rintro e w1 ⟨rfl, m, rfl⟩
    go_wp2_with fail
    refine (HR.out m).mono ?_
    rintro e w2 ⟨rfl, h2, k2⟩
    have HE := Lib.hid (And.intro h2 ((((Kept.refl (fun j => j = g) w).setCell (p := ⟨g, off k + 3, none⟩) rfl (.bool true)).drewN m).trans k2))
    clear h2 k2
    go_wp2_with fail
    go_end0
    exact ⟨rfl, HE.out⟩
theorem endclose_any (h : Wb w g n r v x) (k : Bool) (hN : x.le 999999999) : Calls Tryz.prog 46 #[.pointer (some ⟨g, off k, none⟩)] w fun e w' =>
    e = .returned (.tuple #[]) ∧ Wb w' g n r v (x.close k) ∧ Kept (fun j => j = g) w w' := by
  have f2 := h.frozen (off k + 2)
  have c2 := h.c2 k
  have hS : Wb (w.setCell ⟨g, off k + 2, none⟩ (.int .i64 3)) g n r v (x.mark k 3) := h.set2 k 3
  have d3 := hS.c3 k
  rw [show ((x.mark k 3).e k).shut = (x.e k).shut from by unfold Wi.mark; rw [Wi.set_same]] at d3
  have HO := Lib.hid (other_any hS k)
  have lm := Wi.le_mark hN k 3
  have K0 := (Kept.refl (fun j => j = g) w).setCell (p := ⟨g, off k + 2, none⟩) rfl (.int .i64 3)
  cases hs : (x.e k).shut with
  | true =>
    rw [show x.close k = (x.mark k 3).wrRise (!k) from if_pos hs]
    rw [hs] at d3
    have HR := Lib.hid (fun m => writesRise_any (hS.drewN m) (!k) (lm.mono (by omega)))
    have HK := Lib.hid K0
    clear h hs hN hS lm K0
    go_enter Tryz.func46, Tryz.ntmps46
    go_wp2_with fail
    refine HO.out.mono ?_
    rintro e w1 ⟨rfl, m, rfl⟩
    go_wp2_with fail
    refine (HR.out m).mono ?_
    rintro e w2 ⟨rfl, h2, k2⟩
    have HE := Lib.hid (And.intro h2 ((HK.out.drewN m).trans k2))
    clear h2 k2
    go_wp2_with fail
    go_end0
    exact ⟨rfl, HE.out⟩
  | false =>
    rw [show x.close k = ((x.mark k 3).rdRise (!k)).wrRise (!k) from if_neg (by simp [hs])]
    rw [hs] at d3
    have HR := Lib.hid (fun m => readsRise_any (hS.drewN m) (!k) (lm.mono (by omega)))
    have lr := Wi.le_rdRise lm (!k)
    have HK := Lib.hid (And.intro K0 lr)
    clear h hs hN hS lm K0 lr
    go_enter Tryz.func46, Tryz.ntmps46
    go_wp2_with fail
    refine HO.out.mono ?_
    rintro e w1 ⟨rfl, m, rfl⟩
    go_wp2_with fail
    refine (HR.out m).mono ?_
    rintro e w2 ⟨rfl, h2, k2⟩
    have HO2 := Lib.hid (other_any h2 k)
    have HR2 := Lib.hid (fun m => writesRise_any (h2.drewN m) (!k) HK.out.2)
    have HK2 := Lib.hid ((HK.out.1.drewN m).trans k2)
    clear h2 k2
    go_wp2_with fail
    refine HO2.out.mono ?_
    rintro e w3 ⟨rfl, m2, rfl⟩
    go_wp2_with fail
    refine (HR2.out m2).mono ?_
    rintro e w4 ⟨rfl, h4, k4⟩
    have HE := Lib.hid (And.intro h4 ((HK2.out.drewN m2).trans k4))
    clear h4 k4
    go_wp2_with fail
    go_end0
    exact ⟨rfl, HE.out⟩
end
end Go.Proofs.YtjejpgognfadoaaGreatDoor
