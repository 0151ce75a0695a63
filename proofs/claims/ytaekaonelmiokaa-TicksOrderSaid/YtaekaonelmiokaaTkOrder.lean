/-
  The walk of TicksOrder: it returns true for every input; nothing that lay is turned.
-/
import Derived.Test.YtaekaonelmiokaaTkBack
namespace Go.Proofs.Ytaekaonelmiokaa
open Go.RowKit

theorem dl_mono {now a b : Int} (ha : U a) (hb : U b) (hn : U now) (h : a ≤ b) : dl now a ≤ dl now b := by unfold U dl at *; (repeat' split) <;> omega
theorem lf_mono {now a b : Int} (ha : U a) (hb : U b) (hn : U now) (h : a ≤ b) : lf now a ≤ lf now b := by unfold U lf at *; (repeat' split) <;> omega
theorem dl_wait {now m y : Int} (hn : U now) (hm : U m) (hy : U y) (h : m ≤ y) : dl now (wt (lf now m) false) ≤ max now y := by
  unfold U at *
  by_cases h1 : m = 18446744073709551615
  · have : y = 18446744073709551615 := by omega
    subst this
    have := (dl_u (now := now) (after := wt (lf now m) false) hn (wt_u false (lf_u hn hm))).2
    omega
  · by_cases h2 : m ≤ now
    · have : lf now m = 0 := by unfold lf; rw [if_neg h1, if_pos h2]
      rw [this, show wt 0 false = 0 from by decide]
      unfold dl
      split <;> omega
    · have e : lf now m = m - now := by unfold lf; rw [if_neg h1, if_neg h2]
      have hw := wt_le (l := m - now)
      have hk := wt_u false (l := m - now) ⟨by omega, by omega⟩
      unfold U at hk
      rw [e]
      unfold dl
      split <;> omega
theorem quiet_left {P : Program} {f : FuncId} {args : Array Value} {w : World} {n : Nat} {v : Value}
    (h : Calls P f args (w.drewN n) fun e w' => e = .returned v ∧ w.drewN n = w') : Calls P f args (w.drewN n) fun e w'' => e = .returned v ∧ ∃ m, w'' = w.drewN m :=
  h.mono fun _ _ ⟨he, hm⟩ => ⟨he, n, hm.symm⟩
theorem IsU.drewN {w : World} {v : Value} {zs : List Int} (h : IsU w v zs) (n : Nat) : IsU (w.drewN n) v zs := by
  obtain ⟨a, cap, rfl, h1, h2, h3, h4⟩ := h
  exact ⟨a, cap, rfl, h1, h2, h3, h4⟩

theorem IsU.cell {w : World} {ad : Option Addr} {n cap : Nat} {zs : List Int} (h : IsU w (.slice ad n cap) zs) (k : Nat) (hk : k < n) : ∃ b off, ad = some ⟨b, off, none⟩ ∧ w.cell? ⟨b, off + k, none⟩ = some (.int .u64 (zs[k]?.getD 0)) := by
  obtain ⟨_, _, e, _, _, _, h⟩ := h
  cases e
  rcases h with h | ⟨b, off, rfl, hc⟩
  · rw [h] at hk; simp at hk
  · exact ⟨b, off, rfl, hc k hk⟩

set_option maxRecDepth 100000 in
set_option maxHeartbeats 4000000 in
theorem order_le (now a b : Int) (zs : List Int) (v : Value) (w : World) (hn : U now) (ha : U a) (hb : U b) (h : IsU w v zs) (sw : Bool) (hab : a ≤ b) (hlt : sw = true → a < b) :
    Calls Try.prog 7 #[.int .u64 now, .int .u64 (if sw then b else a), .int .u64 (if sw then a else b), v] w fun e w' => e = .returned (.bool true) ∧ Below w.heap.size w w' := by
  have A := Lib.hid (alive_any w)
  have D1 := dl_any now a w hn ha
  have D2 := dl_any now b w hn hb
  have F1 := lf_any now a w hn ha
  have F2 := lf_any now b w hn hb
  have m1 := dl_mono ha hb hn hab
  have m2 := lf_mono ha hb hn hab
  obtain ⟨d1, hd1⟩ : ∃ d, dl now a = d := ⟨_, rfl⟩
  obtain ⟨d2, hd2⟩ : ∃ d, dl now b = d := ⟨_, rfl⟩
  obtain ⟨f1, hf1⟩ : ∃ d, lf now a = d := ⟨_, rfl⟩
  obtain ⟨f2, hf2⟩ : ∃ d, lf now b = d := ⟨_, rfl⟩
  rw [hd1] at D1 m1
  rw [hd2] at D2 m1
  rw [hf1] at F1 m2
  rw [hf2] at F2 m2
  have HD := Lib.hid (And.intro D1 (And.intro D2 (And.intro F1 F2)))
  clear D1 D2 F1 F2 hd1 hd2 hf1 hf2
  have hmu := minI_u zs (by obtain ⟨_, _, _, _, _, hu, _⟩ := h; exact hu)
  have hle := minI_le zs
  have L := least_any zs v w h
  obtain ⟨m, hm⟩ : ∃ m, minI zs = m := ⟨_, rfl⟩
  rw [hm] at hmu hle L
  have X1 := lf_any now m w hn hmu
  have X2 := wt_any (lf now m) false w (lf_u hn hmu)
  have hwu := wt_u false (lf_u hn hmu)
  have hdw : ∀ y ∈ zs, U y → dl now (wt (lf now m) false) ≤ max now y := fun y hy hyu => dl_wait hn hmu hyu (hle y hy)
  obtain ⟨x, hx⟩ : ∃ x, wt (lf now m) false = x := ⟨_, rfl⟩
  rw [hx] at X2 hwu hdw
  have X3 := fun W => dl_any now x W hn hwu
  obtain ⟨z, hz⟩ : ∃ z, dl now x = z := ⟨_, rfl⟩
  rw [hz] at X3 hdw
  have HX := Lib.hid (And.intro L (And.intro X1 (And.intro X2 X3)))
  have HW := Lib.hid hdw
  have Hv := Lib.hid h
  clear L X1 X2 X3 hle hdw hx hz hmu hwu hm
  obtain ⟨ad, cap, rfl, hlc, hmx, hu, hcell⟩ := h
  unfold maxLen at hmx
  have Hu := Lib.hid hu
  have Hc := Lib.hid hcell
  clear hu hcell
  obtain ⟨n, hzn⟩ : ∃ n, zs.length = n := ⟨_, rfl⟩
  have Hzn := Lib.hid hzn
  rw [hzn] at hlc HX Hv ⊢
  clear hzn
  obtain ⟨n0, n1⟩ := hn
  cases sw
  all_goals
    try have hab2 := hlt rfl
    clear hlt
    try simp only [if_true]
    try simp only [Bool.false_eq_true, if_false]
    by_cases hl : 100 < n
    · go_enter Try.func7, Try.ntmps7
      go_wp2_with fail
      refine A.out.mono ?_; rintro e w' ⟨rfl, rfl⟩
      go_wp2_with fail
      go_ret
      exact ⟨rfl, Below.refl _ _⟩
    · go_enter Try.func7, Try.ntmps7
      go_wp2_with fail
      refine A.out.mono ?_; rintro e w' ⟨rfl, rfl⟩
      go_wp2_with fail
      refine HD.out.1.mono ?_; rintro e w' ⟨rfl, rfl⟩
      go_wp2_with fail
      refine HD.out.2.1.mono ?_; rintro e w' ⟨rfl, rfl⟩
      go_wp2_with fail
      refine HD.out.2.2.1.mono ?_; rintro e w' ⟨rfl, rfl⟩
      go_wp2_with fail
      refine HD.out.2.2.2.mono ?_; rintro e w' ⟨rfl, rfl⟩
      go_wp2_with fail
      refine HX.out.1.mono ?_; rintro e w' ⟨rfl, rfl⟩
      go_wp2_with fail
      refine HX.out.2.1.mono ?_; rintro e w' ⟨rfl, rfl⟩
      go_wp2_with fail
      refine HX.out.2.2.1.mono ?_; rintro e w' ⟨rfl, rfl⟩
      go_wp2_with fail
      go_loopw [11] (fun i wr => ∃ k : Nat, i = .int .i64 (k : Int) ∧ k ≤ n ∧ IsU wr (.slice ad n cap) zs ∧ Below w.heap.size w wr) (fun i _ => n - (intOf i).toNat)
      case atStart => exact ⟨0, rfl, by omega, Hv.out, Below.refl _ _⟩
      case round =>
        obtain ⟨k, rfl, hk, hv, hb⟩ := hrel
        have HV := Lib.hid hv
        by_cases hlt : k < n
        · obtain ⟨b', off, rfl, hck⟩ := hv.cell k hlt
          · clear hv
            have hyz : zs[k]?.getD 0 ∈ zs := by rw [List.getElem?_eq_getElem (by rw [Hzn.out]; exact hlt)]; exact List.getElem_mem _
            have hyu := Hu.out _ hyz
            have hzy := HW.out _ hyz hyu
            obtain ⟨y, hy⟩ : ∃ y, zs[k]?.getD 0 = y := ⟨_, rfl⟩
            rw [hy] at hck hyu hzy
            obtain ⟨y0, y1⟩ := hyu
            have hki : (k : Int) < (n : Int) := by omega
            have hk0 : (0 : Int) ≤ (k : Int) := by omega
            clear hyz hy
            go_wp2_with fail
            go_quiet ((go_at_call 9; refine Calls.quiet_of_same ((HX.out.2.2.2 _).mono fun _ _ ⟨he, hw⟩ => ⟨he, hw.symm⟩)))
            go_wp2_with fail
            go_roundw
            case rel => exact ⟨k + 1, by go_num, by omega, HV.out.drewN _, below_drewN hb _⟩
            case measure => simp [intOf]; omega
        · clear hv
          go_wp2_with fail
          go_ret
          exact ⟨rfl, hb⟩

theorem order_any (now a b : Int) (zs : List Int) (v : Value) (w : World) (hn : U now) (ha : U a) (hb : U b) (h : IsU w v zs) :
    Calls Try.prog 7 #[.int .u64 now, .int .u64 a, .int .u64 b, v] w fun e w' => e = .returned (.bool true) ∧ Below w.heap.size w w' := by
  by_cases hab : a ≤ b
  · exact order_le now a b zs v w hn ha hb h false hab (fun h => by cases h)
  · exact order_le now b a zs v w hn hb ha h true (by omega) (fun _ => by omega)
end Go.Proofs.Ytaekaonelmiokaa
