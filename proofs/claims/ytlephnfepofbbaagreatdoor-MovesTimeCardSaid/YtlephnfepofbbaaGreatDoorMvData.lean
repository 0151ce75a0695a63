/-
  parseData: the bytes of a move.
-/
import Derived.Test.YtlephnfepofbbaaGreatDoorMvSplit
import Derived.Test.YtlephnfepofbbaaGreatDoorMvPU
import Derived.Test.YtlephnfepofbbaaGreatDoorMvWrite
namespace Go.Proofs.YtlephnfepofbbaaGreatDoor
open Go.RowKit

theorem str_run (s : ByteArray) (k : Nat) (c : UInt8) (hk : s.data.toList[k]? = some c) (x : Int) (hx : x = (k : Int)) (V : World) : (Instr.index 9 (.string s) (.int .i64 x)).run Tryz.prog V = .ok (.int .u8 (c.toNat : Int)) V := by
  subst hx
  have h1 : k < s.size := by rw [Lib.size_eq]; exact (List.getElem?_eq_some_iff.1 hk).1
  have h2 : s[k] = c := by
    have := (List.getElem?_eq_some_iff.1 hk).2
    rw [← this]; rfl
  rw [run_index_string _ _ _ _ _ Tryz.underlying9, dif_pos ⟨by omega, by omega⟩]
  simp only [Int.toNat_natCast, h2]
theorem hexv_index (c : UInt8) : Lib.indexByte hexT.data.toList c = (match hexv c with | some x => (x : Int) | none => -1) := by
  have h : ∀ n : Fin 256, Lib.indexByte hexT.data.toList (UInt8.ofNat n.val) = (match hexv (UInt8.ofNat n.val) with | some x => (x : Int) | none => -1) := by decide +kernel
  have := h ⟨c.toNat, UInt8.toNat_lt c⟩
  simpa using this
theorem hexv_lt {c : UInt8} {x : Nat} (h : hexv c = some x) : x < 16 := (hexv_some h).1
theorem pack (x y : Nat) (hx : x < 16) (hy : y < 16) : bits .or .i64 (wrap64 ((x : Int) * 16)) (y : Int) % 256 = ((UInt8.ofNat (16 * x + y)).toNat : Int) := by
  have h : ∀ (n m : Fin 16), bits .or .i64 (wrap64 ((n.val : Int) * 16)) (m.val : Int) % 256 = ((UInt8.ofNat (16 * n.val + m.val)).toNat : Int) := by decide +kernel
  exact h ⟨x, hx⟩ ⟨y, hy⟩
theorem ixb_none {c : UInt8} (h : hexv c = none) (V : World) : Calls Tryz.prog 71 #[.string ⟨#[48, 49, 50, 51, 52, 53, 54, 55, 56, 57, 97, 98, 99, 100, 101, 102]⟩, .int .u8 (c.toNat : Int)] V fun e w' => e = .returned (.int .i64 (-1)) ∧ w' = V :=
  (Tryz.strings_IndexByte hexT (c.toNat : Int) V).mono fun e w' ⟨he, hw⟩ => ⟨by
    have := hexv_index c
    rw [h] at this
    rw [he, show (c.toNat : Int).toNat.toUInt8 = c by simp, this], hw⟩
theorem ixb_some {c : UInt8} {x : Nat} (h : hexv c = some x) (V : World) : Calls Tryz.prog 71 #[.string ⟨#[48, 49, 50, 51, 52, 53, 54, 55, 56, 57, 97, 98, 99, 100, 101, 102]⟩, .int .u8 (c.toNat : Int)] V fun e w' => e = .returned (.int .i64 (x : Int)) ∧ w' = V :=
  (Tryz.strings_IndexByte hexT (c.toNat : Int) V).mono fun e w' ⟨he, hw⟩ => ⟨by
    have := hexv_index c
    rw [h] at this
    rw [he, show (c.toNat : Int).toNat.toUInt8 = c by simp, this], hw⟩
/-- What parseData returns. -/
def DataR (w : World) (o : Option (List UInt8)) (e : Ending) (w' : World) : Prop := ∃ v, e = .returned (.tuple #[v, .bool o.isSome]) ∧ OwB w.heap.size w' v (o.getD []) ∧ Below w.heap.size w w'
set_option maxRecDepth 100000 in
set_option maxHeartbeats 4000000 in
theorem data_any (s : ByteArray) (w : World) (hs : s.size ≤ 20000000) : Calls Tryz.prog 114 #[.string s] w (DataR w (dataP s.data.toList)) := by
  obtain ⟨o, ho⟩ : ∃ o, dataP s.data.toList = o := ⟨_, rfl⟩
  rw [ho]
  obtain ⟨n, hn⟩ : ∃ n, s.size = n := ⟨_, rfl⟩
  have hl : s.data.toList.length = n := by rw [← Lib.size_eq, hn]
  have HO := Lib.hid ho
  have HN := Lib.hid hn
  have HL := Lib.hid hl
  unfold dataP at ho
  rw [hl] at ho
  by_cases h2 : n % 2 = 0
  · have h2' : (n : Int) % 2 = 0 := by omega
    by_cases h3 : 2000 < n
    · rw [if_pos (.inr h3)] at ho
      subst ho
      have h3' : (2000 : Int) < (n : Int) := by omega
      clear h2 h3 hl
      go_enter Tryz.func114, Tryz.ntmps114
      go_wp2_with fail
      go_ret2
      exact ⟨_, rfl, OwB.nil _ _, Below.refl _ _⟩
    · rw [if_neg (by omega)] at ho
      have h3' : ¬ (2000 : Int) < (n : Int) := by omega
      have n2 : n ≤ 2000 := by omega
      have HU := Lib.hid ho
      have H2 := Lib.hid h2
      clear h2 h3 hl ho hs
      go_enter Tryz.func114, Tryz.ntmps114
      go_wp2_with fail
      clear h2' h3'
      go_loopw [4, 5] (fun v i wr => ∃ (j : Nat) (bs : List UInt8), j ≤ n ∧ i = .int .i64 j ∧ Hid (j % 2 = 0) ∧ Hid (bs.length ≤ j) ∧ Hid (o = (unhex (s.data.toList.drop j)).map (bs ++ ·)) ∧ Hid (OwB w.heap.size wr v bs) ∧ Hid (Below w.heap.size w wr)) (fun _ i _ => n - (intOf i).toNat)
      case atStart => exact ⟨0, [], Nat.zero_le _, rfl, rfl, Lib.hid (by simp), Lib.hid (by rw [← HU.out]; simp), Lib.hid (OwB.nil _ _), Lib.hid (Below.refl _ _)⟩
      case round =>
        obtain ⟨j, bs, hj, rfl, HE, HBL, HS, HOW, HBW⟩ := hrel
        by_cases hlt : j < n
        · have hlt' : (j : Int) < (n : Int) := by omega
          have hj1 : j + 1 < n := by have := HE.out; have := H2.out; omega
          have hL := HL.out
          obtain ⟨c, hc⟩ : ∃ c, s.data.toList[j]? = some c := ⟨_, List.getElem?_eq_getElem (by omega)⟩
          obtain ⟨d, hd⟩ : ∃ d, s.data.toList[j + 1]? = some d := ⟨_, List.getElem?_eq_getElem (by omega)⟩
          have hdrop : s.data.toList.drop j = c :: d :: s.data.toList.drop (j + 2) := by
            obtain ⟨p1, p2⟩ := List.getElem?_eq_some_iff.1 hc
            obtain ⟨q1, q2⟩ := List.getElem?_eq_some_iff.1 hd
            rw [List.drop_eq_getElem_cons p1, p2, List.drop_eq_getElem_cons q1, q2]
          have i1 := str_run s j c hc (j : Int) rfl
          have i2 := str_run s (j + 1) d hd ((j : Int) + 1) (by omega)
          have s1 : IntKind.i64.wrap ((j : Int) + 1) = (j : Int) + 1 := IntWalk.i64_in _ (by omega)
          have HD := Lib.hid hdrop
          clear hdrop hL hc hd
          have j0 : (0 : Int) ≤ (j : Int) := by omega
          have j1 : (0 : Int) ≤ (j : Int) + 1 := by omega
          have j2 : (j : Int) + 1 < (n : Int) := by omega
          cases h1 : hexv c with
          | none =>
            have HO2 : Hid (o = none) := Lib.hid (by rw [HS.out, HD.out]; simp [unhex, h1])
            have HI1 := Lib.hid (fun V => ixb_none h1 V)
            cases h2 : hexv d with
            | none =>
              have HI2 := Lib.hid (fun V => ixb_none h2 V)
              clear h1 h2 hj1
              go_wp2_with fail
              go_quiet ((first
                | (go_at_call 71; exact Calls.quiet_of_same (HI1.out _))
                | (go_at_call 71; exact Calls.quiet_of_same (HI2.out _))))
              go_wp2_with fail
              go_ret2
              exact ⟨_, by rw [HO2.out]; rfl, by rw [HO2.out]; exact OwB.nil _ _, below_drewN HBW.out _⟩
            | some y =>
              have HI2 := Lib.hid (fun V => ixb_some h2 V)
              clear h1 h2 hj1
              go_wp2_with fail
              go_quiet ((first
                | (go_at_call 71; exact Calls.quiet_of_same (HI1.out _))
                | (go_at_call 71; exact Calls.quiet_of_same (HI2.out _))))
              go_wp2_with fail
              go_ret2
              exact ⟨_, by rw [HO2.out]; rfl, by rw [HO2.out]; exact OwB.nil _ _, below_drewN HBW.out _⟩
          | some x =>
            have HI1 := Lib.hid (fun V => ixb_some h1 V)
            have x0 : ¬ (x : Int) < 0 := by omega
            cases h2 : hexv d with
            | none =>
              have HO2 : Hid (o = none) := Lib.hid (by rw [HS.out, HD.out]; simp [unhex, h2])
              have HI2 := Lib.hid (fun V => ixb_none h2 V)
              clear h1 h2 hj1
              go_wp2_with fail
              go_quiet ((first
                | (go_at_call 71; exact Calls.quiet_of_same (HI1.out _))
                | (go_at_call 71; exact Calls.quiet_of_same (HI2.out _))))
              go_wp2_with fail
              go_ret2
              exact ⟨_, by rw [HO2.out]; rfl, by rw [HO2.out]; exact OwB.nil _ _, below_drewN HBW.out _⟩
            | some y =>
              have HI2 := Lib.hid (fun V => ixb_some h2 V)
              have y0 : ¬ (y : Int) < 0 := by omega
              have HX := Lib.hid (hexv_lt h1)
              have HY := Lib.hid (hexv_lt h2)
              have hS3 : o = (unhex (s.data.toList.drop (j + 2))).map ((bs ++ [UInt8.ofNat (16 * x + y)]) ++ ·) := by
                rw [HS.out, HD.out]
                simp only [unhex, h1, h2]
                cases unhex (s.data.toList.drop (j + 2)) <;> simp
              have HS3 := Lib.hid hS3
              clear h1 h2 hj1 hS3
              go_wp2_with fail
              go_quiet ((first
                | (go_at_call 71; exact Calls.quiet_of_same (HI1.out _))
                | (go_at_call 71; exact Calls.quiet_of_same (HI2.out _))))
              obtain ⟨z, hz⟩ : ∃ z, UInt8.ofNat (16 * x + y) = z := ⟨_, rfl⟩
              rw [hz] at HS3
              have HP := Lib.hid ((pack x y HX.out HY.out).trans (by rw [hz]))
              have HBQ := Lib.hid (below_drewN HBW.out nq)
              have HOQ := Lib.hid (HOW.out.same (W' := wr.drewN nq) (fun _ _ _ => rfl))
              clear hz
              go_wp2_with (at_builtin; rw [HP.out]; refine app_one rfl _ _ rfl w.heap.size _ bs rfl (HOQ.out.alloc _) z _ rfl (cell_of_row _ _ 0 _ _ (0, 0) (heap_alloc_new (wr.drewN nq) _)) (by have := HBL.out; omega) (by have := HBQ.out.size; simp at this ⊢; omega) ?_; intro v1 w1 h1 hb1; have H1 := Lib.hid h1; have HB1 := Lib.hid ((HBQ.out.alloc HBQ.out.size _).trans hb1.b); clear h1 hb1)
              go_roundw
              case rel => exact ⟨j + 2, bs ++ [z], by omega, by go_num, Lib.hid (by have := HE.out; omega), Lib.hid (by have := HBL.out; simp; omega), HS3, H1, HB1⟩
              case measure => simp [intOf]; omega
        · obtain rfl : j = n := by omega
          have hlt' : ¬ (j : Int) < (j : Int) := by omega
          have HS2 : Hid (o = some bs) := Lib.hid (by
            have := HS.out
            rw [List.drop_eq_nil_of_le (by have := HL.out; omega)] at this
            simpa [unhex] using this)
          go_wp2_with fail
          go_ret2
          exact ⟨_, by rw [HS2.out]; rfl, by rw [HS2.out]; exact HOW.out, HBW.out⟩
  · rw [if_pos (.inl h2)] at ho
    subst ho
    have h2' : ¬ (n : Int) % 2 = 0 := by omega
    clear h2 hl
    go_enter Tryz.func114, Tryz.ntmps114
    go_wp2_with fail
    go_ret2
    exact ⟨_, rfl, OwB.nil _ _, Below.refl _ _⟩
end Go.Proofs.YtlephnfepofbbaaGreatDoor
