/-
  FdsetOf, the walk: for any ints and any number it returns true, and nothing that lay has turned.
-/
import Derived.Test.YtokfinnmigfkiaaDoorAll
import Derived.Test.YtokfinnmigfkiaaDoorRef2
import Derived.Test.YtokfinnmigfkiaaDoorFof
import Derived.Test.YtokfinnmigfkiaaDoorOfOne
import Derived.Test.YtokfinnmigfkiaaDoorSame
namespace Go.Proofs.YtokfinnmigfkiaaDoor
open Go.RowKit

theorem eq_zero : ∀ w, Sem.run Tryd.prog (Op.equalIn 10000 25 (.agg #[.int .u32 0, .int .u32 0]) (.agg #[.int .u32 0, .int .u32 0])) w = .ok true w := fun _ => by kernel_rfl
/-- What stays at hand: the set in its variable, the document's list, the table; nothing that lay has turned. -/
def EnvOf (w : World) (B x y : Nat) (vm : Value) (W : World) : Prop := IsSet W B x y ∧ IsL W vm (memI x y) ∧ Tab W ∧ 0 < W.heap.size ∧ Below w.heap.size w W
theorem EnvOf.below {w : World} {B x y : Nat} {vm : Value} {W W' : World} (h : EnvOf w B x y vm W) (hb : Below W.heap.size W W') : EnvOf w B x y vm W' :=
  ⟨h.1.below hb, h.2.1.below hb, h.2.2.1.below h.2.2.2.1 hb, Nat.lt_of_lt_of_le h.2.2.2.1 hb.size, below_endL h.2.2.2.2 hb⟩
theorem last_take (l : List Int) (k : Nat) (hk : k < l.length) : (l.take (k + 1)).getLast?.getD (-1) = l[k]?.getD 0 := by
  rw [List.take_add_one, List.getElem?_eq_getElem hk, Option.toList_some, List.getLast?_append]
  simp

set_option maxRecDepth 100000 in
set_option maxHeartbeats 2000000 in
theorem of_long (zs : List Int) (v : Value) (f : Int) (w : World) (hv : IsL w v zs) (h : 200 < zs.length) :
    Calls Tryd.prog 3 #[v, .int .i64 f] w fun e w' => e = .returned (.bool true) ∧ Below w.heap.size w w' := by
  obtain ⟨a, cap, rfl, hm, _, _⟩ := hv
  unfold maxLen at hm
  have h2 : (200 : Int) < (zs.length : Int) := by omega
  go_enter Tryd.func3, Tryd.ntmps3
  go_wp2
  go_ret
  exact ⟨rfl, Below.refl _ _⟩

set_option maxRecDepth 100000 in
set_option maxHeartbeats 4000000 in
theorem of_error (zs : List Int) (v : Value) (f : Int) (w : World) (hv : IsL w v zs) (h : zs.length ≤ 200) (hbad : zs.all okI = false) :
    Calls Tryd.prog 3 #[v, .int .i64 f] w fun e w' => e = .returned (.bool true) ∧ Below w.heap.size w w' := by
  have Hv := Lib.hid hv
  obtain ⟨a, cap, rfl, hm, _, _⟩ := hv
  have h2 : (zs.length : Int) ≤ 200 := by omega
  have Hbad := Lib.hid hbad
  clear hbad
  go_enter Tryd.func3, Tryd.ntmps3
  go_wp2_with fail
  refine (fof_bad zs _ _ Hv.out Hbad.out).mono ?_
  rintro e w1 ⟨rfl, hb1⟩
  have hv2 := Lib.hid ((Hv.out.below hb1).below ((Below.refl _ _).alloc (Nat.le_refl _) (.cells #[.int .u32 0, .int .u32 0] 25)))
  go_wp2_with fail
  refine (of_bad zs _ _ hv2.out Hbad.out).mono ?_
  rintro e w2 ⟨rfl, rfl⟩
  go_wp2_with fail
  refine (list_any 0 0 _ (by omega) (by omega)).mono ?_
  rintro e w3 ⟨v3, rfl, hv3, hb3⟩
  rw [memI_zero] at hv3
  go_wp2_with fail
  refine (same_true _ _ _ _ _ hv3 (isL_nil _) rfl).mono ?_
  rintro e w4 ⟨rfl, hb4⟩
  have hbA : Below w.heap.size w (w1.alloc (.cells #[.int .u32 0, .int .u32 0] 25)) := below_endL hb1 ((Below.refl _ _).alloc (Nat.le_refl _) _)
  have hset := ((isSet_new w1 0 0).below hb3).below hb4
  have hbB := below_endL (below_endL hbA hb3) hb4
  obtain ⟨m0, m1, _, _⟩ := hset
  clear hb3 hb4 hbA hv3 hv2 hb1
  have heq := eq_zero
  go_wp2
  go_ret
  exact ⟨rfl, hbB⟩
set_option maxRecDepth 100000 in
set_option maxHeartbeats 8000000 in
theorem of_right (zs : List Int) (v : Value) (f : Int) (w : World) (hv : IsL w v zs) (h : zs.length ≤ 200) (hok : zs.all okI = true) (hf : f ≤ 9223372036854775807) (hT : Tab w) (hg : 0 < w.heap.size) :
    Calls Tryd.prog 3 #[v, .int .i64 f] w fun e w' => e = .returned (.bool true) ∧ Below w.heap.size w w' := by
  have Hv := Lib.hid hv
  obtain ⟨a, cap, rfl, hm, _, _⟩ := hv
  have h2 : (zs.length : Int) ≤ 200 := by omega
  have Hok := Lib.hid hok
  clear hok
  go_enter Tryd.func3, Tryd.ntmps3
  go_wp2_with fail
  refine (fof_ok zs _ _ Hv.out Hok.out).mono ?_
  rintro e w1 ⟨x, y, hxy, rfl, hb1⟩
  have hmem := hxy.mem
  obtain ⟨hx, hy, _⟩ := hxy
  have hT1 := hT.below hg hb1
  have hg1 := Nat.lt_of_lt_of_le hg hb1.size
  have hal : Below w1.heap.size w1 (w1.alloc (.cells #[.int .u32 (x : Int), .int .u32 (y : Int)] 25)) := (Below.refl _ _).alloc (Nat.le_refl _) _
  have hv2 := Lib.hid ((Hv.out.below hb1).below hal)
  have hset := Lib.hid (isSet_new w1 x y)
  have hT2 := Lib.hid (hT1.below hg1 hal)
  have hbA := Lib.hid (below_endL hb1 hal)
  have Hmem := Lib.hid hmem
  clear hmem
  go_wp2_with fail
  refine (of_ok zs _ _ hv2.out Hok.out).mono ?_
  rintro e w2 ⟨vm, rfl, hvm, hb2⟩
  rw [← Hmem.out] at hvm
  have henv : EnvOf w w1.heap.size x y vm w2 := ⟨hset.out.below hb2, hvm, hT2.out.below (Nat.lt_of_lt_of_le hg1 hal.size) hb2, Nat.lt_of_lt_of_le (Nat.lt_of_lt_of_le hg1 hal.size) hb2.size, below_endL hbA.out hb2⟩
  clear hvm hset hT2 hbA hb2 hal hT1 hg1 hv2 hb1
  have hlm := length_memI x y
  have Hlm := Lib.hid hlm
  clear hlm
  obtain ⟨⟨m0, m1, _, _⟩, _⟩ := id henv
  go_wp2_with fail
  refine (list_any x y _ hx hy).mono ?_
  rintro e w3 ⟨v3, rfl, hv3, hb3⟩
  have henv3 := henv.below hb3
  clear henv m0 m1
  go_wp2_with fail
  refine (same_true _ _ _ _ _ hv3 henv3.2.1 rfl).mono ?_
  rintro e w4 ⟨rfl, hb4⟩
  have henv4 := henv3.below hb4
  clear henv3 hv3 hb3 hb4
  obtain ⟨⟨m0, m1, _, _⟩, _⟩ := id henv4
  go_wp2_with fail
  refine (next_any x y f _ hx hy henv4.2.2.1 henv4.2.2.2.1).mono ?_
  rintro e w5 ⟨rfl, hb5⟩
  have henv5 := henv4.below hb5
  clear henv4 hb5 m0 m1
  go_wp2_with fail
  refine (refNext_any f (memI x y) vm _ henv5.2.1).mono ?_
  rintro e w6 ⟨rfl, rfl⟩
  obtain ⟨r0, hr0⟩ : ∃ r0, (nextI (memI x y) f).1 = r0 := ⟨_, rfl⟩
  obtain ⟨r1, hr1⟩ : ∃ r1, (nextI (memI x y) f).2 = r1 := ⟨_, rfl⟩
  rw [hr0, hr1]
  clear hr0 hr1
  obtain ⟨ms, hms⟩ : ∃ ms, memI x y = ms := ⟨_, rfl⟩
  have hvm := henv5.2.1
  rw [hms] at hvm
  have htop := top_last x y hx hy
  rw [hms] at htop
  have Htop := Lib.hid htop
  have hl64 := Hlm.out
  rw [hms] at hl64
  have Hms := Lib.hid hms
  clear hms htop
  obtain ⟨am, capm, rfl, hmm, hzz, hcm⟩ := hvm
  go_wp2_with fail
  go_loop [13, 14, 58] (fun t _ i => ∃ k : Nat, k ≤ ms.length ∧ i = .int .i64 k ∧ t = .int .i64 ((ms.take k).getLast?.getD (-1))) (fun _ _ i => ms.length - (intOf i).toNat)
  case atStart => exact ⟨0, Nat.zero_le _, rfl, rfl⟩
  case round =>
    obtain ⟨k, hk, rfl, rfl⟩ := hrel
    by_cases hlt : k < ms.length
    · rcases hcm with hcm | ⟨b, off, rfl, hb, hc⟩
      · rw [hcm] at hlt; simp at hlt
      have hck := hc k hlt
      have hlast := last_take ms k hlt
      obtain ⟨z, hz⟩ : ∃ z, ms[k]?.getD 0 = z := ⟨_, rfl⟩
      rw [hz] at hck hlast
      have Hc := Lib.hid hc
      have Hlast := Lib.hid hlast
      clear hz hc hlast
      go_wp2
      go_round
      case rel => exact ⟨k + 1, by omega, by go_num, by rw [Hlast.out]⟩
      case measure => simp [intOf]; omega
    · have hfin : (ms.take k).getLast?.getD (-1) = topI x y := by rw [List.take_of_length_le (by omega)]; exact Htop.out
      rw [hfin]
      clear hfin hcm
      obtain ⟨⟨m0, m1, _, _⟩, _⟩ := id henv5
      go_wp2_with fail
      refine (all_any x y _ hx hy henv5.2.2.1 henv5.2.2.2.1).mono ?_
      rintro e w7 ⟨v7, rfl, hv7, hb7⟩
      rw [Hms.out] at hv7
      have henv7 := henv5.below hb7
      clear henv5 hb7 m0 m1
      obtain ⟨⟨m0, m1, _, _⟩, _⟩ := id henv7
      go_wp2_with fail
      refine (top_any x y _ hx hy).mono ?_
      rintro e w8 ⟨rfl, hb8⟩
      have hv8 := hv7.below hb8
      have henv8 := henv7.below hb8
      clear henv7 hb8 m0 m1 hv7
      obtain ⟨⟨m0, m1, _, _⟩, _⟩ := id henv8
      go_wp2_with fail
      refine (len_any x y _ hx hy).mono ?_
      rintro e w9 ⟨rfl, hb9⟩
      rw [Hms.out]
      have hv9 := hv8.below hb9
      have henv9 := henv8.below hb9
      clear henv8 hb9 m0 m1 hv8
      have hvm9 := henv9.2.1
      rw [Hms.out] at hvm9
      have Hvm9 := Lib.hid hvm9
      clear hvm9
      go_wp2_with fail
      refine (same_true _ _ _ _ _ hv9 Hvm9.out rfl).mono ?_
      rintro e w10 ⟨rfl, hb10⟩
      have henv10 := henv9.below hb10
      clear henv9 hb10 hv9 Hvm9
      obtain ⟨⟨m0, m1, _, _⟩, _⟩ := id henv10
      go_wp2_with fail
      refine (below_any x y f _ hx hy hf).mono ?_
      rintro e w11 ⟨rfl, hb11⟩
      have henv11 := henv10.below hb11
      clear henv10 hb11 m0 m1
      go_wp2_with fail
      refine (list_any (x &&& mask f.toNat) (y &&& mask (f.toNat - 32)) _ (and_lt _ hx) (and_lt _ hy)).mono ?_
      rintro e w12 ⟨v12, rfl, hv12, hb12⟩
      rw [memI_below, Hms.out] at hv12
      have henv12 := henv11.below hb12
      clear henv11 hb12
      have hvm12 := henv12.2.1
      rw [Hms.out] at hvm12
      have Hvm12 := Lib.hid hvm12
      clear hvm12
      go_wp2_with fail
      refine (refBelow_any f ms _ _ Hvm12.out hl64).mono ?_
      rintro e w13 ⟨v13, rfl, hv13, hb13⟩
      have henv13 := henv12.below hb13
      go_wp2_with fail
      refine (same_true _ _ _ _ _ (hv12.below hb13) hv13 rfl).mono ?_
      rintro e w14 ⟨rfl, hb14⟩
      have hbE := (henv13.below hb14).2.2.2.2
      clear henv12 henv13 hv12 hb13 hv13 hb14 Hvm12
      go_wp2
      go_ret
      exact ⟨rfl, hbE⟩
end Go.Proofs.YtokfinnmigfkiaaDoor
