/-
  The contracts of the document's own Next and Below: what each returns for every slice of ints; nothing that lay has turned.
-/
import Derived.Test.YtokfinnmigfkiaaDoorNext
import Derived.Test.YtokfinnmigfkiaaDoorRef
import Derived.Test.YtokfinnmigfkiaaDoorBelow
namespace Go.Proofs.YtokfinnmigfkiaaDoor
open Go.RowKit

set_option maxHeartbeats 1000000 in
theorem refNext_any (f : Int) (zs : List Int) (v : Value) (w : World) (h : IsL w v zs) :
    Calls Tryd.prog 16 #[v, .int .i64 f] w fun e w' => e = .returned (.tuple #[.int .i64 (nextI zs f).1, .bool (nextI zs f).2]) ∧ w' = w := by
  obtain ⟨r0, r1, hr⟩ : ∃ r0 r1, nextI zs f = (r0, r1) := ⟨_, _, rfl⟩
  rw [hr]
  have Hr := Lib.hid hr
  clear hr
  obtain ⟨a, cap, rfl, hm, _, h⟩ := h
  unfold maxLen at hm
  go_enter Tryd.func16, Tryd.ntmps16
  go_wp2_with fail
  go_loop [6] (fun i => ∃ k : Nat, k ≤ zs.length ∧ i = .int .i64 k ∧ Hid (∀ x ∈ zs.take k, x < f)) (fun i => zs.length - (intOf i).toNat)
  case atStart => exact ⟨0, Nat.zero_le _, rfl, by unfold Hid; simp⟩
  case round =>
    obtain ⟨k, hk, rfl, hno⟩ := hrel
    by_cases hlt : k < zs.length
    · rcases h with h | ⟨b, off, rfl, hb, hc⟩
      · rw [h] at hlt; simp at hlt
      have hck := hc k hlt
      have htk : zs.take (k + 1) = zs.take k ++ [zs[k]?.getD 0] := by rw [List.take_add_one, List.getElem?_eq_getElem hlt]; simp
      have hsp : zs = zs.take k ++ zs[k]?.getD 0 :: zs.drop (k + 1) := by
        rw [List.getElem?_eq_getElem hlt, Option.getD_some, List.getElem_cons_drop, List.take_append_drop]
      obtain ⟨x, hx⟩ : ∃ x, zs[k]?.getD 0 = x := ⟨_, rfl⟩
      rw [hx] at htk hck hsp
      have Htk := Lib.hid htk
      have Hsp := Lib.hid hsp
      have Hc := Lib.hid hc
      clear hx htk hc hsp
      by_cases he : f ≤ x
      · have hres := nextI_some (zs.take k) (zs.drop (k + 1)) x f hno.out he
        rw [← Hsp.out] at hres
        have hq := Hr.out.symm.trans hres
        simp only [Prod.mk.injEq] at hq
        obtain ⟨rfl, rfl⟩ := hq
        have Hres := Lib.hid hres
        clear hres
        go_wp2
        go_ret2
        exact ⟨rfl, rfl⟩
      · go_wp2
        go_round
        case rel => exact ⟨k + 1, by omega, by go_num, by unfold Hid; rw [Htk.out]; intro y hy; rcases List.mem_append.1 hy with h | h; exact hno.out y h; rw [List.mem_singleton] at h; rw [h]; omega⟩
        case measure => simp [intOf]; omega
    · have hall := hno.out
      rw [List.take_of_length_le (by omega)] at hall
      have hq := Hr.out.symm.trans (nextI_none zs f hall)
      simp only [Prod.mk.injEq] at hq
      obtain ⟨rfl, rfl⟩ := hq
      clear hall
      go_wp2
      go_ret2
      exact ⟨rfl, rfl⟩

/-- The ints below a number. -/
def lowI (f : Int) (l : List Int) : List Int := l.filter (fun x => decide (x < f))
theorem lowI_le (f : Int) (l : List Int) : (lowI f l).length ≤ l.length := List.length_filter_le _ _
theorem lowI_hit (f x : Int) (l : List Int) (h : x < f) : lowI f (l ++ [x]) = lowI f l ++ [x] := by simp [lowI, h]
theorem lowI_miss (f x : Int) (l : List Int) (h : ¬ x < f) : lowI f (l ++ [x]) = lowI f l := by simp [lowI, h]
theorem memI_below (a b : Nat) (f : Int) : memI (a &&& mask f.toNat) (b &&& mask (f.toNat - 32)) = lowI f (memI a b) := by
  unfold memI lowI
  rw [List.filter_map]
  congr 1
  unfold mem
  rw [List.filter_filter]
  refine List.filter_congr fun n hn => ?_
  have hn' : n < 64 := by simpa using hn
  rw [hasB_below _ _ _ _ hn', Bool.and_comm]
  congr 1
  simp only [Function.comp]
  rw [decide_eq_decide]
  omega

set_option maxRecDepth 100000 in
set_option maxHeartbeats 2000000 in
theorem refBelow_any (f : Int) (zs : List Int) (v : Value) (w : World) (h : IsL w v zs) (hz : zs.length ≤ 64) :
    Calls Tryd.prog 21 #[v, .int .i64 f] w (RetL w (lowI f zs)) := by
  obtain ⟨i0, hi, hz0, hz1, hz2⟩ := info_parts infoInt
  obtain ⟨a, cap, rfl, hm, _, h⟩ := h
  go_enter Tryd.func21, Tryd.ntmps21
  go_wp2_with fail
  go_loopw [5, 6] (fun o i wr => ∃ k : Nat, k ≤ zs.length ∧ i = .int .i64 k ∧ wr.ownsRow w.heap.size 3 1 o (lowI f (zs.take k)).length ((lowI f (zs.take k)).map (Value.int .i64)) ∧ Below w.heap.size w wr)
    (fun _ i _ => zs.length - (intOf i).toNat)
  case atStart => exact ⟨0, Nat.zero_le _, rfl, World.ownsRow_nil _ _ _ _, Below.refl _ _⟩
  case round =>
    obtain ⟨k, hk, rfl, hown, hbw⟩ := hrel
    have hsz : w.heap.size ≤ wr.heap.size := hbw.size
    by_cases hlt : k < zs.length
    · rcases h with h | ⟨b, off, rfl, hb, hc⟩
      · rw [h] at hlt; simp at hlt
      have hck := (hbw.cell (p := ⟨b, off + k, none⟩) hb).trans (hc k hlt)
      have hle : (lowI f (zs.take k)).length ≤ k := Nat.le_trans (lowI_le _ _) (List.length_take_le _ _)
      have htk : zs.take (k + 1) = zs.take k ++ [zs[k]?.getD 0] := by rw [List.take_add_one, List.getElem?_eq_getElem hlt]; simp
      obtain ⟨x, hx⟩ : ∃ x, zs[k]?.getD 0 = x := ⟨_, rfl⟩
      rw [hx] at htk hck
      have Htk := Lib.hid htk
      have Hc := Lib.hid hc
      clear hx htk hc
      by_cases he : x < f
      · go_wp2_with (at_builtin; refine wpList_append_own _ rfl _ _ 22 rfl w.heap.size 3 i0 (.int .i64 0) 1 8 Tryd.underlying22 hi hz0 hz1 hz2 rfl (by decide) _ _ _ rfl (hown.alloc _) ⟨World.heap _ |>.size, 0, none⟩ 1 1 [.int .i64 x] rfl rfl (cell_one_new _ _ _) (by simp [Value.oneCell']) (by unfold maxLen; omega) (by omega) (by simp; omega) ?_; intro v' w4 hown' hgrow _)
        go_roundw
        case rel => exact ⟨k + 1, by omega, by go_num, by rw [Htk.out, lowI_hit _ _ _ he]; simpa using hown', (hbw.alloc hsz _).grown hgrow (by simp; omega) (fun j hj => (hown.lt j hj).1)⟩
        case measure => simp [intOf]; omega
      · go_wp2
        go_roundw
        case rel => exact ⟨k + 1, by omega, by go_num, by rw [Htk.out, lowI_miss _ _ _ (by omega)]; exact hown, hbw⟩
        case measure => simp [intOf]; omega
    · rw [List.take_of_length_le (by omega)] at hown
      go_wp2
      go_ret
      exact ⟨_, rfl, isL_of_owns (by have := lowI_le f zs; unfold maxLen; omega) hown, hbw⟩
end Go.Proofs.YtokfinnmigfkiaaDoor
