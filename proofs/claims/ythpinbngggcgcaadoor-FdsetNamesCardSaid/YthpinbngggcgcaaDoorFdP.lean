/-
  The contracts of package fdset's parseFd and parseRun, at every string: the descriptor, or the run, that it tells, or that it tells none; nothing that lay is turned.
-/
import Derived.Test.YthpinbngggcgcaaDoorShelfAtoi
import Derived.Test.YthpinbngggcgcaaDoorParseMath
import Derived.Lib.AtoiAll
import Derived.Lib.AtoiErrMem
import Derived.Outline
namespace Go.Proofs.YthpinbngggcgcaaDoor
open Go.RowKit

attribute [local go_sem] Oper.semAt_some

/-- The two error values that Atoi hands on are an interface's. -/
def Errs (w : World) : Prop := (∃ ev, w.cell? ⟨4, 0, none⟩ = some ev ∧ (ev = .nilIface ∨ ∃ te pe, ev = .iface te pe)) ∧ (∃ ev, w.cell? ⟨5, 0, none⟩ = some ev ∧ (ev = .nilIface ∨ ∃ te pe, ev = .iface te pe))
theorem Errs.below {w w' : World} (h : Errs w) (hb : Below w.heap.size w w') : Errs w' := by
  obtain ⟨⟨ev, h1, h2⟩, ⟨er, h3, h4⟩⟩ := h
  exact ⟨⟨ev, cell_below hb h1, h2⟩, ⟨er, cell_below hb h3, h4⟩⟩

theorem atoi_dig : ∀ n, n < 64 → Lib.atoiAll (dig2 n) = .ok (n : Int) := by decide +kernel
theorem dec_dig (n : Nat) (h : n < 64) : Lib.decDigits n = dig2 n := by
  have := itoa_dig n (by omega)
  unfold Lib.itoa at this
  rw [if_neg (by omega), Int.toNat_natCast] at this
  exact this
/-- What parseFd returns. -/
def RetFd (w : World) (o : Option Nat) (e : Ending) (w' : World) : Prop := e = .returned (.tuple #[.int .i64 ((o.getD 0 : Nat) : Int), .bool o.isSome]) ∧ Below w.heap.size w w'

theorem atoi_ok (s : ByteArray) (v : Int) (w : World) (hs : s.size ≤ 281474976710656) (h : Lib.atoiAll s.data.toList = .ok v) :
    Calls Tryd.prog 56 #[.string s] w fun e w' => e = .returned (.tuple #[.int .i64 v, .nilIface]) ∧ Below w.heap.size w w' :=
  (Tryd.strconv_Atoi_ok s (by omega) v h w).mono fun e w' ⟨he, hw⟩ => ⟨he, by
    rcases hw with rfl | ⟨t, rfl⟩
    · exact Below.refl _ _
    · exact Lib.bytesWorld_below w _ t⟩
/-- It returned an error that is not nil. -/
def AtoiBad (w : World) (e : Ending) (w' : World) : Prop := (∃ (x : Int) (T : TypeId) (a : Addr), e = .returned (.tuple #[.int .i64 x, .iface T (.pointer (some a))])) ∧ Below w.heap.size w w'
theorem atoi_bad (s : ByteArray) (w : World) (hs : s.size ≤ 281474976710656) (hE : Errs w) (h : ∀ v, Lib.atoiAll s.data.toList ≠ .ok v) :
    Calls Tryd.prog 56 #[.string s] w (AtoiBad w) := by
  obtain ⟨⟨ev, h1, h2⟩, ⟨er, h3, h4⟩⟩ := hE
  cases ha : Lib.atoiAll s.data.toList
  case ok v => exact absurd ha (h v)
  · exact (Tryd.strconv_Atoi_syntax s hs ha ev w h1 h2).mono fun e w' ⟨N, he, _, _, hb⟩ => ⟨⟨_, _, _, he⟩, hb⟩
  case range => exact (Tryd.strconv_Atoi_range s hs ha er w h3 h4).mono fun e w' ⟨N, he, _, _, hb⟩ => ⟨⟨_, _, _, he⟩, hb⟩
theorem fdP_none (l : List UInt8) (h : ∀ n, n < 64 → dig2 n ≠ l) : fdP l = none := by
  cases hf : fdP l with
  | none => rfl
  | some n => have := (fdP_some l n).1 hf; exact absurd this.2 (h n this.1)
theorem itoa_small (n : Nat) (h : n < 64) (w : World) : Calls Tryd.prog 57 #[.int .i64 (n : Int)] w fun e w' => e = .returned (.string ⟨(dig2 n).toArray⟩) ∧ w = w' :=
  (Tryd.strconv_Itoa_small n (by omega) w).mono fun e w' ⟨he, hw⟩ => ⟨by rw [he, dec_dig n h], hw.symm⟩

set_option maxRecDepth 100000 in
set_option maxHeartbeats 1000000 in
theorem parseFd_any (s : ByteArray) (w : World) (hs : s.size ≤ 281474976710656) (hE : Errs w) : Calls Tryd.prog 50 #[.string s] w (RetFd w (fdP s.data.toList)) := by
  cases ha : Lib.atoiAll s.data.toList
  case ok v =>
    have hA := Lib.hid (atoi_ok s v w hs ha)
    obtain ⟨b1, b2⟩ := Lib.atoiAll_bounds ha
    by_cases hv : v < 0 ∨ 64 ≤ v
    · have hn : fdP s.data.toList = none := fdP_none _ fun n hn e => by
        rw [← e, atoi_dig n hn] at ha
        cases ha
        omega
      rw [hn]
      have hF := Lib.hid (fun w => fits_no v w hv)
      clear ha hn hv hE hs
      go_enter Tryd.func50, Tryd.ntmps50
      go_wp2_with fail
      refine hA.out.mono ?_
      rintro e w1 ⟨rfl, hb⟩
      go_wp2_with fail
      refine (hF.out _).mono ?_
      rintro e w' ⟨rfl, rfl⟩
      go_wp2_with fail
      go_ret2
      exact ⟨rfl, hb⟩
    · obtain ⟨n, rfl⟩ : ∃ n : Nat, v = (n : Int) := ⟨v.toNat, by omega⟩
      have hn : n < 64 := by omega
      have hF := Lib.hid (fun w => fits_yes (n : Int) w (by omega) (by omega))
      have hI := Lib.hid (itoa_small n hn)
      by_cases he : dig2 n = s.data.toList
      · have hf := (fdP_some _ n).2 ⟨hn, he⟩
        rw [hf]
        have es : s = ⟨(dig2 n).toArray⟩ := by rw [he]
        have HS := Lib.hid es
        clear ha hf hE hs es he hv
        go_enter Tryd.func50, Tryd.ntmps50
        go_wp2_with fail
        refine hA.out.mono ?_
        rintro e w1 ⟨rfl, hb⟩
        go_wp2_with fail
        refine (hF.out _).mono ?_
        rintro e w' ⟨rfl, rfl⟩
        go_wp2_with fail
        refine (hI.out _).mono ?_
        rintro e w' ⟨rfl, rfl⟩
        rw [← HS.out]
        go_wp2_with fail
        go_ret2
        exact ⟨rfl, hb⟩
      · have hf : fdP s.data.toList = none := fdP_none _ fun m hm e => by
          rw [← e, atoi_dig m hm] at ha
          cases ha
          exact he e
        rw [hf]
        have hd : (dig2 n == s.toList) = false := by rw [ByteArray.toList_eq, beq_eq_false_iff_ne]; exact he
        clear ha hf hE hs hv he
        go_enter Tryd.func50, Tryd.ntmps50
        go_wp2_with fail
        refine hA.out.mono ?_
        rintro e w1 ⟨rfl, hb⟩
        go_wp2_with fail
        refine (hF.out _).mono ?_
        rintro e w' ⟨rfl, rfl⟩
        go_wp2_with fail
        refine (hI.out _).mono ?_
        rintro e w' ⟨rfl, rfl⟩
        go_wp2_with fail
        go_ret2
        exact ⟨rfl, hb⟩
  ·
    have hA := Lib.hid (atoi_bad s w hs hE (fun v => by rw [ha]; intro h; cases h))
    have hn : fdP s.data.toList = none := fdP_none _ fun n hn e => by
      rw [← e, atoi_dig n hn] at ha; cases ha
    rw [hn]
    clear ha hn hE hs
    go_enter Tryd.func50, Tryd.ntmps50
    go_wp2_with fail
    refine hA.out.mono ?_
    rintro e w1 ⟨⟨x, T, a, rfl⟩, hb⟩
    go_wp2_with fail
    go_ret2
    exact ⟨rfl, hb⟩
  case range =>
    have hA := Lib.hid (atoi_bad s w hs hE (fun v => by rw [ha]; intro h; cases h))
    have hn : fdP s.data.toList = none := fdP_none _ fun n hn e => by
      rw [← e, atoi_dig n hn] at ha; cases ha
    rw [hn]
    clear ha hn hE hs
    go_enter Tryd.func50, Tryd.ntmps50
    go_wp2_with fail
    refine hA.out.mono ?_
    rintro e w1 ⟨⟨x, T, a, rfl⟩, hb⟩
    go_wp2_with fail
    go_ret2
    exact ⟨rfl, hb⟩
end Go.Proofs.YthpinbngggcgcaaDoor
