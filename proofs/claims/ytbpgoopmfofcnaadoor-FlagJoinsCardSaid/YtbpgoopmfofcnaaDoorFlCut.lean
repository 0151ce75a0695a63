/-
  A text cut at its first plus.
-/
import Derived.Test.YtbpgoopmfofcnaaDoorFlPure
import Derived.Lib.CutLaws
import Derived.Lib.IndexBytes
import Derived.BigCall
import Derived.BigGuard
import Derived.Deep.Draws
import Derived.Laws.Strings3
namespace Go.Proofs.YtbpgoopmfofcnaaDoor
open Go.RowKit Go.Shelf

/-- What stands ahead of the first plus, behind it, and is there one? -/
def cutL (s : ByteArray) : List UInt8 × List UInt8 × Bool := Lib.cut s.data.toList [43]
def headB (s : ByteArray) : ByteArray := ⟨(cutL s).1.toArray⟩
def restB (s : ByteArray) : ByteArray := ⟨(cutL s).2.1.toArray⟩
def moreB (s : ByteArray) : Bool := (cutL s).2.2

set_option maxHeartbeats 2000000 in
set_option maxRecDepth 100000 in
theorem cut0_any (s : ByteArray) (w : World) (hs : s.size ≤ 1000) :
    Calls Tryd.prog 49 #[.string s, .string ⟨#[43]⟩] w fun e w' => e = .returned (.tuple #[.string (headB s), .string (restB s), .bool (moreB s)]) ∧ ∃ n, w' = w.drewN n := by
  have mixed : Tryd.prog.follows .mixedOrders = true := by kernel_rfl
  have he : Lib.indexByte s.data.toList 43 = Lib.index s.data.toList (ByteArray.mk #[43]).data.toList := (Lib.index_one _ _).symm
  have H : Hid (Calls Tryd.prog 52 #[.string s, .string ⟨#[43]⟩] w fun e w' => e = .returned (.int .i64 (Lib.index s.data.toList (ByteArray.mk #[43]).data.toList)) ∧ w = w') :=
    (Tryd.stringslite_Index_one s 43 w).mono fun e w' ⟨h, g⟩ => ⟨by rw [h, he], g.symm⟩
  clear he
  rcases Lib.indexB_cases s ⟨#[43]⟩ with hix | ⟨i, hix, hroom⟩
  · obtain ⟨e1, e2, e3⟩ := Lib.cutB_miss s ⟨#[43]⟩ hix
    have E1 : Hid (headB s = s) := e1
    have E2 : Hid (restB s = ⟨#[]⟩) := e2
    have E3 : Hid (moreB s = false) := e3
    have HX := Lib.hid (show Lib.index s.data.toList (ByteArray.mk #[43]).data.toList = _ from hix)
    clear e1 e2 e3 hix
    go_enter Tryd.func49, Tryd.ntmps49
    go_wp2_with (go_at_call 52; refine H.out.mono ?_; rintro e w' ⟨rfl, rfl⟩; rw [HX.out])
    go_ret3
    exact ⟨by rw [E1.out, E2.out, E3.out]; rfl, 0, rfl⟩
  · obtain ⟨e1, e2, e3⟩ := Lib.cutB_hit s ⟨#[43]⟩ i hix
    have E1 : Hid (headB s = s.extract 0 i) := e1
    have E2 : Hid (restB s = s.extract (i + 1) s.size) := e2
    have E3 : Hid (moreB s = true) := e3
    have HX := Lib.hid (show Lib.index s.data.toList (ByteArray.mk #[43]).data.toList = _ from hix)
    have hroom' : i + 1 ≤ s.size := hroom
    have c1 : (0 : Int) ≤ ↑i := by omega
    have c2 : (↑i : Int) ≤ ↑s.size := by omega
    have c3 : (0 : Int) ≤ ↑i + 1 := by omega
    have c4 : (↑i + 1 : Int) ≤ ↑s.size := by omega
    clear e1 e2 e3 hix hroom
    go_enter Tryd.func49, Tryd.ntmps49
    go_wp2_with (go_at_call 52; refine H.out.mono ?_; rintro e w' ⟨rfl, rfl⟩; rw [HX.out])
    go_region_o
    go_wp2
    go_ret3
    exact ⟨by rw [E1.out, E2.out, E3.out]; rfl, 1, rfl⟩
theorem cut_any (s : ByteArray) (w : World) (hs : s.size ≤ 1000) :
    Calls Tryd.prog 44 #[.string s, .string ⟨#[43]⟩] w fun e w' => e = .returned (.tuple #[.string (headB s), .string (restB s), .bool (moreB s)]) ∧ ∃ n, w' = w.drewN n := by
  go_enter Tryd.func44, Tryd.ntmps44
  go_wp2_with (go_at_call 49; refine (cut0_any s _ hs).mono ?_; rintro e w' ⟨rfl, n, rfl⟩)
  go_ret3
  exact ⟨rfl, n, rfl⟩
end Go.Proofs.YtbpgoopmfofcnaaDoor
