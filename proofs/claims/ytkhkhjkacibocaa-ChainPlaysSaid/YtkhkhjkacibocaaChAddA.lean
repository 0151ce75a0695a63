/-
  Add, Ahead.
-/
import Derived.Test.YtkhkhjkacibocaaChAdd
namespace Go.Proofs.Ytkhkhjkacibocaa
open Go.RowKit Go.Maps Go.ChangeMaps

section
variable {w : World} {B c : Nat} {L : List Lk} {A : Option Addr} {n cp : Nat} {zs : List Int}

set_option maxHeartbeats 1000000 in
theorem add_yes (h : Cn w B 29 c L) (hs : Src w (Fc c L) A n cp zs) (hn : n + (flat L).length ≤ 1048576) : Calls Try.prog 18 #[.pointer (some ⟨c, 0, none⟩), .slice A n cp] w fun e w' =>
    e = .returned (.int .i64 0) ∧ ∃ L', Cn w' B 29 c L' ∧ flat L' = flat L ++ zs ∧ Mc w w' (Fc c L) (Fc c L') := by
  have HT := Lib.hid (takes_any h n)
  unfold takesZ at HT
  rw [if_pos hn] at HT
  have HL := Lib.hid (addL_any h hs hn)
  have l1 := h.blk.lt
  clear h hs hn
  go_enter Try.func18, Try.ntmps18
  go_wp2_with (go_at_call 40; refine HT.out.mono ?_; rintro e w' ⟨rfl, rfl⟩)
  refine HL.out.mono ?_
  rintro e w2 ⟨rfl, hE⟩
  have HE := Lib.hid hE
  clear hE
  go_wp2_with fail
  go_ret
  exact ⟨rfl, HE.out⟩
set_option maxHeartbeats 1000000 in
theorem add_no (h : Cn w B 29 c L) (hn : 1048576 < n + (flat L).length) : Calls Try.prog 18 #[.pointer (some ⟨c, 0, none⟩), .slice A n cp] w fun e w' =>
    e = .returned (.int .i64 70) ∧ w = w' := by
  have HT := Lib.hid (takes_any h n)
  unfold takesZ at HT
  rw [if_neg (by omega)] at HT
  clear h hn
  go_enter Try.func18, Try.ntmps18
  go_wp2_with (go_at_call 40; refine HT.out.mono ?_; rintro e w' ⟨rfl, rfl⟩)
  go_ret
  exact ⟨rfl, rfl⟩
theorem add_nil (w : World) (A : Option Addr) (n cp : Nat) : Calls Try.prog 18 #[.pointer none, .slice A n cp] w fun e w' => e = .returned (.int .i64 1) ∧ w = w' := by
  have HT := Lib.hid (fun n : Int => takes_nil w n)
  go_enter Try.func18, Try.ntmps18
  go_wp2_with (go_at_call 40; refine (HT.out _).mono ?_; rintro e w' ⟨rfl, rfl⟩)
  go_ret
  exact ⟨rfl, rfl⟩

set_option maxHeartbeats 1000000 in
theorem ahead_yes (h : Cn w B 29 c L) (hs : Src w (Fc c L) A n cp zs) (hn : n + (flat L).length ≤ 1048576) : Calls Try.prog 21 #[.pointer (some ⟨c, 0, none⟩), .slice A n cp] w fun e w' =>
    e = .returned (.int .i64 0) ∧ ∃ L', Cn w' B 29 c L' ∧ flat L' = zs ++ flat L ∧ Mc w w' (Fc c L) (Fc c L') := by
  have HT := Lib.hid (takes_any h n)
  unfold takesZ at HT
  rw [if_pos hn] at HT
  have HL := Lib.hid (aheadL_any h hs hn)
  have l1 := h.blk.lt
  clear h hs hn
  go_enter Try.func21, Try.ntmps21
  go_wp2_with (go_at_call 40; refine HT.out.mono ?_; rintro e w' ⟨rfl, rfl⟩)
  refine HL.out.mono ?_
  rintro e w2 ⟨rfl, hE⟩
  have HE := Lib.hid hE
  clear hE
  go_wp2_with fail
  go_ret
  exact ⟨rfl, HE.out⟩
set_option maxHeartbeats 1000000 in
theorem ahead_no (h : Cn w B 29 c L) (hn : 1048576 < n + (flat L).length) : Calls Try.prog 21 #[.pointer (some ⟨c, 0, none⟩), .slice A n cp] w fun e w' =>
    e = .returned (.int .i64 70) ∧ w = w' := by
  have HT := Lib.hid (takes_any h n)
  unfold takesZ at HT
  rw [if_neg (by omega)] at HT
  clear h hn
  go_enter Try.func21, Try.ntmps21
  go_wp2_with (go_at_call 40; refine HT.out.mono ?_; rintro e w' ⟨rfl, rfl⟩)
  go_ret
  exact ⟨rfl, rfl⟩
theorem ahead_nil (w : World) (A : Option Addr) (n cp : Nat) : Calls Try.prog 21 #[.pointer none, .slice A n cp] w fun e w' => e = .returned (.int .i64 1) ∧ w = w' := by
  have HT := Lib.hid (fun n : Int => takes_nil w n)
  go_enter Try.func21, Try.ntmps21
  go_wp2_with (go_at_call 40; refine (HT.out _).mono ?_; rintro e w' ⟨rfl, rfl⟩)
  go_ret
  exact ⟨rfl, rfl⟩
end
end Go.Proofs.Ytkhkhjkacibocaa
