/-
  Any calls that make a wire: what is refused, too.
-/
import Derived.Test.YtbbgnpnopodppaaDoorKwNo
namespace Go.Proofs.YtbbgnpnopodppaaDoor
open Go.RowKit Go.Shelf Go.Maps Go.ChangeMaps

/-- What a call that makes a wire answers, whose number is n, may be most, and needs so many descriptors. -/
def Ws.room (S : Ws) (n most : Int) (need : Nat) : Int := if n < 1 ∨ most < n then 2 else if S.ws.length = 1000 then 112 else if S.frees.length < need then 112 else 0
theorem Ws.room_yes {S : Ws} {n most : Int} {need : Nat} (h : S.room n most need = 0) : 1 ≤ n ∧ n ≤ most ∧ S.ws.length ≠ 1000 ∧ need ≤ S.frees.length := by
  unfold Ws.room at h
  split at h
  · cases h
  · split at h
    · cases h
    · split at h
      · cases h
      · exact ⟨by omega, by omega, by assumption, by omega⟩
section
variable {w w' : World} {B : Nat} {L : Lay} {S : Ws}
/-- What a refused one answers. -/
def RoomNo (w : World) (c : Int) (e : Ending) (w' : World) : Prop := e = .returned (.tuple #[.slice none 0 0, .int .i64 c]) ∧ Below w.heap.size w w'
theorem room_no (h : Wd w B L S) (n most : Int) (need : Nat) (h1 : 1 ≤ need) (h2 : need ≤ 2) (h0 : S.room n most need ≠ 0) :
    Calls Tryd.prog 30 #[.pointer (some ⟨L.p, 0, none⟩), .int .i64 n, .int .i64 most, .int .i64 (need : Int)] w (RoomNo w (S.room n most need)) := by
  have HM := Lib.hid (wmade_yes h.top)
  have c0 := h.top.cell 0
  simp at c0
  have lp := h.top.lt
  have lk := h.kept.lt
  obtain ⟨A, c, ev⟩ := h.wlen
  have c1 := h.kept.c1
  rw [ev] at c1
  have HF := Lib.hid (free_any h.kept need h1 (by omega))
  have HN := Lib.hid (frees_numsA L S)
  unfold Ws.room at h0 ⊢
  by_cases hn : n < 1
  · rw [if_pos (.inl hn)]
    clear h ev h0 h1 h2
    go_enter Tryd.func30, Tryd.ntmps30
    go_wp2_with fail
    refine HM.out.mono ?_
    rintro e w1 ⟨rfl, rfl⟩
    go_wp2_with fail
    go_ret2
    exact ⟨rfl, Below.refl _ _⟩
  · by_cases hm : most < n
    · rw [if_pos (.inr hm)]
      clear h ev h0 h1 h2
      go_enter Tryd.func30, Tryd.ntmps30
      go_wp2_with fail
      refine HM.out.mono ?_
      rintro e w1 ⟨rfl, rfl⟩
      go_wp2_with fail
      go_ret2
      exact ⟨rfl, Below.refl _ _⟩
    · rw [if_neg (by omega)] at h0 ⊢
      by_cases hw : S.ws.length = 1000
      · rw [if_pos hw]
        rw [hw] at c1
        clear h ev h0 h1 h2 hw
        go_enter Tryd.func30, Tryd.ntmps30
        go_wp2_with fail
        refine HM.out.mono ?_
        rintro e w1 ⟨rfl, rfl⟩
        go_wp2_with fail
        go_ret2
        exact ⟨rfl, Below.refl _ _⟩
      · rw [if_neg hw] at h0 ⊢
        have hf : S.frees.length < need := by
          by_cases hq : S.frees.length < need
          · exact hq
          · rw [if_neg hq] at h0; exact absurd rfl h0
        rw [if_pos hf]
        have b3 : ¬ (S.ws.length : Int) = 1000 := by omega
        have b4 : ((S.ws.length : Int) == 1000) = false := by simpa using b3
        have HL := Lib.hid hf
        clear h ev h0 h1 h2 hw hf
        go_enter Tryd.func30, Tryd.ntmps30
        go_wp2_with fail
        refine HM.out.mono ?_
        rintro e w1 ⟨rfl, rfl⟩
        go_wp2_with fail
        refine HF.out.mono ?_
        rintro e w1 ⟨hb, (⟨hle, _⟩ | ⟨_, rfl⟩)⟩
        · exfalso
          rw [HN.out] at hle
          have := HL.out
          omega
        · have HB := Lib.hid hb
          clear hb
          go_wp2_with fail
          go_ret2
          exact ⟨rfl, HB.out⟩
/-- What a call that makes a wire answers if it is refused. -/
def MadeNo (w : World) (c : Int) (e : Ending) (w' : World) : Prop := e = .returned (.tuple #[.int .i64 0, .int .i64 0, .int .i64 c]) ∧ Below w.heap.size w w'
theorem both_no (h : Wd w B L S) (n r : Int) (h0 : S.room n 65536 2 ≠ 0) :
    Calls Tryd.prog 29 #[.pointer (some ⟨L.p, 0, none⟩), .int .i64 n, .int .i64 r] w (MadeNo w (S.room n 65536 2)) := by
  have HR := Lib.hid (room_no h n 65536 2 (by omega) (by omega) h0)
  obtain ⟨c, hc⟩ : ∃ c, c = S.room n 65536 2 := ⟨_, rfl⟩
  rw [← hc] at HR h0 ⊢
  have b1 : (c == 0) = false := by simpa using h0
  clear h hc
  go_enter Tryd.func29, Tryd.ntmps29
  go_wp2_with fail
  refine HR.out.mono ?_
  rintro e w1 ⟨rfl, hb⟩
  have HB := Lib.hid hb
  clear hb
  go_wp2_with fail
  go_ret3
  exact ⟨rfl, HB.out⟩
theorem wPipe_ok (h : Wd w B L S) (n : Nat) (hn : 1 ≤ n) (hm : n ≤ 65536) (hw : S.ws.length < 1000) (hf : 2 ≤ S.frees.length) :
    Calls Tryd.prog 14 #[.pointer (some ⟨L.p, 0, none⟩), .int .i64 (n : Int)] w (Made2 w B L S (Wi.new n 1)) := by
  have HB := Lib.hid (both_ok h n 1 hn hm (by omega) hw hf)
  clear h hn hm hw hf
  go_enter Tryd.func14, Tryd.ntmps14
  go_wp2_with fail
  refine HB.out.mono ?_
  rintro e w1 ⟨a, b, h1, h2, rfl, h3⟩
  have HE := Lib.hid (And.intro h1 (And.intro h2 h3))
  clear h1 h2 h3
  go_wp2_with fail
  go_ret3
  exact ⟨a, b, HE.out.1, HE.out.2.1, rfl, HE.out.2.2⟩
theorem wPipe_no (h : Wd w B L S) (n : Int) (h0 : S.room n 65536 2 ≠ 0) :
    Calls Tryd.prog 14 #[.pointer (some ⟨L.p, 0, none⟩), .int .i64 n] w (MadeNo w (S.room n 65536 2)) := by
  have HB := Lib.hid (both_no h n 1 h0)
  clear h h0
  go_enter Tryd.func14, Tryd.ntmps14
  go_wp2_with fail
  refine HB.out.mono ?_
  rintro e w1 ⟨rfl, h1⟩
  have HE := Lib.hid h1
  clear h1
  go_wp2_with fail
  go_ret3
  exact ⟨rfl, HE.out⟩
theorem wOuter_no (h : Wd w B L S) (n : Int) (h0 : S.room n 65536 1 ≠ 0) :
    Calls Tryd.prog 15 #[.pointer (some ⟨L.p, 0, none⟩), .int .i64 n] w (MadeNo w (S.room n 65536 1)) := by
  have HR := Lib.hid (room_no h n 65536 1 (by omega) (by omega) h0)
  obtain ⟨c, hc⟩ : ∃ c, c = S.room n 65536 1 := ⟨_, rfl⟩
  rw [← hc] at HR h0 ⊢
  have b1 : (c == 0) = false := by simpa using h0
  clear h hc
  go_enter Tryd.func15, Tryd.ntmps15
  go_wp2_with fail
  refine HR.out.mono ?_
  rintro e w1 ⟨rfl, hb⟩
  have HB := Lib.hid hb
  clear hb
  go_wp2_with fail
  go_ret3
  exact ⟨rfl, HB.out⟩
end
/-- What a wire with two descriptors leaves: what is told, and the world; likewise one to outside, and a listener. -/
def Ws.two (S : Ws) (n : Int) (r : Nat) : Int × Int × Int × Ws := if S.room n 65536 2 = 0 then ((S.frees[0]?.getD 0 : Nat), (S.frees[1]?.getD 0 : Nat), 0, bSt S (Wi.new n.toNat r) (S.frees[0]?.getD 0) (S.frees[1]?.getD 0) 2) else (0, 0, S.room n 65536 2, S)
def Ws.outM (S : Ws) (n : Int) : Int × Int × Int × Ws := if S.room n 65536 1 = 0 then ((S.frees[0]?.getD 0 : Nat), (S.ws.length : Nat), 0, (S.addW (outW n.toNat)).opened S.ws.length false (S.frees[0]?.getD 0)) else (0, 0, S.room n 65536 1, S)
def Ws.lisM (S : Ws) (n : Int) : Int × Int × Int × Ws := if S.room n 64 1 = 0 then ((S.frees[0]?.getD 0 : Nat), (S.ws.length : Nat), 0, (S.addW (lisW n.toNat)).opened S.ws.length false (S.frees[0]?.getD 0)) else (0, 0, S.room n 64 1, S)
/-- What a call that makes something leaves in a law. -/
def MadeO (B : Nat) (W : World) (p : Nat) (N : Nat) (D : Nat → Prop) (w : World) (r : Int × Int × Int × Ws) (e : Ending) (w' : World) : Prop := e = .returned (.tuple #[.int .i64 r.1, .int .i64 r.2.1, .int .i64 r.2.2.1]) ∧ OdM B W p r.2.2.2 N D w w'
section
variable {B : Nat} {W w w' : World} {p : Nat} {S : Ws} {N : Nat} {D : Nat → Prop}
theorem OdM.below (h : Od B W p S N D w) (hb : Below w.heap.size w w') : OdM B W p S N D w w' := ⟨h.below hb, fun b hb' => hb.block b (h.lt hb'), hb.size⟩
theorem Od.two_pipe (h : Od B W p S N D w) (hl : S.ws.length ≤ 1000) (n : Int) : Calls Tryd.prog 14 #[.pointer (some ⟨p, 0, none⟩), .int .i64 n] w (MadeO B W p N D w (S.two n 1)) := by
  by_cases h0 : S.room n 65536 2 = 0
  · obtain ⟨h1, h2, h3, h4⟩ := Ws.room_yes h0
    unfold Ws.two
    rw [if_pos h0]
    obtain ⟨L, rfl, k2, k3, k4, k5⟩ := h
    obtain ⟨m, rfl⟩ : ∃ m : Nat, n = (m : Int) := ⟨n.toNat, by omega⟩
    refine (wPipe_ok k2 m (by omega) (by omega) (by omega) h4).mono ?_
    rintro e w' ⟨a, b, ha, hb, rfl, L', j1, j2, j3⟩
    rw [ha, hb, Int.toNat_natCast]
    exact ⟨rfl, Od.go rfl k2 k3 k5 j1 j2.p j3 (Ws.le_opened (Ws.le_opened (Ws.le_addW k4 (Wi.le_new m 1 N)) _ _) _ _)⟩
  · unfold Ws.two
    rw [if_neg h0]
    have hh := h
    obtain ⟨L, rfl, k2, k3, k4, k5⟩ := h
    refine (wPipe_no k2 n h0).mono ?_
    rintro e w' ⟨rfl, hb⟩
    exact ⟨rfl, OdM.below hh hb⟩
theorem Od.outM_any (h : Od B W p S N D w) (hl : S.ws.length ≤ 1000) (n : Int) : Calls Tryd.prog 15 #[.pointer (some ⟨p, 0, none⟩), .int .i64 n] w (MadeO B W p N D w (S.outM n)) := by
  by_cases h0 : S.room n 65536 1 = 0
  · obtain ⟨h1, h2, h3, h4⟩ := Ws.room_yes h0
    unfold Ws.outM
    rw [if_pos h0]
    obtain ⟨L, rfl, k2, k3, k4, k5⟩ := h
    obtain ⟨m, rfl⟩ : ∃ m : Nat, n = (m : Int) := ⟨n.toNat, by omega⟩
    refine (wOuter_ok k2 m (by omega) (by omega) (by omega) h4).mono ?_
    rintro e w' ⟨a, ha, rfl, L', j1, j2, j3⟩
    rw [ha, Int.toNat_natCast]
    exact ⟨rfl, Od.go rfl k2 k3 k5 j1 j2.p j3 (Ws.le_opened (Ws.le_addW k4 (Wi.le_mark (Wi.le_new m 2 N) true 2)) _ _)⟩
  · unfold Ws.outM
    rw [if_neg h0]
    have hh := h
    obtain ⟨L, rfl, k2, k3, k4, k5⟩ := h
    refine (wOuter_no k2 n h0).mono ?_
    rintro e w' ⟨rfl, hb⟩
    exact ⟨rfl, OdM.below hh hb⟩
end
end Go.Proofs.YtbbgnpnopodppaaDoor
