/-
  both: a wire with two descriptors; Pair.
-/
import Derived.Test.YtbbgnpnopodppaaDoorWdMake
namespace Go.Proofs.YtbbgnpnopodppaaDoor
open Go.RowKit Go.Maps Go.ChangeMaps

/-- What stands behind so many openings. -/
def bSt (S : Ws) (x : Wi) (a b : Nat) : Nat → Ws
  | 0 => S.addW x
  | 1 => (S.addW x).opened S.ws.length false a
  | _ => ((S.addW x).opened S.ws.length false a).opened S.ws.length true b
theorem opened_len (s : Ws) (i : Nat) (k : Bool) (fd : Nat) : (s.opened i k fd).ws.length = s.ws.length := by
  unfold Ws.opened
  split
  · show (s.setW i _).ws.length = _
    unfold Ws.setW; simp
  · rfl
theorem opened_at {s : Ws} {i : Nat} {x : Wi} (h : s.ws[i]? = some x) (k : Bool) (fd : Nat) : (s.opened i k fd).ws[i]? = some (x.mark k 1) := by
  rw [Ws.opened_of h]
  show (s.setW i (x.mark k 1)).ws[i]? = _
  unfold Ws.setW
  simp [(List.getElem?_eq_some_iff.1 h).1]
theorem bSt_len (S : Ws) (x : Wi) (a b q : Nat) : (bSt S x a b q).ws.length = S.ws.length + 1 := by
  unfold bSt
  split
  · exact Ws.addW_len S x
  · rw [opened_len]; exact Ws.addW_len S x
  · rw [opened_len, opened_len]; exact Ws.addW_len S x
/-- What a call that makes a wire with two descriptors leaves. -/
def Made2 (w : World) (B : Nat) (L : Lay) (S : Ws) (x : Wi) (e : Ending) (w' : World) : Prop := ∃ a b : Nat, S.frees[0]? = some a ∧ S.frees[1]? = some b ∧ e = .returned (.tuple #[.int .i64 (a : Int), .int .i64 (b : Int), .int .i64 0]) ∧
  ∃ L', Wd w' B L' (bSt S x a b 2) ∧ L.ext L' S.ws.length ∧ Mv w w' L.F L'.F
/-- Between two openings. -/
def BoI (w2 : World) (B : Nat) (L2 : Lay) (S : Ws) (x : Wi) (a b q : Nat) (W : World) : Prop := ∃ L', Wd W B L' (bSt S x a b q) ∧ L2.ext L' (S.ws.length + 1) ∧ Mv w2 W L2.F L'.F

section
variable {w w' : World} {B : Nat} {L : Lay} {S : Ws}
set_option maxRecDepth 100000 in
set_option maxHeartbeats 4000000 in
theorem both_ok (h : Wd w B L S) (n readers : Nat) (hn : 1 ≤ n) (hm : n ≤ 65536) (hr : readers ≤ 2) (hw : S.ws.length < 1000) (hf : 2 ≤ S.frees.length) :
    Calls Tryd.prog 29 #[.pointer (some ⟨L.p, 0, none⟩), .int .i64 (n : Int), .int .i64 (readers : Int)] w (Made2 w B L S (Wi.new n readers)) := by
  have HR := Lib.hid (room_ok h n 65536 2 hn hm hw (by omega) hf)
  obtain ⟨a, b, ha, hb', hta⟩ := take_two hf
  have HA := Lib.hid (And.intro ha (And.intro hb' (And.intro (Ws.frees_lt ha) (Ws.frees_lt hb'))))
  have H := Lib.hid (And.intro h (And.intro hm hw))
  clear h hw hf ha hb'
  go_enter Tryd.func29, Tryd.ntmps29
  go_wp2_with fail
  refine HR.out.mono ?_
  rintro e w1 ⟨hb, v, rfl, hrow⟩
  rw [hta] at hrow
  obtain ⟨A, c, rfl, hA⟩ := ri_at hrow
  obtain ⟨g0, rfl, hg0, hg1, hc⟩ := hA (by simp)
  have hw1 := H.out.1.below hb
  have c0 := hw1.top.cell 0
  simp at c0
  have lp := hw1.top.lt
  have HL := Lib.hid (wlay_any hw1 n readers H.out.2.1 hr (by have := H.out.2.2; omega))
  have HB := Lib.hid (And.intro (H.out.1.beside hb.size hg0 hg1) (And.intro hb (And.intro (hc 0 a rfl) (hc 1 b rfl))))
  clear hw1 hrow hA hb hc
  go_wp2_with fail
  refine HL.out.mono ?_
  rintro e w2 ⟨_, rfl, L2, g, rfl, h1, h2, h3, h4, _⟩
  obtain ⟨b1, b2⟩ := HB.out.1.mv h4
  have HC := Lib.hid (And.intro b1 (And.intro (show w2.cell? ⟨g0, 0, none⟩ = some (.int .i64 (a : Int)) from (World.cell?_of_block b2).trans HB.out.2.2.1) (show w2.cell? ⟨g0, 1, none⟩ = some (.int .i64 (b : Int)) from (World.cell?_of_block b2).trans HB.out.2.2.2)))
  have H2 := Lib.hid (And.intro h2 (And.intro h3 h4))
  have H0 := Lib.hid (show BoI w2 B L2 S (Wi.new n readers) a b 0 w2 from ⟨L2, h1, Lay.ext.refl _ _, ⟨Kept.refl _ _, fun _ e => .inl e⟩⟩)
  clear h1 h2 h3 h4 b1 b2 c0 lp
  go_wp2_with fail
  go_loopw [31] (fun v wr => ∃ q : Nat, v = .int .i64 (q : Int) ∧ q ≤ 2 ∧ BoI w2 B L2 S (Wi.new n readers) a b q wr) (fun v _ => 2 - (intOf v).toNat)
  case atStart => exact ⟨0, rfl, Nat.zero_le _, H0.out⟩
  case round =>
    obtain ⟨q, rfl, hq, L', k1, k2, k3⟩ := hrel
    obtain ⟨m1, m2⟩ := HC.out.1.mv k3
    have lg0 := m1.1
    have r0 : wr.cell? ⟨g0, 0, none⟩ = some (.int .i64 (a : Int)) := (World.cell?_of_block m2).trans HC.out.2.1
    have r1 : wr.cell? ⟨g0, 1, none⟩ = some (.int .i64 (b : Int)) := (World.cell?_of_block m2).trans HC.out.2.2
    have d0 := k1.top.cell 0
    rw [k2.p, k2.kb, H2.out.1.p, H2.out.1.kb] at d0
    simp at d0
    have lp := k1.top.lt
    rw [k2.p, H2.out.1.p] at lp
    have hwa : L'.wa S.ws.length = g := (k2.wa _ (by omega)).trans H2.out.2.1
    rcases (by omega : q = 0 ∨ q = 1 ∨ q = 2) with rfl | rfl | rfl
    · have hx : (bSt S (Wi.new n readers) a b 0).ws[S.ws.length]? = some (Wi.new n readers) := Ws.addW_last _ _
      have lg := (k1.wire _ _ hx).blk.lt
      rw [hwa] at lg
      have HO := Lib.hid (wopen_any (k1.drewN 1) hx false a HA.out.2.2.1)
      rw [hwa, off_f, k2.kb, H2.out.1.kb] at HO
      have HK := Lib.hid (And.intro k2 k3)
      clear k1 k2 k3 m1 m2 hwa
      go_wp2_with fail
      go_still_tail 10, (by kernel_rfl)
      change wpList _ _ _ _ _ wr.drew
      go_wp2_with fail
      refine HO.out.mono ?_
      rintro e w3 ⟨rfl, L3, j1, j2, j3⟩
      rw [bSt_len] at j2
      have HE := Lib.hid (show BoI w2 B L2 S (Wi.new n readers) a b 1 w3 from ⟨L3, j1, HK.out.1.trans j2 (Nat.le_refl _), HK.out.2.trans ⟨((Kept.refl _ wr).drewN 1).trans j3.k, j3.o⟩⟩)
      clear j1 j2 j3
      go_wp2_with fail
      go_roundw
      case rel => exact ⟨1, by go_num, by omega, HE.out⟩
      case measure => simp [intOf] <;> omega
    · have hx0 : (bSt S (Wi.new n readers) a b 0).ws[S.ws.length]? = some (Wi.new n readers) := Ws.addW_last _ _
      have hx : (bSt S (Wi.new n readers) a b 1).ws[S.ws.length]? = some ((Wi.new n readers).mark false 1) := opened_at hx0 false a
      have lg := (k1.wire _ _ hx).blk.lt
      rw [hwa] at lg
      have HO := Lib.hid (wopen_any (k1.drewN 1) hx true b HA.out.2.2.2)
      rw [hwa, off_t, k2.kb, H2.out.1.kb] at HO
      have HK := Lib.hid (And.intro k2 k3)
      clear k1 k2 k3 m1 m2 hwa
      go_wp2_with fail
      go_still_tail 10, (by kernel_rfl)
      change wpList _ _ _ _ _ wr.drew
      go_wp2_with fail
      refine HO.out.mono ?_
      rintro e w3 ⟨rfl, L3, j1, j2, j3⟩
      rw [bSt_len] at j2
      have HE := Lib.hid (show BoI w2 B L2 S (Wi.new n readers) a b 2 w3 from ⟨L3, j1, HK.out.1.trans j2 (Nat.le_refl _), HK.out.2.trans ⟨((Kept.refl _ wr).drewN 1).trans j3.k, j3.o⟩⟩)
      clear j1 j2 j3
      go_wp2_with fail
      go_roundw
      case rel => exact ⟨2, by go_num, by omega, HE.out⟩
      case measure => simp [intOf] <;> omega
    · have HE := Lib.hid (And.intro k1 (And.intro k2 k3))
      clear k1 k2 k3 m1 m2 hwa
      go_wp2_with fail
      go_quiet (fail)
      have HQ := Lib.hid (show ∃ L', Wd (wr.drewN nq) B L' (bSt S (Wi.new n readers) a b 2) ∧ L.ext L' S.ws.length ∧ Mv w (wr.drewN nq) L.F L'.F by
        obtain ⟨e1, e2, e3⟩ := HE.out
        exact ⟨L', e1.drewN nq, H2.out.1.trans e2 (by omega), (show Mv w w1 L.F L.F from ⟨Kept.of_below HB.out.2.1, fun _ e => .inl e⟩).trans (H2.out.2.2.trans ⟨e3.k.drewN nq, e3.o⟩)⟩)
      go_wp2_with fail
      go_ret3
      exact ⟨a, b, HA.out.1, HA.out.2.1, rfl, HQ.out⟩
end
end Go.Proofs.YtbbgnpnopodppaaDoor
