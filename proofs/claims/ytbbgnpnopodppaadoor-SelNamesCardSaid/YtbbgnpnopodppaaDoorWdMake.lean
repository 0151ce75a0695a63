/-
  Pair, Pipe, Outer, Listen: what is made.
-/
import Derived.Test.YtbbgnpnopodppaaDoorWdLay2
namespace Go.Proofs.YtbbgnpnopodppaaDoor
open Go.RowKit Go.Maps Go.ChangeMaps

/-- The free descriptors. -/
def Ws.frees (s : Ws) : List Nat := (List.range 96).filter fun i => (s.fds i).isSome == false
theorem frees_numsA (L : Lay) (s : Ws) : numsA (fun fd => L.at_ (s.fds fd)) false 96 = s.frees := by
  unfold numsA Ws.frees
  congr 1
  funext i
  unfold Lay.at_
  rw [Option.isSome_map]
theorem Ws.frees_lt {s : Ws} {i a : Nat} (h : s.frees[i]? = some a) : a < 96 := by
  have := List.mem_of_getElem? h
  unfold Ws.frees at this
  exact List.mem_range.1 (List.mem_filter.1 this).1
theorem Ws.addW_setW (s : Ws) (x y : Wi) : (s.addW x).setW s.ws.length y = s.addW y := by
  unfold Ws.addW Ws.setW
  simp

/-- A block beside a world. -/
def Beside (W : World) (L : Lay) (g : Nat) : Prop := g < W.heap.size ∧ ¬ L.F g
theorem Beside.mv {W W' : World} {L L' : Lay} {g : Nat} (h : Beside W L g) (m : Mv W W' L.F L'.F) : Beside W' L' g ∧ W'.heap[g]? = W.heap[g]? :=
  ⟨⟨Nat.lt_of_lt_of_le h.1 m.k.size, fun e => by
    rcases m.o g e with h1 | h1
    · exact h.2 h1
    · have := h.1; omega⟩, m.k.block g h.1 h.2⟩

section
variable {w w' : World} {B : Nat} {L : Lay} {S : Ws}
theorem Wd.beside (h : Wd w B L S) {w' : World} (_hb : w.heap.size ≤ w'.heap.size) {g : Nat} (hg : w.heap.size ≤ g) (hg2 : g < w'.heap.size) : Beside w' L g := ⟨hg2, fun e => by have := (h.ltF e).1; omega⟩

def outW (cap : Nat) : Wi := (Wi.new cap 2).mark true 2
set_option maxHeartbeats 1000000 in
theorem wlayOut_any (h : Wd w B L S) (cap : Nat) (hc : cap ≤ 65536) (hl : S.ws.length ≤ 1000) :
    Calls Tryd.prog 31 #[.pointer (some ⟨L.kb, 0, none⟩), .int .i64 (cap : Int)] w fun e w' => ∃ v, e = .returned v ∧ Laid w B L S (outW cap) v w' := by
  have HL := Lib.hid (wlay_any h cap 2 hc (by omega) hl)
  clear h
  go_enter Tryd.func31, Tryd.ntmps31
  go_wp2_with fail
  refine HL.out.mono ?_
  rintro e w1 ⟨_, rfl, L1, g, rfl, h1, h2, h3, h4, h5⟩
  subst h3
  obtain ⟨g, hg⟩ : ∃ g, g = L1.wa S.ws.length := ⟨_, rfl⟩
  have HG := Lib.hid hg
  have hx := Ws.addW_last S (Wi.new cap 2)
  have hw := h1.wire _ _ hx
  have c2 := hw.blk.c2 true
  have f2 := hw.blk.frozen (off true + 2)
  have lg := hw.blk.lt
  rw [off_t] at c2 f2
  have hw2 := hw.blk.set2 true 2
  rw [off_t] at hw2
  have q := (Kept.refl (fun j => j = L1.wa S.ws.length) w1).setCell (p := ⟨L1.wa S.ws.length, 8 + 2, none⟩) rfl (.int .i64 ((2 : Nat) : Int))
  obtain ⟨L2, k1, k2, k3⟩ := h1.turnW hx hw2 q (Wi.sameR_mark _ true 2) rfl
  rw [Ws.addW_setW] at k1
  rw [Ws.addW_len] at k2
  have HE := Lib.hid (show Laid w B L S (outW cap) (.pointer (some ⟨g, 0, none⟩)) (w1.setCell ⟨g, 8 + 2, none⟩ (.int .i64 ((2 : Nat) : Int))) from ⟨L2, g, rfl, hg ▸ k1, h2.trans k2 (by omega), (k2.wa _ (by omega)).trans hg.symm, hg ▸ h4.trans k3, (k2.wt _ (by omega)).trans h5⟩)
  rw [← hg] at c2 f2 lg ⊢
  clear h1 h2 h4 hx hw hw2 q k1 k2 k3 hg
  go_wp2_with fail
  go_ret
  exact ⟨_, rfl, HE.out⟩

/-- What room answers where there is room. -/
def RoomOut (w : World) (_L : Lay) (S : Ws) (need : Nat) (e : Ending) (w' : World) : Prop := Below w.heap.size w w' ∧ ∃ v, e = .returned (.tuple #[v, .int .i64 0]) ∧ RI.own w' w.heap.size v (S.frees.take need)
theorem room_ok (h : Wd w B L S) (n most need : Nat) (hn : 1 ≤ n) (hm : n ≤ most) (hw : S.ws.length < 1000) (h1 : 1 ≤ need) (hf : need ≤ S.frees.length) :
    Calls Tryd.prog 30 #[.pointer (some ⟨L.p, 0, none⟩), .int .i64 (n : Int), .int .i64 (most : Int), .int .i64 (need : Int)] w (RoomOut w L S need) := by
  have HM := Lib.hid (wmade_yes h.top)
  have c0 := h.top.cell 0
  simp at c0
  have lp := h.top.lt
  have lk := h.kept.lt
  obtain ⟨A, c, ev⟩ := h.wlen
  have c1 := h.kept.c1
  rw [ev] at c1
  have hfl : S.frees.length ≤ 96 := by have := numsA_len (fun fd => L.at_ (S.fds fd)) false 96; rw [frees_numsA] at this; exact this
  have HF := Lib.hid (free_any h.kept need h1 (by omega))
  have HN := Lib.hid (And.intro (frees_numsA L S) hf)
  have b1 : ¬ (n : Int) < 1 := by omega
  have b2 : ¬ (most : Int) < (n : Int) := by omega
  have b3 : ¬ (S.ws.length : Int) = 1000 := by omega
  have b4 : ((S.ws.length : Int) == 1000) = false := by simpa using b3
  clear h ev hn hm hw h1 hf hfl
  go_enter Tryd.func30, Tryd.ntmps30
  go_wp2_with fail
  refine HM.out.mono ?_
  rintro e w1 ⟨rfl, rfl⟩
  go_wp2_with fail
  refine HF.out.mono ?_
  rintro e w1 ⟨hb, (⟨_, v, rfl, hv⟩ | ⟨hlt, _⟩)⟩
  · rw [HN.out.1] at hv
    have HE := Lib.hid (And.intro hb hv)
    clear hb hv
    go_wp2_with fail
    go_ret2
    exact ⟨HE.out.1, _, rfl, HE.out.2⟩
  · exfalso
    rw [HN.out.1] at hlt
    have := HN.out.2
    omega
theorem ri_at {w : World} {B : Nat} {v : Value} {xs : List Nat} (h : RI.own w B v xs) : ∃ A c, v = .slice A xs.length c ∧ (0 < xs.length → ∃ g, A = some ⟨g, 0, none⟩ ∧ B ≤ g ∧ g < w.heap.size ∧ ∀ (i a : Nat), xs[i]? = some a → w.cell? ⟨g, i, none⟩ = some (.int .i64 (a : Int))) := by
  rcases RowK.own_form h with ⟨rfl, rfl⟩ | ⟨g, c, rfl, _, hg, hB, hl⟩
  · exact ⟨none, 0, rfl, fun e => by simp at e⟩
  · refine ⟨_, c, rfl, fun _ => ⟨g, rfl, hB, hg, fun i a ha => ?_⟩⟩
    have := hl i a ha 0 (by decide)
    rw [Nat.zero_add] at this
    rw [show i * RI.n + 0 = i from by show i * 1 + 0 = i; omega] at this
    exact this

/-- What a call that makes a wire with one descriptor leaves. -/
def Made1 (w : World) (B : Nat) (L : Lay) (S : Ws) (x : Wi) (e : Ending) (w' : World) : Prop := ∃ fd : Nat, S.frees[0]? = some fd ∧ e = .returned (.tuple #[.int .i64 (fd : Int), .int .i64 (S.ws.length : Int), .int .i64 0]) ∧
  ∃ L', Wd w' B L' ((S.addW x).opened S.ws.length false fd) ∧ L.ext L' S.ws.length ∧ Mv w w' L.F L'.F
theorem take_one {l : List Nat} (h : 1 ≤ l.length) : ∃ a, l[0]? = some a ∧ l.take 1 = [a] := by
  cases l with
  | nil => simp at h
  | cons a l => exact ⟨a, rfl, rfl⟩
theorem take_two {l : List Nat} (h : 2 ≤ l.length) : ∃ a b, l[0]? = some a ∧ l[1]? = some b ∧ l.take 2 = [a, b] := by
  match l, h with
  | a :: b :: l, _ => exact ⟨a, b, rfl, rfl, rfl⟩

set_option maxRecDepth 100000 in
set_option maxHeartbeats 2000000 in
theorem wOuter_ok (h : Wd w B L S) (n : Nat) (hn : 1 ≤ n) (hm : n ≤ 65536) (hw : S.ws.length < 1000) (hf : 1 ≤ S.frees.length) :
    Calls Tryd.prog 15 #[.pointer (some ⟨L.p, 0, none⟩), .int .i64 (n : Int)] w (Made1 w B L S (outW n)) := by
  have HR := Lib.hid (room_ok h n 65536 1 hn hm hw (Nat.le_refl _) hf)
  obtain ⟨a, ha, hta⟩ := take_one hf
  have HA := Lib.hid (And.intro ha (Ws.frees_lt ha))
  have H := Lib.hid (And.intro h (And.intro hm hw))
  clear h hw hf
  go_enter Tryd.func15, Tryd.ntmps15
  go_wp2_with fail
  refine HR.out.mono ?_
  rintro e w1 ⟨hb, v, rfl, hrow⟩
  rw [hta] at hrow
  obtain ⟨A, c, rfl, hA⟩ := ri_at hrow
  obtain ⟨g0, rfl, hg0, hg1, hc⟩ := hA (by simp)
  have hw1 := H.out.1.below hb
  have c0 := hw1.top.cell 0
  simp at c0
  have lp := hw1.top.lt
  have HL := Lib.hid (wlayOut_any hw1 n H.out.2.1 (by have := H.out.2.2; omega))
  have HB := Lib.hid (And.intro (H.out.1.beside hb.size hg0 hg1) (And.intro hb (hc 0 a rfl)))
  clear hw1 hrow hA hb hc
  go_wp2_with fail
  refine HL.out.mono ?_
  rintro e w2 ⟨_, rfl, L2, g, rfl, h1, h2, h3, h4, _⟩
  have d0 := h1.top.cell 0
  rw [h2.p, h2.kb] at d0
  simp at d0
  obtain ⟨b1, b2⟩ := HB.out.1.mv h4
  have e0 : w2.cell? ⟨g0, 0, none⟩ = some (.int .i64 (a : Int)) := (World.cell?_of_block b2).trans HB.out.2.2
  have lg0 := b1.1
  have lp2 : L.p < w2.heap.size := Nat.lt_of_lt_of_le lp h4.k.size
  have hx := Ws.addW_last S (outW n)
  have hwx := (h1.wire _ _ hx).blk
  rw [h3] at hwx
  have lg := hwx.lt
  have HO := Lib.hid (wopen_any (h1.drewN 1) hx false a HA.out.2)
  rw [h3, off_f, h2.kb] at HO
  have H2 := Lib.hid (And.intro h1 (And.intro h2 (And.intro h3 (And.intro h4 b1))))
  clear h1 h2 h3 h4 b1 b2 hwx
  go_wp2_with fail
  go_still_tail 11, (by kernel_rfl)
  change wpList _ _ _ _ _ w2.drew
  go_wp2_with fail
  refine HO.out.mono ?_
  rintro e w3 ⟨rfl, L3, k1, k2, k3⟩
  obtain ⟨h1, h2, h3, h4, b1⟩ := H2.out
  rw [Ws.addW_len] at k2
  have hm2 : Mv w2 w3 L2.F L3.F := ⟨((Kept.refl L2.F w2).drewN 1).trans k3.k, k3.o⟩
  obtain ⟨b3, b4⟩ := b1.mv hm2
  have e1 : w3.cell? ⟨g0, 0, none⟩ = some (.int .i64 (a : Int)) := (World.cell?_of_block b4).trans e0
  have lg3 := b3.1
  have hy : ((S.addW (outW n)).opened S.ws.length false a).ws[S.ws.length]? = some ((outW n).mark false 1) := by
    rw [Ws.opened_of hx]
    show ((S.addW (outW n)).setW S.ws.length ((outW n).mark false 1)).ws[S.ws.length]? = _
    rw [Ws.addW_setW]
    exact Ws.addW_last _ _
  have hwy := (k1.wire _ _ hy).blk
  rw [k2.wa _ (by omega), h3] at hwy
  have w0 := hwy.w0
  have lg4 := hwy.lt
  have HE := Lib.hid (show ∃ L', Wd w3 B L' ((S.addW (outW n)).opened S.ws.length false a) ∧ L.ext L' S.ws.length ∧ Mv w w3 L.F L'.F from
    ⟨L3, k1, h2.trans k2 (by omega), (show Mv w w1 L.F L.F from ⟨Kept.of_below HB.out.2.1, fun _ e => .inl e⟩).trans (h4.trans hm2)⟩)
  clear h1 h2 h3 h4 b1 k1 k2 k3 hm2 b3 b4 hy hwy
  go_wp2_with fail
  go_quiet (fail)
  obtain ⟨q, hq⟩ : ∃ q, q = nq := ⟨_, rfl⟩
  have HQ := Lib.hid (show ∃ L', Wd (w3.drewN nq) B L' ((S.addW (outW n)).opened S.ws.length false a) ∧ L.ext L' S.ws.length ∧ Mv w (w3.drewN nq) L.F L'.F by
    obtain ⟨L', k1, k2, k3⟩ := HE.out
    exact ⟨L', k1.drewN nq, k2, ⟨k3.k.drewN nq, k3.o⟩⟩)
  clear hq
  go_wp2_with fail
  go_ret3
  exact ⟨a, HA.out.1, rfl, HQ.out⟩
end
end Go.Proofs.YtbbgnpnopodppaaDoor
