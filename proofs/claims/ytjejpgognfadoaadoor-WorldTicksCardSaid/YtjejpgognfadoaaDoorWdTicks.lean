/-
  WorldTicks: Now, Pass; the image of a new world.
-/
import Derived.Test.YtjejpgognfadoaaDoorWdLaw
import Derived.Test.YtjejpgognfadoaaDoorSgCopy
import Derived.Test.YtjejpgognfadoaaDoorCmArg
namespace Go.Proofs.YtjejpgognfadoaaDoor
open Go.RowKit Go.Shelf Go.Maps Go.ChangeMaps

attribute [local go_sem] Oper.semAt_some

section
variable {w w' : World} {B : Nat} {L : Lay} {S : Ws}
theorem wNow_any (h : Wd w B L S) : Calls Tryd.prog 6 #[.pointer (some ⟨L.p, 0, none⟩)] w fun e w' => e = .returned (.int .u64 (S.now : Int)) ∧ w = w' := by
  have HM := Lib.hid (wmade_yes h.top)
  have c0 := h.top.cell 0
  simp at c0
  have k0 := h.kept.c0
  have lk := h.kept.lt
  clear h
  go_enter Tryd.func6, Tryd.ntmps6
  go_wp2_with fail
  refine HM.out.mono ?_
  rintro e w1 ⟨rfl, rfl⟩
  go_wp2_with fail
  go_ret
  exact ⟨rfl, rfl⟩
def Ws.pass (s : Ws) (n : Nat) : Ws := { s with now := s.now + min n (18446744073709551615 - s.now) }
set_option maxRecDepth 100000 in
set_option maxHeartbeats 2000000 in
theorem wPass_any (h : Wd w B L S) (n : Nat) (hn : n ≤ 18446744073709551615) (hs : S.now ≤ 18446744073709551615) : Calls Tryd.prog 7 #[.pointer (some ⟨L.p, 0, none⟩), .int .u64 (n : Int)] w fun e w' =>
    e = .returned (.tuple #[]) ∧ Wd w' B L (S.pass n) ∧ Mv w w' L.F L.F := by
  have HM := Lib.hid (wmade_yes h.top)
  have c0 := h.top.cell 0
  simp at c0
  have k0 := h.kept.c0
  have f0 := h.kept.frozen 0
  have lk := h.kept.lt
  have lp := h.top.lt
  obtain ⟨r, hr⟩ : ∃ r, r = 18446744073709551615 - S.now := ⟨_, rfl⟩
  obtain ⟨d, hd⟩ : ∃ d, d = min n r := ⟨_, rfl⟩
  obtain ⟨m, hm⟩ : ∃ m, m = S.now + d := ⟨_, rfl⟩
  have e1 : IntKind.u64.wrap (18446744073709551615 - (S.now : Int)) = (r : Int) := by rw [IntWalk.u64_in _ (by omega)]; omega
  have e2 : IntKind.u64.wrap ((S.now : Int) + (d : Int)) = (m : Int) := by rw [IntWalk.u64_in _ (by omega)]; omega
  have e3 : (if (r : Int) < (n : Int) then (r : Int) else (n : Int)) = (d : Int) := by split <;> omega
  have e4 : (if r < n then (r : Int) else (n : Int)) = (d : Int) := by split <;> omega
  have q := (Kept.refl (fun j => j = L.kb) w).drewN 1 |>.setCell (p := ⟨L.kb, 0, none⟩) rfl (.int .u64 (m : Int))
  have HE := Lib.hid (show Wd ((w.drewN 1).setCell ⟨L.kb, 0, none⟩ (.int .u64 (m : Int))) B L (S.pass n) ∧ Mv w ((w.drewN 1).setCell ⟨L.kb, 0, none⟩ (.int .u64 (m : Int))) L.F L.F from by
    have hw := h.turnK (now := m) (fds := S.fds) (nt := S.nt) q (show Kb ((w.drewN 1).setCell ⟨L.kb, 0, none⟩ (.int .u64 (m : Int))) L.kb m L.wv _ _ _ from (h.drewN 1).kept.set0 m) h.fdok h.ntok
    refine ⟨?_, h.mvK q⟩
    have : S.pass n = { S with now := m } := by unfold Ws.pass; rw [hm, hd, hr]
    rw [this]
    exact hw)
  obtain ⟨z, hz⟩ : ∃ z, z = ((S.now : Nat) : Int) := ⟨_, rfl⟩
  rw [← hz] at k0 e1 e2
  clear h q hm hd hr hz
  go_enter Tryd.func7, Tryd.ntmps7
  go_wp2_with fail
  refine HM.out.mono ?_
  rintro e w1 ⟨rfl, rfl⟩
  go_wp2_with fail
  go_still_tail 20, (by kernel_rfl)
  change wpList _ _ _ _ _ w.drew
  go_wp2_with fail
  go_end0
  exact ⟨rfl, HE.out⟩
end

theorem fmt_small (w : World) : Calls Tryd.prog 52 #[.int .i64 0] w fun e w' => e = .returned (.string ⟨#[48]⟩) ∧ w = w' := by
  go_enter Tryd.func52, Tryd.ntmps52
  go_wp2_with fail
  go_ret
  exact ⟨rfl, rfl⟩
theorem fmt_in (w : World) : Calls Tryd.prog 36 #[.int .u64 0, .int .i64 10] w fun e w' => e = .returned (.string ⟨#[48]⟩) ∧ w = w' := by
  have H := Lib.hid (fmt_small w)
  go_enter Tryd.func36, Tryd.ntmps36
  go_wp2_with fail
  refine H.out.mono ?_
  rintro e w1 ⟨rfl, rfl⟩
  go_wp2_with fail
  go_ret
  exact ⟨rfl, rfl⟩
theorem fmt_zero (w : World) : Calls Tryd.prog 16 #[.int .u64 0, .int .i64 10] w fun e w' => e = .returned (.string ⟨#[48]⟩) ∧ w = w' := by
  have H := Lib.hid (fmt_in w)
  go_enter Tryd.func16, Tryd.ntmps16
  go_wp2_with fail
  refine H.out.mono ?_
  rintro e w1 ⟨rfl, rfl⟩
  go_wp2_with fail
  go_ret
  exact ⟨rfl, rfl⟩

theorem five_boxes (w : World) (t0 t1 t2 t3 t4 : TypeId) (a0 a1 a2 a3 a4 : Value) : ∃ V, V = ((((w.alloc (.cells #[a0] t0)).alloc (.cells #[a1] t1)).alloc (.cells #[a2] t2)).alloc (.cells #[a3] t3)).alloc (.cells #[a4] t4) ∧ Kept (fun _ => False) w V ∧
    Boxed V w.heap.size t0 a0 ∧ Boxed V (w.heap.size + 1) t1 a1 ∧ Boxed V (w.heap.size + 2) t2 a2 ∧ Boxed V (w.heap.size + 3) t3 a3 ∧ Boxed V (w.heap.size + 4) t4 a4 ∧ V.heap.size = w.heap.size + 5 := by
  obtain ⟨U, hU, u0, u1, u2, u3, u4, u5⟩ := four_boxes w t0 t1 t2 t3 a0 a1 a2 a3
  rw [← hU]
  refine ⟨_, rfl, u0.alloc _, (Below.heap_alloc _ _ _ (by omega)).trans u1, (Below.heap_alloc _ _ _ (by omega)).trans u2, (Below.heap_alloc _ _ _ (by omega)).trans u3, (Below.heap_alloc _ _ _ (by omega)).trans u4, ?_, by simp [u5]⟩
  rw [← u5]
  exact World.alloc_heap_new U _

theorem numsA_none (b : Bool) (hb : b = true) (k : Nat) : numsA (fun _ => none) b k = [] := by
  subst hb
  unfold numsA
  rw [List.filter_eq_nil_iff]
  intro a _; simp
/-- While the image of a new world is laid. -/
structure ImI (w : World) (kb : Nat) (W : World) : Prop where
  k : Boxed W w.heap.size 44 (.pointer (some ⟨kb, 0, none⟩))
  row : Blk W (w.heap.size + 1) 9 #[.string ⟨#[110, 111, 119, 32, 48]⟩]
  l : Boxed W (w.heap.size + 2) 30 (.slice (some ⟨w.heap.size + 1, 0, none⟩) 1 1)
  bel : Below w.heap.size w W
theorem ImI.chR {w X Y : World} {kb N : Nat} (h : ImI w kb X) (k : ChR N X Y) (hN : w.heap.size ≤ N) : ImI w kb Y := ⟨boxed_chR h.k k, blk_chR h.row k, boxed_chR h.l k, below_chR h.bel k hN⟩
/-- What the image of a new world is. -/
def ImgOut (w : World) (e : Ending) (w' : World) : Prop := Below w.heap.size w w' ∧ ∃ g, e = .returned (.slice (some ⟨g, 0, none⟩) 1 1) ∧ w.heap.size ≤ g ∧ Blk w' g 9 #[.string ⟨#[110, 111, 119, 32, 48]⟩]

set_option maxRecDepth 100000 in
set_option maxHeartbeats 8000000 in
theorem image_new {w : World} {B : Nat} {L : Lay} (h : Wd w B L Ws.new) : Calls Tryd.prog 9 #[.pointer (some ⟨L.p, 0, none⟩)] w (ImgOut w) := by
  have HM := Lib.hid (wmade_yes h.top)
  have c0 := h.top.cell 0
  simp at c0
  have lp := h.top.lt
  have lk := h.kept.lt
  have k0 := h.kept.c0
  rw [show ((Ws.new.now : Nat) : Int) = 0 from rfl] at k0
  have H := Lib.hid h
  clear h
  refine (callsIn_wide (n := 6)).1 ?_
  refine callsIn_of_wp_marks Tryd.func9 rfl trivial ?_ rfl
  simp only [Tryd.ntmps9, List.size_toArray, List.length_cons, List.length_nil, Nat.reduceAdd, Nat.reduceSub, Array.replicate_succ, Array.replicate_zero, List.push_toArray, List.append_toArray, List.nil_append, List.cons_append]
  have hcat : (⟨#[110, 111, 119, 32]⟩ ++ ⟨#[48]⟩ : ByteArray) = ⟨#[110, 111, 119, 32, 48]⟩ := by decide
  gi_wp2_with (refine ⟨trivial, ?_⟩; first
    | (gi_at_call 15; refine (callsIn_wide.2 HM.out).mono ?_; rintro e w1 ⟨rfl, rfl⟩)
    | (gi_at_call 16; refine (callsIn_wide.2 (fmt_zero _)).mono ?_; rintro e w1 ⟨rfl, rfl⟩)
    | (gi_at_call 17; refine (callsIn_wide.2 (numbers_call _ L.kb true)).mono ?_; rintro e w1 ⟨rfl, rfl⟩))
  obtain ⟨V, hV, v0, v1, v2, v3, v4, v5, v6⟩ := five_boxes w 44 9 30 44 4 (.pointer (some ⟨L.kb, 0, none⟩)) (.string ⟨#[110, 111, 119, 32, 48]⟩) (.slice (some ⟨w.heap.size + 1, 0, none⟩) 1 1) (.pointer (some ⟨L.kb, 0, none⟩)) (.bool true)
  rw [← hV]
  have hTV := H.out.kept.same (v0.block L.kb lk (fun e => e))
  have hc0 : ImI w L.kb V := ⟨v1, v2, v3, v0.below (fun _ e => e.elim) (Nat.le_refl _)⟩
  clear hV
  refine rangeFunc_o (n := 6) (by omega) (gf := 37) (lb := #[.pointer (some ⟨w.heap.size + 1 + 1 + 1, 0, none⟩), .pointer (some ⟨w.heap.size + 1 + 1 + 1 + 1, 0, none⟩)]) rfl (enters_of Tryd.func37 (by kernel_rfl) rfl)
    (encs := encI) TCe (fun i => i < w.heap.size ∨ i = w.heap.size + 3 ∨ i = w.heap.size + 4) (num_o 5 (by omega) true hTV _ _ v4 v5 TCe _ V.heap.size ⟨by omega, .inr (.inl rfl)⟩ ⟨by omega, .inr (.inr rfl)⟩ ⟨by omega, .inl lk⟩) (fun _ => rfl)
    (fun _ W => ImI w L.kb W) (fun _ _ _ => False)
    (fun s X Y hi hc => hi.chR hc (by omega)) (fun c s X Y hi hc => hi.elim) hc0 ?round ?done ?stop
  case round =>
    rintro l pre x W hz hS ⟨R, hR⟩
    rw [show (fun fd => L.at_ (Ws.new.fds fd)) = fun _ => none from rfl, numsA_none true rfl 96] at hR
    simp at hR
  case stop => rintro c pre W hp hf; exact hf.elim
  case done =>
    rintro xs W - hS hD hz
    have hW := H.out.below hS.bel
    have k1 := hW.kept.c1
    have k9 := hW.kept.c98
    have kn := hW.kept.c99
    have hrow := hW.row
    obtain ⟨A, c, hwv, _⟩ := RowK.own_shows hrow
    rw [show ((List.range Ws.new.ws.length).map L.wa).length = 0 from rfl] at hwv
    rw [hwv] at k1
    rw [show (Value.pointer (L.at_ Ws.new.nt)) = .pointer none from rfl] at kn
    have cb := hS.k.cell
    have lb := hS.k.lt
    have cl := hS.l.cell
    have ll := hS.l.lt
    have lk2 := hW.kept.lt
    have HE := Lib.hid (And.intro hS (And.intro hW (And.intro hD hz)))
    clear hrow hwv hc0 hTV v0 v1 v2 v3 v4 v5 hS hW hD H HM
    gi_wp2_with fail
    gi_loopw [46] (fun v wr => v = .int .i64 0 ∧ wr = W) (fun _ _ => 0)
    case atStart => exact ⟨rfl, rfl⟩
    case round =>
      obtain ⟨rfl, rfl⟩ := hrel
      have HL := Lib.hid (list_any HE.out.2.1.sig)
      gi_wp2_with (refine ⟨trivial, ?_⟩; gi_at_call 21; refine (callsIn_wide.2 HL.out).mono ?_; rintro e w1 ⟨v, rfl, hv, hb⟩; rw [show Ws.new.sg.list 32 = [] from by decide] at hv; obtain ⟨A1, c1, rfl, _⟩ := RowK.own_shows hv; have hs1 := hb.size; have cb := (hb.cell (p := ⟨w.heap.size, 0, none⟩) lb).trans cb; have cl := (hb.cell (p := ⟨w.heap.size + 2, 0, none⟩) ll).trans cl; have kn := (hb.cell (p := ⟨L.kb, 99, none⟩) lk2).trans kn; have lb := Nat.lt_of_lt_of_le lb hs1; have ll := Nat.lt_of_lt_of_le ll hs1; have lk2 := Nat.lt_of_lt_of_le lk2 hs1; have HB := Lib.hid hb; clear hb hv)
      gi_loopw [69] (fun v wr => v = .int .i64 0 ∧ wr = w1) (fun _ _ => 0)
      case atStart => exact ⟨rfl, rfl⟩
      case round =>
        obtain ⟨rfl, rfl⟩ := hrel
        gi_wp2_with fail
        obtain ⟨hI, -, hD, hz'⟩ := HE.out
        rw [v6] at hD hz'
        have hI2 : ImI w L.kb wr := ⟨(HB.out.block _ hI.k.lt).trans hI.k, (HB.out.block _ hI.row.lt).trans hI.row, (HB.out.block _ hI.l.lt).trans hI.l, hI.bel.trans (HB.out.mono hI.bel.size)⟩
        exact leaves_marks (w.heap.size + 3) [w.heap.size + 5] wr (by simp) (fun D hD' => by simp at hD'; subst hD'; exact ⟨by omega, (HB.out.block _ (by omega)).trans hD⟩) (fun W' hc => ⟨_, results_tmp rfl _ _ _, below_chR hI2.bel hc.toR (by omega), _, rfl, by omega, blk_chR hI2.row hc.toR⟩)

/-- Two rows of one string. -/
theorem same_one {w : World} {a b : Nat} {x : ByteArray} (ha : Blk w a 9 #[.string x]) (hb : Blk w b 9 #[.string x]) : Calls Tryd.prog 8 #[.slice (some ⟨a, 0, none⟩) 1 1, .slice (some ⟨b, 0, none⟩) 1 1] w fun e w' => e = .returned (.bool true) ∧ Kept (fun _ => False) w w' := by
  have H0 := Lib.hid (And.intro ha hb)
  clear ha hb
  go_enter Tryd.func8, Tryd.ntmps8
  go_wp2_with fail
  go_loopw [5] (fun v wr => (v = .int .i64 0 ∨ v = .int .i64 1) ∧ Blk wr a 9 #[.string x] ∧ Blk wr b 9 #[.string x] ∧ Kept (fun _ => False) w wr) (fun v _ => 1 - (intOf v).toNat)
  case atStart => exact ⟨.inl rfl, H0.out.1, H0.out.2, Kept.refl _ _⟩
  case round =>
    obtain ⟨hv, h1, h2, hk⟩ := hrel
    have c1 := h1.cell 0
    have c2 := h2.cell 0
    simp at c1 c2
    have l1 := h1.lt
    have l2 := h2.lt
    have HE := Lib.hid (And.intro h1 (And.intro h2 hk))
    clear h1 h2 hk
    rcases hv with rfl | rfl
    · go_wp2_with fail
      go_quiet (fail)
      go_wp2_with fail
      go_roundw
      case rel => exact ⟨.inr (by go_num), HE.out.1, HE.out.2.1, HE.out.2.2.drewN _⟩
      case measure => simp [intOf]
    · go_wp2_with fail
      go_ret
      exact ⟨rfl, HE.out.2.2⟩

section
variable {B : Nat} {W w w' : World} {p : Nat} {S : Ws} {N : Nat} {D : Nat → Prop}
theorem Od.now (h : Od B W p S N D w) : Calls Tryd.prog 6 #[.pointer (some ⟨p, 0, none⟩)] w fun e w' => e = .returned (.int .u64 (S.now : Int)) ∧ w = w' := by
  obtain ⟨L, rfl, h2, h3, h4, h5⟩ := h
  exact wNow_any h2
theorem Od.pass (h : Od B W p S N D w) (n : Nat) (hn : n ≤ 18446744073709551615) (hs : S.now ≤ 18446744073709551615) : Calls Tryd.prog 7 #[.pointer (some ⟨p, 0, none⟩), .int .u64 (n : Int)] w fun e w' => e = .returned (.tuple #[]) ∧ OdM B W p (S.pass n) N D w w' := by
  obtain ⟨L, rfl, h2, h3, h4, h5⟩ := h
  refine (wPass_any h2 n hn hs).mono ?_
  rintro e w' ⟨rfl, k1, k2⟩
  exact ⟨rfl, Od.go rfl h2 h3 h5 k1 rfl k2 h4⟩
theorem image_od (h : Od B W p Ws.new N D w) : Calls Tryd.prog 9 #[.pointer (some ⟨p, 0, none⟩)] w (ImgOut w) := by
  obtain ⟨L, rfl, h2, h3, h4, h5⟩ := h
  exact image_new h2
end
def Ws.at_ (m : Nat) : Ws := { Ws.new with now := m }
set_option maxRecDepth 100000 in
set_option maxHeartbeats 4000000 in
theorem ticks_law (W : World) (A : Option Addr) (c : Nat) (l : List Int) (wl : ArgN .u64 0 18446744073709551615 W A l) :
    Calls Tryd.prog 3 #[.slice A l.length c] W fun x w' => x = .returned (.bool true) ∧ Below W.heap.size W w' := by
  have HA := Lib.hid wl
  clear wl
  go_enter Tryd.func3, Tryd.ntmps3
  go_wp2_with fail
  refine (walive_any W).mono ?_
  rintro e w1 ⟨rfl, hb1⟩
  by_cases hlen : 100 < l.length
  · have q1 : decide ((100 : Int) < (l.length : Int)) = true := by simp; omega
    go_wp2_with fail
    go_ret
    exact ⟨rfl, hb1⟩
  have q1 : decide ((100 : Int) < (l.length : Int)) = false := by simp; omega
  go_wp2_with fail
  refine (Od.new hb1.size hb1).mono ?_
  rintro e w2 ⟨p, rfl, O⟩
  have H2 := Lib.hid O
  clear O hb1
  go_wp2_with fail
  go_loopw [20] (fun v wr => ∃ i m : Nat, v = .int .i64 (i : Int) ∧ i ≤ l.length ∧ m ≤ 18446744073709551615 ∧ Od W.heap.size W p (Ws.at_ m) 0 (fun _ => False) wr) (fun v _ => l.length - (intOf v).toNat)
  case atStart => exact ⟨0, 0, rfl, by omega, by omega, H2.out⟩
  case round =>
    obtain ⟨i, m, rfl, hi, hm, O⟩ := hrel
    by_cases hlt : i < l.length
    · obtain ⟨b, off, x, rfl, hbl, hx, hxb, cx⟩ := HA.out.at_ O.bel hlt
      obtain ⟨k, rfl⟩ : ∃ k : Nat, x = (k : Int) := ⟨x.toNat, by omega⟩
      have q2 : (i : Int) < (l.length : Int) := by omega
      have q3 : (0 : Int) ≤ (i : Int) := by omega
      have lb := Nat.lt_of_lt_of_le hbl O.bel.size
      have HN := Lib.hid O.now
      have HO := Lib.hid O
      have HX := Lib.hid hx
      clear O hx
      go_wp2_with fail
      refine HN.out.mono ?_
      rintro e w3 ⟨rfl, rfl⟩
      have HP := Lib.hid (HO.out.pass k (by omega) hm)
      go_wp2_with fail
      refine HP.out.mono ?_
      rintro e w4 ⟨rfl, O, _, _⟩
      obtain ⟨m', hm'⟩ : ∃ m', m' = (Ws.at_ m).now + min k (18446744073709551615 - (Ws.at_ m).now) := ⟨_, rfl⟩
      have ha : (Ws.at_ m).pass k = Ws.at_ m' := by unfold Ws.pass; rw [hm']; rfl
      rw [ha] at O
      rw [show (Ws.at_ m).now = m from rfl] at hm'
      obtain ⟨b', off', x', e', hbl', hx', _, cx'⟩ := HA.out.at_ O.bel hlt
      cases e'
      obtain rfl : x' = (k : Int) := by have := HX.out; rw [hx'] at this; exact Option.some.inj this
      have lb4 := Nat.lt_of_lt_of_le hbl O.bel.size
      have hmx : m' ≤ 18446744073709551615 := by omega
      have HN2 := Lib.hid O.now
      have HO4 := Lib.hid O
      rw [show (Ws.at_ m').now = m' from rfl] at HN2
      have q4 : decide ((m' : Int) < (m : Int)) = false := by simp; omega
      have q7 : ¬ m' < m := by omega
      have q8 : m ≤ m' := by omega
      have e1 : IntKind.u64.wrap ((m' : Int) - (m : Int)) = ((m' - m : Nat) : Int) := by rw [IntWalk.u64_in _ (by omega)]; omega
      clear O hx' cx HX HP ha lb
      rw [show (Ws.at_ m).now = m from rfl]
      by_cases hk : m' - m = k
      · have q5 : (((m' - m : Nat) : Int) == (k : Int)) = true := by simp; omega
        clear hm'
        go_wp2_with fail
        refine HN2.out.mono ?_
        rintro e w5 ⟨rfl, rfl⟩
        go_wp2_with fail
        go_roundw
        case rel => exact ⟨i + 1, m', by go_num, by omega, hmx, HO4.out⟩
        case measure => simp [intOf]; omega
      · obtain rfl : m' = 18446744073709551615 := by omega
        clear q7
        have q5 : (((18446744073709551615 - m : Nat) : Int) == (k : Int)) = false := by simp; omega
        clear hm'
        go_wp2_with fail
        refine HN2.out.mono ?_
        rintro e w5 ⟨rfl, rfl⟩
        go_wp2_with fail
        go_roundw
        case rel => exact ⟨i + 1, 18446744073709551615, by go_num, by omega, by omega, HO4.out⟩
        case measure => simp [intOf]; omega
    · obtain rfl : i = l.length := by omega
      have HO := Lib.hid (Od.new (W := W) O.base O.bel)
      clear O
      go_wp2_with fail
      refine HO.out.mono ?_
      rintro e w5 ⟨p2, rfl, O⟩
      have HI := Lib.hid (image_od O)
      have HB := Lib.hid O.bel
      clear O
      go_wp2_with fail
      refine HI.out.mono ?_
      rintro e w6 ⟨hb6, g, rfl, hg, hr⟩
      have HS := Lib.hid (same_one (hr.same (Below.heap_alloc _ (.cells #[.string ⟨#[110, 111, 119, 32, 48]⟩] 9) _ hr.lt)) (Blk.new w6 9 #[.string ⟨#[110, 111, 119, 32, 48]⟩]))
      have HE := Lib.hid ((HB.out.trans (hb6.mono HB.out.size)).alloc (Nat.le_trans HB.out.size hb6.size) (.cells #[.string ⟨#[110, 111, 119, 32, 48]⟩] 9))
      clear hr hb6
      go_wp2_with fail
      refine HS.out.mono ?_
      rintro e w7 ⟨rfl, hk⟩
      have HK := Lib.hid (HE.out.trans (hk.below (fun _ e => e.elim) HE.out.size))
      clear hk
      go_wp2_with fail
      go_ret
      exact ⟨rfl, HK.out⟩
end Go.Proofs.YtjejpgognfadoaaDoor
