/-
  New; Write and Read.
-/
import Derived.Test.YtjejpgognfadoaaGreatDoorWdBoth
namespace Go.Proofs.YtjejpgognfadoaaGreatDoor
open Go.RowKit Go.Maps Go.ChangeMaps
open Classical

def Ws.new : Ws := ⟨0, [], fun _ => none, T.new, none⟩
theorem Ws.setW_id {s : Ws} {i : Nat} {x : Wi} (h : s.ws[i]? = some x) : s.setW i x = s := by
  unfold Ws.setW
  have : s.ws.set i x = s.ws := by
    apply List.ext_getElem?
    intro j
    rw [List.getElem?_set]
    split
    · rename_i e; subst e
      rw [if_pos (List.getElem?_eq_some_iff.1 h).1, h]
    · rfl
  rw [this]
def Wi.write (x : Wi) (k : Bool) (zs : List Int) : Int × Int × Wi :=
  if (x.e (!k)).can = false then (0, 111, x) else if x.reset = true then (0, 115, x) else if (x.e k).shut = true ∨ x.noReader k = true then (0, 114, x)
  else if 0 < zs.length ∧ x.cap - (x.e (!k)).bs.length = 0 then (0, 113, x) else (x.room (!k) zs.length, 0, x.fill (!k) zs)
/-- What is read, whether it is the end, the error; and the wire then. -/
def Wi.read (x : Wi) (k : Bool) (m : Int) : List Int × Bool × Int × Wi :=
  if (x.e k).can = false then ([], false, 111, x) else if m < 1 then ([], false, 2, x) else if x.reset = true then ([], false, 115, x)
  else if 0 < (x.e k).bs.length then ((x.e k).bs.take m.toNat, false, 0, x.drain k m.toNat) else if x.noWriter k = true then ([], true, 0, x) else ([], false, 113, x)

section
variable {w w' : World} {B : Nat} {L : Lay} {S : Ws}
/-- A wire of a world turned, or not. -/
def Turned (w : World) (B : Nat) (L : Lay) (S : Ws) (i : Nat) (y : Wi) (w' : World) : Prop := ∃ L', Wd w' B L' (S.setW i y) ∧ L.ext L' S.ws.length ∧ Mv w w' L.F L'.F
theorem Turned.none (h : Wd w B L S) {i : Nat} {x : Wi} (hx : S.ws[i]? = some x) (q : Nat) : Turned w B L S i x (w.drewN q) := ⟨L, by rw [Ws.setW_id hx]; exact h.drewN q, Lay.ext.refl _ _, ⟨(Kept.refl _ w).drewN q, fun _ e => .inl e⟩⟩
theorem Turned.of_wire (h : Wd w B L S) {i : Nat} {x y : Wi} (hx : S.ws[i]? = some x) (q : Nat) {F' : Bool → Nat → Prop} (hw : Wr w' B (L.wa i) i (L.rr i) F' (L.wt i) y) (m : Mv (w.drewN q) w' (FW (L.wa i) (L.G i)) (FW (L.wa i) F')) (hwt : y.wait = x.wait) : Turned w B L S i y w' := by
  obtain ⟨L', h1, h2, h3, _⟩ := (h.drewN q).wire1 hx hw m hwt
  exact ⟨L', h1, h2, ⟨((Kept.refl L.F w).drewN q).trans h3.k, h3.o⟩⟩
/-- .. without a block more. -/
def Turned0 (w : World) (B : Nat) (L : Lay) (S : Ws) (i : Nat) (y : Wi) (w' : World) : Prop := ∃ L', Wd w' B L' (S.setW i y) ∧ L.ext L' S.ws.length ∧ Mv w w' L.F L'.F ∧ ∀ b, L'.F b → L.F b
theorem Turned0.none (h : Wd w B L S) {i : Nat} {x : Wi} (hx : S.ws[i]? = some x) (q : Nat) : Turned0 w B L S i x (w.drewN q) := ⟨L, by rw [Ws.setW_id hx]; exact h.drewN q, Lay.ext.refl _ _, ⟨(Kept.refl _ w).drewN q, fun _ e => .inl e⟩, fun _ e => e⟩
theorem Turned0.of_wire (h : Wd w B L S) {i : Nat} {x y : Wi} (hx : S.ws[i]? = some x) (q : Nat) {F' : Bool → Nat → Prop} (hw : Wr w' B (L.wa i) i (L.rr i) F' (L.wt i) y) (m : Mv (w.drewN q) w' (FW (L.wa i) (L.G i)) (FW (L.wa i) F')) (h0 : ∀ b, FW (L.wa i) F' b → FW (L.wa i) (L.G i) b) (hwt : y.wait = x.wait) : Turned0 w B L S i y w' := by
  obtain ⟨L', h1, h2, h3, h4⟩ := (h.drewN q).wire1 hx hw m hwt
  have hi := (List.getElem?_eq_some_iff.1 hx).1
  refine ⟨L', h1, h2, ⟨((Kept.refl L.F w).drewN q).trans h3.k, h3.o⟩, fun b hb => ?_⟩
  rcases h4 b hb with h5 | h5
  · exact h5
  · rcases h0 b h5 with rfl | ⟨k, hk⟩
    · exact ⟨_, h.owire i hi⟩
    · exact ⟨_, hk⟩
theorem Wi.fill_wait (x : Wi) (k : Bool) (zs : List Int) : (x.fill k zs).wait = x.wait := by
  unfold Wi.fill Wi.rdRise
  repeat' split
  all_goals rfl
theorem Wi.drain_wait (x : Wi) (k : Bool) (n : Nat) : (x.drain k n).wait = x.wait := by
  unfold Wi.drain Wi.wrRise
  repeat' split
  all_goals rfl
theorem Wd.FWF (h : Wd w B L S) {i : Nat} (hi : i < S.ws.length) {b : Nat} (hb : FW (L.wa i) (L.G i) b) : L.F b := by
  rcases hb with rfl | ⟨k, hk⟩
  · exact ⟨_, h.owire i hi⟩
  · exact ⟨_, hk⟩
theorem Src.less {F G : Nat → Prop} {v : Value} {zs : List Int} (h : Src w F v zs) (hG : ∀ b, G b → F b) : Src w G v zs := by
  obtain ⟨A, c, h1, h2, h3, h4⟩ := h
  exact ⟨A, c, h1, h2, h3, fun h0 => by obtain ⟨b, o, e1, e2, e3, e4⟩ := h4 h0; exact ⟨b, o, e1, e2, fun e => e3 (hG b e), e4⟩⟩

theorem Src.drewN {F : Nat → Prop} {v : Value} {zs : List Int} (h : Src w F v zs) (q : Nat) : Src (w.drewN q) F v zs := h

set_option maxHeartbeats 4000000 in
theorem wWrite_any (h : Wd w B L S) {n : Int} {i : Nat} {k : Bool} {x : Wi} (hf : S.fd n = some (i, k)) (hx : S.ws[i]? = some x) (vz : Value) (zs : List Int) (hz : Src w L.F vz zs) (hN : x.le 900000000) :
    Calls Tryz.prog 9 #[.pointer (some ⟨L.p, 0, none⟩), .int .i64 n, vz] w fun e w' =>
      e = .returned (.tuple #[.int .i64 (x.write k zs).1, .int .i64 (x.write k zs).2.1]) ∧ Turned w B L S i (x.write k zs).2.2 w' := by
  have hi := (List.getElem?_eq_some_iff.1 hx).1
  have hwr := h.wire i x hx
  have HF := Lib.hid (find_yes h hf)
  have HW := Lib.hid (canWrite_any hwr.blk k)
  have HNR := Lib.hid (fun q => noReader_any (hwr.blk.drewN q) k)
  have HO := Lib.hid (fun q => other_any (hwr.blk.drewN q) k)
  have H := Lib.hid (And.intro h (And.intro hx hwr))
  have c0 := hwr.blk.c0 k
  have w15 := hwr.blk.w15
  have c3 := hwr.blk.c3 k
  have c4 := hwr.blk.c4 (!k)
  have lg := hwr.blk.lt
  have HT := Lib.hid (fun q => Turned.none h hx q)
  have hring := hwr.ring (!k)
  have HFL := Lib.hid (fun (q : Nat) (hc : (x.e (!k)).can = true) => fill_any ((hwr.drewN_ q)) (!k) hc vz zs ((hz.less fun b hb => h.FWF hi hb).drewN q) hN)
  obtain ⟨A, c, rfl, hc1, hc2, hsrc⟩ := id hz
  obtain ⟨g, hg⟩ : ∃ g, g = L.wa i := ⟨_, rfl⟩
  have HG := Lib.hid hg
  rw [← hg] at HF HW HNR HO c0 w15 c3 c4 lg HFL
  cases hcan : (x.e (!k)).can with
  | false =>
    have hq : x.write k zs = (0, 111, x) := by unfold Wi.write; rw [if_pos hcan]
    rw [hq]
    rw [hcan] at HW
    clear h hx hwr hring hz hsrc hcan hq hf hN hg
    go_enter Tryz.func9, Tryz.ntmps9
    go_wp2_with fail
    refine HF.out.mono ?_
    rintro e w1 ⟨rfl, rfl⟩
    go_wp2_with fail
    refine HW.out.mono ?_
    rintro e w1 ⟨rfl, m, rfl⟩
    go_wp2_with fail
    go_ret2
    exact ⟨rfl, HT.out m⟩
  | true =>
    obtain ⟨out, hrg⟩ := hring hcan
    have HRM := Lib.hid (fun q => room_any (hrg.drewN q))
    rw [hcan] at HW
    rw [hcan, rp_yes] at c4
    replace HFL := Lib.hid (fun q => HFL.out q hcan)
    cases hrs : x.reset with
    | true =>
      have hq : x.write k zs = (0, 115, x) := by unfold Wi.write; rw [if_neg (by simp [hcan]), if_pos hrs]
      rw [hq]
      rw [hrs] at w15
      clear h hx hwr hring hz hsrc hcan hq hf hN hg hrg hrs
      go_enter Tryz.func9, Tryz.ntmps9
      go_wp2_with fail
      refine HF.out.mono ?_
      rintro e w1 ⟨rfl, rfl⟩
      go_wp2_with fail
      refine HW.out.mono ?_
      rintro e w1 ⟨rfl, m, rfl⟩
      go_wp2_with fail
      go_ret2
      exact ⟨rfl, HT.out m⟩
    | false =>
      rw [hrs] at w15
      cases hsh : (x.e k).shut with
      | true =>
        have hq : x.write k zs = (0, 114, x) := by unfold Wi.write; rw [if_neg (by simp [hcan]), if_neg (by simp [hrs]), if_pos (.inl hsh)]
        rw [hq]
        rw [hsh] at c3
        clear h hx hwr hring hz hsrc hcan hq hf hN hg hrg hrs hsh
        go_enter Tryz.func9, Tryz.ntmps9
        go_wp2_with fail
        refine HF.out.mono ?_
        rintro e w1 ⟨rfl, rfl⟩
        go_wp2_with fail
        refine HW.out.mono ?_
        rintro e w1 ⟨rfl, m, rfl⟩
        go_wp2_with fail
        go_ret2
        exact ⟨rfl, HT.out m⟩
      | false =>
        rw [hsh] at c3
        cases hnr : x.noReader k with
        | true =>
          have hq : x.write k zs = (0, 114, x) := by unfold Wi.write; rw [if_neg (by simp [hcan]), if_neg (by simp [hrs]), if_pos (.inr hnr)]
          rw [hq]
          rw [hnr] at HNR
          clear h hx hwr hring hz hsrc hcan hq hf hN hg hrg hrs hsh hnr
          go_enter Tryz.func9, Tryz.ntmps9
          go_wp2_with fail
          refine HF.out.mono ?_
          rintro e w1 ⟨rfl, rfl⟩
          go_wp2_with fail
          refine HW.out.mono ?_
          rintro e w1 ⟨rfl, m, rfl⟩
          go_wp2_with fail
          refine (HNR.out _).mono ?_
          rintro e w1 ⟨rfl, m2, rfl⟩
          go_wp2_with fail
          go_ret2
          exact ⟨rfl, HT.out _⟩
        | false =>
          rw [hnr] at HNR
          obtain ⟨rm, hrm⟩ : ∃ rm, rm = x.cap - (x.e (!k)).bs.length := ⟨_, rfl⟩
          rw [← hrm] at HRM
          by_cases h0 : 0 < zs.length
          · have b0 : (0 : Int) < (zs.length : Int) := by omega
            by_cases h1 : rm = 0
            · have hq : x.write k zs = (0, 113, x) := by unfold Wi.write; rw [if_neg (by simp [hcan]), if_neg (by simp [hrs]), if_neg (by simp [hsh, hnr]), if_pos ⟨h0, by omega⟩]
              rw [hq]
              subst h1
              clear h hx hwr hring hz hsrc hcan hq hf hN hg hrg hrs hsh hnr hrm
              go_enter Tryz.func9, Tryz.ntmps9
              go_wp2_with fail
              refine HF.out.mono ?_
              rintro e w1 ⟨rfl, rfl⟩
              go_wp2_with fail
              refine HW.out.mono ?_
              rintro e w1 ⟨rfl, m, rfl⟩
              go_wp2_with fail
              refine (HNR.out _).mono ?_
              rintro e w1 ⟨rfl, m2, rfl⟩
              rw [World.drewN_drewN]
              go_wp2_with fail
              refine (HO.out _).mono ?_
              rintro e w1 ⟨rfl, m3, rfl⟩
              rw [World.drewN_drewN]
              go_wp2_with fail
              refine (HRM.out _).mono ?_
              rintro e w1 ⟨rfl, m4, rfl⟩
              rw [World.drewN_drewN]
              go_wp2_with fail
              go_ret2
              exact ⟨rfl, HT.out _⟩
            · have hq : x.write k zs = ((x.room (!k) zs.length : Int), 0, x.fill (!k) zs) := by unfold Wi.write; rw [if_neg (by simp [hcan]), if_neg (by simp [hrs]), if_neg (by simp [hsh, hnr]), if_neg (by omega)]
              rw [hq]
              have b1 : ¬ (rm : Int) = 0 := by omega
              have b2 : ((rm : Int) == 0) = false := by simpa using b1
              clear h hx hwr hring hz hsrc hcan hq hf hN hg hrg hrs hsh hnr hrm
              go_enter Tryz.func9, Tryz.ntmps9
              go_wp2_with fail
              refine HF.out.mono ?_
              rintro e w1 ⟨rfl, rfl⟩
              go_wp2_with fail
              refine HW.out.mono ?_
              rintro e w1 ⟨rfl, m, rfl⟩
              go_wp2_with fail
              refine (HNR.out _).mono ?_
              rintro e w1 ⟨rfl, m2, rfl⟩
              rw [World.drewN_drewN]
              go_wp2_with fail
              refine (HO.out _).mono ?_
              rintro e w1 ⟨rfl, m3, rfl⟩
              rw [World.drewN_drewN]
              go_wp2_with fail
              refine (HRM.out _).mono ?_
              rintro e w1 ⟨rfl, m4, rfl⟩
              rw [World.drewN_drewN]
              go_wp2_with fail
              refine (HO.out _).mono ?_
              rintro e w1 ⟨rfl, m5, rfl⟩
              rw [World.drewN_drewN]
              go_wp2_with fail
              refine (HFL.out _).mono ?_
              rintro e w2 ⟨rfl, F', hw2, hm2⟩
              have HE := Lib.hid (Turned.of_wire H.out.1 H.out.2.1 _ (HG.out ▸ hw2) (HG.out ▸ hm2) (Wi.fill_wait _ _ _))
              clear hw2 hm2
              go_wp2_with fail
              go_ret2
              exact ⟨rfl, HE.out⟩
          · have b0 : ¬ (0 : Int) < (zs.length : Int) := by omega
            have hq : x.write k zs = ((x.room (!k) zs.length : Int), 0, x.fill (!k) zs) := by unfold Wi.write; rw [if_neg (by simp [hcan]), if_neg (by simp [hrs]), if_neg (by simp [hsh, hnr]), if_neg (by omega)]
            rw [hq]
            clear h hx hwr hring hz hsrc hcan hq hf hN hg hrg hrs hsh hnr hrm
            go_enter Tryz.func9, Tryz.ntmps9
            go_wp2_with fail
            refine HF.out.mono ?_
            rintro e w1 ⟨rfl, rfl⟩
            go_wp2_with fail
            refine HW.out.mono ?_
            rintro e w1 ⟨rfl, m, rfl⟩
            go_wp2_with fail
            refine (HNR.out _).mono ?_
            rintro e w1 ⟨rfl, m2, rfl⟩
            rw [World.drewN_drewN]
            go_wp2_with fail
            refine (HO.out _).mono ?_
            rintro e w1 ⟨rfl, m5, rfl⟩
            rw [World.drewN_drewN]
            go_wp2_with fail
            refine (HFL.out _).mono ?_
            rintro e w2 ⟨rfl, F', hw2, hm2⟩
            have HE := Lib.hid (Turned.of_wire H.out.1 H.out.2.1 _ (HG.out ▸ hw2) (HG.out ▸ hm2) (Wi.fill_wait _ _ _))
            clear hw2 hm2
            go_wp2_with fail
            go_ret2
            exact ⟨rfl, HE.out⟩

/-- What Read answers. -/
def ReadOut (w : World) (B : Nat) (L : Lay) (S : Ws) (i : Nat) (r : List Int × Bool × Int × Wi) (e : Ending) (w' : World) : Prop := ∃ v, e = .returned (.tuple #[v, .bool r.2.1, .int .i64 r.2.2.1]) ∧ RowB w' w.heap.size v r.1 ∧ Turned0 w B L S i r.2.2.2 w'
theorem RowB.drewN {v : Value} {xs : List Int} (h : RowB w B v xs) (q : Nat) : RowB (w.drewN q) B v xs := h.same fun _ _ => rfl
set_option maxHeartbeats 4000000 in
theorem wRead_any (h : Wd w B L S) {n : Int} {i : Nat} {k : Bool} {x : Wi} (hf : S.fd n = some (i, k)) (hx : S.ws[i]? = some x) (m : Int) (hm : -9223372036854775808 ≤ m ∧ m ≤ 9223372036854775807) (hN : x.le 900000000) :
    Calls Tryz.prog 7 #[.pointer (some ⟨L.p, 0, none⟩), .int .i64 n, .int .i64 m] w (ReadOut w B L S i (x.read k m)) := by
  have hwr := h.wire i x hx
  have HF := Lib.hid (find_yes h hf)
  have HW := Lib.hid (canRead_any hwr.blk k)
  have HNW := Lib.hid (fun q => noWriter_any (hwr.blk.drewN q) k)
  have H := Lib.hid (And.intro h (And.intro hx hwr))
  have c0 := hwr.blk.c0 k
  have w15 := hwr.blk.w15
  have c4 := hwr.blk.c4 k
  have lg := hwr.blk.lt
  have HT := Lib.hid (fun (xs : List Int) (b : Bool) (c : Int) (q : Nat) (hxs : xs = []) => show ReadOut w B L S i (xs, b, c, x) (.returned (.tuple #[.slice none 0 0, .bool b, .int .i64 c])) (w.drewN q) from ⟨_, rfl, .inl ⟨rfl, hxs⟩, Turned0.none h hx q⟩)
  have hring := hwr.ring k
  have HDR := Lib.hid (fun (q : Nat) (hc : (x.e k).can = true) => drain_any (hwr.drewN_ q) k hc m hm hN)
  obtain ⟨g, hg⟩ : ∃ g, g = L.wa i := ⟨_, rfl⟩
  have HG := Lib.hid hg
  rw [← hg] at HF HW HNW c0 w15 c4 lg HDR
  cases hcan : (x.e k).can with
  | false =>
    have hq : x.read k m = ([], false, 111, x) := by unfold Wi.read; rw [if_pos hcan]
    rw [hq]
    rw [hcan] at HW
    clear h hx hwr hring hq hf hN hg hcan
    go_enter Tryz.func7, Tryz.ntmps7
    go_wp2_with fail
    refine HF.out.mono ?_
    rintro e w1 ⟨rfl, rfl⟩
    go_wp2_with fail
    refine HW.out.mono ?_
    rintro e w1 ⟨rfl, m0, rfl⟩
    go_wp2_with fail
    go_ret3
    exact HT.out _ _ _ _ rfl
  | true =>
    obtain ⟨out, hrg⟩ := hring hcan
    have HLN := Lib.hid (fun q => len_any (hrg.drewN q))
    rw [hcan] at HW
    rw [hcan, rp_yes] at c4
    replace HDR := Lib.hid (fun q => HDR.out q hcan)
    by_cases h1 : m < 1
    · have hq : x.read k m = ([], false, 2, x) := by unfold Wi.read; rw [if_neg (by simp [hcan]), if_pos h1]
      rw [hq]
      clear h hx hwr hring hq hf hN hg hcan hrg
      go_enter Tryz.func7, Tryz.ntmps7
      go_wp2_with fail
      refine HF.out.mono ?_
      rintro e w1 ⟨rfl, rfl⟩
      go_wp2_with fail
      refine HW.out.mono ?_
      rintro e w1 ⟨rfl, m0, rfl⟩
      go_wp2_with fail
      go_ret3
      exact HT.out _ _ _ _ rfl
    · cases hrs : x.reset with
      | true =>
        have hq : x.read k m = ([], false, 115, x) := by unfold Wi.read; rw [if_neg (by simp [hcan]), if_neg h1, if_pos hrs]
        rw [hq]
        rw [hrs] at w15
        clear h hx hwr hring hq hf hN hg hcan hrg hrs
        go_enter Tryz.func7, Tryz.ntmps7
        go_wp2_with fail
        refine HF.out.mono ?_
        rintro e w1 ⟨rfl, rfl⟩
        go_wp2_with fail
        refine HW.out.mono ?_
        rintro e w1 ⟨rfl, m0, rfl⟩
        go_wp2_with fail
        go_ret3
        exact HT.out _ _ _ _ rfl
      | false =>
        rw [hrs] at w15
        by_cases h2 : 0 < (x.e k).bs.length
        · have hq : x.read k m = ((x.e k).bs.take m.toNat, false, 0, x.drain k m.toNat) := by unfold Wi.read; rw [if_neg (by simp [hcan]), if_neg h1, if_neg (by simp [hrs]), if_pos h2]
          rw [hq]
          have b0 : (0 : Int) < ((x.e k).bs.length : Int) := by omega
          obtain ⟨ln, hln⟩ : ∃ ln, ln = (x.e k).bs.length := ⟨_, rfl⟩
          rw [← hln] at b0 HLN
          obtain ⟨xs, hxs⟩ : ∃ xs, xs = (x.e k).bs.take m.toNat := ⟨_, rfl⟩
          rw [← hxs]
          rw [← hxs] at HDR
          clear hxs
          clear h hx hwr hring hq hf hN hg hcan hrg hrs hln h2
          go_enter Tryz.func7, Tryz.ntmps7
          go_wp2_with fail
          refine HF.out.mono ?_
          rintro e w1 ⟨rfl, rfl⟩
          go_wp2_with fail
          refine HW.out.mono ?_
          rintro e w1 ⟨rfl, m0, rfl⟩
          go_wp2_with fail
          refine (HLN.out _).mono ?_
          rintro e w1 ⟨rfl, m2, rfl⟩
          rw [World.drewN_drewN]
          go_wp2_with fail
          refine (HDR.out _).mono ?_
          rintro e w2 ⟨u, F', rfl, hu, hw2, hm2, hm3⟩
          obtain ⟨A, hv, _⟩ := hu.form
          have HE := Lib.hid (And.intro hu (Turned0.of_wire H.out.1 H.out.2.1 _ (HG.out ▸ hw2) (HG.out ▸ hm2) (HG.out ▸ hm3) (Wi.drain_wait _ _ _)))
          subst hv
          clear hu hw2 hm2 hm3
          go_wp2_with fail
          go_ret3
          exact ⟨_, rfl, HE.out.1, HE.out.2⟩
        · have b0 : (x.e k).bs.length = 0 := by omega
          rw [b0] at HLN
          cases hnw : x.noWriter k with
          | true =>
            have hq : x.read k m = ([], true, 0, x) := by unfold Wi.read; rw [if_neg (by simp [hcan]), if_neg h1, if_neg (by simp [hrs]), if_neg h2, if_pos hnw]
            rw [hq]
            rw [hnw] at HNW
            clear h hx hwr hring hq hf hN hg hcan hrg hrs h2 b0 hnw
            go_enter Tryz.func7, Tryz.ntmps7
            go_wp2_with fail
            refine HF.out.mono ?_
            rintro e w1 ⟨rfl, rfl⟩
            go_wp2_with fail
            refine HW.out.mono ?_
            rintro e w1 ⟨rfl, m0, rfl⟩
            go_wp2_with fail
            refine (HLN.out _).mono ?_
            rintro e w1 ⟨rfl, m2, rfl⟩
            rw [World.drewN_drewN]
            go_wp2_with fail
            refine (HNW.out _).mono ?_
            rintro e w1 ⟨rfl, m3, rfl⟩
            rw [World.drewN_drewN]
            go_wp2_with fail
            go_ret3
            exact HT.out _ _ _ _ rfl
          | false =>
            have hq : x.read k m = ([], false, 113, x) := by unfold Wi.read; rw [if_neg (by simp [hcan]), if_neg h1, if_neg (by simp [hrs]), if_neg h2, if_neg (by simp [hnw])]
            rw [hq]
            rw [hnw] at HNW
            clear h hx hwr hring hq hf hN hg hcan hrg hrs h2 b0 hnw
            go_enter Tryz.func7, Tryz.ntmps7
            go_wp2_with fail
            refine HF.out.mono ?_
            rintro e w1 ⟨rfl, rfl⟩
            go_wp2_with fail
            refine HW.out.mono ?_
            rintro e w1 ⟨rfl, m0, rfl⟩
            go_wp2_with fail
            refine (HLN.out _).mono ?_
            rintro e w1 ⟨rfl, m2, rfl⟩
            rw [World.drewN_drewN]
            go_wp2_with fail
            refine (HNW.out _).mono ?_
            rintro e w1 ⟨rfl, m3, rfl⟩
            rw [World.drewN_drewN]
            go_wp2_with fail
            go_ret3
            exact HT.out _ _ _ _ rfl
end
end Go.Proofs.YtjejpgognfadoaaGreatDoor
