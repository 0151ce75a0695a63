/-
  What the laws share: each call by one contract; a slice of calls that came in; the chapter's first example.
-/
import Derived.Test.YtlkmmbondelheaaPrBatch
import Derived.Laws.StructEq
namespace Go.Proofs.Ytlkmmbondelheaa
open Go.RowKit Go.Maps Go.ChangeMaps Go.Shelf

def i64 (a : Int) : Prop := -9223372036854775808 ≤ a ∧ a ≤ 9223372036854775807
def putOk (many : Nat) (p k fl c : Int) : Bool := decide (0 ≤ p ∧ p < (many : Int) ∧ 0 ≤ k ∧ 0 ≤ fl ∧ 0 ≤ c)
def putE (many : Nat) (p k fl c : Int) : Int := if putOk many p k fl c then 0 else 2
def putS (many : Nat) (L : List It) (p k fl c : Int) (bk : Nat) : List It := if putOk many p k fl c then putL L p.toNat k fl c bk else L
def moveOk (many : Nat) (L : List It) (k p : Int) : Bool := hasI L k && decide (0 ≤ p ∧ p < (many : Int))
def moveE (many : Nat) (L : List It) (k p : Int) : Int := if moveOk many L k p then 0 else 2
def moveS (many : Nat) (L : List It) (k p : Int) : List It := if moveOk many L k p then moveL L k p.toNat else L
def zIt : It := ⟨0, 0, 0, 0, 0⟩
def hasX (L : List It) (k : Int) : It := (L.find? (·.id = k)).getD zIt
def listP (many : Nat) (L : List It) (p : Int) : List It := if 0 ≤ p ∧ p < (many : Int) then ofP L p.toNat else []

section
variable {w : World} {B h many : Nat} {Own : Nat → Prop} {L : List It}
theorem put_any (H : Qu w B h Own many L) (p k fl c : Int) (hp : i64 p) (hk : i64 k) (hf : i64 fl) (hc : i64 c) (hl : L.length < 100000) :
    Calls Try.prog 10 #[.pointer (some ⟨h, 0, none⟩), .int .i64 p, .int .i64 k, .int .i64 fl, .int .i64 c] w fun e w' =>
      e = .returned (.int .i64 (putE many p k fl c)) ∧ ∃ bk Own', Qu w' B h Own' many (putS many L p k fl c bk) ∧ Mv w w' Own Own' := by
  unfold putE putS
  by_cases ho : putOk many p k fl c = true
  · rw [ho]
    unfold putOk at ho
    simp at ho
    obtain ⟨h0, h1, h2, h3, h4⟩ := ho
    have e : ((p.toNat : Nat) : Int) = p := by omega
    have := put_yes H p.toNat k fl c (by omega) h2 hk.2 h3 hf.2 h4 hc.2 hl
    rw [e] at this
    exact this
  · have ho' : putOk many p k fl c = false := by simpa using ho
    rw [ho']
    unfold putOk at ho'
    simp at ho'
    refine (put_bad H p k fl c (by omega)).mono ?_
    rintro e w' ⟨rfl, rfl⟩
    exact ⟨rfl, 0, Own, H, Mv.of_kept (Kept.refl _ _)⟩
theorem cut_any (H : Qu w B h Own many L) {k : Int} (hk : i64 k) : Calls Try.prog 12 #[.pointer (some ⟨h, 0, none⟩), .int .i64 k] w fun e w' =>
    e = .returned (.bool (hasI L k)) ∧ ∃ Own', Qu w' B h Own' many (cutL L k) ∧ Mv w w' Own Own' := by
  cases hh : hasI L k with
  | true => exact cut_yes H hh
  | false =>
    rw [cut_none hh]
    refine (cut_no H hk hh).mono ?_
    rintro e w' ⟨rfl, rfl⟩
    exact ⟨rfl, Own, H, Mv.of_kept (Kept.refl _ _)⟩
theorem move_any (H : Qu w B h Own many L) {k p : Int} (hk : i64 k) : Calls Try.prog 14 #[.pointer (some ⟨h, 0, none⟩), .int .i64 k, .int .i64 p] w fun e w' =>
    e = .returned (.int .i64 (moveE many L k p)) ∧ ∃ Own', Qu w' B h Own' many (moveS many L k p) ∧ Mv w w' Own Own' := by
  unfold moveE moveS
  by_cases ho : moveOk many L k p = true
  · rw [ho]
    unfold moveOk at ho
    simp at ho
    obtain ⟨h0, h1, h2⟩ := ho
    have e : ((p.toNat : Nat) : Int) = p := by omega
    have := move_yes (p := p.toNat) H h0 (by omega)
    rw [e] at this
    exact this
  · have ho' : moveOk many L k p = false := by simpa using ho
    rw [ho']
    have hb : hasI L k = false ∨ (p < 0 ∨ (many : Int) ≤ p) := by
      unfold moveOk at ho'
      cases hh : hasI L k with
      | false => exact .inl rfl
      | true => rw [hh] at ho'; simp at ho'; exact .inr (by omega)
    refine (move_bad H hk hb).mono ?_
    rintro e w' ⟨rfl, rfl⟩
    exact ⟨rfl, Own, H, Mv.of_kept (Kept.refl _ _)⟩
theorem hasX_mem {k : Int} (h : hasI L k = true) : hasX L k ∈ L ∧ (hasX L k).id = k := by
  obtain ⟨x, hx, e⟩ := hasI_iff.1 h
  cases hf : L.find? (·.id = k) with
  | none => rw [List.find?_eq_none] at hf; exact absurd e (by simpa using hf x hx)
  | some y => unfold hasX; rw [hf]; exact ⟨List.mem_of_find?_eq_some hf, by simpa using List.find?_some hf⟩
theorem hasX_none {k : Int} (h : hasI L k = false) : hasX L k = zIt := by unfold hasX; rw [find_none h]; rfl
theorem has_any (H : Qu w B h Own many L) {k : Int} (hk : i64 k) : Calls Try.prog 19 #[.pointer (some ⟨h, 0, none⟩), .int .i64 k] w fun e w' =>
    e = .returned (.tuple #[.agg #[.int .i64 (hasX L k).id, .int .i64 (hasX L k).fl, .int .i64 (hasX L k).ct], .int .i64 ((hasX L k).pr : Int), .bool (hasI L k)]) ∧ Below w.heap.size w w' := by
  cases hh : hasI L k with
  | true =>
    obtain ⟨h1, h2⟩ := hasX_mem hh
    have := has_some H h1
    rw [h2] at this ⊢
    exact this
  | false =>
    rw [hasX_none hh]
    exact has_none H hk hh
theorem list_any (H : Qu w B h Own many L) (p : Int) : Calls Try.prog 25 #[.pointer (some ⟨h, 0, none⟩), .int .i64 p] w (Listed w (listP many L p)) := by
  unfold listP
  by_cases hp : 0 ≤ p ∧ p < (many : Int)
  · rw [if_pos hp]
    have e : ((p.toNat : Nat) : Int) = p := by omega
    have := list_yes H p.toNat (by omega)
    rw [e] at this
    exact this
  · rw [if_neg hp]
    refine (list_no H p (by omega)).mono ?_
    rintro e w' ⟨rfl, rfl⟩
    exact ⟨_, rfl, World.ownsRow_nil _ _ _ _, Below.refl _ _⟩
end

/-- A call of the law. -/
structure Cal where
  k : Int
  pr : Int
  id : Int
  fl : Int
  ct : Int
structure Cal.Ok (x : Cal) : Prop where
  k : i64 x.k
  pr : i64 x.pr
  id : i64 x.id
  fl : i64 x.fl
  ct : i64 x.ct
/-- A slice of calls that came in. -/
def ArgOps (w : World) (A : Option Addr) (l : List Cal) : Prop :=
  (∀ x ∈ l, x.Ok) ∧ (0 < l.length → ∃ b off, A = some ⟨b, off, none⟩ ∧ b < w.heap.size ∧
    ∀ i x, l[i]? = some x → w.cell? ⟨b, off + i * 5, none⟩ = some (.int .i64 x.k) ∧ w.cell? ⟨b, off + i * 5 + 1, none⟩ = some (.int .i64 x.pr) ∧ w.cell? ⟨b, off + i * 5 + 2, none⟩ = some (.int .i64 x.id) ∧
      w.cell? ⟨b, off + i * 5 + 3, none⟩ = some (.int .i64 x.fl) ∧ w.cell? ⟨b, off + i * 5 + 4, none⟩ = some (.int .i64 x.ct))
theorem ArgOps.below {w w' : World} {A : Option Addr} {l : List Cal} (h : ArgOps w A l) (hb : Below w.heap.size w w') : ArgOps w' A l := by
  refine ⟨h.1, fun h0 => ?_⟩
  obtain ⟨b, off, e, hlt, hc⟩ := h.2 h0
  refine ⟨b, off, e, Nat.lt_of_lt_of_le hlt hb.size, fun i x hx => ?_⟩
  obtain ⟨a0, a1, a2, a3, a4⟩ := hc i x hx
  exact ⟨(hb.cell (p := ⟨b, _, none⟩) hlt).trans a0, (hb.cell (p := ⟨b, _, none⟩) hlt).trans a1, (hb.cell (p := ⟨b, _, none⟩) hlt).trans a2, (hb.cell (p := ⟨b, _, none⟩) hlt).trans a3, (hb.cell (p := ⟨b, _, none⟩) hlt).trans a4⟩

section
variable {w w1 w2 : World} {B h many : Nat} {Own Own' : Nat → Prop} {L : List It}
theorem law_step (H : Qu w1 B h Own many L) (hb : Below B w w1) (m : Mv w1 w2 Own Own') : Below B w w2 := hb.trans (m.below (fun _ e => (H.lt e).2) H.base)
theorem law_quiet (H : Qu w1 B h Own many L) (hb : Below B w w1) (m : Below w1.heap.size w1 w2) : Below B w w2 := hb.trans (m.mono H.base)
theorem Qu.i64 (H : Qu w1 B h Own many L) {x : It} (hx : x ∈ L) : x.Ok many := H.facts.2.1 x hx
end

theorem bor02 : bor 0 2 = 2 := by decide +kernel
theorem bor01 : bor 0 1 = 1 := by decide +kernel
theorem bor24 : bor 2 4 = 6 := by decide +kernel

theorem put1 (a : Nat) : putS 3 [] 2 7 2 0 a = [⟨7, 2, 0, 2, a⟩] := by simp [putS, putOk, putL, hasI, upIt, addC, bor02] <;> omega
theorem put2 (a b : Nat) : putS 3 [⟨7, 2, 0, 2, a⟩] 0 5 1 0 b = [⟨7, 2, 0, 2, a⟩, ⟨5, 1, 0, 0, b⟩] := by simp [putS, putOk, putL, hasI, upIt, addC, bor01] <;> omega
theorem put3 (a b c : Nat) : putS 3 [⟨7, 2, 0, 2, a⟩, ⟨5, 1, 0, 0, b⟩] 1 7 4 0 c = [⟨7, 6, 0, 2, a⟩, ⟨5, 1, 0, 0, b⟩] := by simp [putS, putOk, putL, hasI, upIt, addC, bor24] <;> omega

set_option maxRecDepth 100000 in
set_option maxHeartbeats 4000000 in
theorem alive_any (w : World) : Calls Try.prog 27 #[] w fun e w' => e = .returned (.bool true) ∧ Below w.heap.size w w' := by
  go_enter Try.func27, Try.ntmps27
  go_wp2_with fail
  refine (new_yes w 3 (by decide) (by decide)).mono ?_
  rintro e w1 ⟨h, Own, rfl, hQ, hb, hl⟩
  have H1 := Lib.hid (And.intro hQ hb)
  clear hQ hb
  go_wp2_with fail
  refine (put_any H1.out.1 2 7 2 0 (by unfold i64; omega) (by unfold i64; omega) (by unfold i64; omega) (by unfold i64; omega) (by simp)).mono ?_
  rintro e w2 ⟨rfl, bk1, Own2, hQ, hm⟩
  rw [put1] at hQ
  have H2 := Lib.hid (And.intro hQ (law_step H1.out.1 H1.out.2 hm))
  clear hQ hm
  go_wp2_with fail
  refine (put_any H2.out.1 0 5 1 0 (by unfold i64; omega) (by unfold i64; omega) (by unfold i64; omega) (by unfold i64; omega) (by simp)).mono ?_
  rintro e w3 ⟨rfl, bk2, Own3, hQ, hm⟩
  rw [put2] at hQ
  have H3 := Lib.hid (And.intro hQ (law_step H2.out.1 H2.out.2 hm))
  clear hQ hm
  go_wp2_with fail
  refine (put_any H3.out.1 1 7 4 0 (by unfold i64; omega) (by unfold i64; omega) (by unfold i64; omega) (by unfold i64; omega) (by simp)).mono ?_
  rintro e w4 ⟨rfl, bk3, Own4, hQ, hm⟩
  rw [put3] at hQ
  have H4 := Lib.hid (And.intro hQ (law_step H3.out.1 H3.out.2 hm))
  clear hQ hm
  go_wp2_with fail
  refine (has_some H4.out.1 (x := ⟨7, 6, 0, 2, bk1⟩) (by simp)).mono ?_
  rintro e w5 ⟨rfl, hb5⟩
  have hQ5 := (H4.out.1.below hb5).alloc (.cells #[.int .i64 7, .int .i64 6, .int .i64 0] 44)
  have hb6 := (law_quiet H4.out.1 H4.out.2 hb5).alloc (by have := H4.out.2.size; have := hb5.size; omega) (.cells #[.int .i64 7, .int .i64 6, .int .i64 0] 44)
  have hL := Lib.hid (least_any hQ5)
  have HB := Lib.hid (And.intro hQ5 hb6)
  clear hQ5 hb6 hb5
  go_wp2_with (go_at_call 22; refine hL.out.mono ?_; rintro e w' ⟨rfl, hb7⟩; have HB7 := Lib.hid hb7; clear hb7)
  go_ret
  exact ⟨rfl, law_quiet HB.out.1 HB.out.2 HB7.out⟩
end Go.Proofs.Ytlkmmbondelheaa
