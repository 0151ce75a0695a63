/-
  New; Write and Read.
-/
import Derived.Test.YtbbgnpnopodppaaDoorWdBoth
namespace Go.Proofs.YtbbgnpnopodppaaDoor
open Go.RowKit Go.Maps Go.ChangeMaps
open Classical

def Ws.new : Ws := ⟨0, [], fun _ => none, T.new, none⟩
theorem Ws.setW_id {s : Ws} {i : Nat} {x : Wi} (h : s.ws[i]? = some x) : s.setW i x = s := by
  unfold Ws.setW
  have : s.ws.set i x = s.ws := by
    apply List.ext_getElem?
    intro j
    rw [List.getElem?_set]
    split
    · rename_i e; subst e
      rw [if_pos (List.getElem?_eq_some_iff.1 h).1, h]
    · rfl
  rw [this]
def Wi.write (x : Wi) (k : Bool) (zs : List Int) : Int × Int × Wi :=
  if (x.e (!k)).can = false then (0, 111, x) else if x.reset = true then (0, 115, x) else if (x.e k).shut = true ∨ x.noReader k = true then (0, 114, x)
  else if 0 < zs.length ∧ x.cap - (x.e (!k)).bs.length = 0 then (0, 113, x) else (x.room (!k) zs.length, 0, x.fill (!k) zs)
/-- What is read, whether it is the end, the error; and the wire then. -/
def Wi.read (x : Wi) (k : Bool) (m : Int) : List Int × Bool × Int × Wi :=
  if (x.e k).can = false then ([], false, 111, x) else if m < 1 then ([], false, 2, x) else if x.reset = true then ([], false, 115, x)
  else if 0 < (x.e k).bs.length then ((x.e k).bs.take m.toNat, false, 0, x.drain k m.toNat) else if x.noWriter k = true then ([], true, 0, x) else ([], false, 113, x)

section
variable {w w' : World} {B : Nat} {L : Lay} {S : Ws}
/-- A wire of a world turned, or not. -/
def Turned (w : World) (B : Nat) (L : Lay) (S : Ws) (i : Nat) (y : Wi) (w' : World) : Prop := ∃ L', Wd w' B L' (S.setW i y) ∧ L.ext L' S.ws.length ∧ Mv w w' L.F L'.F
theorem Turned.none (h : Wd w B L S) {i : Nat} {x : Wi} (hx : S.ws[i]? = some x) (q : Nat) : Turned w B L S i x (w.drewN q) := ⟨L, by rw [Ws.setW_id hx]; exact h.drewN q, Lay.ext.refl _ _, ⟨(Kept.refl _ w).drewN q, fun _ e => .inl e⟩⟩
theorem Turned.of_wire (h : Wd w B L S) {i : Nat} {x y : Wi} (hx : S.ws[i]? = some x) (q : Nat) {F' : Bool → Nat → Prop} (hw : Wr w' B (L.wa i) i (L.rr i) F' (L.wt i) y) (m : Mv (w.drewN q) w' (FW (L.wa i) (L.G i)) (FW (L.wa i) F')) (hwt : y.wait = x.wait) : Turned w B L S i y w' := by
  obtain ⟨L', h1, h2, h3, _⟩ := (h.drewN q).wire1 hx hw m hwt
  exact ⟨L', h1, h2, ⟨((Kept.refl L.F w).drewN q).trans h3.k, h3.o⟩⟩
/-- .. without a block more. -/
def Turned0 (w : World) (B : Nat) (L : Lay) (S : Ws) (i : Nat) (y : Wi) (w' : World) : Prop := ∃ L', Wd w' B L' (S.setW i y) ∧ L.ext L' S.ws.length ∧ Mv w w' L.F L'.F ∧ ∀ b, L'.F b → L.F b
theorem Turned0.none (h : Wd w B L S) {i : Nat} {x : Wi} (hx : S.ws[i]? = some x) (q : Nat) : Turned0 w B L S i x (w.drewN q) := ⟨L, by rw [Ws.setW_id hx]; exact h.drewN q, Lay.ext.refl _ _, ⟨(Kept.refl _ w).drewN q, fun _ e => .inl e⟩, fun _ e => e⟩
theorem Turned0.of_wire (h : Wd w B L S) {i : Nat} {x y : Wi} (hx : S.ws[i]? = some x) (q : Nat) {F' : Bool → Nat → Prop} (hw : Wr w' B (L.wa i) i (L.rr i) F' (L.wt i) y) (m : Mv (w.drewN q) w' (FW (L.wa i) (L.G i)) (FW (L.wa i) F')) (h0 : ∀ b, FW (L.wa i) F' b → FW (L.wa i) (L.G i) b) (hwt : y.wait = x.wait) : Turned0 w B L S i y w' := by
  obtain ⟨L', h1, h2, h3, h4⟩ := (h.drewN q).wire1 hx hw m hwt
  have hi := (List.getElem?_eq_some_iff.1 hx).1
  refine ⟨L', h1, h2, ⟨((Kept.refl L.F w).drewN q).trans h3.k, h3.o⟩, fun b hb => ?_⟩
  rcases h4 b hb with h5 | h5
  · exact h5
  · rcases h0 b h5 with rfl | ⟨k, hk⟩
    · exact ⟨_, h.owire i hi⟩
    · exact ⟨_, hk⟩
theorem Wi.fill_wait (x : Wi) (k : Bool) (zs : List Int) : (x.fill k zs).wait = x.wait := by
  unfold Wi.fill Wi.rdRise
  repeat' split
  all_goals rfl
theorem Wi.drain_wait (x : Wi) (k : Bool) (n : Nat) : (x.drain k n).wait = x.wait := by
  unfold Wi.drain Wi.wrRise
  repeat' split
  all_goals rfl
theorem Wd.FWF (h : Wd w B L S) {i : Nat} (hi : i < S.ws.length) {b : Nat} (hb : FW (L.wa i) (L.G i) b) : L.F b := by
  rcases hb with rfl | ⟨k, hk⟩
  · exact ⟨_, h.owire i hi⟩
  · exact ⟨_, hk⟩
theorem Src.less {F G : Nat → Prop} {v : Value} {zs : List Int} (h : Src w F v zs) (hG : ∀ b, G b → F b) : Src w G v zs := by
  obtain ⟨A, c, h1, h2, h3, h4⟩ := h
  exact ⟨A, c, h1, h2, h3, fun h0 => by obtain ⟨b, o, e1, e2, e3, e4⟩ := h4 h0; exact ⟨b, o, e1, e2, fun e => e3 (hG b e), e4⟩⟩

theorem Src.drewN {F : Nat → Prop} {v : Value} {zs : List Int} (h : Src w F v zs) (q : Nat) : Src (w.drewN q) F v zs := h

/-- What Read answers. -/
def ReadOut (w : World) (B : Nat) (L : Lay) (S : Ws) (i : Nat) (r : List Int × Bool × Int × Wi) (e : Ending) (w' : World) : Prop := ∃ v, e = .returned (.tuple #[v, .bool r.2.1, .int .i64 r.2.2.1]) ∧ RowB w' w.heap.size v r.1 ∧ Turned0 w B L S i r.2.2.2 w'
theorem RowB.drewN {v : Value} {xs : List Int} (h : RowB w B v xs) (q : Nat) : RowB (w.drewN q) B v xs := h.same fun _ _ => rfl
end
end Go.Proofs.YtbbgnpnopodppaaDoor
