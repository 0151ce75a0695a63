/-
  A script in memory: the steps that are left, the order of the last one.
-/
import Derived.Test.YtlephnfepofbbaaGreatDoorMsClo2
import Derived.Test.YtlephnfepofbbaaGreatDoorMtBase
namespace Go.Proofs.YtlephnfepofbbaaGreatDoor
open Go.RowKit Go.Shelf Go.Maps Go.ChangeMaps

theorem RwsD.same {N : Nat} {D : Nat → Prop} {ov mvv dv : Value} {ord : List Int} {ms : List Mo} {b : List UInt8} {W W' : World} (h : RwsD N D ov mvv dv ord ms b W) (k : ∀ b, D b → W'.heap[b]? = W.heap[b]?) : RwsD N D ov mvv dv ord ms b W' := h.keep fun i _ _ _ hi _ _ => k i hi
/-- Steps that are left: a row from a place on. -/
structure Lf (D : Nat → Prop) (W : World) (lv : Value) (ps : List Ss) : Prop where
  ex : ∃ A c, lv = .slice A ps.length c ∧ ps.length ≤ c ∧ c ≤ 9223372036854775807 ∧ (A = none → c = 0) ∧ (0 < ps.length → ∃ g off cs, A = some ⟨g, off, none⟩ ∧ D g ∧ Blk W g 36 cs ∧ RT.lies W g off ps)
  rows : ∀ p ∈ ps, RwsD 0 D p.o p.m (.slice none 0 0) p.x.ord p.x.mv [] W
theorem Lf.same {D : Nat → Prop} {W W' : World} {lv : Value} {ps : List Ss} (h : Lf D W lv ps) (k : ∀ b, D b → W'.heap[b]? = W.heap[b]?) : Lf D W' lv ps := by
  obtain ⟨⟨A, c, h1, h2, h3, h4, h5⟩, h6⟩ := h
  exact ⟨⟨A, c, h1, h2, h3, h4, fun h0 => by
    obtain ⟨g, off, cs, a1, a2, a3, a4⟩ := h5 h0
    exact ⟨g, off, cs, a1, a2, a3.same (k g a2), RowK.lies_same a4 (k g a2)⟩⟩, fun p hp => (h6 p hp).same k⟩
/-- What New made. -/
def Sk (D : Nat → Prop) (kb : Nat) (W : World) (l : List St) (o : List Int) : Prop := ∃ lv ov ps, Blk W kb 86 #[lv, ov] ∧ D kb ∧ Lf D W lv ps ∧ ps.map Ss.x = l ∧ RIn.own W 0 ov o ∧ OwnD D ov
theorem Sk.same {D : Nat → Prop} {kb : Nat} {W W' : World} {l : List St} {o : List Int} (h : Sk D kb W l o) (k : ∀ b, D b → W'.heap[b]? = W.heap[b]?) : Sk D kb W' l o := by
  obtain ⟨lv, ov, ps, h1, h2, h3, h4, h5, h6⟩ := h
  exact ⟨lv, ov, ps, h1.same (k kb h2), h2, h3.same k, h4, RowK.own_same h5 fun b e => k b (h6 b e), h6⟩
/-- A script: New's. -/
def Sc (D : Nat → Prop) (sb : Nat) (W : World) (l : List St) (o : List Int) : Prop := ∃ kb, Blk W sb 88 #[.pointer (some ⟨kb, 0, none⟩)] ∧ D sb ∧ Sk D kb W l o
theorem Sc.same {D : Nat → Prop} {sb : Nat} {W W' : World} {l : List St} {o : List Int} (h : Sc D sb W l o) (k : ∀ b, D b → W'.heap[b]? = W.heap[b]?) : Sc D sb W' l o := by
  obtain ⟨kb, h1, h2, h3⟩ := h
  exact ⟨kb, h1.same (k sb h2), h2, h3.same k⟩
/-- The head's cells. -/
theorem Sk.head {D : Nat → Prop} {kb : Nat} {W : World} {x : St} {r : List St} {o : List Int} (h : Sk D kb W (x :: r) o) : ∃ (g off c : Nat) (cs : Array Value) (ov : Value) (A B : Option Addr) (a b : Nat) (ps : List Ss),
    Blk W kb 86 #[.slice (some ⟨g, off, none⟩) (r.length + 1) c, ov] ∧ r.length + 1 ≤ c ∧ c ≤ 9223372036854775807 ∧ D kb ∧ D g ∧ Blk W g 36 cs ∧ ps.map Ss.x = r ∧
    (W.cell? ⟨g, off, none⟩ = some (.int .u64 (x.t : Int)) ∧ W.cell? ⟨g, off + 1, none⟩ = some (.bool x.intr) ∧ W.cell? ⟨g, off + 2, none⟩ = some (.slice A x.ord.length a) ∧ W.cell? ⟨g, off + 3, none⟩ = some (.slice B x.mv.length b)) ∧
    RwsD 0 D (.slice A x.ord.length a) (.slice B x.mv.length b) (.slice none 0 0) x.ord x.mv [] W ∧ RT.lies W g (off + 4) ps ∧ (∀ p ∈ ps, RwsD 0 D p.o p.m (.slice none 0 0) p.x.ord p.x.mv [] W) ∧ RIn.own W 0 ov o ∧ OwnD D ov := by
  obtain ⟨lv, ov, ps, h1, h2, ⟨⟨A, c, rfl, a1, a2, a3, a4⟩, h3⟩, h4, h5, h6⟩ := h
  cases ps with
  | nil => cases h4
  | cons p ps =>
    have e1 : p.x = x := by injection h4
    have e2 : ps.map Ss.x = r := by injection h4
    obtain ⟨g, off, cs, rfl, b1, b2, b3⟩ := a4 (by simp)
    subst e1
    have hl : (p :: ps).length = r.length + 1 := by rw [← e2]; simp
    rw [hl] at h1 a1
    have c0 := b3 0 p rfl 0 (by decide)
    have c1 := b3 0 p rfl 1 (by decide)
    have c2 := b3 0 p rfl 2 (by decide)
    have c3 := b3 0 p rfl 3 (by decide)
    refine ⟨g, off, c, cs, ov, p.A, p.B, p.a, p.b, ps, h1, a1, a2, h2, b1, b2, e2, ⟨?_, ?_, ?_, ?_⟩, h3 p (by simp), ?_, fun q hq => h3 q (by simp [hq]), h5, h6⟩
    · exact c0
    · exact c1
    · exact c2
    · exact c3
    · exact RowK.lies_drop b3 1
theorem Sk.nil {D : Nat → Prop} {kb : Nat} {W : World} {o : List Int} (h : Sk D kb W [] o) : ∃ (A : Option Addr) (c : Nat) (ov : Value), Blk W kb 86 #[.slice A 0 c, ov] := by
  obtain ⟨lv, ov, ps, h1, h2, ⟨⟨A, c, rfl, a1, a2, a3, a4⟩, h3⟩, h4, h5, h6⟩ := h
  obtain rfl : ps = [] := List.map_eq_nil_iff.1 h4
  exact ⟨A, c, ov, h1⟩
theorem Sk.any {D : Nat → Prop} {kb : Nat} {W : World} {l : List St} {o : List Int} (h : Sk D kb W l o) : ∃ (A : Option Addr) (c : Nat) (ov : Value), Blk W kb 86 #[.slice A l.length c, ov] := by
  obtain ⟨lv, ov, ps, h1, h2, ⟨⟨A, c, rfl, a1, a2, a3, a4⟩, h3⟩, h4, h5, h6⟩ := h
  refine ⟨A, c, ov, ?_⟩
  rw [← h4, List.length_map]; exact h1
def wi (l : List St) (n : Nat) : Bool := match l with
  | [] => false
  | x :: _ => decide (x.t ≤ n)
theorem within_any {D : Nat → Prop} {kb : Nat} {W : World} {l : List St} {o : List Int} (h : Sk D kb W l o) (n : Nat) : Calls Tryz.prog 84 #[.pointer (some ⟨kb, 0, none⟩), .int .u64 (n : Int)] W fun e w' => e = .returned (.bool (wi l n)) ∧ W = w' := by
  cases l with
  | nil =>
    obtain ⟨A, c, ov, hb⟩ := h.nil
    have c0 : W.cell? ⟨kb, 0, none⟩ = some (.slice A 0 c) := hb.cell 0
    clear h hb
    go_enter Tryz.func84, Tryz.ntmps84
    go_wp2_with fail
    go_ret
    exact ⟨rfl, rfl⟩
  | cons x r =>
    obtain ⟨g, off, c, cs, ov, A, B, a, b, ps, hb, h1, h2, h3, h4, h5, h6, ⟨k0, k1, k2, k3⟩, _⟩ := h.head
    have c0 : W.cell? ⟨kb, 0, none⟩ = some (.slice (some ⟨g, off, none⟩) (r.length + 1) c) := hb.cell 0
    have hr : (0 : Int) < (r.length : Int) + 1 := by omega
    have hr2 : 0 < r.length + 1 := by omega
    clear h hb h1 h2 h3 h4 h5 h6 k1 k2 k3
    go_enter Tryz.func84, Tryz.ntmps84
    go_wp2_with fail
    go_ret
    exact ⟨rfl, rfl⟩
theorem due_any {D : Nat → Prop} {kb : Nat} {W : World} {l : List St} {o : List Int} (h : Sk D kb W l o) : Calls Tryz.prog 82 #[.pointer (some ⟨kb, 0, none⟩)] W fun e w' => e = .returned (.bool (wi l 0)) ∧ W = w' := by
  have HI := Lib.hid (within_any h 0)
  clear h
  go_enter Tryz.func82, Tryz.ntmps82
  go_wp2_with (go_at_call 84; refine HI.out.mono ?_; rintro e w' ⟨rfl, rfl⟩)
  go_ret
  exact ⟨rfl, rfl⟩
end Go.Proofs.YtlephnfepofbbaaGreatDoor
