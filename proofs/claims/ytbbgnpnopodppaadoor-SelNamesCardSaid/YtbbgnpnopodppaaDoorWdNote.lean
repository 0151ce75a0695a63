/-
  What lets the notice be as the signals are.
-/
import Derived.Test.YtbbgnpnopodppaaDoorWdConn
import Derived.Test.YtbbgnpnopodppaaDoorSeBase
import Derived.Defers
import Derived.LaidEqlPtr
namespace Go.Proofs.YtbbgnpnopodppaaDoor
open Go.RowKit Go.Shelf Go.Maps Go.ChangeMaps

attribute [local go_sem] Oper.semAt_some

/-- What a world comes to behind a call that concerns signals. -/
def Ws.note (s : Ws) : Ws := match s.nt with
  | none => s
  | some (i, k) => match s.ws[i]? with
    | none => s
    | some x => if s.sg.sum = 0 then s.setW i (x.drain k (x.e k).bs.length) else if (x.e k).bs.length = 0 then s.setW i (x.fill k [1]) else s
theorem Ws.note_none {s : Ws} (h : s.nt = none) : s.note = s := by unfold Ws.note; rw [h]
theorem Ws.note_some {s : Ws} {i : Nat} {k : Bool} {x : Wi} (h : s.nt = some (i, k)) (hx : s.ws[i]? = some x) : s.note = if s.sg.sum = 0 then s.setW i (x.drain k (x.e k).bs.length) else if (x.e k).bs.length = 0 then s.setW i (x.fill k [1]) else s := by
  unfold Ws.note; rw [h]; simp only [hx]
/-- The notice's end can read. -/
def Ws.ntc (s : Ws) : Prop := ∀ i k x, s.nt = some (i, k) → s.ws[i]? = some x → (x.e k).can = true
def Noted (w : World) (B : Nat) (L : Lay) (S S' : Ws) (w' : World) : Prop := ∃ L', Wd w' B L' S' ∧ L.ext L' S.ws.length ∧ Mv w w' L.F L'.F

theorem infoEnd : (Tryd.prog.info? 54).map (fun i => i.size) = some 7 := by kernel_rfl
theorem neq_end (w : World) (a : Addr) : (binOp .neq 39 (.pointer (some a)) (.pointer (some a))).run Tryd.prog w = .ok (.bool false) w := by
  have hi := infoEnd
  cases hte : Tryd.prog.info? 54 with
  | none => rw [hte] at hi; simp at hi
  | some j =>
    have h : ∀ d : Nat, (Op.equalIn (d + 1) 39 (.pointer (some a)) (.pointer (some a))).run Tryd.prog w = .ok true w := fun d => by
      simp [Op.equalIn, run_underlying Tryd.underlying39, sizeOf, typeInfo, hte, run_sameAddr_same]
    simp only [binOp]
    simp [Op.equal, Op.maxDepth, h 9999]
section
variable {w w' : World} {B : Nat} {L : Lay} {S : Ws}
theorem Mv.of_below {F : Nat → Prop} (hb : Below w.heap.size w w') : Mv w w' F F := ⟨Kept.of_below hb, fun _ e => .inl e⟩
/-- The signals' block alone turned. -/
theorem Wd.turnS (h : Wd w B L S) {t : T} (q : Kept (fun b => b = L.sb) w w') (ht : Tb w' L.sb t) : Wd w' B L { S with sg := t } := by
  have hs := q.size
  have e : ∀ b t, L.own b = some t → t ≠ .sig → w'.heap[b]? = w.heap[b]? := fun b t hb ht => q.block b (h.lt b t hb).2 (fun e => by subst e; rw [h.osig] at hb; cases hb; exact ht rfl)
  exact ⟨h.top.same (e _ _ h.otop (fun e => by cases e)), h.kept.same (e _ _ h.okept (fun e => by cases e)), ht, RowK.own_same h.row (fun k hk => e _ _ (h.orow k hk) (fun e => by cases e)),
    fun i x hx => (h.wire i x hx).same (fun b hb => by
      rcases hb with rfl | ⟨k, hk⟩
      · exact e _ _ (h.owire i (List.getElem?_eq_some_iff.1 hx).1) (fun e => by cases e)
      · exact e b _ hk (fun e => by cases e)) (Nat.le_trans h.hs hs),
    fun i x hx => (h.wait i x hx).same (fun b hb => e b _ hb (fun e => by cases e)) hs,
    h.otop, h.okept, h.osig, h.orow, h.owire, fun b t hb => ⟨(h.lt b t hb).1, Nat.lt_of_lt_of_le (h.lt b t hb).2 hs⟩, Nat.le_trans h.hs hs, h.fdok, h.ntok, h.wtok, h.oi⟩
theorem Wd.mvS (h : Wd w B L S) (q : Kept (fun b => b = L.sb) w w') : Mv w w' L.F L.F := ⟨q.mono fun _ _ e => e ▸ ⟨_, h.osig⟩, fun _ e => .inl e⟩
def Ws.sig (s : Ws) (t : T) : Ws := { s with sg := t }

end
end Go.Proofs.YtbbgnpnopodppaaDoor
