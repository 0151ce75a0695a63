/-
  Notice, of any numbers.
-/
import Derived.Test.YtbbgnpnopodppaaDoorKwClose
import Derived.Defers
import Derived.LaidEqlPtr
namespace Go.Proofs.YtbbgnpnopodppaaDoor
open Go.RowKit Go.Shelf Go.Maps Go.ChangeMaps

attribute [local go_sem] Oper.semAt_some

theorem neq_ends {w : World} {a b : Addr} {ca cb : Array Value} {ta tb : TypeId} (hne : a ≠ b) (ha : Blk w a.block ta ca) (hb : Blk w b.block tb cb) : (binOp .neq 39 (.pointer (some a)) (.pointer (some b))).run Tryd.prog w = .ok (.bool true) w := by
  have hi := infoEnd
  cases hte : Tryd.prog.info? 54 with
  | none => rw [hte] at hi; simp at hi
  | some j =>
    have hsz : j.size ≠ 0 := by rw [hte] at hi; simp at hi; omega
    have h : ∀ d : Nat, (Op.equalIn (d + 1) 39 (.pointer (some a)) (.pointer (some b))).run Tryd.prog w = .ok false w := fun d => by
      simp [Op.equalIn, run_underlying Tryd.underlying39, sizeOf, typeInfo, hte, hsz, run_sameAddr_other w hne ha hb]
    simp only [binOp]
    simp [Op.equal, Op.maxDepth, h 9999]
section
variable {w w' : World} {B : Nat} {L : Lay} {S : Ws}
/-- What a refused Notice leaves. -/
def NotD (w : World) (B : Nat) (L : Lay) (S : Ws) (c : Int) (e : Ending) (w' : World) : Prop := e = .returned (.int .i64 c) ∧ Noted w B L S S.note w'
theorem Noted.off {w1 : World} (hb : Mv w w1 L.F L.F) {S' : Ws} (h : Noted w1 B L S S' w') : Noted w B L S S' w' := by
  obtain ⟨L', k1, k2, k3⟩ := h
  exact ⟨L', k1, k2, hb.trans k3⟩
end
/-- What Notice answers, and leaves. -/
def Ws.notice (S : Ws) (a b : Int) : Int × Ws := match S.fd a with
  | none => (110, S.note)
  | some (i, k) => match S.fd b with
    | none => (110, S.note)
    | some (j, kk) => match S.ws[i]? with
      | none => (111, S.note)
      | some x => if (j = i ∧ kk = !k) ∧ (x.e k).can = true ∧ (x.e (!k)).can = true then (0, ({ S with nt := some (i, k) } : Ws).note) else (111, S.note)
section
variable {w w' : World} {B : Nat} {L : Lay} {S : Ws}
end
end Go.Proofs.YtbbgnpnopodppaaDoor
