/-
  both: a wire with two descriptors; Pair.
-/
import Derived.Test.YtjejpgognfadoaaDoorWdMake
namespace Go.Proofs.YtjejpgognfadoaaDoor
open Go.RowKit Go.Maps Go.ChangeMaps

/-- What stands behind so many openings. -/
def bSt (S : Ws) (x : Wi) (a b : Nat) : Nat → Ws
  | 0 => S.addW x
  | 1 => (S.addW x).opened S.ws.length false a
  | _ => ((S.addW x).opened S.ws.length false a).opened S.ws.length true b
theorem opened_len (s : Ws) (i : Nat) (k : Bool) (fd : Nat) : (s.opened i k fd).ws.length = s.ws.length := by
  unfold Ws.opened
  split
  · show (s.setW i _).ws.length = _
    unfold Ws.setW; simp
  · rfl
theorem opened_at {s : Ws} {i : Nat} {x : Wi} (h : s.ws[i]? = some x) (k : Bool) (fd : Nat) : (s.opened i k fd).ws[i]? = some (x.mark k 1) := by
  rw [Ws.opened_of h]
  show (s.setW i (x.mark k 1)).ws[i]? = _
  unfold Ws.setW
  simp [(List.getElem?_eq_some_iff.1 h).1]
theorem bSt_len (S : Ws) (x : Wi) (a b q : Nat) : (bSt S x a b q).ws.length = S.ws.length + 1 := by
  unfold bSt
  split
  · exact Ws.addW_len S x
  · rw [opened_len]; exact Ws.addW_len S x
  · rw [opened_len, opened_len]; exact Ws.addW_len S x
/-- What a call that makes a wire with two descriptors leaves. -/
def Made2 (w : World) (B : Nat) (L : Lay) (S : Ws) (x : Wi) (e : Ending) (w' : World) : Prop := ∃ a b : Nat, S.frees[0]? = some a ∧ S.frees[1]? = some b ∧ e = .returned (.tuple #[.int .i64 (a : Int), .int .i64 (b : Int), .int .i64 0]) ∧
  ∃ L', Wd w' B L' (bSt S x a b 2) ∧ L.ext L' S.ws.length ∧ Mv w w' L.F L'.F
/-- Between two openings. -/
def BoI (w2 : World) (B : Nat) (L2 : Lay) (S : Ws) (x : Wi) (a b q : Nat) (W : World) : Prop := ∃ L', Wd W B L' (bSt S x a b q) ∧ L2.ext L' (S.ws.length + 1) ∧ Mv w2 W L2.F L'.F

section
variable {w w' : World} {B : Nat} {L : Lay} {S : Ws}
end
end Go.Proofs.YtjejpgognfadoaaDoor
