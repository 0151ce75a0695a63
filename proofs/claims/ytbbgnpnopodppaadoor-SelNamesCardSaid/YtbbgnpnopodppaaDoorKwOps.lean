/-
  Any calls of a world that calls made: what each answers, and leaves.
-/
import Derived.Test.YtbbgnpnopodppaaDoorKwOk
namespace Go.Proofs.YtbbgnpnopodppaaDoor
open Go.RowKit Go.Shelf Go.Maps Go.ChangeMaps

def Ws.rd (S : Ws) (n m : Int) : List Int × Bool × Int × Ws := match S.fd n with
  | none => ([], false, 110, S)
  | some (i, k) => match S.ws[i]? with
    | none => ([], false, 110, S)
    | some x => ((x.read k m).1, (x.read k m).2.1, (x.read k m).2.2.1, S.setW i (x.read k m).2.2.2)
def Ws.wr (S : Ws) (n : Int) (zs : List Int) : Int × Int × Ws := match S.fd n with
  | none => (0, 110, S)
  | some (i, k) => match S.ws[i]? with
    | none => (0, 110, S)
    | some x => ((x.write k zs).1, (x.write k zs).2.1, S.setW i (x.write k zs).2.2)
def Ws.shut (S : Ws) (n : Int) : Int × Ws := match S.fd n with
  | none => (110, S)
  | some (i, k) => match S.ws[i]? with
    | none => (110, S)
    | some x => ((x.shutR k).1, S.setW i (x.shutR k).2)
def Ws.close (S : Ws) (n : Int) : Int × Ws := match S.fd n with
  | none => (110, S)
  | some (i, k) => match S.ws[i]? with
    | none => (110, S)
    | some x => (0, S.closed n.toNat i k x)
def Ws.put (S : Ws) (n : Int) (zs : List Int) : Int × Int × Ws := match S.outer n with
  | none => (0, 116, S)
  | some x => ((x.putO zs).1, (x.putO zs).2.1, S.setW n.toNat (x.putO zs).2.2)
def Ws.take (S : Ws) (n m : Int) : List Int × Int × Ws := match S.outer n with
  | none => ([], 116, S)
  | some x => ((x.takeO m).1, (x.takeO m).2.1, S.setW n.toNat (x.takeO m).2.2)
def Ws.pshut (S : Ws) (n : Int) : Int × Ws := match S.outer n with
  | none => (116, S)
  | some x => (0, S.setW n.toNat (x.stop true))
def Ws.pclose (S : Ws) (n : Int) : Int × Ws := match S.outer n with
  | none => (116, S)
  | some x => (0, S.setW n.toNat (x.close true))
def Ws.reset (S : Ws) (n : Int) : Int × Ws := match S.outer n with
  | none => (116, S)
  | some x => (0, S.setW n.toNat x.fail)
def Ws.wire (S : Ws) (n : Int) : Int × Int := match S.fd n with
  | none => (0, 110)
  | some (i, _) => ((i : Nat), 0)
theorem Ws.outer_at {S : Ws} {n : Int} {x : Wi} (h : S.outer n = some x) : S.ws[n.toNat]? = some x := by
  obtain ⟨i, rfl, hx, _⟩ := Ws.outer_some h
  rw [Int.toNat_natCast]; exact hx
section
variable {s : Ws} {N : Nat}
theorem Ws.Ok.rd (h : s.Ok N) (n m : Int) : (s.rd n m).2.2.2.Ok N := by
  unfold Ws.rd
  repeat' split
  all_goals first | exact h | (rename_i x hx; exact h.setL hx (Wi.lk_read _ _ _))
theorem Ws.Ok.wr (h : s.Ok N) (n : Int) (zs : List Int) : (s.wr n zs).2.2.Ok N := by
  unfold Ws.wr
  repeat' split
  all_goals first | exact h | (rename_i x hx; exact h.setL hx (Wi.lk_write _ _ _))
theorem Ws.Ok.shut (h : s.Ok N) (n : Int) : (s.shut n).2.Ok N := by
  unfold Ws.shut
  repeat' split
  all_goals first | exact h | (rename_i x hx; exact h.setL hx (Wi.lk_shutR _ _))
theorem Ws.Ok.close (h : s.Ok N) (n : Int) : (s.close n).2.Ok N := by
  unfold Ws.close
  repeat' split
  all_goals first | exact h | (rename_i x hx; exact h.closed hx _ _)
theorem Ws.Ok.put (h : s.Ok N) (n : Int) (zs : List Int) : (s.put n zs).2.2.Ok N := by
  unfold Ws.put
  repeat' split
  all_goals first | exact h | (rename_i x hx; exact h.setL (Ws.outer_at hx) (Wi.lk_putO _ _))
theorem Ws.Ok.take (h : s.Ok N) (n m : Int) : (s.take n m).2.2.Ok N := by
  unfold Ws.take
  repeat' split
  all_goals first | exact h | (rename_i x hx; exact h.setL (Ws.outer_at hx) (Wi.lk_takeO _ _))
theorem Ws.Ok.pshut (h : s.Ok N) (n : Int) : (s.pshut n).2.Ok N := by
  unfold Ws.pshut
  repeat' split
  all_goals first | exact h | (rename_i x hx; exact h.setL (Ws.outer_at hx) (Wi.lk_stop _ _))
theorem Ws.Ok.pclose (h : s.Ok N) (n : Int) : (s.pclose n).2.Ok N := by
  unfold Ws.pclose
  repeat' split
  all_goals first | exact h | (rename_i x hx; exact h.setL (Ws.outer_at hx) (Wi.lk_close _ _))
theorem Ws.Ok.reset (h : s.Ok N) (n : Int) : (s.reset n).2.Ok N := by
  unfold Ws.reset
  repeat' split
  all_goals first | exact h | (rename_i x hx; exact h.setL (Ws.outer_at hx) (Wi.lk_fail _))
end

/-- What a call that answers an error leaves in a law. -/
def OneO (B : Nat) (W : World) (p : Nat) (N : Nat) (D : Nat → Prop) (w : World) (r : Int × Ws) (e : Ending) (w' : World) : Prop := e = .returned (.int .i64 r.1) ∧ OdM B W p r.2 N D w w'
/-- What Read leaves in a law; what Take leaves. -/
def RdO (B : Nat) (W : World) (p : Nat) (N : Nat) (D : Nat → Prop) (w : World) (r : List Int × Bool × Int × Ws) (e : Ending) (w' : World) : Prop := ∃ v, e = .returned (.tuple #[v, .bool r.2.1, .int .i64 r.2.2.1]) ∧ RowB w' w.heap.size v r.1 ∧ OdM B W p r.2.2.2 N D w w' ∧ Od B W p r.2.2.2 N (fun b => v.ownBlock = some b ∨ D b) w'
def TkO (B : Nat) (W : World) (p : Nat) (N : Nat) (D : Nat → Prop) (w : World) (r : List Int × Int × Ws) (e : Ending) (w' : World) : Prop := ∃ v, e = .returned (.tuple #[v, .int .i64 r.2.1]) ∧ RowB w' w.heap.size v r.1 ∧ OdM B W p r.2.2 N D w w' ∧ Od B W p r.2.2 N (fun b => v.ownBlock = some b ∨ D b) w'
section
variable {B : Nat} {W w w' : World} {p : Nat} {S S' : Ws} {N M : Nat} {D : Nat → Prop}
theorem rowB_nil (w : World) (B : Nat) : RowB w B (.slice none 0 0) [] := .inl ⟨rfl, rfl⟩
theorem Ws.fd_at (h : Od B W p S N D w) {n : Int} {i : Nat} {k : Bool} (hf : S.fd n = some (i, k)) : ∃ x, S.ws[i]? = some x := by
  obtain ⟨L, _, h2, _⟩ := h
  have hi : i < S.ws.length := by
    unfold Ws.fd at hf
    split at hf
    · exact h2.fdok _ _ _ hf
    · cases hf
  exact ⟨_, List.getElem?_eq_getElem hi⟩
theorem Od.nilD (h : Od B W p S N D w) : Od B W p S N (fun b => (Value.slice none 0 0).ownBlock = some b ∨ D b) w := h.less fun b hb => by
  rcases hb with hb | hb
  · cases hb
  · exact hb
theorem Od.closeA (h : Od B W p S N D w) (ok : S.Ok M) (n : Int) (hN : N ≤ 890000000) :
    Calls Tryd.prog 5 #[.pointer (some ⟨p, 0, none⟩), .int .i64 n] w (OneO B W p (N + 130) D w (S.close n)) := by
  unfold Ws.close
  cases hf : S.fd n with
  | none =>
    have hh := h
    obtain ⟨L, rfl, k2, k3, k4, k5⟩ := h
    refine (wClose_no k2 hf).mono ?_
    rintro e w' ⟨rfl, rfl⟩
    exact ⟨rfl, (OdM.refl hh).more (by omega)⟩
  | some q =>
    obtain ⟨i, k⟩ := q
    obtain ⟨x, hx⟩ := Ws.fd_at h hf
    simp only [hx]
    obtain ⟨L, rfl, k2, k3, k4, k5⟩ := h
    have hn : 0 ≤ n ∧ n ≤ 95 := by
      unfold Ws.fd at hf
      split at hf
      · assumption
      · cases hf
    obtain ⟨m, rfl⟩ : ∃ m : Nat, n = (m : Int) := ⟨n.toNat, by omega⟩
    rw [Ws.fd_of (by omega)] at hf
    have hxo := ok.wires i x hx
    have h1 := hxo.wl
    have h2 := hxo.back
    refine (wClose_yes k2 (by omega) hf hx (by omega) (k4.mono hN)).mono ?_
    rintro e w' ⟨rfl, L', j1, j2, j3⟩
    rw [Int.toNat_natCast]
    exact ⟨rfl, Od.go rfl k2 k3 k5 j1 j2 j3 ((Ws.le_closed k4 hx m k).mono (by omega))⟩
theorem Od.noted {L : Lay} (k1 : L.p = p) (k2 : Wd w B L S) (k3 : Below B W w) (k5 : ∀ b, D b → Beside w L b) (hle : S'.le M) (hn : Noted w B L S S' w') : OdM B W p S' M D w w' := by
  obtain ⟨L', j1, j2, j3⟩ := hn
  exact Od.go k1 k2 k3 k5 j1 j2.p j3 hle
end
end Go.Proofs.YtbbgnpnopodppaaDoor
