/-
  find, wire, outer, made: from numbers to ends.
-/
import Derived.Test.YtbbgnpnopodppaaDoorWdLay
namespace Go.Proofs.YtbbgnpnopodppaaDoor
open Go.RowKit Go.Maps Go.ChangeMaps

/-- What a descriptor's number names. -/
def Ws.fd (s : Ws) (n : Int) : Option (Nat × Bool) := if 0 ≤ n ∧ n ≤ 95 then s.fds n.toNat else none
/-- The wire whose second end is outside. -/
def Ws.outer (s : Ws) (n : Int) : Option Wi := if 0 ≤ n then (match s.ws[n.toNat]? with | some x => if (x.e true).is = 2 then some x else none | none => none) else none
theorem Ws.outer_some {s : Ws} {n : Int} {x : Wi} (h : s.outer n = some x) : ∃ i : Nat, n = (i : Int) ∧ s.ws[i]? = some x ∧ (x.e true).is = 2 := by
  unfold Ws.outer at h
  split at h
  · refine ⟨n.toNat, by omega, ?_⟩
    split at h
    · rename_i y hy
      split at h
      · cases h; exact ⟨hy, by assumption⟩
      · cases h
    · cases h
  · cases h
theorem Ws.outer_of {s : Ws} {i : Nat} {x : Wi} (h : s.ws[i]? = some x) (h2 : (x.e true).is = 2) : s.outer (i : Int) = some x := by
  unfold Ws.outer
  rw [if_pos (by omega)]
  simp [h, h2]
theorem Ws.fd_of {s : Ws} {i : Nat} (h : i ≤ 95) : s.fd (i : Int) = s.fds i := by
  unfold Ws.fd
  rw [if_pos (by omega)]
  simp

theorem rp_at {w : World} {B : Nat} {v : Value} {xs : List Nat} (h : RP.own w B v xs) {i g : Nat} (hx : xs[i]? = some g) :
    ∃ g0 c, v = .slice (some ⟨g0, 0, none⟩) xs.length c ∧ g0 < w.heap.size ∧ w.cell? ⟨g0, i, none⟩ = some (.pointer (some ⟨g, 0, none⟩)) := by
  rcases RowK.own_form h with ⟨_, rfl⟩ | ⟨g0, c, rfl, _, hg, _, hl⟩
  · simp at hx
  · refine ⟨g0, c, rfl, hg, ?_⟩
    have := hl i g hx 0 (by decide)
    rw [Nat.zero_add] at this
    rw [show i * RP.n + 0 = i from by show i * 1 + 0 = i; omega] at this
    exact this

section
variable {w w' : World} {B : Nat} {L : Lay} {S : Ws}
theorem wmade_yes {p kb : Nat} (h : Blk w p 50 #[.pointer (some ⟨kb, 0, none⟩)]) : Calls Tryd.prog 33 #[.pointer (some ⟨p, 0, none⟩)] w fun e w' => e = .returned (.bool true) ∧ w = w' := by
  have c0 := h.cell 0
  simp at c0
  clear h
  go_enter Tryd.func33, Tryd.ntmps33
  go_wp2_with fail
  go_ret
  exact ⟨rfl, rfl⟩
theorem wmade_zero {p : Nat} (h : Blk w p 50 #[.pointer none]) : Calls Tryd.prog 33 #[.pointer (some ⟨p, 0, none⟩)] w fun e w' => e = .returned (.bool false) ∧ w = w' := by
  have c0 := h.cell 0
  simp at c0
  clear h
  go_enter Tryd.func33, Tryd.ntmps33
  go_wp2_with fail
  go_ret
  exact ⟨rfl, rfl⟩
theorem wmade_nil (w : World) : Calls Tryd.prog 33 #[.pointer none] w fun e w' => e = .returned (.bool false) ∧ w = w' := by
  go_enter Tryd.func33, Tryd.ntmps33
  go_wp2_with fail
  go_ret
  exact ⟨rfl, rfl⟩

theorem find_yes (h : Wd w B L S) {n : Int} {i : Nat} {k : Bool} (hf : S.fd n = some (i, k)) : Calls Tryd.prog 16 #[.pointer (some ⟨L.p, 0, none⟩), .int .i64 n] w fun e w' =>
    e = .returned (.tuple #[.pointer (some ⟨L.wa i, off k, none⟩), .int .i64 0]) ∧ w = w' := by
  have HM := Lib.hid (wmade_yes h.top)
  have c0 := h.top.cell 0
  simp at c0
  have lp := h.top.lt
  have lk := h.kept.lt
  unfold Ws.fd at hf
  split at hf
  · rename_i hn
    obtain ⟨m, rfl⟩ : ∃ m : Nat, n = (m : Int) := ⟨n.toNat, by omega⟩
    simp at hf
    have cf := h.kept.fd (i := m) (by omega)
    rw [hf] at cf
    simp [Lay.at_] at cf
    obtain ⟨b0, b1⟩ := hn
    have b2 : ¬ (m : Int) < 0 := by omega
    have b3 : ¬ (95 : Int) < (m : Int) := by omega
    clear h hf
    go_enter Tryd.func16, Tryd.ntmps16
    go_wp2_with fail
    refine HM.out.mono ?_
    rintro e w1 ⟨rfl, rfl⟩
    go_wp2_with fail
    go_ret2
    exact ⟨rfl, rfl⟩
  · cases hf
theorem find_no (h : Wd w B L S) {n : Int} (hf : S.fd n = none) : Calls Tryd.prog 16 #[.pointer (some ⟨L.p, 0, none⟩), .int .i64 n] w fun e w' =>
    e = .returned (.tuple #[.pointer none, .int .i64 110]) ∧ w = w' := by
  have HM := Lib.hid (wmade_yes h.top)
  have c0 := h.top.cell 0
  simp at c0
  have lp := h.top.lt
  have lk := h.kept.lt
  by_cases hn : 0 ≤ n ∧ n ≤ 95
  · unfold Ws.fd at hf
    rw [if_pos hn] at hf
    obtain ⟨m, rfl⟩ : ∃ m : Nat, n = (m : Int) := ⟨n.toNat, by omega⟩
    simp at hf
    have cf := h.kept.fd (i := m) (by omega)
    rw [hf] at cf
    simp [Lay.at_] at cf
    obtain ⟨b0, b1⟩ := hn
    have b2 : ¬ (m : Int) < 0 := by omega
    have b3 : ¬ (95 : Int) < (m : Int) := by omega
    clear h hf
    go_enter Tryd.func16, Tryd.ntmps16
    go_wp2_with fail
    refine HM.out.mono ?_
    rintro e w1 ⟨rfl, rfl⟩
    go_wp2_with fail
    go_ret2
    exact ⟨rfl, rfl⟩
  · clear h hf
    rcases (by omega : n < 0 ∨ (0 ≤ n ∧ 95 < n)) with b2 | ⟨b1, b2⟩
    · go_enter Tryd.func16, Tryd.ntmps16
      go_wp2_with fail
      refine HM.out.mono ?_
      rintro e w1 ⟨rfl, rfl⟩
      go_wp2_with fail
      go_ret2
      exact ⟨rfl, rfl⟩
    · have b3 : ¬ n < 0 := by omega
      go_enter Tryd.func16, Tryd.ntmps16
      go_wp2_with fail
      refine HM.out.mono ?_
      rintro e w1 ⟨rfl, rfl⟩
      go_wp2_with fail
      go_ret2
      exact ⟨rfl, rfl⟩

theorem Wd.wrow (h : Wd w B L S) {i : Nat} (hi : i < S.ws.length) : ∃ g0 c, L.wv = .slice (some ⟨g0, 0, none⟩) S.ws.length c ∧ g0 < w.heap.size ∧ w.cell? ⟨g0, i, none⟩ = some (.pointer (some ⟨L.wa i, 0, none⟩)) := by
  obtain ⟨g0, c, e1, e2, e3⟩ := rp_at h.row (i := i) (g := L.wa i) (by simp [List.getElem?_range hi])
  rw [List.length_map, List.length_range] at e1
  exact ⟨g0, c, e1, e2, e3⟩
theorem Wd.wlen (h : Wd w B L S) : ∃ A c, L.wv = .slice A S.ws.length c := by
  obtain ⟨A, c, e, _⟩ := RowK.own_shows h.row
  rw [List.length_map, List.length_range] at e
  exact ⟨A, c, e⟩
end
end Go.Proofs.YtbbgnpnopodppaaDoor
