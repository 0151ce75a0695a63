/-
  RingWhole.
-/
import Derived.Test.YtolkbelfcgamiaaRgParts
namespace Go.Proofs.Ytolkbelfcgamiaa
open Go.RowKit Go.Shelf Go.Maps Go.ChangeMaps

def lens (l : List OpD) : Nat := (l.map fun x => x.b.length).sum
theorem lens_take (l : List OpD) (k : Nat) (x : OpD) (h : l[k]? = some x) : lens (l.take (k + 1)) = lens (l.take k) + x.b.length := by
  unfold lens
  rw [List.take_add_one, h]
  simp

/-- What a walk reads of call k. -/
theorem ArgOps.at_ {w wr : World} {A : Option Addr} {l : List OpD} (h : ArgOps w A l) (hb : Below w.heap.size w wr) {k : Nat} (hk : k < l.length) :
    ∃ b off x, A = some ⟨b, off, none⟩ ∧ b < wr.heap.size ∧ l[k]? = some x ∧ x.Ok ∧ Src w (fun _ => False) x.v x.b ∧ CapOk x.v ∧
      wr.cell? ⟨b, off + k * 3, none⟩ = some (.int .i64 x.kind) ∧ wr.cell? ⟨b, off + k * 3 + 1, none⟩ = some (.int .i64 x.n) ∧ wr.cell? ⟨b, off + k * 3 + 2, none⟩ = some x.v ∧ ∀ W, Below w.heap.size w W → b < W.heap.size ∧ W.cell? ⟨b, off + k * 3 + 2, none⟩ = some x.v := by
  obtain ⟨b, off, rfl, hl, hc⟩ := h.2 (by omega)
  have hz := List.getElem?_eq_getElem hk
  obtain ⟨x0, x1, x2⟩ := hc k _ hz
  obtain ⟨h1, h2, h3⟩ := h.1 _ (List.mem_of_getElem? hz)
  exact ⟨b, off, _, rfl, Nat.lt_of_lt_of_le hl hb.size, hz, h1, h2, h3, (hb.cell (p := ⟨b, _, none⟩) hl).trans x0, (hb.cell (p := ⟨b, _, none⟩) hl).trans x1, (hb.cell (p := ⟨b, _, none⟩) hl).trans x2, fun W hW => ⟨Nat.lt_of_lt_of_le hl hW.size, (hW.cell (p := ⟨b, _, none⟩) hl).trans x2⟩⟩

/-- The lengths of all bytes together, as the law adds them up. -/
def zsum (l : List OpD) : Int := l.foldl (fun z x => IntKind.i64.wrap (z + (x.b.length : Int))) 0
theorem zsum_take (l : List OpD) (k : Nat) (x : OpD) (h : l[k]? = some x) : zsum (l.take (k + 1)) = IntKind.i64.wrap (zsum (l.take k) + (x.b.length : Int)) := by
  unfold zsum
  rw [List.take_add_one, h]
  simp
/-- Are the calls more than the law goes through? -/
def greatB (l : List OpD) : Bool := decide (100 < l.length) || decide (5000 < zsum l)
theorem greatB_len {l : List OpD} (h : greatB l = false) : l.length ≤ 100 := by
  unfold greatB at h; simp at h; omega

set_option maxRecDepth 100000 in
set_option maxHeartbeats 2000000 in
theorem great_any (w : World) (A : Option Addr) (c : Nat) (l : List OpD) (hA : ArgOps w A l) (hl : l.length ≤ 9223372036854775807) (W : World) (hb : Below w.heap.size w W) :
    Calls Try.prog 9 #[.slice A l.length c] W fun e w' => e = .returned (.bool (greatB l)) ∧ W = w' := by
  have HA := Lib.hid (And.intro hA hb)
  clear hA hb
  go_enter Try.func9, Try.ntmps9
  go_wp2_with fail
  go_loop [3, 4] (fun s i => ∃ (k : Nat) (z : Int), k ≤ l.length ∧ i = .int .i64 (k : Int) ∧ s = .int .i64 z ∧ zsum (l.take k) = z) (fun _ i => l.length - (intOf i).toNat)
  case atStart => exact ⟨0, 0, by omega, rfl, rfl, rfl⟩
  case round =>
    obtain ⟨k, z, hk, rfl, rfl, hzs⟩ := hrel
    by_cases hlt : k < l.length
    · obtain ⟨b, off, x, rfl, hbl, hz, _, hs, _, x0, x1, x2, _⟩ := HA.out.1.at_ HA.out.2 hlt
      obtain ⟨As, cs, hv, _⟩ := hs
      rw [hv] at x2
      have b0 : (0 : Int) ≤ (k : Int) := by omega
      have b1 : (k : Int) < (l.length : Int) := by omega
      have b2 : (l.length : Int) ≤ 9223372036854775807 := by omega
      obtain ⟨z2, hz2⟩ : ∃ z2, IntKind.i64.wrap (z + (x.b.length : Int)) = z2 := ⟨_, rfl⟩
      have hz3 : wrap64 (z + (x.b.length : Int)) = z2 := by rw [← IntWalk.i64_left]; exact hz2
      have HE := Lib.hid (show zsum (l.take (k + 1)) = z2 by rw [zsum_take l k x hz, hzs]; exact hz2)
      clear hz hv x0 x1 hzs
      go_wp2
      go_round
      case rel => exact ⟨k + 1, _, by omega, by go_num, rfl, HE.out⟩
      case measure => simp [intOf]; omega
    · obtain rfl : k = l.length := by omega
      rw [List.take_length] at hzs
      have h0 : decide (l.length < l.length) = false := by simp
      cases h1 : decide (100 < l.length) with
      | true =>
        have b1 : decide (100 < (l.length : Int)) = true := by simp at h1 ⊢; omega
        have hg : greatB l = true := by unfold greatB; rw [h1]; rfl
        have HGB := Lib.hid hg
        clear h1 hzs hg hlt
        go_wp2
        all_goals (go_ret; exact ⟨by rw [HGB.out]; rfl, rfl⟩)
      | false =>
        have b1 : decide (100 < (l.length : Int)) = false := by simp at h1 ⊢; omega
        cases h2 : decide (5000 < z) with
        | true =>
          have hg : greatB l = true := by unfold greatB; rw [h1, hzs, h2]; rfl
          have HGB := Lib.hid hg
          clear h1 hzs hg hlt
          go_wp2
          all_goals (go_ret; exact ⟨by rw [HGB.out]; rfl, rfl⟩)
        | false =>
          have hg : greatB l = false := by unfold greatB; rw [h1, hzs, h2]; rfl
          have HGB := Lib.hid hg
          clear h1 hzs hg hlt
          go_wp2
          all_goals (go_ret; exact ⟨by rw [HGB.out]; rfl, rfl⟩)
end Go.Proofs.Ytolkbelfcgamiaa
