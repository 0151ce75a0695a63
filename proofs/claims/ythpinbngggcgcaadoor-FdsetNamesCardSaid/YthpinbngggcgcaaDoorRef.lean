/-
  The contracts of the document's own answers that the statement calls: in, Same, Some, Of: what each returns for every slice of ints; nothing that lay has turned.
-/
import Derived.Test.YthpinbngggcgcaaDoorList
namespace Go.Proofs.YthpinbngggcgcaaDoor
open Go.RowKit

theorem inB_take_succ (n : Int) (zs : List Int) (k : Nat) (hk : k < zs.length) : inB n (zs.take (k + 1)) = (inB n (zs.take k) || (zs[k]?.getD 0 == n)) := by
  unfold inB
  rw [List.take_add_one, List.getElem?_eq_getElem hk, Bool.eq_iff_iff]
  simp only [List.getElem?_eq_getElem hk, Option.toList_some, List.mem_append, List.mem_singleton, Option.getD_some, decide_eq_true_eq, Bool.or_eq_true, beq_iff_eq]
  constructor
  · rintro (h | h)
    · exact .inl h
    · exact .inr h.symm
  · rintro (h | h)
    · exact .inl h
    · exact .inr h.symm

set_option maxHeartbeats 1000000 in
theorem in_any (n : Int) (zs : List Int) (v : Value) (w : World) (h : IsL w v zs) :
    Calls Tryd.prog 35 #[.int .i64 n, v] w fun e w' => e = .returned (.bool (inB n zs)) ∧ w' = w := by
  obtain ⟨a, cap, rfl, hm, _, h⟩ := h
  unfold maxLen at hm
  go_enter Tryd.func35, Tryd.ntmps35
  go_wp2_with fail
  go_loop [5] (fun i => ∃ k : Nat, k ≤ zs.length ∧ i = .int .i64 k ∧ inB n (zs.take k) = false) (fun i => zs.length - (intOf i).toNat)
  case atStart => exact ⟨0, Nat.zero_le _, rfl, by simp [inB]⟩
  case round =>
    obtain ⟨k, hk, rfl, hno⟩ := hrel
    by_cases hlt : k < zs.length
    · rcases h with h | ⟨b, off, rfl, hb, hc⟩
      · rw [h] at hlt; simp at hlt
      · have hck := hc k hlt
        have hs := inB_take_succ n zs k hlt
        rw [hno, Bool.false_or] at hs
        obtain ⟨x, hx⟩ : ∃ x, zs[k]?.getD 0 = x := ⟨_, rfl⟩
        rw [hx] at hs hck
        clear hx
        have Hs := Lib.hid hs
        have Hno := Lib.hid hno
        have Hc := Lib.hid hc
        clear hs hno hc
        cases he : (x == n) with
        | true =>
          have Hin : inB n zs = true := by
            have h1 := Hs.out
            rw [he] at h1
            unfold inB at h1 ⊢
            simp only [decide_eq_true_eq] at h1 ⊢
            exact List.mem_of_mem_take h1
          have HH := Lib.hid Hin
          clear Hin
          go_wp2
          go_ret
          exact ⟨ret_bool HH.out.symm, rfl⟩
        | false =>
          go_wp2
          go_round
          case rel => exact ⟨k + 1, by omega, by go_num, by rw [Hs.out]; exact he⟩
          case measure => simp [intOf]; omega
    · have hf : inB n zs = false := by rw [← hno, List.take_of_length_le (by omega)]
      have HH := Lib.hid hf
      clear hf hno
      go_wp2
      go_ret
      exact ⟨ret_bool HH.out.symm, rfl⟩

theorem in_val (n : Int) (zs : List Int) (v : Value) (w : World) (h : IsL w v zs) (p : Bool) (hp : inB n zs = p) :
    Calls Tryd.prog 35 #[.int .i64 n, v] w fun e w' => e = .returned (.bool p) ∧ w' = w :=
  (in_any n zs v w h).mono fun _ _ ⟨he, hw⟩ => ⟨by rw [he, hp], hw⟩

/-- Are two lists of ints one list? -/
def sameB (xs ys : List Int) : Bool := decide (xs = ys)
theorem take_ext (xs ys : List Int) (k : Nat) (hx : k < xs.length) (hy : k < ys.length) (h : xs.take k = ys.take k) (he : xs[k]?.getD 0 = ys[k]?.getD 0) : xs.take (k + 1) = ys.take (k + 1) := by
  rw [List.take_add_one, List.take_add_one, h]
  rw [List.getElem?_eq_getElem hx, List.getElem?_eq_getElem hy] at he ⊢
  simp at he
  rw [he]

set_option maxHeartbeats 1000000 in
theorem same_any (xs ys : List Int) (u v : Value) (w : World) (hu : IsL w u xs) (hv : IsL w v ys) :
    Calls Tryd.prog 36 #[u, v] w fun e w' => e = .returned (.bool (sameB xs ys)) ∧ Below w.heap.size w w' := by
  obtain ⟨a, cap, rfl, hm, _, h⟩ := hu
  obtain ⟨a', cap', rfl, hm', _, h'⟩ := hv
  unfold maxLen at hm hm'
  by_cases hl : xs.length = ys.length
  · have hn : ((xs.length : Int) != (ys.length : Int)) = false := by simp [hl]
    have hlu : ys.length ≤ xs.length := by omega
    have hul : xs.length ≤ ys.length := by omega
    clear hl
    go_enter Tryd.func36, Tryd.ntmps36
    go_wp2_with fail
    go_loopw [5] (fun i wr => ∃ k : Nat, k ≤ xs.length ∧ i = .int .i64 k ∧ xs.take k = ys.take k ∧ Below w.heap.size w wr) (fun i _ => xs.length - (intOf i).toNat)
    case atStart => exact ⟨0, Nat.zero_le _, rfl, by simp, Below.refl _ _⟩
    case round =>
      obtain ⟨k, hk, rfl, hts, hbw⟩ := hrel
      have Hts := Lib.hid hts
      clear hts
      by_cases hlt : k < xs.length
      · rcases h with h | ⟨b, off, rfl, hb, hc⟩
        · rw [h] at hlt; simp at hlt
        rcases h' with h' | ⟨b', off', rfl, hb', hc'⟩
        · rw [h'] at hlu hul; simp at hul; rw [hul] at hlt; simp at hlt
        have hck := (hbw.cell (p := ⟨b, off + k, none⟩) hb).trans (hc k hlt)
        have hck' := (hbw.cell (p := ⟨b', off' + k, none⟩) hb').trans (hc' k (by omega))
        obtain ⟨x, hx⟩ : ∃ x, xs[k]?.getD 0 = x := ⟨_, rfl⟩
        obtain ⟨y, hy⟩ : ∃ y, ys[k]?.getD 0 = y := ⟨_, rfl⟩
        rw [hx] at hck
        rw [hy] at hck'
        have Hx := Lib.hid hx
        have Hy := Lib.hid hy
        clear hx hy
        have hi1 : (k : Int) < (xs.length : Int) := by omega
        have hi2 : (k : Int) < (ys.length : Int) := by omega
        have Hc := Lib.hid hc
        have Hc' := Lib.hid hc'
        clear hc hc'
        cases he : (x != y) with
        | true =>
          have Hin : sameB xs ys = false := by
            unfold sameB
            simp only [decide_eq_false_iff_not]
            rintro rfl
            have := Hx.out.symm.trans Hy.out
            simp [this] at he
          have HH := Lib.hid Hin
          clear Hin
          go_wp2
          go_quiet (fail)
          go_wp2
          go_ret
          exact ⟨ret_bool HH.out.symm, below_drewN hbw _⟩
        | false =>
          have hee : xs[k]?.getD 0 = ys[k]?.getD 0 := by rw [Hx.out, Hy.out]; simpa using he
          have Hee := Lib.hid hee
          clear hee
          go_wp2
          go_quiet (fail)
          go_wp2
          go_roundw
          case rel => exact ⟨k + 1, by omega, by go_num, take_ext xs ys k hlt (by omega) Hts.out Hee.out, below_drewN hbw _⟩
          case measure => simp [intOf]; omega
      · have hf : sameB xs ys = true := by
          have h1 := Hts.out
          rw [List.take_of_length_le (by omega), List.take_of_length_le (by omega)] at h1
          simp [sameB, h1]
        have HH := Lib.hid hf
        clear hf
        go_wp2
        go_ret
        exact ⟨ret_bool HH.out.symm, hbw⟩
  · have hn : ((xs.length : Int) != (ys.length : Int)) = true := by rw [bne_iff_ne]; omega
    have hf : sameB xs ys = false := by
      unfold sameB
      simp only [decide_eq_false_iff_not]
      rintro rfl
      exact hl rfl
    have HH := Lib.hid hf
    clear hf hl
    go_enter Tryd.func36, Tryd.ntmps36
    go_wp2
    go_ret
    exact ⟨ret_bool HH.out.symm, Below.refl _ _⟩

end Go.Proofs.YthpinbngggcgcaaDoor
