/-
  The reference's Least, List and Batch; the law's comparison of two rows.
-/
import Derived.Test.YtlkmmbondelheaaPrRef3
import Derived.Deep.QuietTactic
import Derived.BigQuiet
namespace Go.Proofs.Ytlkmmbondelheaa
open Go.RowKit Go.Maps Go.ChangeMaps Go.Shelf

theorem least_snoc (L : List It) (x : It) : leastL (L ++ [x]) = match leastL L with | none => some x.pr | some p => some (min p x.pr) := by
  unfold leastL
  rw [List.foldl_append]
  rfl
theorem take_snoc {α : Type} {L : List α} {k : Nat} {x : α} (h : L[k]? = some x) : L.take (k + 1) = L.take k ++ [x] := by
  obtain ⟨h1, h2⟩ := List.getElem?_eq_some_iff.1 h
  rw [← h2, List.take_succ_eq_append_getElem h1]

set_option maxHeartbeats 1000000 in
theorem rleast_any {w : World} {B r many : Nat} {v : Value} {L : List It} (R : Rf w B r many v L) (hlen : L.length ≤ 1000) :
    Calls Try.prog 23 #[.pointer (some ⟨r, 0, none⟩)] w fun e w' => e = .returned (.int .i64 (leastI L)) ∧ w = w' := by
  obtain ⟨A, c, hv, -, -⟩ := RowK.own_shows R.row
  have hf := RowK.own_form R.row
  subst hv
  have c1 := R.blk.cell 1
  have rl := R.blk.lt
  simp at c1
  have HR := Lib.hid hf
  clear R hf
  go_enter Try.func23, Try.ntmps23
  go_wp2_with fail
  go_loop [3, 4] (fun o i => ∃ k : Nat, i = .int .i64 (k : Int) ∧ o = .int .i64 (leastI (L.take k)) ∧ k ≤ L.length) (fun _ i => L.length - (intOf i).toNat)
  case atStart => exact ⟨0, rfl, rfl, Nat.zero_le _⟩
  case round =>
    obtain ⟨k, rfl, rfl, hk⟩ := hrel
    by_cases hlt : k < L.length
    · rcases HR.out with ⟨_, rfl⟩ | ⟨g, c', e, hc, hg, _, hl⟩
      · simp at hlt
      injection e with e1 e2 e3
      subst e1
      have b0 : (0 : Int) ≤ (k : Int) := by omega
      have b1 : (k : Int) < (L.length : Int) := by omega
      have hy := List.getElem?_eq_getElem hlt
      obtain ⟨y, ey⟩ : ∃ y, y = L[k] := ⟨_, rfl⟩
      rw [← ey] at hy
      obtain ⟨y0, y1, y2, y3⟩ := ri_cells0 hl hy
      have hs := least_snoc (L.take k) y
      rw [← take_snoc hy] at hs
      clear hy ey y0 y1 y2 hl e2 e3
      cases ho : leastL (L.take k) with
      | none =>
        rw [ho] at hs
        have e1 : leastI (L.take k) = -1 := by unfold leastI; rw [ho]
        have HE := Lib.hid (show leastI (L.take (k + 1)) = (y.pr : Int) by unfold leastI; rw [hs])
        rw [e1]
        clear hs ho e1
        go_wp2_with fail
        go_round
        case rel => exact ⟨k + 1, by go_num, by rw [HE.out], by omega⟩
        case measure => simp [intOf]; omega
      | some p =>
        rw [ho] at hs
        have e1 : leastI (L.take k) = (p : Int) := by unfold leastI; rw [ho]
        rw [e1]
        have p0 : ¬ (p : Int) < 0 := by omega
        by_cases hp : y.pr < p
        · have HE := Lib.hid (show leastI (L.take (k + 1)) = (y.pr : Int) by unfold leastI; rw [hs]; show ((min p y.pr : Nat) : Int) = _; omega)
          clear hs ho e1
          go_wp2_with fail
          go_round
          case rel => exact ⟨k + 1, by go_num, by rw [HE.out], by omega⟩
          case measure => simp [intOf]; omega
        · have HE := Lib.hid (show leastI (L.take (k + 1)) = (p : Int) by unfold leastI; rw [hs]; show ((min p y.pr : Nat) : Int) = _; omega)
          clear hs ho e1
          go_wp2_with fail
          go_round
          case rel => exact ⟨k + 1, by go_num, by rw [HE.out], by omega⟩
          case measure => simp [intOf]; omega
    · obtain rfl : k = L.length := by omega
      rw [List.take_length]
      go_wp2_with fail
      go_ret
      exact ⟨rfl, rfl⟩

/-- The items of a priority, whatever number it is. -/
def ofZ (L : List It) (p : Int) : List It := L.filter fun x => decide ((x.pr : Int) = p)
theorem ofZ_nat (L : List It) (p : Nat) : ofZ L (p : Int) = ofP L p := by
  unfold ofZ ofP
  apply List.filter_congr
  intro x _
  rw [Bool.eq_iff_iff]; simp; omega
theorem ofZ_list {many : Nat} {L : List It} (h : ∀ x ∈ L, x.pr < many) (p : Int) : ofZ L p = listP many L p := by
  unfold listP
  split
  · rename_i hp
    obtain ⟨q, rfl⟩ : ∃ q : Nat, p = (q : Int) := ⟨p.toNat, by omega⟩
    rw [ofZ_nat]; simp
  · rename_i hp
    unfold ofZ
    rw [List.filter_eq_nil_iff]
    intro x hx
    have := h x hx
    simp; omega
theorem ofZ_snoc (L : List It) (x : It) (p : Int) : ofZ (L ++ [x]) p = if (x.pr : Int) = p then ofZ L p ++ [x] else ofZ L p := by
  unfold ofZ
  rw [List.filter_append]
  split <;> simp_all
/-- What List leaves. -/
def RListed (w : World) (P : List It) (e : Ending) (w' : World) : Prop := ∃ u, e = .returned u ∧ RI.own w' w.heap.size u P ∧ Below w.heap.size w w'

set_option maxHeartbeats 2000000 in
set_option maxRecDepth 100000 in
theorem rlist_any {w : World} {B r many : Nat} {v : Value} {L : List It} (R : Rf w B r many v L) (hlen : L.length ≤ 1000) (p : Int) :
    Calls Try.prog 26 #[.pointer (some ⟨r, 0, none⟩), .int .i64 p] w (RListed w (ofZ L p)) := by
  have HR := Lib.hid R
  have H0 := Lib.hid (show RI.own w w.heap.size (.slice none 0 0) (ofZ (L.take 0) p) from RowK.own_nil _ _)
  clear R
  go_enter Try.func26, Try.ntmps26
  go_wp2_with fail
  go_loopw [5, 6] (fun u i wr => ∃ k : Nat, i = .int .i64 (k : Int) ∧ k ≤ L.length ∧ RI.own wr w.heap.size u (ofZ (L.take k) p) ∧ Below w.heap.size w wr) (fun _ i _ => L.length - (intOf i).toNat)
  case atStart => exact ⟨0, rfl, Nat.zero_le _, H0.out, Below.refl _ _⟩
  case round =>
    obtain ⟨k, rfl, hk, hO, hb⟩ := hrel
    obtain ⟨A5, n5, c5, rfl⟩ := RowK.own_slice hO
    have RW := HR.out.below hb
    obtain ⟨A, c, hv, -, -⟩ := RowK.own_shows RW.row
    have hf := RowK.own_form RW.row
    have c1 := RW.blk.cell 1
    have rl := RW.blk.lt
    simp at c1
    rw [hv] at c1
    by_cases hlt : k < L.length
    · rcases hf with ⟨_, rfl⟩ | ⟨g, c', e, hc, hg, _, hl⟩
      · simp at hlt
      rw [hv] at e
      injection e with e1 e2 e3
      subst e1
      have b0 : (0 : Int) ≤ (k : Int) := by omega
      have b1 : (k : Int) < (L.length : Int) := by omega
      have hy := List.getElem?_eq_getElem hlt
      obtain ⟨y, ey⟩ : ∃ y, y = L[k] := ⟨_, rfl⟩
      rw [← ey] at hy
      obtain ⟨y0, y1, y2, y3⟩ := ri_cells0 hl hy
      have hs := ofZ_snoc (L.take k) y p
      rw [← take_snoc hy] at hs
      have hle : (ofZ (L.take k) p).length ≤ 1000 := Nat.le_trans (List.length_filter_le _ _) (Nat.le_trans (List.length_take_le' _ _) hlen)
      by_cases hp : (y.pr : Int) = p
      · rw [if_pos hp] at hs
        have hpb : ((y.pr : Int) == p) = true := by simpa using hp
        have HB := Lib.hid (And.intro hb (And.intro hs hO))
        have hO2 : RI.own (wr.alloc (.cells #[.int .i64 y.id, .int .i64 y.fl, .int .i64 y.ct, .int .i64 p] 48)) w.heap.size (.slice A5 n5 c5) (ofZ (L.take k) p) := RowK.own_below hO ((Below.refl _ wr).alloc (Nat.le_refl _) _)
        have hs2 : RI.shows (wr.alloc (.cells #[.int .i64 y.id, .int .i64 y.fl, .int .i64 y.ct, .int .i64 p] 48)) (some ⟨wr.heap.size, 0, none⟩) [y] := fun _ => by
          refine ⟨_, 0, rfl, by simp, ?_⟩
          have h1 : RI.lies (wr.alloc (.cells #[.int .i64 y.id, .int .i64 y.fl, .int .i64 y.ct, .int .i64 (y.pr : Int)] 48)) wr.heap.size 0 [y] := RowK.lies_new (R := RI) wr y _
          rw [hp] at h1
          exact h1
        rw [hp] at y3
        have HO := Lib.hid (And.intro hO2 (And.intro hs2 hle))
        have hwl : w.heap.size ≤ wr.heap.size := hb.size
        clear hO hb hs hO2 hs2 hle hl hy ey hp RW hv e2 e3 hpb
        go_wp2_with (at_builtin; refine RowK.append (R := RI) rfl _ _ rfl w.heap.size (.slice A5 n5 c5) (ofZ (L.take k) p) [y] rfl HO.out.1 _ 1 1 rfl rfl HO.out.2.1 (fun e => by cases e) (by have := HO.out.2.2; simp; omega) (by simp; omega) ?_; intro u1 w1 O1 hg1 ho1; have F3 := Lib.hid (And.intro O1 ((HB.out.1.alloc hwl _).grown hg1 (by simp; omega) (fun k e => (RowK.own_lt HO.out.1 e).2))); clear O1 hg1 ho1)
        go_roundw
        case rel => exact ⟨k + 1, by go_num, by omega, by rw [HB.out.2.1]; exact F3.out.1, F3.out.2⟩
        case measure => simp [intOf]; omega
      · rw [if_neg hp] at hs
        have hpb : ((y.pr : Int) == p) = false := by simpa using hp
        have HB := Lib.hid (And.intro hb (And.intro hs hO))
        clear hO hb hs hle hl hy ey hp RW hv e2 e3 y0 y1 y2
        go_wp2_with fail
        exact ⟨⟨k + 1, by go_num, by omega, by rw [HB.out.2.1]; exact HB.out.2.2, HB.out.1⟩, by simp [intOf]; omega⟩
    · obtain rfl : k = L.length := by omega
      rw [List.take_length] at hO
      have HB := Lib.hid (And.intro hb hO)
      clear hO hb RW hv hf
      go_wp2_with fail
      go_ret
      exact ⟨_, rfl, HB.out.2, HB.out.1⟩
end Go.Proofs.Ytlkmmbondelheaa
