/-
  The contract of strings.Lines: the lines of a text, each with its end.
-/
import Derived.Test.YtlephnfepofbbaaGreatDoorMvSplitC
import Derived.Test.YtlephnfepofbbaaGreatDoorMvData
import Derived.Test.YtlephnfepofbbaaGreatDoorMtBase
import Derived.WalkHide
namespace Go.Proofs.YtlephnfepofbbaaGreatDoor
open Go.RowKit Go.Shelf

attribute [local go_sem] Oper.semAt_some

def linesS : List (List UInt8) → List (List UInt8)
  | [] => []
  | [p] => if p = [] then [] else [p]
  | p :: q :: ps => (p ++ [10]) :: linesS (q :: ps)
def linesB (l : List UInt8) : List (List UInt8) := linesS (splitB 10 l)
theorem lines_nil : linesB [] = [] := rfl
theorem lines_none {l : List UInt8} (h : l.findIdx? (· == 10) = none) (h0 : l ≠ []) : linesB l = [l] := by
  unfold linesB; rw [sep_none 10 l h]; simp [linesS, h0]
theorem lines_some {l : List UInt8} {i : Nat} (h : l.findIdx? (· == 10) = some i) : i < l.length ∧ linesB l = l.take (i + 1) :: linesB (l.drop (i + 1)) := by
  obtain ⟨h1, h2, h3⟩ := sep_some 10 l i h
  refine ⟨h1, ?_⟩
  have e : l.take (i + 1) = l.take i ++ [10] := by
    have hl : (l.take i).length = i := by simp; omega
    conv => lhs; rw [h3]
    rw [List.take_append, hl, List.take_of_length_le (by omega)]
    simp
  unfold linesB
  rw [h2, e]
  obtain ⟨q, qs, hq⟩ : ∃ q qs, splitB 10 (l.drop (i + 1)) = q :: qs := by
    cases hz : splitB 10 (l.drop (i + 1)) with
    | nil => exact absurd hz (split_ne _ _)
    | cons q qs => exact ⟨q, qs, rfl⟩
  rw [hq]; rfl
theorem ixn_any (s : ByteArray) (w : World) : Calls Tryz.prog 71 #[.string s, .int .u8 10] w fun e w' =>
    e = .returned (.int .i64 (match s.data.toList.findIdx? (· == 10) with | some i => (i : Int) | none => -1)) ∧ w = w' :=
  (Tryz.strings_IndexByte s 10 w).mono fun e w' ⟨he, hw⟩ => ⟨by
    rw [he, show ((10 : Int).toNat.toUInt8) = 10 from rfl]
    cases ho : s.data.toList.findIdx? (· == 10) with
    | none => rw [find_none _ _ ho]
    | some i => rw [find_some _ _ _ ho], hw.symm⟩
set_option maxRecDepth 100000 in
set_option maxHeartbeats 4000000 in
theorem lines1_in (n : Nat) (hn : 1 ≤ n) (l Bs : Nat) (t : ByteArray) (ht : t.size ≤ 20000000) (J Jx : List Piece → World → Prop) (hJ : ∀ s A v, J s A → J s (A.setCell ⟨Bs, 0, none⟩ v))
    (hJd : ∀ s A, J s A → J s A.drew)
    (hY : ∀ pre (x : Piece) W, J pre W → YieldAt Fence.wide (n - 1) Tryz.prog l #[.string x.1] W fun e W' =>
      (e = .returned (.bool true) ∧ J (pre ++ [x]) W' ∧ Kp3 Bs Bs Bs W W') ∨ (e = .returned (.bool false) ∧ Jx (pre ++ [x]) W'))
    (W : World) (bs : Boxed W Bs 9 (.string t)) (h0 : J [] W) :
    CallsIn Fence.wide n Tryz.prog 70 #[.func (.yield l) #[] #[], .pointer (some ⟨Bs, 0, none⟩)] W fun e W' => (∃ v, e = .returned v) ∧
      ((∃ ys, lstOf ys = linesB t.data.toList ∧ J ys W') ∨ (∃ pre, lstOf pre <+: linesB t.data.toList ∧ Jx pre W')) := by
  have HT := Lib.hid ht
  clear ht
  refine callsIn_of_wp Tryz.func70 rfl trivial ?_ rfl
  simp only [Tryz.ntmps70, List.size_toArray, List.length_cons, List.length_nil, Nat.reduceAdd, Nat.reduceSub, Array.replicate_succ, Array.replicate_zero, List.push_toArray, List.append_toArray, List.nil_append, List.cons_append]
  gi_wp2
  gi_loopw [3] (fun _ wr => ∃ (pre : List Piece) (rest : ByteArray), Boxed wr Bs 9 (.string rest) ∧ rest.size ≤ t.size ∧ Hid (lstOf pre ++ linesB rest.data.toList = linesB t.data.toList) ∧ J pre wr)
    (fun _ wr => leftOf Bs wr)
  case atStart => exact ⟨[], t, bs, Nat.le_refl _, rfl, h0⟩
  case round =>
    obtain ⟨pre, rest, b2, hz, HE, hj⟩ := hrel
    have c2 := b2.cell
    have f2 := b2.frozen
    have l2 := b2.lt
    by_cases h0 : rest.size = 0
    · have h0' : ¬ (0 : Int) < (rest.size : Int) := by omega
      have HX : Hid (lstOf pre = linesB t.data.toList) := Lib.hid (by
        have e : rest.data.toList = [] := List.eq_nil_of_length_eq_zero (by rw [← Lib.size_eq]; exact h0)
        have := HE.out
        rw [e, lines_nil, List.append_nil] at this; exact this)
      clear h0
      gi_wp2
      go_end0
      exact ⟨⟨_, rfl⟩, .inl ⟨_, HX.out, hj⟩⟩
    · have h0' : (0 : Int) < (rest.size : Int) := by omega
      have hne : rest.data.toList ≠ [] := fun e => h0 (by rw [Lib.size_eq, e]; rfl)
      have hi := ixn_any rest
      cases ho : rest.data.toList.findIdx? (· == 10) with
      | none =>
        rw [ho] at hi
        have HI := Lib.hid (hi wr)
        have HC := Lib.hid (lines_none ho hne)
        clear hi ho
        obtain ⟨fn, tmps, assign, body, hy, hR⟩ := hY pre ⟨rest, by have := HT.out; omega⟩ (wr.setCell ⟨Bs, 0, none⟩ (.string ⟨#[]⟩)) (hJ _ _ _ hj)
        dsimp only at hy
        have b3 : Boxed (wr.setCell ⟨Bs, 0, none⟩ (.string ⟨#[]⟩)) Bs 9 (.string ⟨#[]⟩) := b2.set _
        have HB2 := Lib.hid b2
        have HB3 := Lib.hid b3
        clear b2 b3
        gi_wp2_with (refine ⟨trivial, ?_⟩; gi_at_call 71; refine (callsIn_wide.2 HI.out).mono ?_; rintro e w2 ⟨rfl, rfl⟩)
        refine hR.mono ?_
        rintro e w3 (⟨rfl, hJ3, hk3⟩ | ⟨rfl, hJx3⟩)
        · have d2 : Boxed w3 Bs 9 (.string ⟨#[]⟩) := hk3 _ (.inl rfl) _ HB3.out
          gi_wp2
          go_roundw
          case rel => exact ⟨_, ⟨#[]⟩, d2, Nat.zero_le _, Lib.hid (by rw [lstOf_snoc, ← HE.out, HC.out]; simp [lines_nil]), hJ3⟩
          case measure => rw [leftOf_eq d2, leftOf_eq HB2.out]; show 0 < _; omega
        · gi_wp2
          refine bodyPost_ret (results_none rfl _ _ _) rfl ?_
          exact ⟨⟨_, rfl⟩, .inr ⟨_, by rw [lstOf_snoc, ← HE.out, HC.out]; exact List.prefix_refl _, hJx3⟩⟩
      | some i =>
        obtain ⟨hlt, hsp⟩ := lines_some ho
        rw [ho] at hi
        have HI := Lib.hid (hi wr)
        have HC := Lib.hid hsp
        clear hi ho hsp
        have hlt' : i < rest.size := by simpa using hlt
        have hT := HT.out
        have e1 : (rest.extract 0 (i + 1)).data.toList = rest.data.toList.take (i + 1) := by simp
        have e2 : (rest.extract (i + 1) rest.size).data.toList = rest.data.toList.drop (i + 1) := Lib.extract_to_end rest (i + 1)
        have z1 := extract_size rest 0 (i + 1)
        have z2 : (rest.extract (i + 1) rest.size).size < rest.size := by rw [ByteArray.size_extract]; omega
        have s1 : IntKind.i64.wrap ((i : Int) + 1) = (i : Int) + 1 := IntWalk.i64_in _ (by omega)
        have s2 : (0 : Int) ≤ (i : Int) := by omega
        have s3 : (0 : Int) ≤ (i : Int) + 1 := by omega
        have s4 : (i : Int) + 1 ≤ (rest.size : Int) := by omega
        have s5 : ((i : Int) + 1).toNat = i + 1 := by omega
        obtain ⟨fn, tmps, assign, body, hy, hR⟩ := hY pre ⟨rest.extract 0 (i + 1), by omega⟩ (wr.setCell ⟨Bs, 0, none⟩ (.string (rest.extract (i + 1) rest.size))).drew (hJd _ _ (hJ _ _ _ hj))
        dsimp only at hy
        have b3 : Boxed (wr.setCell ⟨Bs, 0, none⟩ (.string (rest.extract (i + 1) rest.size))).drew Bs 9 (.string (rest.extract (i + 1) rest.size)) := b2.set _
        have HB2 := Lib.hid b2
        have HB3 := Lib.hid b3
        have HE1 := Lib.hid (And.intro e1 e2)
        have hm : Tryz.prog.follows .mixedOrders = true := by kernel_rfl
        clear b2 b3 e1 e2 hlt
        gi_wp2_with (refine ⟨trivial, ?_⟩; gi_at_call 71; refine (callsIn_wide.2 HI.out).mono ?_; rintro e w2 ⟨rfl, rfl⟩)
        gi_region_with_o (fail)
        all_goals
          gi_wp2
          refine hR.mono ?_
          rintro e w3 (⟨rfl, hJ3, hk3⟩ | ⟨rfl, hJx3⟩)
          · have d2 : Boxed w3 Bs 9 (.string (rest.extract (i + 1) rest.size)) := hk3 _ (.inl rfl) _ HB3.out
            gi_wp2
            go_roundw
            case rel => exact ⟨_, rest.extract (i + 1) rest.size, d2, by omega, Lib.hid (by rw [lstOf_snoc, ← HE.out, HC.out, HE1.out.1, HE1.out.2]; simp), hJ3⟩
            case measure => rw [leftOf_eq d2, leftOf_eq HB2.out]; omega
          · gi_wp2
            refine bodyPost_ret (results_none rfl _ _ _) rfl ?_
            exact ⟨⟨_, rfl⟩, .inr ⟨_, by rw [lstOf_snoc, ← HE.out, HC.out, HE1.out.1]; exact ⟨linesB (rest.data.toList.drop (i + 1)), by simp⟩, hJx3⟩⟩
/-- What Lines returns: the closure, with a box of its own. -/
def RetLines (w : World) (t : ByteArray) (e : Ending) (w' : World) : Prop := ∃ Bs : Nat, e = .returned (.func (.func 70) #[] #[.pointer (some ⟨Bs, 0, none⟩)]) ∧ Boxed w' Bs 9 (.string t) ∧ w.heap.size ≤ Bs ∧ Below w.heap.size w w'
theorem lines_all (t : ByteArray) (w : World) : Calls Tryz.prog 33 #[.string t] w (RetLines w t) := by
  have hmf : ∀ (fn : Fn) (first cap : Array Value) (w : World), (Instr.makeFunc fn first cap).run Tryz.prog w = .ok (.func fn first cap) w := fun _ _ _ _ => rfl
  go_enter Tryz.func33, Tryz.ntmps33
  go_wp2
  go_ret
  exact ⟨_, rfl, Boxed.new w _ _, Nat.le_refl _, (Below.refl _ w).alloc (Nat.le_refl _) _⟩
theorem lines_box (n : Nat) (hn : 1 ≤ n) (Bs : Nat) (t : ByteArray) (ht : t.size ≤ 20000000) (w : World) (h : Boxed w Bs 9 (.string t)) :
    SeqDr n Tryz.prog 70 #[.pointer (some ⟨Bs, 0, none⟩)] (fun x : Piece => #[Value.string x.1]) (Kp3 Bs Bs Bs) Bs
      (fun ys => lstOf ys = linesB t.data.toList) (fun pre => lstOf pre <+: linesB t.data.toList) w := fun l J Jx W hW hJ hJd hY h0 =>
  lines1_in n hn l Bs t ht J Jx hJ hJd hY W ((hW _ h.lt).trans h) h0
end Go.Proofs.YtlephnfepofbbaaGreatDoor
