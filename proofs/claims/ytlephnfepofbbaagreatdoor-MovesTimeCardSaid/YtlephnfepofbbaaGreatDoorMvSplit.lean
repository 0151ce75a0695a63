/-
  The contract of strings.SplitSeq at a byte, an iterator that keeps what is left of the text in a box: it tells the pieces in their order.
-/
import Derived.Test.YtlephnfepofbbaaGreatDoorMtBase
import Derived.Test.YtlephnfepofbbaaGreatDoorMvApp
import Derived.Lib.IndexBytes
import Derived.IntWalk
import Derived.Shelf.Abstract
import Derived.Shelf.RegionOpen
import Derived.OwnWalkIn
import Derived.TacticsInMore
import Derived.LoopNIn
import Derived.LoopIn
namespace Go.Proofs.YtlephnfepofbbaaGreatDoor
open Go.RowKit Go.Shelf

attribute [local go_sem] Oper.semAt_some

/-- A piece: a short text. -/
abbrev Piece := { s : ByteArray // s.size ≤ 20000000 }
def lstOf (l : List Piece) : List (List UInt8) := l.map (fun x => x.1.data.toList)
theorem lstOf_snoc (l : List Piece) (x : Piece) : lstOf (l ++ [x]) = lstOf l ++ [x.1.data.toList] := by simp [lstOf]
/-- What a round keeps: the iterator's three boxes. -/
def Kp3 (B1 B2 B3 : Nat) (A B : World) : Prop := ∀ k, k = B1 ∨ k = B2 ∨ k = B3 → ∀ o, A.heap[k]? = some o → B.heap[k]? = some o
theorem Kp3.refl (B1 B2 B3 : Nat) (A : World) : Kp3 B1 B2 B3 A A := fun _ _ _ h => h
theorem Kp3.trans {B1 B2 B3 : Nat} {A B C : World} (h : Kp3 B1 B2 B3 A B) (k : Kp3 B1 B2 B3 B C) : Kp3 B1 B2 B3 A C := fun x hx o ho => k x hx o (h x hx o ho)
theorem Kp3.below {B1 B2 B3 n : Nat} {A B : World} (h : Below n A B) (h1 : B1 < n) (h2 : B2 < n) (h3 : B3 < n) : Kp3 B1 B2 B3 A B := fun k hk o ho => by
  have : k < n := by rcases hk with rfl | rfl | rfl <;> assumption
  rw [h.block k this]; exact ho
theorem Kp3.put {B1 B2 B3 n : Nat} (h1 : B1 < n) (h2 : B2 < n) (h3 : B3 < n) (W : World) (l : Nat) (o' : Obj) (hl : n ≤ l) : Kp3 B1 B2 B3 W (W.putObj l o') := fun k hk o ho => by
  have : k < n := by rcases hk with rfl | rfl | rfl <;> assumption
  rw [World.putObj_heap_other (by omega)]; exact ho
theorem Kp3.set {B1 B2 B3 b : Nat} (h1 : b ≠ B1) (h2 : b ≠ B2) (h3 : b ≠ B3) (W : World) (i : Nat) (v : Value) : Kp3 B1 B2 B3 W (W.setCell ⟨b, i, none⟩ v) := fun k hk o ho => by
  have : k ≠ b := by rcases hk with rfl | rfl | rfl <;> exact fun e => by simp_all
  rw [Below.heap_setCell _ _ _ k this]; exact ho

/-- How long the text that is left is. -/
def leftOf (B : Nat) (w : World) : Nat := match w.cell? ⟨B, 0, none⟩ with
  | some (.string r) => r.size
  | _ => 0
theorem leftOf_eq {B : Nat} {w : World} {t : TypeId} {r : ByteArray} (h : Boxed w B t (.string r)) : leftOf B w = r.size := by
  unfold leftOf; rw [h.cell]

theorem find_none (l : List UInt8) (c : UInt8) (h : l.findIdx? (· == c) = none) : Lib.indexByte l c = -1 := by
  induction l with
  | nil => rfl
  | cons b l ih =>
    rw [List.findIdx?_cons] at h
    unfold Lib.indexByte
    by_cases hb : (b == c) = true
    · rw [if_pos hb] at h; cases h
    · rw [if_neg hb] at h
      have h' : l.findIdx? (· == c) = none := by simpa using h
      rw [if_neg hb, ih h']; rfl
theorem find_some (l : List UInt8) (c : UInt8) (i : Nat) (h : l.findIdx? (· == c) = some i) : Lib.indexByte l c = (i : Int) := by
  induction l generalizing i with
  | nil => cases h
  | cons b l ih =>
    rw [List.findIdx?_cons] at h
    unfold Lib.indexByte
    by_cases hb : (b == c) = true
    · rw [if_pos hb] at h; cases h; rw [if_pos hb]; rfl
    · rw [if_neg hb] at h
      obtain ⟨j, hj, rfl⟩ : ∃ j, l.findIdx? (· == c) = some j ∧ j + 1 = i := by simpa using h
      have hne : (((j : Nat) : Int) == -1) = false := by rw [beq_eq_false_iff_ne]; omega
      rw [if_neg hb, ih j hj, hne, if_neg (by simp)]
      omega
theorem extract_size (s : ByteArray) (a b : Nat) : (s.extract a b).size ≤ s.size := by
  rw [ByteArray.size_extract]; omega
theorem sep_none (c : UInt8) (l : List UInt8) (h : l.findIdx? (· == c) = none) : splitB c l = [l] := by
  refine split_none c l fun hm => ?_
  have := List.findIdx?_eq_none_iff.1 h c hm
  simp at this
theorem sep_some (c : UInt8) (l : List UInt8) (i : Nat) (h : l.findIdx? (· == c) = some i) : i < l.length ∧ splitB c l = l.take i :: splitB c (l.drop (i + 1)) ∧ l = l.take i ++ c :: l.drop (i + 1) := by
  obtain ⟨hlt, hc, hb⟩ := List.findIdx?_eq_some_iff_getElem.1 h
  have e : l[i] = c := by simpa using hc
  have hp : c ∉ l.take i := fun hm => by
    obtain ⟨j, hj, hv⟩ := List.getElem_of_mem hm
    have hj' : j < i := by simp at hj; omega
    have := hb j hj'
    rw [List.getElem_take] at hv
    simp [hv] at this
  have e3 : l = l.take i ++ c :: l.drop (i + 1) := by
    conv => lhs; rw [← List.take_append_drop i l, List.drop_eq_getElem_cons hlt, e]
  refine ⟨hlt, ?_, e3⟩
  conv => lhs; rw [e3]
  exact split_cut _ _ _ hp
theorem index_any (c : UInt8) (s : ByteArray) (w : World) : Calls Tryz.prog 139 #[.string s, .string ⟨#[c]⟩] w fun e w' =>
    e = .returned (.int .i64 (match s.data.toList.findIdx? (· == c) with | some i => (i : Int) | none => -1)) ∧ w = w' :=
  (Tryz.strings_Index_one s c w).mono fun e w' ⟨he, hw⟩ => ⟨by
    rw [he]
    cases ho : s.data.toList.findIdx? (· == c) with
    | none => rw [find_none _ _ ho]
    | some i => rw [find_some _ _ _ ho], hw.symm⟩

set_option maxRecDepth 100000 in
set_option maxHeartbeats 4000000 in
theorem split1_in (c : UInt8) (n : Nat) (hn : 1 ≤ n) (l Bp Bs Bn : Nat) (hps : Bp ≠ Bs) (hns : Bn ≠ Bs) (t : ByteArray) (ht : t.size ≤ 20000000) (J Jx : List Piece → World → Prop) (hJ : ∀ s A v, J s A → J s (A.setCell ⟨Bs, 0, none⟩ v))
    (hY : ∀ pre (x : Piece) W, J pre W → YieldAt Fence.wide (n - 1) Tryz.prog l #[.string x.1] W fun e W' =>
      (e = .returned (.bool true) ∧ J (pre ++ [x]) W' ∧ Kp3 Bp Bs Bn W W') ∨ (e = .returned (.bool false) ∧ Jx (pre ++ [x]) W'))
    (W : World) (bp : Boxed W Bp 9 (.string ⟨#[c]⟩)) (bs : Boxed W Bs 9 (.string t)) (bn : Boxed W Bn 3 (.int .i64 0)) (h0 : J [] W) :
    CallsIn Fence.wide n Tryz.prog 137 #[.func (.yield l) #[] #[], .pointer (some ⟨Bp, 0, none⟩), .pointer (some ⟨Bs, 0, none⟩), .pointer (some ⟨Bn, 0, none⟩)] W fun e W' => (∃ v, e = .returned v) ∧
      ((∃ ys, lstOf ys = splitB c t.data.toList ∧ J ys W') ∨ (∃ pre, lstOf pre <+: splitB c t.data.toList ∧ Jx pre W')) := by
  have HT := Lib.hid ht
  clear ht
  have c1 := bp.cell
  have c2 := bs.cell
  refine callsIn_of_wp Tryz.func137 rfl trivial ?_ rfl
  simp only [Tryz.ntmps137, List.size_toArray, List.length_cons, List.length_nil, Nat.reduceAdd, Nat.reduceSub, Array.replicate_succ, Array.replicate_zero, List.push_toArray, List.append_toArray, List.nil_append, List.cons_append]
  gi_wp2
  gi_loopw [7, 8] (fun _ _ wr => ∃ (pre : List Piece) (rest : ByteArray), (Boxed wr Bp 9 (.string ⟨#[c]⟩) ∧ Boxed wr Bs 9 (.string rest) ∧ Boxed wr Bn 3 (.int .i64 0)) ∧ rest.size ≤ t.size ∧ Hid (lstOf pre ++ splitB c rest.data.toList = splitB c t.data.toList) ∧ J pre wr)
    (fun _ _ wr => leftOf Bs wr)
  case atStart => exact ⟨[], t, ⟨bp, bs, bn⟩, Nat.le_refl _, rfl, h0⟩
  case round =>
    obtain ⟨pre, rest, ⟨b1, b2, b3⟩, hz, HE, hj⟩ := hrel
    clear c1 c2
    have c1 := b1.cell
    have c2 := b2.cell
    have c3 := b3.cell
    have hi := index_any c rest
    cases ho : rest.data.toList.findIdx? (· == c) with
    | none =>
      rw [ho] at hi
      have HI := Lib.hid (hi wr)
      have HC := Lib.hid (sep_none c _ ho)
      clear hi ho
      obtain ⟨fn, tmps, assign, body, hy, hR⟩ := hY pre ⟨rest, by have := HT.out; omega⟩ wr hj
      dsimp only at hy
      gi_wp2_with (refine ⟨trivial, ?_⟩; gi_at_call 139; refine (callsIn_wide.2 HI.out).mono ?_; rintro e w2 ⟨rfl, rfl⟩)
      refine hR.mono ?_
      rintro e w3 (⟨rfl, hJ3, hk3⟩ | ⟨rfl, hJx3⟩)
      · gi_wp2
        go_end0
        exact ⟨⟨_, rfl⟩, .inl ⟨_, by rw [lstOf_snoc, ← HE.out, HC.out], hJ3⟩⟩
      · gi_wp2
        go_end0
        exact ⟨⟨_, rfl⟩, .inr ⟨_, by rw [lstOf_snoc, ← HE.out, HC.out]; exact List.prefix_refl _, hJx3⟩⟩
    | some i =>
      obtain ⟨hlt, hsp, _⟩ := sep_some c _ i ho
      rw [ho] at hi
      have HI := Lib.hid (hi wr)
      have HC := Lib.hid hsp
      clear hi ho hsp
      have hlt' : i < rest.size := by simpa using hlt
      have e2 := Lib.extract_to_end rest (i + 1)
      have z1 := extract_size rest 0 i
      have z2 : (rest.extract (i + 1) rest.size).size < rest.size := by rw [ByteArray.size_extract]; omega
      have l0 : (0 : Int) ≤ (i : Int) := by omega
      have l1 : (i : Int) ≤ (rest.size : Int) := by omega
      have hT := HT.out
      have l2 : IntKind.i64.wrap ((i : Int) + 1) = ((i + 1 : Nat) : Int) := by rw [IntWalk.i64_in _ (by omega)]; omega
      have l2' : IntKind.i64.wrap ((i : Int) + 0) = (i : Int) := by rw [IntWalk.i64_in _ (by omega)]; omega
      have l3 : (0 : Int) ≤ ((i + 1 : Nat) : Int) := by omega
      have l4 : ((i + 1 : Nat) : Int) ≤ (rest.size : Int) := by omega
      obtain ⟨fn, tmps, assign, body, hy, hR⟩ := hY pre ⟨rest.extract 0 i, by omega⟩ wr hj
      dsimp only at hy
      gi_wp2_with (refine ⟨trivial, ?_⟩; gi_at_call 139; refine (callsIn_wide.2 HI.out).mono ?_; rintro e w2 ⟨rfl, rfl⟩)
      refine hR.mono ?_
      rintro e w3 (⟨rfl, hJ3, hk3⟩ | ⟨rfl, hJx3⟩)
      · have d1 : Boxed w3 Bp 9 (.string ⟨#[c]⟩) := hk3 _ (.inl rfl) _ b1
        have d2 : Boxed w3 Bs 9 (.string rest) := hk3 _ (.inr (.inl rfl)) _ b2
        have d3 : Boxed w3 Bn 3 (.int .i64 0) := hk3 _ (.inr (.inr rfl)) _ b3
        have f1 := d1.cell
        have f2 := d2.cell
        have f3 := d3.cell
        have f4 := d2.frozen
        gi_wp2
        go_roundw
        case rel =>
          refine ⟨_, rest.extract (i + 1) rest.size, ⟨d1.other hps _, d2.set _, d3.other hns _⟩, by omega, ?_, hJ _ _ _ hJ3⟩
          show _ = _
          rw [lstOf_snoc, ← HE.out, HC.out, e2]
          simp
        case measure => rw [leftOf_eq (d2.set _), leftOf_eq b2]; omega
      · gi_wp2
        refine bodyPost_ret (results_none rfl _ _ _) rfl ?_
        exact ⟨⟨_, rfl⟩, .inr ⟨_, by rw [lstOf_snoc, ← HE.out, HC.out]; exact ⟨splitB c (rest.data.toList.drop (i + 1)), by simp⟩, hJx3⟩⟩
end Go.Proofs.YtlephnfepofbbaaGreatDoor
