/-
  The contract of package fdset's parseRun, at every string.
-/
import Derived.Test.YthpinbngggcgcaaDoorFdP
import Derived.Deep.QuietTactic
import Derived.BigQuiet
import Derived.Lib.Hide
namespace Go.Proofs.YthpinbngggcgcaaDoor
open Go.RowKit

attribute [local go_sem] Oper.semAt_some
/-- What Cut returns: the parts about the first hyphen, if there is one. -/
def RetCut (w : World) (s : ByteArray) (o : Option Nat) (e : Ending) (w' : World) : Prop :=
  (match o with
    | none => e = .returned (.tuple #[.string s, .string ⟨#[]⟩, .bool false])
    | some i => e = .returned (.tuple #[.string (s.extract 0 i), .string (s.extract (i + 1) s.size), .bool true])) ∧ Below w.heap.size w w'
theorem find_none (l : List UInt8) (c : UInt8) (h : l.findIdx? (· == c) = none) : Lib.indexByte l c = -1 := by
  induction l with
  | nil => rfl
  | cons b l ih =>
    rw [List.findIdx?_cons] at h
    unfold Lib.indexByte
    by_cases hb : (b == c) = true
    · rw [if_pos hb] at h; cases h
    · rw [if_neg hb] at h
      have h' : l.findIdx? (· == c) = none := by simpa using h
      rw [if_neg hb, ih h']; rfl
theorem find_some (l : List UInt8) (c : UInt8) (i : Nat) (h : l.findIdx? (· == c) = some i) : Lib.indexByte l c = (i : Int) := by
  induction l generalizing i with
  | nil => cases h
  | cons b l ih =>
    rw [List.findIdx?_cons] at h
    unfold Lib.indexByte
    by_cases hb : (b == c) = true
    · rw [if_pos hb] at h; cases h; rw [if_pos hb]; rfl
    · rw [if_neg hb] at h
      obtain ⟨j, hj, rfl⟩ : ∃ j, l.findIdx? (· == c) = some j ∧ j + 1 = i := by simpa using h
      have hne : (((j : Nat) : Int) == -1) = false := by rw [beq_eq_false_iff_ne]; omega
      rw [if_neg hb, ih j hj, hne, if_neg (by simp)]
      omega
set_option maxRecDepth 100000 in
set_option maxHeartbeats 1000000 in
theorem cut_in (s : ByteArray) (w : World) (hs : s.size ≤ 281474976710656) : Calls Tryd.prog 55 #[.string s, .string ⟨#[45]⟩] w (RetCut w s (s.data.toList.findIdx? (· == 45))) := by
  have hi := fun w => Tryd.stringslite_Index_one s 45 w
  cases ho : s.data.toList.findIdx? (· == 45) with
  | none =>
    rw [find_none _ _ ho] at hi
    have HI := Lib.hid hi
    clear hi ho
    go_enter Tryd.func55, Tryd.ntmps55
    go_wp2_with fail
    refine (HI.out _).mono ?_
    rintro e w' ⟨rfl, rfl⟩
    go_wp2_with fail
    go_ret3
    exact ⟨rfl, Below.refl _ _⟩
  | some i =>
    rw [find_some _ _ _ ho] at hi
    have hlt : i < s.size := by
      have := (List.findIdx?_eq_some_iff_getElem.1 ho).1
      simpa using this
    have HI := Lib.hid hi
    clear hi ho
    have l0 : (0 : Int) ≤ (i : Int) := by omega
    have l1 : (i : Int) ≤ (s.size : Int) := by omega
    have l2 : IntKind.i64.wrap ((i : Int) + 1) = ((i + 1 : Nat) : Int) := by rw [IntWalk.i64_in _ (by omega)]; omega
    have l3 : (0 : Int) ≤ ((i + 1 : Nat) : Int) := by omega
    have l4 : ((i + 1 : Nat) : Int) ≤ (s.size : Int) := by omega
    go_enter Tryd.func55, Tryd.ntmps55
    go_wp2_with fail
    refine (HI.out _).mono ?_
    rintro e w' ⟨rfl, rfl⟩
    go_wp2_with fail
    go_quiet (fail)
    go_wp2_with fail
    go_ret3
    exact ⟨rfl, below_drewN (Below.refl _ _) _⟩
theorem cut_any (s : ByteArray) (w : World) (hs : s.size ≤ 281474976710656) : Calls Tryd.prog 49 #[.string s, .string ⟨#[45]⟩] w (RetCut w s (s.data.toList.findIdx? (· == 45))) := by
  have H := cut_in s w hs
  cases ho : s.data.toList.findIdx? (· == 45) with
  | none =>
    rw [ho] at H
    have HH := Lib.hid H
    clear H ho
    go_enter Tryd.func49, Tryd.ntmps49
    go_wp2_with fail
    refine HH.out.mono ?_
    rintro e w' ⟨rfl, hb⟩
    go_wp2_with fail
    go_ret3
    exact ⟨rfl, hb⟩
  | some i =>
    rw [ho] at H
    have HH := Lib.hid H
    clear H ho
    go_enter Tryd.func49, Tryd.ntmps49
    go_wp2_with fail
    refine HH.out.mono ?_
    rintro e w' ⟨rfl, hb⟩
    go_wp2_with fail
    go_ret3
    exact ⟨rfl, hb⟩

/-- What parseRun returns. -/
def RetRun (w : World) (o : Option (Nat × Nat)) (e : Ending) (w' : World) : Prop :=
  (match o with
    | none => ∃ f l : Int, e = .returned (.tuple #[.int .i64 f, .int .i64 l, .bool false])
    | some x => e = .returned (.tuple #[.int .i64 (x.1 : Int), .int .i64 (x.2 : Int), .bool true])) ∧ Below w.heap.size w w'
theorem fd_ok {s : ByteArray} {n : Nat} (w : World) (hs : s.size ≤ 281474976710656) (hE : Errs w) (h : fdP s.data.toList = some n) : Calls Tryd.prog 50 #[.string s] w fun e w' => e = .returned (.tuple #[.int .i64 (n : Int), .bool true]) ∧ Below w.heap.size w w' :=
  (parseFd_any s w hs hE).mono fun _ _ ⟨he, hb⟩ => ⟨by rw [he, h]; rfl, hb⟩
theorem fd_no {s : ByteArray} (w : World) (hs : s.size ≤ 281474976710656) (hE : Errs w) (h : fdP s.data.toList = none) : Calls Tryd.prog 50 #[.string s] w fun e w' => e = .returned (.tuple #[.int .i64 0, .bool false]) ∧ Below w.heap.size w w' :=
  (parseFd_any s w hs hE).mono fun _ _ ⟨he, hb⟩ => ⟨by rw [he, h]; rfl, hb⟩
theorem extract_size (s : ByteArray) (a b : Nat) : (s.extract a b).size ≤ s.size := by
  rw [ByteArray.size_extract]; omega
theorem extract_head (s : ByteArray) (i : Nat) : (s.extract 0 i).data.toList = s.data.toList.take i := by
  simp [ByteArray.data_extract]

set_option maxRecDepth 100000 in
set_option maxHeartbeats 2000000 in
theorem parseRun_any (s : ByteArray) (w : World) (hs : s.size ≤ 281474976710656) (hE : Errs w) : Calls Tryd.prog 41 #[.string s] w (RetRun w (runP s.data.toList)) := by
  have H := cut_any s w hs
  unfold runP
  cases ho : s.data.toList.findIdx? (· == 45) with
  | none =>
    rw [ho] at H
    dsimp only
    have HH := Lib.hid H
    clear H ho
    cases hf : fdP s.data.toList with
    | none =>
      have HF := Lib.hid (fun w hE => fd_no w hs hE hf)
      rw [Option.map_none]
      clear hf hs
      have HE := Lib.hid hE
      clear hE
      go_enter Tryd.func41, Tryd.ntmps41
      go_wp2_with fail
      refine HH.out.mono ?_
      rintro e w1 ⟨rfl, hb⟩
      go_wp2_with fail
      refine (HF.out _ (HE.out.below hb)).mono ?_
      rintro e w2 ⟨rfl, hb2⟩
      go_wp2_with fail
      go_ret3
      exact ⟨⟨_, _, rfl⟩, below_endL hb hb2⟩
    | some n =>
      have HF := Lib.hid (fun w hE => fd_ok w hs hE hf)
      rw [Option.map_some]
      clear hf hs
      have HE := Lib.hid hE
      clear hE
      go_enter Tryd.func41, Tryd.ntmps41
      go_wp2_with fail
      refine HH.out.mono ?_
      rintro e w1 ⟨rfl, hb⟩
      go_wp2_with fail
      refine (HF.out _ (HE.out.below hb)).mono ?_
      rintro e w2 ⟨rfl, hb2⟩
      go_wp2_with fail
      go_ret3
      exact ⟨rfl, below_endL hb hb2⟩
  | some i =>
    rw [ho] at H
    dsimp only
    have e1 := extract_head s i
    have e2 := Lib.extract_to_end s (i + 1)
    have z1 := extract_size s 0 i
    have z2 := extract_size s (i + 1) s.size
    unfold RetCut at H
    dsimp only at H
    obtain ⟨h, hh⟩ : ∃ h, s.extract 0 i = h := ⟨_, rfl⟩
    obtain ⟨t, ht⟩ : ∃ h, s.extract (i + 1) s.size = h := ⟨_, rfl⟩
    rw [hh] at H e1 z1
    rw [ht] at H e2 z2
    rw [← e1, ← e2]
    have HH := Lib.hid H
    have HE := Lib.hid hE
    clear H ho hh ht e1 e2 hE
    cases hf : fdP h.data.toList with
    | none =>
      have HF := Lib.hid (fun w hE => fd_no (s := h) w (by omega) hE hf)
      clear hf hs z1 z2
      go_enter Tryd.func41, Tryd.ntmps41
      go_wp2_with fail
      refine HH.out.mono ?_
      rintro e w1 ⟨rfl, hb⟩
      go_wp2_with fail
      refine (HF.out _ (HE.out.below hb)).mono ?_
      rintro e w2 ⟨rfl, hb2⟩
      go_wp2_with fail
      go_ret3
      exact ⟨⟨_, _, rfl⟩, below_endL hb hb2⟩
    | some n =>
      have HF := Lib.hid (fun w hE => fd_ok (s := h) w (by omega) hE hf)
      clear hf
      cases hg : fdP t.data.toList with
      | none =>
        have HG := Lib.hid (fun w hE => fd_no (s := t) w (by omega) hE hg)
        clear hg hs z1 z2
        go_enter Tryd.func41, Tryd.ntmps41
        go_wp2_with fail
        refine HH.out.mono ?_
        rintro e w1 ⟨rfl, hb⟩
        go_wp2_with fail
        refine (HF.out _ (HE.out.below hb)).mono ?_
        rintro e w2 ⟨rfl, hb2⟩
        have hb' := below_endL hb hb2
        clear hb hb2
        go_wp2_with fail
        refine (HG.out _ (HE.out.below hb')).mono ?_
        rintro e w3 ⟨rfl, hb3⟩
        go_wp2_with fail
        go_ret3
        exact ⟨⟨_, _, rfl⟩, below_endL hb' hb3⟩
      | some m =>
        have HG := Lib.hid (fun w hE => fd_ok (s := t) w (by omega) hE hg)
        clear hg hs z1 z2
        dsimp only
        by_cases hnm : n < m
        · rw [if_pos hnm]
          have hnm' : (n : Int) < (m : Int) := by omega
          go_enter Tryd.func41, Tryd.ntmps41
          go_wp2_with fail
          refine HH.out.mono ?_
          rintro e w1 ⟨rfl, hb⟩
          go_wp2_with fail
          refine (HF.out _ (HE.out.below hb)).mono ?_
          rintro e w2 ⟨rfl, hb2⟩
          have hb' := below_endL hb hb2
          clear hb hb2
          go_wp2_with fail
          refine (HG.out _ (HE.out.below hb')).mono ?_
          rintro e w3 ⟨rfl, hb3⟩
          go_wp2_with fail
          go_ret3
          exact ⟨rfl, below_endL hb' hb3⟩
        · rw [if_neg hnm]
          have hnm' : ¬ (n : Int) < (m : Int) := by omega
          go_enter Tryd.func41, Tryd.ntmps41
          go_wp2_with fail
          refine HH.out.mono ?_
          rintro e w1 ⟨rfl, hb⟩
          go_wp2_with fail
          refine (HF.out _ (HE.out.below hb)).mono ?_
          rintro e w2 ⟨rfl, hb2⟩
          have hb' := below_endL hb hb2
          clear hb hb2
          go_wp2_with fail
          refine (HG.out _ (HE.out.below hb')).mono ?_
          rintro e w3 ⟨rfl, hb3⟩
          go_wp2_with fail
          go_ret3
          exact ⟨⟨_, _, rfl⟩, below_endL hb' hb3⟩
end Go.Proofs.YthpinbngggcgcaaDoor
