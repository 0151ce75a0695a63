/-
  The chapter's examples: the rows that they make.
-/
import Derived.Test.YtlephnfepofbbaaGreatDoorMsNam2
namespace Go.Proofs.YtlephnfepofbbaaGreatDoor
open Go.RowKit Go.Shelf Go.Maps Go.ChangeMaps

theorem Od.plus {B : Nat} {W w w' : World} {p N : Nat} {S : Ws} {D : Nat → Prop} (h : Od B W p S N D w) (hb : Below w.heap.size w w') : Od B W p S N (fun b => D b ∨ (w.heap.size ≤ b ∧ b < w'.heap.size)) w' := by
  obtain ⟨L, h1, h2, h3, h4, h5⟩ := h
  refine ⟨L, h1, h2.below hb, h3.trans (hb.mono h2.hs), h4, fun b hb' => ?_⟩
  rcases hb' with hb' | hb'
  · exact ⟨Nat.lt_of_lt_of_le (h5 b hb').1 hb.size, (h5 b hb').2⟩
  · exact h2.beside hb.size hb'.1 hb'.2
def bads : List Mo := [⟨0, 0, 0, []⟩, ⟨8, 0, 0, []⟩, ⟨1, 0, 0, []⟩, ⟨3, 0, 1, []⟩, ⟨7, 1, 0, []⟩, ⟨2, 0, -1, []⟩, ⟨1, 0, 0, zB⟩, ⟨4, -1, 0, []⟩]
theorem bads_no : ∀ j (h : j < 8), mvOk (bads[j]'(h)) = false := by
  intro j h
  match j, h with
  | 0, _ => show mvOk ⟨0, 0, 0, []⟩ = false; decide
  | 1, _ => show mvOk ⟨8, 0, 0, []⟩ = false; decide
  | 2, _ => show mvOk ⟨1, 0, 0, []⟩ = false; decide
  | 3, _ => show mvOk ⟨3, 0, 1, []⟩ = false; decide
  | 4, _ => show mvOk ⟨7, 1, 0, []⟩ = false; decide
  | 5, _ => show mvOk ⟨2, 0, -1, []⟩ = false; decide
  | 6, _ =>
    show mvOk ⟨1, 0, 0, zB⟩ = false
    have : zB.length = 1001 := List.length_replicate
    rw [Bool.eq_false_iff]
    intro e
    have := ((mvOk_iff _).1 e).2.2.2.1
    simp only at this
    omega
  | 7, _ => show mvOk ⟨4, -1, 0, []⟩ = false; decide
def rowM (w : World) : List Value := [.int .i64 0, .int .i64 0, .int .i64 0, .slice none 0 0, .int .i64 8, .int .i64 0, .int .i64 0, .slice none 0 0, .int .i64 1, .int .i64 0, .int .i64 0, .slice none 0 0, .int .i64 3, .int .i64 0, .int .i64 1, .slice none 0 0, .int .i64 7, .int .i64 1, .int .i64 0, .slice none 0 0, .int .i64 2, .int .i64 0, .int .i64 (-1), .slice none 0 0, .int .i64 1, .int .i64 0, .int .i64 0, .slice (some ⟨w.heap.size, 0, none⟩) 1001 1001, .int .i64 4, .int .i64 (-1), .int .i64 0, .slice none 0 0]
def wM (w : World) : World := (w.alloc (.cells (Lib.byteCells zB).toArray 5)).alloc (.cells (rowM w).toArray 25)
theorem push2 (A : Array Obj) (a b : Obj) : ((A.push a).push b)[A.size]? = some a ∧ ((A.push a).push b)[A.size + 1]? = some b := by
  refine ⟨?_, ?_⟩
  all_goals
    simp only [Array.getElem?_push, Array.size_push]
    repeat' split
    all_goals first | rfl | omega | (exact absurd trivial (by assumption))
theorem wM_src (w : World) : SrcM (Lt (wM w).heap.size) (wM w) (.slice (some ⟨w.heap.size + 1, 0, none⟩) 8 8) bads ∧ Below w.heap.size w (wM w) := by
  have h0 : (wM w).heap[w.heap.size]? = some (.cells (Lib.byteCells zB).toArray 5 (0, 0)) := (push2 w.heap _ _).1
  have h1 : (wM w).heap[w.heap.size + 1]? = some (.cells (rowM w).toArray 25 (0, 0)) := (push2 w.heap _ _).2
  have hz : SrcB (Lt (wM w).heap.size) (wM w) (.slice (some ⟨w.heap.size, 0, none⟩) 1001 1001) zB := by
    have := sh_blk h0 1001 (by decide)
    unfold SrcB
    rw [show zB.length = 1001 from List.length_replicate]
    exact this
  refine ⟨⟨[(⟨0, 0, 0, []⟩, .slice none 0 0), (⟨8, 0, 0, []⟩, .slice none 0 0), (⟨1, 0, 0, []⟩, .slice none 0 0), (⟨3, 0, 1, []⟩, .slice none 0 0), (⟨7, 1, 0, []⟩, .slice none 0 0), (⟨2, 0, -1, []⟩, .slice none 0 0), (⟨1, 0, 0, zB⟩, .slice (some ⟨w.heap.size, 0, none⟩) 1001 1001), (⟨4, -1, 0, []⟩, .slice none 0 0)], rfl, sh_blk h1 8 (by decide), fun q hq => ?_⟩, ((Below.refl _ w).alloc (Nat.le_refl _) _).alloc (by simp) _⟩
  simp only [List.mem_cons, List.not_mem_nil, or_false] at hq
  rcases hq with rfl | rfl | rfl | rfl | rfl | rfl | rfl | rfl
  any_goals exact Sh.nil _ _
  exact hz
theorem SrcM.one {D : Nat → Prop} {W : World} {g off n c : Nat} {ms : List Mo} (h : SrcM D W (.slice (some ⟨g, off, none⟩) n c) ms) {k : Nat} (hk : k < ms.length) : SrcM D W (.slice (some ⟨g, off + k * 4, none⟩) 1 (c - k)) [ms[k]] := by
  obtain ⟨ps, rfl, ⟨A', c', e, h1, h2, h3, h4⟩, h5⟩ := h
  injection e with ea eb ec
  subst ea ec
  have hk' : k < ps.length := by simpa using hk
  obtain ⟨g', off', e2, hd, hg, hc⟩ := h4 (by omega)
  injection e2 with e2
  injection e2 with e3 e4 _
  subst e3 e4
  have hp := List.getElem?_eq_getElem hk'
  refine ⟨[ps[k]], by simp, ⟨_, c - k, rfl, by show 1 ≤ c - k; omega, by omega, (fun e => by cases e), fun _ => ⟨g, off + k * 4, rfl, hd, hg, fun j u hu => ?_⟩⟩, fun q hq => ?_⟩
  · have hj : j < 4 := by
      have := (List.getElem?_eq_some_iff.1 hu).1
      simpa [encM] using this
    have f := flat4_at encM (fun _ => rfl) ps k _ j hp hj
    rw [show ([ps[k]].flatMap encM) = encM ps[k] by simp] at hu
    rw [hu] at f
    have := hc _ _ f
    rw [Nat.add_assoc]; exact this
  · obtain rfl := List.mem_singleton.1 hq
    exact h5 _ (List.mem_of_getElem? hp)
theorem cut_mv (g j : Nat) (hj : j < 8) (W : World) : (Instr.slice 26 (.slice (some ⟨g, 0, none⟩) 8 8) (some (.int .i64 (j : Int))) (some (.int .i64 ((j : Int) + 1))) none).run Tryz.prog W = .ok (.slice (some ⟨g, 0 + j * 4, none⟩) 1 (8 - j)) W := by
  match j, hj with
  | 0, _ => go_simp
  | 1, _ => go_simp
  | 2, _ => go_simp
  | 3, _ => go_simp
  | 4, _ => go_simp
  | 5, _ => go_simp
  | 6, _ => go_simp
  | 7, _ => go_simp
def wO (w : World) (t : Nat) (i : Bool) (n : Int) : World := (w.alloc (.cells #[.int .i64 n] 3)).alloc (.cells #[.int .u64 (t : Int), .bool i, .slice (some ⟨w.heap.size, 0, none⟩) 1 1, .slice none 0 0] 36)
theorem wO_src (w : World) (t : Nat) (i : Bool) (n : Int) : SrcS (Lt (wO w t i n).heap.size) (wO w t i n) (.slice (some ⟨w.heap.size + 1, 0, none⟩) 1 1) [⟨t, i, [n], []⟩] ∧ Below w.heap.size w (wO w t i n) := by
  have h0 : (wO w t i n).heap[w.heap.size]? = some (.cells [Value.int .i64 n].toArray 3 (0, 0)) := (push2 w.heap _ _).1
  have h1 : (wO w t i n).heap[w.heap.size + 1]? = some (.cells [Value.int .u64 (t : Int), .bool i, .slice (some ⟨w.heap.size, 0, none⟩) 1 1, .slice none 0 0].toArray 36 (0, 0)) := (push2 w.heap _ _).2
  refine ⟨⟨[(⟨t, i, [n], []⟩, .slice (some ⟨w.heap.size, 0, none⟩) 1 1, .slice none 0 0)], rfl, sh_blk h1 1 (by decide), fun p hp => ?_⟩, ((Below.refl _ w).alloc (Nat.le_refl _) _).alloc (by simp) _⟩
  obtain rfl := List.mem_singleton.1 hp
  exact ⟨sh_blk h0 1 (by decide), [], rfl, Sh.nil _ _, fun q hq => by cases hq⟩
/-- A sleep with its end. -/
theorem sleep1 {B0 : Nat} {W0 : World} {p N : Nat} {S : Ws} {D D2 : Nat → Prop} {sb kb : Nat} {w : World} {hv : Value} {b : Bool} {l : List St} {o : List Int} (h : Blk w sb 88 #[.pointer (some ⟨kb, 0, none⟩)]) (hs : Sk D kb w l o) (ho : Od B0 W0 p S N D2 w) (hD : ∀ b, D b → D2 b) (hB : ∀ b, D b → B0 ≤ b) (hsb : D2 sb ∧ ¬ D sb)
    (hl : ∀ x ∈ l, x.mv = [] ∧ x.t ≤ 18446744073709551615) (hn : S.now ≤ 18446744073709551615) (hh : hv = .nilFunc ∨ ∃ f x y, hv = .func f x y) (hA : Ans hv b) (fo : Bool) (rest : Nat) (hr : rest ≤ 18446744073709551615) {i : Nat} {l' : List St} {o' : List Int} {S' : Ws} (he : slL (fun S _ => S) b fo rest l o S = (i, l', o', S')) :
    Calls Tryz.prog 12 #[.pointer (some ⟨sb, 0, none⟩), .pointer (some ⟨p, 0, none⟩), .int .u64 (rest : Int), .bool fo, hv] w fun e w' => e = .returned (.int .i64 (i : Int)) ∧ Sk D kb w' l' o' ∧ Od B0 W0 p S' N D2 w' ∧ (∀ b, D2 b → ¬ D b → w'.heap[b]? = w.heap[b]?) ∧ Blk w' sb 88 #[.pointer (some ⟨kb, 0, none⟩)] := by
  refine (sleep0 h hs ho hD hB hsb hl hn hh hA fo rest hr).mono ?_
  rintro e w' ⟨i1, l1, o1, S1, h1, rfl, a1, a2, a3, a4, _⟩
  rw [he] at h1
  injection h1 with e1 h1
  injection h1 with e2 h1
  injection h1 with e3 h1
  subst e1 e2 e3 h1
  exact ⟨rfl, a1, a2, a3, a4⟩
theorem slE1 (S : Ws) : slL (fun S _ => S) false true 9 [] [] S = (4, [], [], S) := by simp [slL, dueL, mainL]
theorem slE2 (S : Ws) : slL (fun S _ => S) false false 9 [] [] S = (2, [], [], S.pass 9) := by simp [slL, dueL, mainL]
theorem slE3 (S : Ws) : slL (fun S _ => S) true false 9 [] [] S = (1, [], [], S) := by simp [slL, dueL, mainL]
theorem slE4 (S : Ws) : slL (fun S _ => S) false true 9 [⟨2, true, [7], []⟩] [] S = (3, [], [7], S.pass 2) := by simp [slL, dueL, mainL]
set_option maxRecDepth 100000 in
theorem findW_none (w : World) (a : Int) : Calls Tryz.prog 116 #[.pointer none, .int .i64 a] w fun e w' => e = .returned (.tuple #[.pointer none, .int .i64 1]) ∧ w = w' := by
  have HC := Lib.hid (wmade_nil w)
  go_enter Tryz.func116, Tryz.ntmps116
  go_wp2_with (go_at_call 44; refine HC.out.mono ?_; rintro e w1 ⟨rfl, rfl⟩)
  go_ret2
  exact ⟨rfl, rfl⟩
set_option maxRecDepth 100000 in
theorem wire_none (w : World) : Calls Tryz.prog 81 #[.pointer none, .int .i64 (-1)] w fun e w' => e = .returned (.tuple #[.int .i64 0, .int .i64 1]) ∧ w = w' := by
  have HFN := Lib.hid (findW_none w (-1))
  go_enter Tryz.func81, Tryz.ntmps81
  go_wp2_with (go_at_call 116; refine HFN.out.mono ?_; rintro e w1 ⟨rfl, rfl⟩)
  go_ret2
  exact ⟨rfl, rfl⟩
set_option maxRecDepth 100000 in
theorem made_none (w : World) : Calls Tryz.prog 39 #[.pointer none] w fun e w' => e = .returned (.bool false) ∧ w = w' := by
  have HFN := Lib.hid (wire_none w)
  go_enter Tryz.func39, Tryz.ntmps39
  go_wp2_with (go_at_call 81; refine HFN.out.mono ?_; rintro e w1 ⟨rfl, rfl⟩)
  go_ret
  exact ⟨rfl, rfl⟩
set_option maxRecDepth 100000 in
/-- A script sleeps in no world. -/
theorem sleep_nowhere {sb kb : Nat} {w : World} (h : Blk w sb 88 #[.pointer (some ⟨kb, 0, none⟩)]) (n : Int) : Calls Tryz.prog 12 #[.pointer (some ⟨sb, 0, none⟩), .pointer none, .int .u64 n, .bool false, .nilFunc] w fun e w' => e = .returned (.int .i64 4) ∧ Below w.heap.size w w' := by
  have HM := Lib.hid (smade_any (h.alloc (.cells #[.nilFunc] 44)))
  have HW := Lib.hid (made_none (w.alloc (.cells #[.nilFunc] 44)))
  clear h
  go_enter Tryz.func12, Tryz.ntmps12
  go_wp2_with (first
    | (go_at_call 38; refine HM.out.mono ?_; rintro e w1 ⟨rfl, rfl⟩)
    | (go_at_call 39; refine HW.out.mono ?_; rintro e w1 ⟨rfl, rfl⟩))
  go_ret
  exact ⟨rfl, (Below.refl _ _).alloc (Nat.le_refl _) _⟩
end Go.Proofs.YtlephnfepofbbaaGreatDoor
