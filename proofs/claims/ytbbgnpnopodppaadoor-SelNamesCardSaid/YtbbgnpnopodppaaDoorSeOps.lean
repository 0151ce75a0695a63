/-
  Select refused; Select, Holds of a law's world; Top; the law's sets.
-/
import Derived.Test.YtbbgnpnopodppaaDoorSeSel
import Derived.Test.YtbbgnpnopodppaaDoorKwUse
import Derived.Test.YtbbgnpnopodppaaDoorWdLaw
import Derived.Test.YtbbgnpnopodppaaDoorSeBase
namespace Go.Proofs.YtbbgnpnopodppaaDoor
open Go.RowKit Go.Shelf Go.Maps Go.ChangeMaps

def Rdy.no : Rdy := ⟨false, false, false, false, false, 0, 0⟩
def Ws.rdyAt (S : Ws) (n : Nat) : Rdy := match S.fd (n : Int) with
  | none => Rdy.no
  | some (i, k) => match S.ws[i]? with
    | none => Rdy.no
    | some x => x.ready k
section
variable {B : Nat} {W w w' : World} {p : Nat} {S : Ws} {N : Nat} {D : Nat → Prop}
theorem Ws.fd_in (h : Od B W p S N D w) {n : Int} {i : Nat} {k : Bool} (hf : S.fd n = some (i, k)) : ∃ x, S.ws[i]? = some x := by
  obtain ⟨L, _, h2, _⟩ := h
  have hi : i < S.ws.length := by
    unfold Ws.fd at hf
    split at hf
    · exact h2.fdok _ _ _ hf
    · cases hf
  exact ⟨_, List.getElem?_eq_getElem hi⟩
theorem Od.rdy (h : Od B W p S N D w) (n : Nat) : Calls Tryd.prog 19 #[.pointer (some ⟨p, 0, none⟩), .int .i64 (n : Int)] w fun e w' => e = .returned (rdyV (S.rdyAt n)) ∧ Kept (fun _ => False) w w' := by
  unfold Ws.rdyAt
  cases hf : S.fd (n : Int) with
  | none =>
    obtain ⟨L, rfl, k2, _⟩ := h
    exact wReady_no k2 hf
  | some q =>
    obtain ⟨i, k⟩ := q
    obtain ⟨x, hx⟩ := Ws.fd_in h hf
    simp only [hx]
    obtain ⟨L, rfl, k2, _⟩ := h
    exact wReady_any k2 hf hx
set_option maxRecDepth 100000 in
set_option maxHeartbeats 4000000 in
theorem select_nil (w : World) (top : Int) (a b c d : Nat) : Calls Tryd.prog 6 #[.pointer none, .int .i64 top, setV a b, setV c d] w fun e w' => e = .returned (.tuple #[setV 0 0, setV 0 0, .int .i64 0, .int .i64 1]) ∧ Below w.heap.size w w' := by
  obtain ⟨Z, hZ⟩ : ∃ Z, Z = allocL w [(22, #[.pointer none]), (3, #[.int .i64 top]), (28, #[.int .u32 (a : Int), .int .u32 (b : Int)]), (28, #[.int .u32 (c : Int), .int .u32 (d : Int)]), (28, #[.int .u32 0, .int .u32 0]), (28, #[.int .u32 0, .int .u32 0]), (3, #[.int .i64 0]), (24, #[.int .i64 1])] := ⟨_, rfl⟩
  have hB : Below w.heap.size w Z := by rw [hZ]; exact (allocL_kept _ w).1.below (fun _ e => e.elim) (Nat.le_refl _)
  have c0 : Z.cell? ⟨w.heap.size + 1 + 1 + 1 + 1, 0, none⟩ = some (.int .u32 0) := by rw [hZ]; exact (allocL_at (t := 28) (cs := #[.int .u32 0, .int .u32 0]) w 4 rfl).cell 0
  have c1 : Z.cell? ⟨w.heap.size + 1 + 1 + 1 + 1, 1, none⟩ = some (.int .u32 0) := by rw [hZ]; exact (allocL_at (t := 28) (cs := #[.int .u32 0, .int .u32 0]) w 4 rfl).cell 1
  have c2 : Z.cell? ⟨w.heap.size + 1 + 1 + 1 + 1 + 1, 0, none⟩ = some (.int .u32 0) := by rw [hZ]; exact (allocL_at (t := 28) (cs := #[.int .u32 0, .int .u32 0]) w 5 rfl).cell 0
  have c3 : Z.cell? ⟨w.heap.size + 1 + 1 + 1 + 1 + 1, 1, none⟩ = some (.int .u32 0) := by rw [hZ]; exact (allocL_at (t := 28) (cs := #[.int .u32 0, .int .u32 0]) w 5 rfl).cell 1
  have c4 : Z.cell? ⟨w.heap.size + 1 + 1 + 1 + 1 + 1 + 1, 0, none⟩ = some (.int .i64 0) := by rw [hZ]; exact (allocL_at (t := 3) (cs := #[.int .i64 0]) w 6 rfl).cell 0
  have c5 : Z.cell? ⟨w.heap.size + 1 + 1 + 1 + 1 + 1 + 1 + 1, 0, none⟩ = some (.int .i64 1) := by rw [hZ]; exact (allocL_at (t := 24) (cs := #[.int .i64 1]) w 7 rfl).cell 0
  simp only [allocL] at hZ
  skip
  refine (callsIn_wide (n := 4)).1 ?_
  refine callsIn_of_wp_marks Tryd.func6 rfl trivial ?_ rfl
  simp only [Tryd.ntmps6, List.size_toArray, List.length_cons, List.length_nil, Nat.reduceAdd, Nat.reduceSub, Array.replicate_succ, Array.replicate_zero, List.push_toArray, List.append_toArray, List.nil_append, List.cons_append]
  gi_wp2_with fail
  refine wpIn_wide.2 (wp_scope_straight ((wpIn_wide (n := 4)).1 ?_))
  gi_wp2
  rw [Exit.noGoto_ret, ← hZ]
  exact ⟨_, by simp [results, Tryd.results6, go_sem, c0, c1, c2, c3, c4, c5], rfl, hB⟩
set_option maxRecDepth 100000 in
set_option maxHeartbeats 4000000 in
theorem select_neg (w : World) (p : Nat) {top : Int} (ht : top < 0) (a b c d : Nat) : Calls Tryd.prog 6 #[.pointer (some ⟨p, 0, none⟩), .int .i64 top, setV a b, setV c d] w fun e w' => e = .returned (.tuple #[setV 0 0, setV 0 0, .int .i64 0, .int .i64 2]) ∧ Below w.heap.size w w' := by
  obtain ⟨Z, hZ⟩ : ∃ Z, Z = allocL w [(22, #[.pointer (some ⟨p, 0, none⟩)]), (3, #[.int .i64 top]), (28, #[.int .u32 (a : Int), .int .u32 (b : Int)]), (28, #[.int .u32 (c : Int), .int .u32 (d : Int)]), (28, #[.int .u32 0, .int .u32 0]), (28, #[.int .u32 0, .int .u32 0]), (3, #[.int .i64 0]), (24, #[.int .i64 2])] := ⟨_, rfl⟩
  have hB : Below w.heap.size w Z := by rw [hZ]; exact (allocL_kept _ w).1.below (fun _ e => e.elim) (Nat.le_refl _)
  have c0 : Z.cell? ⟨w.heap.size + 1 + 1 + 1 + 1, 0, none⟩ = some (.int .u32 0) := by rw [hZ]; exact (allocL_at (t := 28) (cs := #[.int .u32 0, .int .u32 0]) w 4 rfl).cell 0
  have c1 : Z.cell? ⟨w.heap.size + 1 + 1 + 1 + 1, 1, none⟩ = some (.int .u32 0) := by rw [hZ]; exact (allocL_at (t := 28) (cs := #[.int .u32 0, .int .u32 0]) w 4 rfl).cell 1
  have c2 : Z.cell? ⟨w.heap.size + 1 + 1 + 1 + 1 + 1, 0, none⟩ = some (.int .u32 0) := by rw [hZ]; exact (allocL_at (t := 28) (cs := #[.int .u32 0, .int .u32 0]) w 5 rfl).cell 0
  have c3 : Z.cell? ⟨w.heap.size + 1 + 1 + 1 + 1 + 1, 1, none⟩ = some (.int .u32 0) := by rw [hZ]; exact (allocL_at (t := 28) (cs := #[.int .u32 0, .int .u32 0]) w 5 rfl).cell 1
  have c4 : Z.cell? ⟨w.heap.size + 1 + 1 + 1 + 1 + 1 + 1, 0, none⟩ = some (.int .i64 0) := by rw [hZ]; exact (allocL_at (t := 3) (cs := #[.int .i64 0]) w 6 rfl).cell 0
  have c5 : Z.cell? ⟨w.heap.size + 1 + 1 + 1 + 1 + 1 + 1 + 1, 0, none⟩ = some (.int .i64 2) := by rw [hZ]; exact (allocL_at (t := 24) (cs := #[.int .i64 2]) w 7 rfl).cell 0
  simp only [allocL] at hZ
  skip
  refine (callsIn_wide (n := 4)).1 ?_
  refine callsIn_of_wp_marks Tryd.func6 rfl trivial ?_ rfl
  simp only [Tryd.ntmps6, List.size_toArray, List.length_cons, List.length_nil, Nat.reduceAdd, Nat.reduceSub, Array.replicate_succ, Array.replicate_zero, List.push_toArray, List.append_toArray, List.nil_append, List.cons_append]
  gi_wp2_with fail
  refine wpIn_wide.2 (wp_scope_straight ((wpIn_wide (n := 4)).1 ?_))
  gi_wp2
  rw [Exit.noGoto_ret, ← hZ]
  exact ⟨_, by simp [results, Tryd.results6, go_sem, c0, c1, c2, c3, c4, c5], rfl, hB⟩
set_option maxRecDepth 100000 in
set_option maxHeartbeats 4000000 in
theorem select_big (w : World) (p : Nat) {top : Int} (ht : 64 < top) (a b c d : Nat) : Calls Tryd.prog 6 #[.pointer (some ⟨p, 0, none⟩), .int .i64 top, setV a b, setV c d] w fun e w' => e = .returned (.tuple #[setV 0 0, setV 0 0, .int .i64 0, .int .i64 2]) ∧ Below w.heap.size w w' := by
  obtain ⟨Z, hZ⟩ : ∃ Z, Z = allocL w [(22, #[.pointer (some ⟨p, 0, none⟩)]), (3, #[.int .i64 top]), (28, #[.int .u32 (a : Int), .int .u32 (b : Int)]), (28, #[.int .u32 (c : Int), .int .u32 (d : Int)]), (28, #[.int .u32 0, .int .u32 0]), (28, #[.int .u32 0, .int .u32 0]), (3, #[.int .i64 0]), (24, #[.int .i64 2])] := ⟨_, rfl⟩
  have hB : Below w.heap.size w Z := by rw [hZ]; exact (allocL_kept _ w).1.below (fun _ e => e.elim) (Nat.le_refl _)
  have c0 : Z.cell? ⟨w.heap.size + 1 + 1 + 1 + 1, 0, none⟩ = some (.int .u32 0) := by rw [hZ]; exact (allocL_at (t := 28) (cs := #[.int .u32 0, .int .u32 0]) w 4 rfl).cell 0
  have c1 : Z.cell? ⟨w.heap.size + 1 + 1 + 1 + 1, 1, none⟩ = some (.int .u32 0) := by rw [hZ]; exact (allocL_at (t := 28) (cs := #[.int .u32 0, .int .u32 0]) w 4 rfl).cell 1
  have c2 : Z.cell? ⟨w.heap.size + 1 + 1 + 1 + 1 + 1, 0, none⟩ = some (.int .u32 0) := by rw [hZ]; exact (allocL_at (t := 28) (cs := #[.int .u32 0, .int .u32 0]) w 5 rfl).cell 0
  have c3 : Z.cell? ⟨w.heap.size + 1 + 1 + 1 + 1 + 1, 1, none⟩ = some (.int .u32 0) := by rw [hZ]; exact (allocL_at (t := 28) (cs := #[.int .u32 0, .int .u32 0]) w 5 rfl).cell 1
  have c4 : Z.cell? ⟨w.heap.size + 1 + 1 + 1 + 1 + 1 + 1, 0, none⟩ = some (.int .i64 0) := by rw [hZ]; exact (allocL_at (t := 3) (cs := #[.int .i64 0]) w 6 rfl).cell 0
  have c5 : Z.cell? ⟨w.heap.size + 1 + 1 + 1 + 1 + 1 + 1 + 1, 0, none⟩ = some (.int .i64 2) := by rw [hZ]; exact (allocL_at (t := 24) (cs := #[.int .i64 2]) w 7 rfl).cell 0
  simp only [allocL] at hZ
  have h0 : ¬ top < 0 := by omega
  refine (callsIn_wide (n := 4)).1 ?_
  refine callsIn_of_wp_marks Tryd.func6 rfl trivial ?_ rfl
  simp only [Tryd.ntmps6, List.size_toArray, List.length_cons, List.length_nil, Nat.reduceAdd, Nat.reduceSub, Array.replicate_succ, Array.replicate_zero, List.push_toArray, List.append_toArray, List.nil_append, List.cons_append]
  gi_wp2_with fail
  refine wpIn_wide.2 (wp_scope_straight ((wpIn_wide (n := 4)).1 ?_))
  gi_wp2
  rw [Exit.noGoto_ret, ← hZ]
  exact ⟨_, by simp [results, Tryd.results6, go_sem, c0, c1, c2, c3, c4, c5], rfl, hB⟩
/-- What Select answers, whatever top is. -/
def selP (rd : Nat → Rdy) (top : Int) (a b c d : Nat) : Acc × Nat × Nat := if top < 0 ∨ 64 < top then (⟨0, 0, 0, 0⟩, 0, 2) else match selR rd top (reqs a b c d) ⟨0, 0, 0, 0⟩ with
  | some A => (A, A.many, 0)
  | none => (⟨0, 0, 0, 0⟩, 0, 110)
abbrev tupS (r : Acc × Nat × Nat) : Value := .tuple #[setV r.1.r0 r.1.r1, setV r.1.s0 r.1.s1, .int .i64 (r.2.1 : Int), .int .i64 (r.2.2 : Int)]
/-- What Select, what Holds leave in a law. -/
def SelO (B : Nat) (W : World) (p : Nat) (S : Ws) (N : Nat) (D : Nat → Prop) (w : World) (r : Acc × Nat × Nat) (e : Ending) (w' : World) : Prop := e = .returned (tupS r) ∧ OdM B W p S N D w w' ∧ Below w.heap.size w w'
def HoldO (B : Nat) (W : World) (p : Nat) (S : Ws) (N : Nat) (D : Nat → Prop) (w : World) (b : Bool) (e : Ending) (w' : World) : Prop := e = .returned (.bool b) ∧ OdM B W p S N D w w' ∧ Below w.heap.size w w'
theorem Od.belM (h : Od B W p S N D w) (hb : Below w.heap.size w w') : OdM B W p S N D w w' := h.keptM (Kept.of_below hb)
theorem Od.sel (h : Od B W p S N D w) (top : Int) {a b c d : Nat} (ha : a < 4294967296) (hb : b < 4294967296) (hc : c < 4294967296) (hd : d < 4294967296) (hT : Fs.Tab w) (hg : 0 < w.heap.size) :
    Calls Tryd.prog 6 #[.pointer (some ⟨p, 0, none⟩), .int .i64 top, setV a b, setV c d] w (SelO B W p S N D w (selP S.rdyAt top a b c d)) := by
  unfold selP
  by_cases h1 : top < 0
  · rw [if_pos (.inl h1)]
    refine (select_neg w p h1 a b c d).mono ?_
    rintro e w' ⟨rfl, hb⟩
    exact ⟨rfl, h.belM hb, hb⟩
  by_cases h2 : 64 < top
  · rw [if_pos (.inr h2)]
    refine (select_big w p h2 a b c d).mono ?_
    rintro e w' ⟨rfl, hb⟩
    exact ⟨rfl, h.belM hb, hb⟩
  rw [if_neg (by omega)]
  refine (select_any (rd := S.rdyAt) ⟨by omega, by omega⟩ ha hb hc hd hT hg (fun w' hb' n _ => (h.below hb').rdy n)).mono ?_
  rintro e w' ⟨rfl, hb⟩
  refine ⟨?_, h.belM hb, hb⟩
  unfold selV
  cases selR S.rdyAt top (reqs a b c d) ⟨0, 0, 0, 0⟩ <;> rfl
theorem Od.holds (h : Od B W p S N D w) (top : Int) {a b c d : Nat} (ha : a < 4294967296) (hb : b < 4294967296) (hc : c < 4294967296) (hd : d < 4294967296) (hT : Fs.Tab w) (hg : 0 < w.heap.size) {A : Acc} {n e : Nat} (hr : selP S.rdyAt top a b c d = (A, n, e)) :
    Calls Tryd.prog 12 #[.pointer (some ⟨p, 0, none⟩), .int .i64 top, setV a b, setV c d] w (HoldO B W p S N D w (((e : Int) != 0) || decide (0 < (n : Int)))) := by
  have hb2 : Below w.heap.size w (allocL w [(28, #[.int .u32 (a : Int), .int .u32 (b : Int)]), (28, #[.int .u32 (c : Int), .int .u32 (d : Int)])]) := (allocL_kept _ w).1.below (fun _ e => e.elim) (Nat.le_refl _)
  have HS := Lib.hid ((h.below hb2).sel top ha hb hc hd (hT.below hg hb2) (Nat.lt_of_lt_of_le hg hb2.size))
  rw [hr] at HS
  have HB := Lib.hid (And.intro h hb2)
  clear h hT hb2 hr
  have fin : ∀ (w2 : World) (o1 o2 : Obj), Below w.heap.size w w2 → OdM B W p S N D w ((w2.alloc o1).alloc o2) ∧ Below w.heap.size w ((w2.alloc o1).alloc o2) := fun w2 o1 o2 hb3 => by
    have hb4 := (hb3.alloc hb3.size o1).alloc (by have := hb3.size; simp; omega) o2
    exact ⟨HB.out.1.belM hb4, hb4⟩
  have FIN := Lib.hid fin
  clear fin
  by_cases he : e = 0
  · subst he
    go_enter Tryd.func12, Tryd.ntmps12
    go_wp2_with fail
    refine HS.out.mono ?_
    rintro e w2 ⟨rfl, _, hb3⟩
    have HB3 := Lib.hid (HB.out.2.trans (hb3.mono HB.out.2.size))
    clear hb3
    go_wp2_with fail
    go_ret
    exact ⟨by simp, FIN.out _ _ _ HB3.out⟩
  · have he2 : ((e : Int) != 0) = true := by simp; omega
    go_enter Tryd.func12, Tryd.ntmps12
    go_wp2_with fail
    refine HS.out.mono ?_
    rintro e w2 ⟨rfl, _, hb3⟩
    have HB3 := Lib.hid (HB.out.2.trans (hb3.mono HB.out.2.size))
    clear hb3
    go_wp2_with fail
    go_ret
    exact ⟨by simp [he2], FIN.out _ _ _ HB3.out⟩
end
theorem memT_le (a b : Nat) (ha : a < 4294967296) (hb : b < 4294967296) : -1 ≤ Fs.topI a b ∧ Fs.topI a b ≤ 63 := by
  have h1 := Fs.bitLen_le32 a ha
  have h2 := Fs.bitLen_le32 b hb
  unfold Fs.topI
  repeat' split
  all_goals omega
set_option maxRecDepth 100000 in
set_option maxHeartbeats 4000000 in
theorem topS_any (a b c d : Nat) (w : World) (ha : a < 4294967296) (hb : b < 4294967296) (hc : c < 4294967296) (hd : d < 4294967296) :
    Calls Tryd.prog 11 #[setV a b, setV c d] w fun e w' => e = .returned (.int .i64 (max (Fs.topI a b) (Fs.topI c d) + 1)) ∧ Below w.heap.size w w' := by
  have H1 := Lib.hid (fun w => Fs.top_any a b w ha hb)
  have H2 := Lib.hid (fun w => Fs.top_any c d w hc hd)
  obtain ⟨m1, m2⟩ := memT_le a b ha hb
  obtain ⟨m3, m4⟩ := memT_le c d hc hd
  obtain ⟨x, hx⟩ : ∃ x, x = Fs.topI a b := ⟨_, rfl⟩
  obtain ⟨y, hy⟩ : ∃ y, y = Fs.topI c d := ⟨_, rfl⟩
  rw [← hx] at H1 m1 m2 ⊢
  rw [← hy] at H2 m3 m4 ⊢
  have wr1 : IntKind.i64.wrap (max x y + 1) = max x y + 1 := IntWalk.i64_in _ (by omega)
  obtain ⟨X, hX⟩ : ∃ X, X = allocL w [(28, #[.int .u32 (a : Int), .int .u32 (b : Int)]), (28, #[.int .u32 (c : Int), .int .u32 (d : Int)])] := ⟨_, rfl⟩
  have hBX : Below w.heap.size w X := by rw [hX]; exact (allocL_kept _ w).1.below (fun _ e => e.elim) (Nat.le_refl _)
  have b0 : Blk X w.heap.size 28 (setC a b) := by rw [hX]; exact allocL_at w 0 rfl
  have b1 : Blk X (w.heap.size + 1) 28 (setC c d) := by rw [hX]; exact allocL_at w 1 rfl
  simp only [allocL] at hX
  have k0 : X.drew.cell? ⟨w.heap.size, 0, none⟩ = some (.int .u32 (a : Int)) := b0.cell 0
  have k1 : X.drew.cell? ⟨w.heap.size, 1, none⟩ = some (.int .u32 (b : Int)) := b0.cell 1
  have k2 : X.drew.cell? ⟨w.heap.size + 1, 0, none⟩ = some (.int .u32 (c : Int)) := b1.cell 0
  have k3 : X.drew.cell? ⟨w.heap.size + 1, 1, none⟩ = some (.int .u32 (d : Int)) := b1.cell 1
  have HB := Lib.hid (And.intro hBX (And.intro b0.lt b1.lt))
  clear b0 b1 hBX hx hy
  go_enter Tryd.func11, Tryd.ntmps11
  go_wp2_with fail
  rw [← hX]
  clear hX
  go_region_held3 (fun w' => w'.cell? ⟨w.heap.size, 0, none⟩ = some (.int .u32 (a : Int)) ∧ w'.cell? ⟨w.heap.size, 1, none⟩ = some (.int .u32 (b : Int)) ∧ w'.cell? ⟨w.heap.size + 1, 0, none⟩ = some (.int .u32 (c : Int)) ∧ w'.cell? ⟨w.heap.size + 1, 1, none⟩ = some (.int .u32 (d : Int))) (first | with_reducible exact ⟨k0, k1, k2, k3⟩ | with_reducible exact ⟨k4, k5, k6, k7⟩ | with_reducible exact HK) (first
    | (go_at_call_of 27 (Value.int .u32 (a : Int)); refine (H1.out _).mono ?_; rintro e W4 ⟨rfl, hb4⟩; have k4 := (hb4.cell (p := ⟨w.heap.size, 0, none⟩) HB.out.2.1).trans k0; have k5 := (hb4.cell (p := ⟨w.heap.size, 1, none⟩) HB.out.2.1).trans k1; have k6 := (hb4.cell (p := ⟨w.heap.size + 1, 0, none⟩) HB.out.2.2).trans k2; have k7 := (hb4.cell (p := ⟨w.heap.size + 1, 1, none⟩) HB.out.2.2).trans k3; have HB4 := Lib.hid hb4; clear hb4)
    | (go_at_call_of 27 (Value.int .u32 (c : Int)); refine (H2.out _).mono ?_; rintro e W5 ⟨rfl, hb5⟩; have HK := And.intro ((hb5.cell (p := ⟨w.heap.size, 0, none⟩) (Nat.lt_of_lt_of_le HB.out.2.1 HB4.out.size)).trans k4) (And.intro ((hb5.cell (p := ⟨w.heap.size, 1, none⟩) (Nat.lt_of_lt_of_le HB.out.2.1 HB4.out.size)).trans k5) (And.intro ((hb5.cell (p := ⟨w.heap.size + 1, 0, none⟩) (Nat.lt_of_lt_of_le HB.out.2.2 HB4.out.size)).trans k6) ((hb5.cell (p := ⟨w.heap.size + 1, 1, none⟩) (Nat.lt_of_lt_of_le HB.out.2.2 HB4.out.size)).trans k7))); have HB5 := Lib.hid (Fs.below_endL HB4.out hb5); clear hb5))
  go_wp2_with fail
  go_ret
  exact ⟨rfl, Fs.below_endL HB.out.1 ⟨HB5.out.os, HB5.out.tape, HB5.out.output, HB5.out.size, HB5.out.block⟩⟩
/-- A list of descriptors as two words. -/
def ofL (zs : List Nat) : Nat × Nat := zs.foldl (fun q n => (Fs.w0 q.1 n, Fs.w1 q.2 n)) (0, 0)
theorem ofL_words : ∀ (zs : List Nat) (pre : List Int) (q : Nat × Nat), (∀ n ∈ zs, n < 64) → Fs.WordsOf pre q.1 q.2 → Fs.WordsOf (pre ++ zs.map (fun n : Nat => (n : Int))) (zs.foldl (fun q n => (Fs.w0 q.1 n, Fs.w1 q.2 n)) q).1 (zs.foldl (fun q n => (Fs.w0 q.1 n, Fs.w1 q.2 n)) q).2
  | [], pre, q, _, h => by simpa using h
  | n :: zs, pre, q, hz, h => by
    have h2 := ofL_words zs (pre ++ [(n : Int)]) (Fs.w0 q.1 n, Fs.w1 q.2 n) (fun m hm => hz m (List.mem_cons_of_mem _ hm)) (h.more (hz n (by simp)))
    simpa using h2
theorem words_uniq {zs : List Int} {x y x' y' : Nat} (h : Fs.WordsOf zs x y) (k : Fs.WordsOf zs x' y') : x = x' ∧ y = y' := by
  obtain ⟨h1, h2, h3⟩ := h
  obtain ⟨k1, k2, k3⟩ := k
  constructor
  · refine Nat.eq_of_testBit_eq fun i => ?_
    by_cases hi : i < 32
    · have e1 := h3 i (by omega)
      have e2 := k3 i (by omega)
      unfold Fs.hasB at e1 e2
      rw [if_pos hi] at e1 e2
      rw [e1, e2]
    · rw [Nat.testBit_lt_two_pow (Nat.lt_of_lt_of_le h1 (Nat.pow_le_pow_right (by omega : 2 > 0) (by omega : 32 ≤ i))), Nat.testBit_lt_two_pow (Nat.lt_of_lt_of_le k1 (Nat.pow_le_pow_right (by omega : 2 > 0) (by omega : 32 ≤ i)))]
  · refine Nat.eq_of_testBit_eq fun i => ?_
    by_cases hi : i < 32
    · have e1 := h3 (i + 32) (by omega)
      have e2 := k3 (i + 32) (by omega)
      unfold Fs.hasB at e1 e2
      rw [if_neg (by omega), Nat.add_sub_cancel] at e1 e2
      rw [e1, e2]
    · rw [Nat.testBit_lt_two_pow (Nat.lt_of_lt_of_le h2 (Nat.pow_le_pow_right (by omega : 2 > 0) (by omega : 32 ≤ i))), Nat.testBit_lt_two_pow (Nat.lt_of_lt_of_le k2 (Nat.pow_le_pow_right (by omega : 2 > 0) (by omega : 32 ≤ i)))]
theorem ofL_uniq {zs : List Nat} (hz : ∀ n ∈ zs, n < 64) {x y : Nat} (h : Fs.WordsOf (zs.map (fun n : Nat => (n : Int))) x y) : x = (ofL zs).1 ∧ y = (ofL zs).2 := words_uniq h (by
  have := ofL_words zs [] (0, 0) hz Fs.wordsOf_nil
  simpa [ofL] using this)
theorem ofL_lt {zs : List Nat} (hz : ∀ n ∈ zs, n < 64) : (ofL zs).1 < 4294967296 ∧ (ofL zs).2 < 4294967296 := by
  have := ofL_words zs [] (0, 0) hz Fs.wordsOf_nil
  exact ⟨this.1, this.2.1⟩
theorem set_any (w : World) (v : Value) (zs : List Nat) (hv : Fs.IsL w v (zs.map (fun n : Nat => (n : Int)))) (hz : ∀ n ∈ zs, n < 64) : Calls Tryd.prog 7 #[v] w fun e w' => e = .returned (setV (ofL zs).1 (ofL zs).2) ∧ Below w.heap.size w w' := by
  have hb0 : Below w.heap.size w (w.alloc (.cells #[.int .u32 0, .int .u32 0] 28)) := (Below.refl _ _).alloc (Nat.le_refl _) _
  have HF := Lib.hid (Fs.fof_ok _ v _ (hv.below hb0) (by
    rw [List.all_eq_true]
    intro x hx
    obtain ⟨n, hn, rfl⟩ := List.mem_map.1 hx
    have := hz n hn
    simp [Fs.okI]
    omega))
  have HZ := Lib.hid (And.intro hz hb0)
  have bZ := Blk.new w 28 #[.int .u32 0, .int .u32 0]
  have HBZ := Lib.hid bZ
  clear hv hz hb0 bZ
  go_enter Tryd.func7, Tryd.ntmps7
  go_wp2_with fail
  refine HF.out.mono ?_
  rintro e w2 ⟨x, y, hw, rfl, hb2⟩
  obtain ⟨rfl, rfl⟩ := ofL_uniq HZ.out.1 hw
  have b2 := HBZ.out.same (hb2.block _ HBZ.out.lt)
  have k0 : w2.cell? ⟨w.heap.size, 0, none⟩ = some (.int .u32 0) := b2.cell 0
  have k1 : w2.cell? ⟨w.heap.size, 1, none⟩ = some (.int .u32 0) := b2.cell 1
  have z0 := b2.frozen 0
  have z1 := b2.frozen 1
  have l0 := b2.lt
  have HB2 := Lib.hid (And.intro b2 (HZ.out.2.trans (hb2.mono HZ.out.2.size)))
  clear hb2 hw b2
  go_wp2_with fail
  have bq := ((HB2.out.1.set_ 0 (.int .u32 ((ofL zs).1 : Int))).set_ 1 (.int .u32 ((ofL zs).2 : Int))).alloc (.cells #[.int .u32 ((ofL zs).1 : Int), .int .u32 ((ofL zs).2 : Int)] 28)
  have q0 := bq.cell 0
  have q1 := bq.cell 1
  simp at q0 q1
  exact bodyPost_ret (v := setV (ofL zs).1 (ofL zs).2) (by simp [results, Tryd.results7, go_sem, q0, q1]) rfl ⟨rfl, ((HB2.out.2.setCell (Nat.le_refl _) _).setCell (Nat.le_refl _) _).alloc (by simp; exact HB2.out.2.size) _⟩
end Go.Proofs.YtbbgnpnopodppaaDoor
