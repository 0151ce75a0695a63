/-
  The document's reader of a line, in memory: the step in the making.
-/
import Derived.Test.YtlephnfepofbbaaDoorMvRefMv
import Derived.Test.YtlephnfepofbbaaDoorMvRefText
import Derived.Test.YtlephnfepofbbaaDoorMvLine
namespace Go.Proofs.YtlephnfepofbbaaDoor
open Go.RowKit Go.Shelf Go.Maps Go.ChangeMaps

theorem St.wf_of {x : St} (h : stOk x = true) (hi : x.In) : x.Wf := by
  obtain ⟨h1, h2, h3, h4⟩ := stOk_parts h
  refine ⟨by have := hi.1; omega, fun n hn => by have := h3 n hn; unfold I64; omega, fun m hm => ?_⟩
  obtain ⟨⟨a1, a2⟩, _⟩ := mvOk_parts (h4 m hm)
  obtain ⟨b1, b2⟩ := hi.2 m hm
  unfold Mv.Wf I64
  omega
/-- What read returns. -/
def ReadR (w : World) (o : Option St) (e : Ending) (w' : World) : Prop := Below w.heap.size w w' ∧ match o with
  | some x => ∃ ov mvv, e = .returned (.tuple #[.agg #[.int .u64 (x.t : Int), .bool x.intr, ov, mvv], .bool true]) ∧ Rws w.heap.size ov mvv (.slice none 0 0) x.ord x.mv [] w'
  | none => ∃ (t : Int) (i : Bool) (A : Option Addr) (a c : Nat) (B : Option Addr) (b d : Nat), e = .returned (.tuple #[.agg #[.int .u64 t, .bool i, .slice A a c, .slice B b d], .bool false])
/-- The step in the making: its block g, its rows behind it; nothing below g is turned since V. -/
structure RS (g : Nat) (V : World) (x : St) (W : World) : Prop where
  l : Below g V W
  s : g < V.heap.size
  x : ∃ A a B c, Blk W g 30 #[.int .u64 (x.t : Int), .bool x.intr, .slice A x.ord.length a, .slice B x.mv.length c] ∧ Rws (g + 1) (.slice A x.ord.length a) (.slice B x.mv.length c) (.slice none 0 0) x.ord x.mv [] W
section
variable {g : Nat} {V W W' : World} {x : St}
theorem RS.under (h : RS g V x W) (k : Below W.heap.size W W') : RS g V x W' := by
  obtain ⟨h1, h2, A, a, B, c, h3, h4⟩ := h
  exact ⟨h1.trans (k.mono (Nat.le_trans (Nat.le_of_lt h2) h1.size)), h2, A, a, B, c, h3.same (k.block _ h3.lt), h4.below k⟩
theorem RS.ticks (h : RS g V x W) (t : Nat) : RS g V { x with t := t } (W.setCell ⟨g, 0, none⟩ (.int .u64 (t : Int))) := by
  obtain ⟨h1, h2, A, a, B, c, h3, h4⟩ := h
  exact ⟨h1.setCell (Nat.le_refl _) _, h2, A, a, B, c, by simpa using h3.set_ 0 (.int .u64 (t : Int)), h4.set (Nat.lt_succ_self _) _ _⟩
theorem RS.intr (h : RS g V x W) : RS g V { x with intr := true } (W.setCell ⟨g, 1, none⟩ (.bool true)) := by
  obtain ⟨h1, h2, A, a, B, c, h3, h4⟩ := h
  exact ⟨h1.setCell (Nat.le_refl _) _, h2, A, a, B, c, by simpa using h3.set_ 1 (.bool true), h4.set (Nat.lt_succ_self _) _ _⟩
end
/-- One more number of the order. -/
theorem RS.addO {g : Nat} {V W w1 : World} {x : St} {z : Int} {o : Obj} {A B A3 : Option Addr} {a c c3 : Nat} (l : Below g V W) (s : g < V.heap.size)
    (hb : Blk W g 30 #[.int .u64 (x.t : Int), .bool x.intr, .slice A x.ord.length a, .slice B x.mv.length c]) (hr : Rws (g + 1) (.slice A x.ord.length a) (.slice B x.mv.length c) (.slice none 0 0) x.ord x.mv [] W)
    (ho : RI.own w1 (g + 1) (.slice A3 (x.ord ++ [z]).length c3) (x.ord ++ [z])) (hg : (W.alloc o).grownBy w1 (Value.slice A x.ord.length a).ownBlock) :
    Blk w1 g 30 #[.int .u64 (x.t : Int), .bool x.intr, .slice A x.ord.length a, .slice B x.mv.length c] ∧ RS g V { x with ord := x.ord ++ [z] } (w1.setCell ⟨g, 2, none⟩ (.slice A3 (x.ord ++ [z]).length c3)) := by
  have hlt := hb.lt
  have h1 : Blk w1 g 30 #[.int .u64 (x.t : Int), .bool x.intr, .slice A x.ord.length a, .slice B x.mv.length c] := (hb.alloc o).same (hg.block g (by simp; omega) (fun e => by have := (RowK.own_lt hr.ord e.symm).2; omega))
  refine ⟨h1, ((l.alloc (Nat.le_trans (Nat.le_of_lt s) l.size) o).grown hg (by simp; omega) (fun k e => by have := (RowK.own_lt hr.ord e).2; omega)).setCell (Nat.le_refl _) _, s, A3, c3, B, c, by simpa using h1.set_ 2 (.slice A3 (x.ord ++ [z]).length c3), ?_⟩
  exact ((hr.alloc o).ordg ho hg).set (Nat.lt_succ_self _) _ _
/-- One more move. -/
theorem RS.addM {g lm : Nat} {V W w1 : World} {x : St} {p : Ms} {ps : List Ms} {A B B3 : Option Addr} {a c c3 : Nat} {o : Obj} (l : Below g V W) (s : g < V.heap.size)
    (hb : Blk W g 30 #[.int .u64 (x.t : Int), .bool x.intr, .slice A x.ord.length a, .slice B x.mv.length c]) (hr : Rws (g + 1) (.slice A x.ord.length a) (.slice B x.mv.length c) (.slice none 0 0) x.ord x.mv [] W)
    (e : ps.map Ms.m = x.mv) (hx : RM.own W (g + 1) (.slice B x.mv.length c) ps) (hy : ∀ p ∈ ps, OwB (g + 1) W p.v p.m.b) (hp : OwB (g + 1) W p.v p.m.b) (hlm : (ps ++ [p]).length = lm)
    (ho : RM.own w1 (g + 1) (.slice B3 lm c3) (ps ++ [p])) (hg : (W.alloc o).grownBy w1 (Value.slice B x.mv.length c).ownBlock) :
    Blk w1 g 30 #[.int .u64 (x.t : Int), .bool x.intr, .slice A x.ord.length a, .slice B x.mv.length c] ∧ RS g V { x with mv := x.mv ++ [p.m] } (w1.setCell ⟨g, 3, none⟩ (.slice B3 lm c3)) := by
  have hlt := hb.lt
  have h1 : Blk w1 g 30 #[.int .u64 (x.t : Int), .bool x.intr, .slice A x.ord.length a, .slice B x.mv.length c] := (hb.alloc o).same (hg.block g (by simp; omega) (fun e => by have := (RowK.own_lt hx e.symm).2; omega))
  have hl : lm = (x.mv ++ [p.m]).length := by rw [← hlm, ← e]; simp
  refine ⟨h1, ((l.alloc (Nat.le_trans (Nat.le_of_lt s) l.size) o).grown hg (by simp; omega) (fun k e => by have := (RowK.own_lt hx e).2; omega)).setCell (Nat.le_refl _) _, s, A, a, B3, c3, by rw [hl]; simpa using h1.set_ 3 (.slice B3 (x.mv ++ [p.m]).length c3), ?_⟩
  have h2 := (hr.alloc o).mvg (p := p) e (RowK.own_same hx fun k e => Below.heap_alloc _ _ _ (RowK.own_lt hx e).1) (fun q hq => (hy q hq).alloc o) (hp.alloc o) ho hg
  rw [hl] at h2 ⊢
  exact h2.set (Nat.lt_succ_self _) _ _
theorem spl_end {l : List UInt8} {fr : Nat} (h : (44 : UInt8) ∉ (l.take l.length).drop fr) : splitB 44 (l.drop fr) = [l.drop fr] := by
  rw [List.take_length] at h
  exact split_none 44 _ h
theorem spl_comma {l : List UInt8} {fr j : Nat} (hf : fr ≤ j) (hc : l[j]? = some 44) (h : (44 : UInt8) ∉ (l.take j).drop fr) : splitB 44 (l.drop fr) = (l.take j).drop fr :: splitB 44 (l.drop (j + 1)) := by
  obtain ⟨hj, hv⟩ := List.getElem?_eq_some_iff.1 hc
  have e : l.drop fr = (l.take j).drop fr ++ 44 :: l.drop (j + 1) := by
    conv => lhs; rw [← List.take_append_drop j l]
    rw [List.drop_append_of_le_length (by rw [List.length_take]; omega), List.drop_eq_getElem_cons hj, hv]
  rw [e]
  exact split_cut 44 _ _ h
theorem spl_more {l : List UInt8} {fr j : Nat} {c : UInt8} (hf : fr ≤ j) (hc : l[j]? = some c) (hn : c ≠ 44) (h : (44 : UInt8) ∉ (l.take j).drop fr) : (44 : UInt8) ∉ (l.take (j + 1)).drop fr := by
  obtain ⟨hj, hv⟩ := List.getElem?_eq_some_iff.1 hc
  rw [List.take_add_one, hc, List.drop_append_of_le_length (by rw [List.length_take]; omega)]
  intro hm
  rcases List.mem_append.1 hm with hm | hm
  · exact h hm
  · have : (44 : UInt8) = c := by simpa using hm
    exact hn this.symm
/-- The order's loop: from where a number begins, where it stands, what it has. -/
def OrdW (l : List UInt8) (OT : List Int) (fr j : Nat) (acc : List Int) : Prop :=
  (fr ≤ j ∧ j ≤ l.length ∧ (44 : UInt8) ∉ (l.take j).drop fr ∧ acc ++ (splitB 44 (l.drop fr)).map smallR = OT) ∨ (j = l.length + 1 ∧ acc = OT)
theorem OrdW.start {l : List UInt8} {OT : List Int} (h : (splitB 44 l).map smallR = OT) : OrdW l OT 0 0 [] := .inl ⟨Nat.le_refl _, Nat.zero_le _, by simp, by simpa using h⟩
theorem OrdW.last {l : List UInt8} {OT acc : List Int} {fr : Nat} (h : OrdW l OT fr l.length acc) : fr ≤ l.length ∧ OrdW l OT (l.length + 1) (l.length + 1) (acc ++ [smallR ((l.take l.length).drop fr)]) := by
  rcases h with ⟨h1, h2, h3, h4⟩ | ⟨h1, h2⟩
  · refine ⟨h1, .inr ⟨rfl, ?_⟩⟩
    rw [spl_end h3] at h4
    rw [List.take_length]; simpa using h4
  · omega
theorem OrdW.comma {l : List UInt8} {OT acc : List Int} {fr j : Nat} (h : OrdW l OT fr j acc) (hj : j < l.length) (hc : l[j]? = some 44) : fr ≤ j ∧ OrdW l OT (j + 1) (j + 1) (acc ++ [smallR ((l.take j).drop fr)]) := by
  rcases h with ⟨h1, h2, h3, h4⟩ | ⟨h1, h2⟩
  · refine ⟨h1, .inl ⟨Nat.le_refl _, hj, ?_, ?_⟩⟩
    · rw [List.drop_eq_nil_of_le (by rw [List.length_take]; omega)]; simp
    · rw [spl_comma h1 hc h3] at h4
      simpa using h4
  · omega
theorem OrdW.more {l : List UInt8} {OT acc : List Int} {fr j : Nat} {c : UInt8} (h : OrdW l OT fr j acc) (hj : j < l.length) (hc : l[j]? = some c) (hn : c ≠ 44) : OrdW l OT fr (j + 1) acc := by
  rcases h with ⟨h1, h2, h3, h4⟩ | ⟨h1, h2⟩
  · exact .inl ⟨by omega, hj, spl_more h1 hc hn h3, h4⟩
  · omega
theorem OrdW.end_ {l : List UInt8} {OT acc : List Int} {fr j : Nat} (h : OrdW l OT fr j acc) (hj : ¬ j ≤ l.length) : acc = OT := by
  rcases h with ⟨h1, h2, h3, h4⟩ | ⟨h1, h2⟩
  · omega
  · exact h2
theorem slice_str_run (s : ByteArray) (a b : Nat) (h1 : a ≤ b) (h2 : b ≤ s.size) (V : World) : (Instr.slice 9 (.string s) (some (.int .i64 (a : Int))) (some (.int .i64 (b : Int))) none).run Tryd.prog V = .ok (.string (s.extract a b)) V := by
  rw [run_slice_string_if _ _ _ _ _ _ _ Tryd.underlying9, if_pos ⟨by omega, by omega⟩, if_pos ⟨by omega, by omega⟩]
  rw [Int.toNat_natCast, Int.toNat_natCast]
theorem cand_none {ws : List (List UInt8)} {T q : Nat} {B : Bool} {ord : List Int} (h2 : ¬ ws.length < 2) (hh : headR ws = (⟨T, B, ord, []⟩, q)) (hm : movesR ws.length (ws.drop q) [] = none) : candR ws = none := by
  unfold candR
  rw [if_neg h2, hh]
  simp only []
  rw [hm]
theorem cand_some {ws : List (List UInt8)} {T q : Nat} {B : Bool} {ord : List Int} {ms : List Mv} (h2 : ¬ ws.length < 2) (hh : headR ws = (⟨T, B, ord, []⟩, q)) (hm : movesR ws.length (ws.drop q) [] = some ms) : candR ws = some ⟨T, B, ord, ms⟩ := by
  unfold candR
  rw [if_neg h2, hh]
  simp only []
  rw [hm]
theorem read_none {l : List UInt8} (h : candR (splitB 32 l) = none) : readR l = none := by unfold readR; rw [h]
theorem read_some {l : List UInt8} {x : St} (h : candR (splitB 32 l) = some x) : readR l = if stOk x = true ∧ lineB x = l then some x else none := by unfold readR; rw [h]
theorem movesR_step {f : Nat} {l : List (List UInt8)} {acc : List Mv} (hl : l ≠ []) (hf : l.length ≤ f) :
    movesR f l acc = if (moveR l).2 = 0 then none else movesR f (l.drop (moveR l).2) (acc ++ [(moveR l).1]) := by
  cases l with
  | nil => exact absurd rfl hl
  | cons w ws =>
    cases f with
    | zero => simp at hf
    | succ f =>
      conv => lhs; unfold movesR
      split
      · rfl
      · rename_i hk
        simp only [List.length_cons] at hf
        exact movesR_fuel _ _ _ _ (by rw [List.length_drop, List.length_cons]; omega) (by rw [List.length_drop, List.length_cons]; omega)
theorem movesR_nil (f : Nat) (acc : List Mv) : movesR f [] acc = some acc := by cases f <;> rfl
theorem lw_drop (ws : List ByteArray) (j : Nat) : lw (ws.drop j) = (lw ws).drop j := by unfold lw; rw [List.map_drop]
theorem words_cells {V0 V : World} {g N : Nat} {v : Value} {ws : List ByteArray} (h : RW.own V0 N v ws) (hg : V0.heap.size ≤ g) (b : Below g V0 V) : RW.own V N v ws := RowK.own_same h fun k e => b.block k (Nat.lt_of_lt_of_le (RowK.own_lt h e).1 hg)
end Go.Proofs.YtlephnfepofbbaaDoor
