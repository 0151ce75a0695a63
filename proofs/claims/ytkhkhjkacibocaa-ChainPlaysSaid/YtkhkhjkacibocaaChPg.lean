/-
  For ChainPieces: two chains and an empty one; a region's S made stronger; moves and takes that keep the bytes in order.
-/
import Derived.Test.YtkhkhjkacibocaaChLines
import Derived.Deep.RegionHeld
namespace Go.Proofs.Ytkhkhjkacibocaa
open Go.RowKit Go.Shelf Go.Maps Go.ChangeMaps

section
variable {P : Program} {ops : Array Oper} {Q : Exit → Act → World → Prop} {md : Region.Mode} {S S' : World → Prop}
theorem wpAnyH_mono (hS : ∀ W, S' W → S W) : ∀ (fuel : Nat) (listed : Array Bool) (a : Act) (w : World), wpAnyH P md ops Q S' fuel listed a w → wpAnyH P md ops Q S fuel listed a w
  | 0, _, _, _, h => h
  | fuel + 1, _, _, _, h => ⟨h.1, fun i hi => wpOp_mono (fun a' w' h' => ⟨hS _ h'.1, wpAnyH_mono hS fuel _ a' w' h'.2⟩) (h.2 i hi)⟩
/-- More is known from here on. -/
theorem wpAnyH_more {fuel : Nat} {listed : Array Bool} {a : Act} {w : World} (hS : ∀ W, S' W → S W) (h1 : S' w) (h : S' w → wpAnyH P md ops Q S' fuel listed a w) : wpAnyH P md ops Q S fuel listed a w := wpAnyH_mono hS _ _ _ _ (h h1)
end

/-- Two chains, and an empty one. -/
structure Pg (w0 : World) (c : Nat) (L : List Lk) (d : Nat) (M : List Lk) (e : Nat) (xs zs : List Int) (wr : World) : Prop where
  two : Two wr w0.heap.size c L d M
  fl : flat L = xs
  fm : flat M = zs
  ee : Cn wr w0.heap.size 29 e []
  ae : ∀ i, ¬ F2 c L d M e i
  bel : Below w0.heap.size w0 wr
section
variable {w0 wr w1 : World} {c d e B : Nat} {L L' M : List Lk} {v : Value} {ps : List Ps} {xs ys zs : List Int}
theorem Pg.kept (h : Pg w0 c L d M e xs zs wr) (k : Kept (fun _ => False) wr w1) : Pg w0 c L d M e xs zs w1 := ⟨h.two.kept k, h.fl, h.fm, h.ee.kept k, h.ae, law_quiet h.bel h.two.cc.base k⟩
theorem Pg.step (h : Pg w0 c L d M e xs zs wr) (hc : Cn w1 w0.heap.size 29 c L') (hf : flat L' = ys) (m : Mc wr w1 (Fc c L) (Fc c L')) : Pg w0 c L' d M e ys zs w1 := by
  obtain ⟨t, m2⟩ := h.two.step hc m
  refine ⟨t, hf, h.fm, h.ee.kc m.k fun k i hk hd => ?_, fun i hi => ?_, law_step h.two.cc h.bel m⟩
  · rcases hk with rfl | ⟨x, hx, _⟩
    · exact h.ae i (.inl hd)
    · simp at hx
  · rcases m2.o _ _ hi with h2 | h2
    · exact h.ae i h2
    · have := h.ee.blk.lt; omega
theorem Pg.symm (h : Pg w0 c L d M e xs zs wr) : Pg w0 d M c L e zs xs wr := ⟨h.two.symm, h.fm, h.fl, h.ee, fun i hi => h.ae i hi.symm, h.bel⟩
theorem Pg.move (h : Pg w0 c L d M e xs zs wr) : Two wr w0.heap.size c L e [] := ⟨h.two.cc, h.ee, by rw [List.append_nil]; exact h.two.cc.sep, fun e1 => h.ae 0 (.inl (.inl e1.symm))⟩
/-- All of one of two. -/
theorem take2 (t : Two wr w0.heap.size c L d M) (hb : Below w0.heap.size w0 wr) (n : Nat) (hn : (flat M).length ≤ n ∧ n ≤ 1048576) : Calls Try.prog 25 #[.pointer (some ⟨d, 0, none⟩), .int .i64 (n : Int)] wr fun e w' =>
    ∃ v, e = .returned v ∧ RowB w' wr.heap.size v (flat M) ∧ ∃ M', Two w' w0.heap.size c L d M' ∧ flat M' = [] ∧ Below w0.heap.size w0 w' ∧ Mc wr w' (Fc d M) (Fc d M') ∧ ∀ (w2 : World) (D' : Nat → Nat → Prop), Mc w' w2 (Fc c L) D' → RowB w2 wr.heap.size v (flat M) := by
  refine (take_any t.dd (n : Int) (by omega)).mono ?_
  rintro e w' ⟨v, rfl, h1, M', h2, h3, h4, _⟩
  rw [show ((n : Int)).toNat = n from rfl] at h1 h3
  rw [List.take_of_length_le hn.1] at h1
  rw [List.drop_of_length_le hn.1] at h3
  exact ⟨v, rfl, h1, M', (t.symm.step h2 h4).1.symm, h3, law_step t.dd hb h4, h4, fun _ _ m => h1.mc m fun k i e => t.cc.lt e⟩
end

section
variable {w0 wr : World} {c e : Nat} {L E : List Lk} {gb zs : List Int}
theorem pmove (tt : Two wr w0.heap.size c L e E) (hall : gb ++ flat E ++ flat L = zs) (hB : Below w0.heap.size w0 wr) (hz : zs.length ≤ 3000) (q y : Nat) (hq : q ≤ 255) (hy : y = min q (flat L).length) :
    Calls Try.prog 20 #[.pointer (some ⟨c, 0, none⟩), .pointer (some ⟨e, 0, none⟩), .int .i64 (q : Int)] wr fun e' w' => e' = .returned (.tuple #[.int .i64 (y : Int), .int .i64 0]) ∧ ∃ L' E', Two w' w0.heap.size c L' e E' ∧ gb ++ flat E' ++ flat L' = zs ∧ Below w0.heap.size w0 w' := by
  have hl := congrArg List.length hall
  rw [List.length_append, List.length_append] at hl
  refine (move_yes tt q (by omega) (by omega)).mono ?_
  rintro e w' ⟨rfl, L', E', h1, h2, h3, h4⟩
  rw [← hy]
  exact ⟨rfl, L', E', h1, by rw [h2, h3, ← hall, List.append_assoc, List.append_assoc, List.append_assoc, List.take_append_drop], hB.trans (h4.below (fun _ _ e => F2.low tt e) tt.cc.base)⟩
theorem ptake (tt : Two wr w0.heap.size c L e E) (hall : gb ++ flat E ++ flat L = zs) (hB : Below w0.heap.size w0 wr) (hz : zs.length ≤ 3000) (q : Nat) (hq : q ≤ 255) {G : ByteArray} (hG : strOfNums gb = G) :
    ∃ X : ByteArray, G.size + X.size ≤ 6000 ∧ strOfNums (gb ++ (flat E).take q) = G ++ X ∧ Calls Try.prog 25 #[.pointer (some ⟨e, 0, none⟩), .int .i64 (q : Int)] wr fun e' w' => ∃ v, e' = .returned v ∧ (convert 31 9 v).run Try.prog w' = .ok (.string X) w' ∧ ∃ E2, Two w' w0.heap.size c L e E2 ∧ (gb ++ (flat E).take q) ++ flat E2 ++ flat L = zs ∧ Below w0.heap.size w0 w' := by
  have hl := congrArg List.length hall
  rw [List.length_append, List.length_append] at hl
  refine ⟨strOfNums ((flat E).take q), ?_, by rw [← strOfNums_append, hG], ?_⟩
  · rw [← hG, strOfNums_size, strOfNums_size, List.length_take]; omega
  · refine (take_any tt.dd (q : Int) (by omega)).mono ?_
    rintro e w' ⟨v, rfl, h1, E2, h2, h3, h4, _⟩
    rw [show ((q : Int)).toNat = q from rfl] at h1 h3
    exact ⟨v, rfl, rowB_str h1 (by rw [List.length_take]; omega), E2, (tt.symm.step h2 h4).1.symm, by rw [h3, List.append_assoc gb, List.take_append_drop]; exact hall, law_step tt.dd hB h4⟩
end
theorem pn_le {a b n : Nat} (h : a ≤ n ∧ b ≤ n ∧ n ≤ 1048576) : a ≤ 9223372036854775807 := by omega
theorem pn_le2 {a b n : Nat} (h : a ≤ n ∧ b ≤ n ∧ n ≤ 1048576) : b ≤ 9223372036854775807 := by omega
theorem pn_byte {q : Nat} (h : (q : Int) < 256) : q ≤ 255 := by omega
theorem pn_nat {z : Int} (h : 0 ≤ z) : ∃ q : Nat, z = (q : Int) := ⟨z.toNat, by omega⟩
theorem pn_wrap {q : Nat} (h : q ≤ 255) : wrap64 (q : Int) = (q : Int) := by unfold wrap64; omega
theorem pn_min {q l y : Nat} (h : y = min q l) : decide ((q : Int) < (y : Int)) = false ∧ ¬ q < y ∧ ¬ (q : Int) < (y : Int) := ⟨by simp; omega, by omega, by omega⟩
theorem pn_mod (k : Nat) : ∃ r : Nat, Int.tmod (k : Int) 3 = (r : Int) ∧ wrap64 (r : Int) = (r : Int) := ⟨k % 3, (Int.ofNat_tmod k 3).symm, by unfold wrap64; omega⟩
theorem pn_two {r : Nat} (h : ¬ r = 2) : ¬ (r : Int) = 2 ∧ ((r : Int) == 2) = false ∧ decide ((r : Int) = 2) = false := by
  have f2 : ¬ (r : Int) = 2 := by omega
  exact ⟨f2, by simpa using f2, by simpa using f2⟩
theorem pn_size {a b : Nat} (h : a + b ≤ 6000) : ¬ 9223372036854775807 < a + b ∧ a + b ≤ 9223372036854775807 := by omega
theorem pn_meas {k m : Nat} (h : k < m) : m - (intOf (.int .i64 ((k : Int) + 1))).toNat < m - (intOf (.int .i64 (k : Int))).toNat := by simp [intOf]; omega
theorem pn_lens {gb E L zs : List Int} {n : Nat} (h : gb ++ E ++ L = zs) (hz : zs.length = n) (hn : n ≤ 3000) : (E.length ≤ n ∧ L.length ≤ n ∧ n ≤ 1048576) ∧ gb.length + E.length ≤ 6000 := by
  have hl := congrArg List.length h
  rw [List.length_append, List.length_append] at hl
  omega
theorem pn_strs {gb E L zs : List Int} {n : Nat} {S7 T1 T2 T : ByteArray} (h : gb ++ E ++ L = zs) (hz : zs.length = n) (hn : n ≤ 3000) (h7 : strOfNums gb = S7) (h1 : strOfNums E = T1) (h2 : strOfNums L = T2) (hT : strOfNums zs = T) :
    S7 ++ T1 ++ T2 = T ∧ S7.size + T1.size ≤ 6000 ∧ S7.size + T1.size + T2.size ≤ 6000 := by
  have hl := congrArg List.length h
  rw [List.length_append, List.length_append] at hl
  refine ⟨by rw [← h7, ← h1, ← h2, strOfNums_append, strOfNums_append, h, hT], ?_, ?_⟩
  · rw [← h7, ← h1, strOfNums_size, strOfNums_size]; omega
  · rw [← h7, ← h1, ← h2, strOfNums_size, strOfNums_size, strOfNums_size]; omega
theorem pn_big {s t : ByteArray} {b : Nat} (h : s.size + t.size + b ≤ 6000) : ¬ 9223372036854775807 < (s ++ t).size + b ∧ (s ++ t).size + b ≤ 9223372036854775807 ∧ ¬ 9223372036854775807 < s.size + t.size + b ∧ s.size + t.size + b ≤ 9223372036854775807 := by
  rw [ByteArray.size_append]; omega
end Go.Proofs.Ytkhkhjkacibocaa
