/-
  For ChainPlays: what each call does to both chains and both of the reference's.
-/
import Derived.Test.YtkhkhjkacibocaaChDu
import Derived.Test.YtkhkhjkacibocaaChChunks
import Derived.Laws.OwnMore
namespace Go.Proofs.Ytkhkhjkacibocaa
open Go.RowKit Go.Shelf Go.Maps Go.ChangeMaps

/-- As Dd, with the first chain's chunks said. -/
def DL (κ : Kt) (L : List Lk) (fm xs ys : List Int) (gv : Value) (gs : List Int) (rv : Value) (rs : List Int) (W : World) : Prop :=
  ∃ M A1 p1 A2 p2 X, Dd κ L M A1 p1 xs A2 p2 ys X gv gs rv rs W ∧ flat M = fm
/-- The same, of bytes alone. -/
def DD (κ : Kt) (fl fm xs ys : List Int) (gv : Value) (gs : List Int) (rv : Value) (rs : List Int) (W : World) : Prop := ∃ L, DL κ L fm xs ys gv gs rv rs W ∧ flat L = fl
section
variable {κ : Kt} {L : List Lk} {fl fm xs ys gs rs : List Int} {gv rv : Value} {W W' : World}
theorem DL.dd (h : DL κ L fm xs ys gv gs rv rs W) : DD κ (flat L) fm xs ys gv gs rv rs W := ⟨L, h, rfl⟩
theorem DL.quiet (h : DL κ L fm xs ys gv gs rv rs W) (k : Kept (fun _ => False) W W') : DL κ L fm xs ys gv gs rv rs W' := by
  obtain ⟨M, A1, p1, A2, p2, X, h1, h2⟩ := h
  exact ⟨M, A1, p1, A2, p2, X, h1.quiet k, h2⟩
theorem DD.quiet (h : DD κ fl fm xs ys gv gs rv rs W) (k : Kept (fun _ => False) W W') : DD κ fl fm xs ys gv gs rv rs W' := by
  obtain ⟨L, h, e⟩ := h
  exact ⟨L, h.quiet k, e⟩
theorem DD.drewN (h : DD κ fl fm xs ys gv gs rv rs W) (j : Nat) : DD κ fl fm xs ys gv gs rv rs (W.drewN j) := h.quiet ((Kept.refl _ W).drewN j)
theorem DL.cells (h : DL κ L fm xs ys gv gs rv rs W) : (∀ j, W.cell? ⟨κ.xb, j, none⟩ = κ.cs[j]?) ∧ κ.xb < W.heap.size := by
  obtain ⟨M, A1, p1, A2, p2, X, h1, _⟩ := h
  exact ⟨fun j => h1.blk.cell j, h1.blk.lt⟩
theorem DD.cells (h : DD κ fl fm xs ys gv gs rv rs W) : (∀ j, W.cell? ⟨κ.xb, j, none⟩ = κ.cs[j]?) ∧ κ.xb < W.heap.size := by
  obtain ⟨L, h, _⟩ := h; exact h.cells
theorem DD.len (h : DD κ fl fm xs ys gv gs rv rs W) : fl.length ≤ 1048576 ∧ fm.length ≤ 1048576 := by
  obtain ⟨L, ⟨M, A1, p1, A2, p2, X, h1, rfl⟩, rfl⟩ := h
  exact ⟨h1.two.cc.le, h1.two.dd.le⟩
theorem DD.byt (h : DD κ fl fm xs ys gv gs rv rs W) : Byt xs ∧ Byt ys ∧ Byt κ.zs := by
  obtain ⟨L, ⟨M, A1, p1, A2, p2, X, h1, rfl⟩, rfl⟩ := h
  exact ⟨h1.by1, h1.by2, h1.byz⟩
theorem DL.conv_r (h : DL κ L fm xs ys gv gs rv rs W) : (convert 31 9 rv).run Try.prog W = .ok (.string (strOfNums rs)) W := by
  obtain ⟨M, A1, p1, A2, p2, X, h1, rfl⟩ := h
  obtain ⟨A, k, cp, rfl, hs⟩ := h1.ro
  exact hs.str
theorem DD.conv_r (h : DD κ fl fm xs ys gv gs rv rs W) : (convert 31 9 rv).run Try.prog W = .ok (.string (strOfNums rs)) W := by
  obtain ⟨L, h, _⟩ := h; exact h.conv_r
theorem DD.conv_g (h : DD κ fl fm xs ys gv gs rv rs W) (hl : gs.length ≤ 9223372036854775807) : (convert 31 9 gv).run Try.prog W = .ok (.string (strOfNums gs)) W := by
  obtain ⟨L, ⟨M, A1, p1, A2, p2, X, h1, rfl⟩, rfl⟩ := h
  obtain ⟨B, hB⟩ := h1.go
  obtain ⟨A, cp, rfl, _, hs⟩ := hB.src (D := No2) hl (fun _ _ e => e.elim)
  exact hs.str
theorem DD.conv_b (h : DD κ fl fm xs ys gv gs rv rs W) (hl : κ.zs.length ≤ 9223372036854775807) : (convert 31 9 κ.bv).run Try.prog W = .ok (.string (strOfNums κ.zs)) W := by
  obtain ⟨L, ⟨M, A1, p1, A2, p2, X, h1, rfl⟩, rfl⟩ := h
  obtain ⟨B, hB⟩ := h1.bo
  obtain ⟨A, cp, e, _, hs⟩ := hB.src (D := No2) hl (fun _ _ e => e.elim)
  rw [e]; exact hs.str
theorem numsS_str {zs : List Int} (h : Byt zs) : numsS (strOfNums zs) = zs := by
  refine strOfNums_inj (fun z hz => ?_) h ?_
  · unfold numsS at hz
    obtain ⟨b, _, rfl⟩ := List.mem_map.1 hz
    have := b.toNat_lt; omega
  · refine ByteArray.ext (Array.toList_inj.1 ?_)
    rw [strOfNums_data]
    unfold numsS
    rw [List.map_map]
    conv => rhs; rw [← List.map_id (strOfNums zs).data.toList]
    refine List.map_congr_left fun b _ => ?_
    simp
/-- The call's bytes once more, of its text. -/
theorem DD.text (h : DD κ fl fm xs ys gv gs rv rs W) (hl : κ.zs.length ≤ 1100000) : ∃ cp W', (convert 9 31 (.string (strOfNums κ.zs))).run Try.prog W = .ok (.slice (some ⟨W.heap.size, 0, none⟩) κ.zs.length cp) W' ∧ Src W' No2 (some ⟨W.heap.size, 0, none⟩) κ.zs.length cp κ.zs ∧ DD κ fl fm xs ys gv gs rv rs W' := by
  obtain ⟨cp, W', h1, h2, h3⟩ := bytesS W (strOfNums κ.zs) (by rw [strOfNums_size]; omega)
  rw [strOfNums_size] at h1 h2
  rw [numsS_str h.byt.2.2] at h2
  exact ⟨cp, W', h1, h2, h.quiet h3⟩
theorem RowB.own {B : Nat} {v : Value} {ps : List Int} (h : RowB W B v ps) (hl : ps.length ≤ 1048576) (hB : B ≤ W.heap.size) : OwB W B v ps := by
  rcases h with ⟨rfl, rfl⟩ | ⟨g, rfl, hg, hb⟩
  · exact World.ownsRow_nil _ _ _ _
  · refine ⟨by rw [encB_length, Nat.mul_one], .inr ⟨g, ps.length, (encB ps).toArray, rfl, hg, ?_, Nat.le_refl _, by unfold maxLen; omega, by simp [encB_length], ?_⟩⟩
    · exact hb
    · rw [Nat.mul_one]; exact List.take_of_length_le (by rw [encB_length]; exact Nat.le_refl _)
end

section
variable {κ : Kt} {L : List Lk} {fl fm xs ys gs rs : List Int} {gv rv : Value} {W : World}
/-- Add, Ahead. -/
theorem d_add (h : DD κ fl fm xs ys gv gs rv rs W) (hn : κ.zs.length + fl.length ≤ 1048576) : Calls Try.prog 18 #[.pointer (some ⟨κ.c, 0, none⟩), κ.bv] W fun e w' => e = .returned (.int .i64 0) ∧ DD κ (fl ++ κ.zs) fm xs ys gv gs rv rs w' := by
  obtain ⟨L, ⟨M, A1, p1, A2, p2, X, h1, rfl⟩, rfl⟩ := h
  obtain ⟨B, hB⟩ := h1.bo
  obtain ⟨A, cp, e, _, hs⟩ := hB.src (D := Fc κ.c L) (by omega) fun k i hf e => h1.xa k i (h1.bx k e) (.inl (.inl hf))
  rw [e]
  refine (add_yes h1.two.cc hs hn).mono ?_
  rintro e w' ⟨rfl, L', g1, g2, g3⟩
  exact ⟨rfl, L', ⟨M, A1, p1, A2, p2, X, h1.one g1 g3, rfl⟩, g2⟩
theorem d_add_no (h : DD κ fl fm xs ys gv gs rv rs W) (hn : 1048576 < κ.zs.length + fl.length) (hl : κ.zs.length ≤ 1100000) : Calls Try.prog 18 #[.pointer (some ⟨κ.c, 0, none⟩), κ.bv] W fun e w' => e = .returned (.int .i64 70) ∧ DD κ fl fm xs ys gv gs rv rs w' := by
  obtain ⟨L, ⟨M, A1, p1, A2, p2, X, h1, rfl⟩, rfl⟩ := h
  obtain ⟨B, hB⟩ := h1.bo
  obtain ⟨A, cp, e, _, _⟩ := hB.src (D := No2) (by omega) (fun _ _ e => e.elim)
  rw [e]
  refine (add_no h1.two.cc hn).mono ?_
  rintro e w' ⟨rfl, rfl⟩
  exact ⟨rfl, L, ⟨M, A1, p1, A2, p2, X, h1, rfl⟩, rfl⟩
theorem d_ahead (h : DD κ fl fm xs ys gv gs rv rs W) (hn : κ.zs.length + fl.length ≤ 1048576) : Calls Try.prog 21 #[.pointer (some ⟨κ.c, 0, none⟩), κ.bv] W fun e w' => e = .returned (.int .i64 0) ∧ DD κ (κ.zs ++ fl) fm xs ys gv gs rv rs w' := by
  obtain ⟨L, ⟨M, A1, p1, A2, p2, X, h1, rfl⟩, rfl⟩ := h
  obtain ⟨B, hB⟩ := h1.bo
  obtain ⟨A, cp, e, _, hs⟩ := hB.src (D := Fc κ.c L) (by omega) fun k i hf e => h1.xa k i (h1.bx k e) (.inl (.inl hf))
  rw [e]
  refine (ahead_yes h1.two.cc hs hn).mono ?_
  rintro e w' ⟨rfl, L', g1, g2, g3⟩
  exact ⟨rfl, L', ⟨M, A1, p1, A2, p2, X, h1.one g1 g3, rfl⟩, g2⟩
theorem d_ahead_no (h : DD κ fl fm xs ys gv gs rv rs W) (hn : 1048576 < κ.zs.length + fl.length) (hl : κ.zs.length ≤ 1100000) : Calls Try.prog 21 #[.pointer (some ⟨κ.c, 0, none⟩), κ.bv] W fun e w' => e = .returned (.int .i64 70) ∧ DD κ fl fm xs ys gv gs rv rs w' := by
  obtain ⟨L, ⟨M, A1, p1, A2, p2, X, h1, rfl⟩, rfl⟩ := h
  obtain ⟨B, hB⟩ := h1.bo
  obtain ⟨A, cp, e, _, _⟩ := hB.src (D := No2) (by omega) (fun _ _ e => e.elim)
  rw [e]
  refine (ahead_no h1.two.cc hn).mono ?_
  rintro e w' ⟨rfl, rfl⟩
  exact ⟨rfl, L, ⟨M, A1, p1, A2, p2, X, h1, rfl⟩, rfl⟩
theorem byt_append {a b : List Int} (h : Byt a) (k : Byt b) : Byt (a ++ b) := fun z hz => by
  rcases List.mem_append.1 hz with e | e
  · exact h z e
  · exact k z e
theorem d_radd (h : DD κ fl fm xs ys gv gs rv rs W) {A : Option Addr} {m cp : Nat} (hs : Src W No2 A m cp κ.zs) (hn : m + xs.length ≤ 1048576) : Calls Try.prog 29 #[.pointer (some ⟨κ.r, 0, none⟩), .slice A m cp] W fun e w' => e = .returned (.int .i64 0) ∧ DD κ fl fm (xs ++ κ.zs) ys gv gs rv rs w' := by
  obtain ⟨L, ⟨M, A1, p1, A2, p2, X, h1, rfl⟩, rfl⟩ := h
  refine (radd_yes h1.r1 hs hn).mono ?_
  rintro e w' ⟨rfl, A', cp', g1, g2⟩
  exact ⟨rfl, L, ⟨M, A', cp', A2, p2, X, h1.ref g1 g2 (byt_append h1.by1 h1.byz), rfl⟩, rfl⟩
theorem d_rahead (h : DD κ fl fm xs ys gv gs rv rs W) {A : Option Addr} {m cp : Nat} (hs : Src W No2 A m cp κ.zs) (hn : m + xs.length ≤ 1048576) : Calls Try.prog 30 #[.pointer (some ⟨κ.r, 0, none⟩), .slice A m cp] W fun e w' => e = .returned (.int .i64 0) ∧ DD κ fl fm (κ.zs ++ xs) ys gv gs rv rs w' := by
  obtain ⟨L, ⟨M, A1, p1, A2, p2, X, h1, rfl⟩, rfl⟩ := h
  refine (rahead_yes h1.r1 hs hn).mono ?_
  rintro e w' ⟨rfl, A', cp', g1, g2⟩
  exact ⟨rfl, L, ⟨M, A', cp', A2, p2, X, h1.ref g1 g2 (byt_append h1.byz h1.by1), rfl⟩, rfl⟩
theorem d_radd_no (h : DD κ fl fm xs ys gv gs rv rs W) {A : Option Addr} {m cp : Nat} (hl : xs.length ≤ 1048576) (hm : m ≤ 2097152) (hn : 1048576 < m + xs.length) : Calls Try.prog 29 #[.pointer (some ⟨κ.r, 0, none⟩), .slice A m cp] W fun e w' => e = .returned (.int .i64 70) ∧ DD κ fl fm xs ys gv gs rv rs w' := by
  obtain ⟨L, ⟨M, A1, p1, A2, p2, X, h1, rfl⟩, rfl⟩ := h
  refine (radd_no h1.r1 hl hn hm).mono ?_
  rintro e w' ⟨rfl, rfl⟩
  exact ⟨rfl, L, ⟨M, A1, p1, A2, p2, X, h1, rfl⟩, rfl⟩
theorem d_rahead_no (h : DD κ fl fm xs ys gv gs rv rs W) {A : Option Addr} {m cp : Nat} (hl : xs.length ≤ 1048576) (hm : m ≤ 2097152) (hn : 1048576 < m + xs.length) : Calls Try.prog 30 #[.pointer (some ⟨κ.r, 0, none⟩), .slice A m cp] W fun e w' => e = .returned (.int .i64 70) ∧ DD κ fl fm xs ys gv gs rv rs w' := by
  obtain ⟨L, ⟨M, A1, p1, A2, p2, X, h1, rfl⟩, rfl⟩ := h
  refine (rahead_no h1.r1 hl hn hm).mono ?_
  rintro e w' ⟨rfl, rfl⟩
  exact ⟨rfl, L, ⟨M, A1, p1, A2, p2, X, h1, rfl⟩, rfl⟩
/-- Drain, Take, Copy. -/
theorem d_drain (h : DD κ fl fm xs ys gv gs rv rs W) (n : Int) (hn : -9223372036854775808 ≤ n ∧ n ≤ 9223372036854775807) : Calls Try.prog 22 #[.pointer (some ⟨κ.c, 0, none⟩), .int .i64 n] W fun e w' => e = .returned (.int .i64 ((fl.take n.toNat).length : Int)) ∧ DD κ (fl.drop n.toNat) fm xs ys gv gs rv rs w' := by
  obtain ⟨L, ⟨M, A1, p1, A2, p2, X, h1, rfl⟩, rfl⟩ := h
  refine (drain_any h1.two.cc n hn).mono ?_
  rintro e w' ⟨rfl, L', g1, g2, g3⟩
  exact ⟨rfl, L', ⟨M, A1, p1, A2, p2, X, h1.one g1 g3, rfl⟩, g2⟩
theorem d_rtake (h : DD κ fl fm xs ys gv gs rv rs W) (hl : xs.length ≤ 1048576) (n : Int) (hn : -9223372036854775808 ≤ n ∧ n ≤ 9223372036854775807) : Calls Try.prog 31 #[.pointer (some ⟨κ.r, 0, none⟩), .int .i64 n] W fun e w' => ∃ A cp, e = .returned (.slice A (xs.take n.toNat).length cp) ∧ DD κ fl fm (xs.drop n.toNat) ys gv gs (.slice A (xs.take n.toNat).length cp) (xs.take n.toNat) w' := by
  obtain ⟨L, ⟨M, A1, p1, A2, p2, X, h1, rfl⟩, rfl⟩ := h
  refine (rtake_any h1.r1 hl n hn).mono ?_
  rintro e w' ⟨A, k, cp, A', cp', rfl, g1, g2, g3⟩
  obtain rfl := g1.len
  exact ⟨A, cp, rfl, L, ⟨M, A', cp', A2, p2, X, (h1.ref g2 g3 (h1.by1.drop _)).tells g1, rfl⟩, rfl⟩
theorem d_take (h : DD κ fl fm xs ys gv gs rv rs W) (n : Int) (hn : -9223372036854775808 ≤ n ∧ n ≤ 9223372036854775807) : Calls Try.prog 25 #[.pointer (some ⟨κ.c, 0, none⟩), .int .i64 n] W fun e w' => ∃ v, e = .returned v ∧ DD κ (fl.drop n.toNat) fm xs ys v (fl.take n.toNat) rv rs w' := by
  obtain ⟨L, ⟨M, A1, p1, A2, p2, X, h1, rfl⟩, rfl⟩ := h
  have hle := h1.two.cc.le
  refine (take_any h1.two.cc n hn).mono ?_
  rintro e w' ⟨v, rfl, g0, L', g1, g2, g3, g4⟩
  refine ⟨v, rfl, L', ⟨M, A1, p1, A2, p2, _, h1.gets (h1.one g1 g3) (g0.own (by rw [List.length_take]; omega) g3.k.size) (fun k i e hk => ?_), rfl⟩, g2⟩
  rcases e with e | e
  · exact g4 k i e hk
  · have := (g0.lt hk).2; have := h1.two.dd.lt e; omega
theorem cpy_le (bs : List Int) (f n : Int) (h : bs.length ≤ 1048576) : (cpy bs f n).length ≤ 1048576 := by
  unfold cpy
  split
  · simp
  · rw [List.length_take, List.length_drop]; omega
theorem d_copy (h : DD κ fl fm xs ys gv gs rv rs W) (f n : Int) (hf : -9223372036854775808 ≤ f ∧ f ≤ 9223372036854775807) (hn : -9223372036854775808 ≤ n ∧ n ≤ 9223372036854775807) : Calls Try.prog 26 #[.pointer (some ⟨κ.c, 0, none⟩), .int .i64 f, .int .i64 n] W fun e w' => ∃ v, e = .returned v ∧ DD κ fl fm xs ys v (cpy fl f n) rv rs w' := by
  obtain ⟨L, ⟨M, A1, p1, A2, p2, X, h1, rfl⟩, rfl⟩ := h
  have hle := h1.two.cc.le
  refine (copy_any h1.two.cc f n hf hn).mono ?_
  rintro e w' ⟨v, rfl, g0, g1⟩
  refine ⟨v, rfl, L, ⟨M, A1, p1, A2, p2, _, h1.gets (h1.quiet g1) (g0.own (cpy_le _ f n hle) g1.size) (fun k i e hk => ?_), rfl⟩, rfl⟩
  have := (g0.lt hk).2
  rcases e with e | e
  · have := h1.two.cc.lt e; omega
  · have := h1.two.dd.lt e; omega
theorem d_rcopy (h : DD κ fl fm xs ys gv gs rv rs W) (hl : xs.length ≤ 1048576) (f n : Int) (hf : -9223372036854775808 ≤ f ∧ f ≤ 9223372036854775807) (hn : -9223372036854775808 ≤ n ∧ n ≤ 9223372036854775807) : Calls Try.prog 32 #[.pointer (some ⟨κ.r, 0, none⟩), .int .i64 f, .int .i64 n] W fun e w' => ∃ A k cp, e = .returned (.slice A k cp) ∧ DD κ fl fm xs ys gv gs (.slice A k cp) (cpy xs f n) w' := by
  obtain ⟨L, ⟨M, A1, p1, A2, p2, X, h1, rfl⟩, rfl⟩ := h
  refine (rcopy_any h1.r1 hl f n hf hn).mono ?_
  rintro e w' ⟨A, k, cp, rfl, g1, rfl⟩
  exact ⟨A, k, cp, rfl, L, ⟨M, A1, p1, A2, p2, X, h1.tells g1, rfl⟩, rfl⟩
/-- Pull, and the chunks behind it. -/
theorem d_pull_no (h : DD κ fl fm xs ys gv gs rv rs W) (n : Int) (hn : n < 0 ∨ (fl.length : Int) < n) : Calls Try.prog 16 #[.pointer (some ⟨κ.c, 0, none⟩), .int .i64 n] W fun e w' => e = .returned (.tuple #[.slice none 0 0, .int .i64 2]) ∧ DD κ fl fm xs ys gv gs rv rs w' := by
  obtain ⟨L, ⟨M, A1, p1, A2, p2, X, h1, rfl⟩, rfl⟩ := h
  refine (pull_no h1.two.cc n hn).mono ?_
  rintro e w' ⟨rfl, rfl⟩
  exact ⟨rfl, L, ⟨M, A1, p1, A2, p2, X, h1, rfl⟩, rfl⟩
theorem d_pull (h : DD κ fl fm xs ys gv gs rv rs W) (n : Nat) (hn : n ≤ fl.length) : Calls Try.prog 16 #[.pointer (some ⟨κ.c, 0, none⟩), .int .i64 (n : Int)] W fun e w' => ∃ v L, e = .returned (.tuple #[v, .int .i64 0]) ∧ DL κ L fm xs ys v (fl.take n) rv rs w' ∧ flat L = fl ∧ (0 < n → ∃ x L2, L = x :: L2 ∧ n ≤ x.bs.length) := by
  obtain ⟨L, ⟨M, A1, p1, A2, p2, X, h1, rfl⟩, rfl⟩ := h
  have hle := h1.two.cc.le
  refine (pull_yes h1.two.cc n hn).mono ?_
  rintro e w' ⟨v, rfl, g0, L', g1, g2, g3, g4, g5⟩
  refine ⟨v, L', rfl, ⟨M, A1, p1, A2, p2, _, h1.gets (h1.one g1 g3) (g0.own (by rw [List.length_take]; omega) g3.k.size) (fun k i e hk => ?_), rfl⟩, g2, g4⟩
  rcases e with e | e
  · exact g5 k i e hk
  · have := (g0.lt hk).2; have := h1.two.dd.lt e; omega
theorem d_rpull_no (h : DD κ fl fm xs ys gv gs rv rs W) (n : Int) (hn : n < 0 ∨ (xs.length : Int) < n) : Calls Try.prog 33 #[.pointer (some ⟨κ.r, 0, none⟩), .int .i64 n] W fun e w' => e = .returned (.tuple #[.slice none 0 0, .int .i64 2]) ∧ DD κ fl fm xs ys gv gs rv rs w' := by
  obtain ⟨L, ⟨M, A1, p1, A2, p2, X, h1, rfl⟩, rfl⟩ := h
  refine (rpull_no h1.r1 n hn).mono ?_
  rintro e w' ⟨rfl, rfl⟩
  exact ⟨rfl, L, ⟨M, A1, p1, A2, p2, X, h1, rfl⟩, rfl⟩
theorem d_rpull (h : DL κ L fm xs ys gv gs rv rs W) (n : Nat) (hn : n ≤ xs.length) : Calls Try.prog 33 #[.pointer (some ⟨κ.r, 0, none⟩), .int .i64 (n : Int)] W fun e w' => ∃ A k cp, e = .returned (.tuple #[.slice A k cp, .int .i64 0]) ∧ DL κ L fm xs ys gv gs (.slice A k cp) (xs.take n) w' := by
  obtain ⟨M, A1, p1, A2, p2, X, h1, rfl⟩ := h
  refine (rpull_yes h1.r1 n hn).mono ?_
  rintro e w' ⟨rfl, g1, rfl⟩
  exact ⟨_, _, _, rfl, M, A1, p1, A2, p2, X, h1.tells g1, rfl⟩
theorem d_chunks (h : DL κ L fm xs ys gv gs rv rs W) : Calls Try.prog 17 #[.pointer (some ⟨κ.c, 0, none⟩)] W fun e w' => ∃ v, e = .returned v ∧ RN.own w' W.heap.size v (L.map fun x => (x.bs.length : Int)) ∧ DL κ L fm xs ys gv gs rv rs w' := by
  obtain ⟨M, A1, p1, A2, p2, X, h1, rfl⟩ := h
  refine (chunks_any h1.two.cc).mono ?_
  rintro e w' ⟨v, rfl, g1, g2⟩
  exact ⟨v, rfl, g1, M, A1, p1, A2, p2, X, h1.quiet ⟨g2.os, g2.tape, g2.output, g2.size, fun k hk _ => g2.block k hk⟩, rfl⟩
/-- Find, Line. -/
theorem d_find (h : DD κ fl fm xs ys gv gs rv rs W) (hl : κ.zs.length ≤ 1100000) (f : Int) (hf : -9223372036854775808 ≤ f ∧ f ≤ 9223372036854775807) : Calls Try.prog 23 #[.pointer (some ⟨κ.c, 0, none⟩), κ.bv, .int .i64 f] W fun e w' => ∃ q, e = ansF q ∧ FindA fl κ.zs f q ∧ DD κ fl fm xs ys gv gs rv rs w' := by
  obtain ⟨L, ⟨M, A1, p1, A2, p2, X, h1, rfl⟩, rfl⟩ := h
  obtain ⟨B, hB⟩ := h1.bo
  obtain ⟨A, cp, e, _, hs⟩ := hB.src (D := No2) (by omega) (fun _ _ e => e.elim)
  rw [e]
  refine (find_any h1.two.cc hs f hf).mono ?_
  rintro e w' ⟨q, rfl, g1, g2⟩
  exact ⟨q, rfl, g1, L, ⟨M, A1, p1, A2, p2, X, h1.quiet g2, rfl⟩, rfl⟩
theorem d_rfind (h : DD κ fl fm xs ys gv gs rv rs W) (hl : xs.length ≤ 1048576) {A : Option Addr} {m cp : Nat} (hs : Src W No2 A m cp κ.zs) (hm : m ≤ 2097152) (f : Int) (hf : -9223372036854775808 ≤ f ∧ f ≤ 9223372036854775807) : Calls Try.prog 34 #[.pointer (some ⟨κ.r, 0, none⟩), .slice A m cp, .int .i64 f] W fun e w' => ∃ q, e = ansF q ∧ FindA xs κ.zs f q ∧ DD κ fl fm xs ys gv gs rv rs w' := by
  obtain ⟨L, ⟨M, A1, p1, A2, p2, X, h1, rfl⟩, rfl⟩ := h
  refine (rfind_any h1.r1 hl h1.by1 hs h1.byz hm f hf).mono ?_
  rintro e w' ⟨q, rfl, g1, g2⟩
  exact ⟨q, rfl, g1, L, ⟨M, A1, p1, A2, p2, X, h1.quiet g2, rfl⟩, rfl⟩
def LineD (κ : Kt) (fl fm xs ys : List Int) (gv : Value) (gs : List Int) (rv : Value) (rs : List Int) (w' : World) (e : Ending) : Option Nat → Prop
  | none => e = .returned (.tuple #[.slice none 0 0, .bool false]) ∧ DD κ fl fm xs ys gv gs rv rs w'
  | some n => ∃ v, e = .returned (.tuple #[v, .bool true]) ∧ DD κ (fl.drop (n + 1)) fm xs ys v (fl.take n) rv rs w'
theorem d_line (h : DD κ fl fm xs ys gv gs rv rs W) : Calls Try.prog 19 #[.pointer (some ⟨κ.c, 0, none⟩)] W fun e w' => ∃ q, FindR fl [10] 0 q ∧ LineD κ fl fm xs ys gv gs rv rs w' e q := by
  obtain ⟨L, ⟨M, A1, p1, A2, p2, X, h1, rfl⟩, rfl⟩ := h
  have hle := h1.two.cc.le
  refine (line_own h1.two.cc).mono ?_
  rintro e w' ⟨q, g1, g2⟩
  refine ⟨q, g1, ?_⟩
  cases q with
  | none =>
    obtain ⟨e1, g3, g4⟩ := g2
    exact ⟨e1, L, ⟨M, A1, p1, A2, p2, X, h1.quiet g4, rfl⟩, rfl⟩
  | some n =>
    obtain ⟨v, e1, g0, L', g3, g4, g5, g6⟩ := g2
    refine ⟨v, e1, L', ⟨M, A1, p1, A2, p2, _, h1.gets (h1.one g3 g5) (g0.own (by rw [List.length_take]; omega) g5.k.size) (fun k i e hk => ?_), rfl⟩, g4⟩
    rcases e with e | e
    · exact g6 k i e hk
    · have := (g0.lt hk).2; have := h1.two.dd.lt e; omega
def RLineD (κ : Kt) (fl fm xs ys : List Int) (gv : Value) (gs : List Int) (rv : Value) (rs : List Int) (w' : World) (e : Ending) : Option Nat → Prop
  | none => e = .returned (.tuple #[.slice none 0 0, .bool false]) ∧ DD κ fl fm xs ys gv gs rv rs w'
  | some n => ∃ A k cp, e = .returned (.tuple #[.slice A k cp, .bool true]) ∧ DD κ fl fm (xs.drop (n + 1)) ys gv gs (.slice A k cp) (xs.take n) w'
theorem d_rline (h : DD κ fl fm xs ys gv gs rv rs W) (hl : xs.length ≤ 1048576) : Calls Try.prog 35 #[.pointer (some ⟨κ.r, 0, none⟩)] W fun e w' => ∃ q, FindR xs [10] 0 q ∧ RLineD κ fl fm xs ys gv gs rv rs w' e q := by
  obtain ⟨L, ⟨M, A1, p1, A2, p2, X, h1, rfl⟩, rfl⟩ := h
  refine (rline_any h1.r1 hl h1.by1).mono ?_
  rintro e w' ⟨q, g1, g2, g3⟩
  refine ⟨q, g1, ?_⟩
  cases q with
  | none =>
    obtain ⟨e1, g4⟩ := g2
    exact ⟨e1, L, ⟨M, A1, p1, A2, p2, X, h1.ref g4 g3 h1.by1, rfl⟩, rfl⟩
  | some n =>
    obtain ⟨A, k, cp, A', cp', e1, g4, g5⟩ := g2
    exact ⟨A, k, cp, e1, L, ⟨M, A', cp', A2, p2, X, (h1.ref g5 g3 (h1.by1.drop _)).tells g4, rfl⟩, rfl⟩
/-- Move. -/
theorem d_move_neg (h : DD κ fl fm xs ys gv gs rv rs W) (n : Int) (hn : n < 0) : Calls Try.prog 20 #[.pointer (some ⟨κ.c, 0, none⟩), .pointer (some ⟨κ.d, 0, none⟩), .int .i64 n] W fun e w' => e = .returned (.tuple #[.int .i64 0, .int .i64 2]) ∧ DD κ fl fm xs ys gv gs rv rs w' := by
  obtain ⟨L, ⟨M, A1, p1, A2, p2, X, h1, rfl⟩, rfl⟩ := h
  refine (move_neg h1.two n hn).mono ?_
  rintro e w' ⟨rfl, rfl⟩
  exact ⟨rfl, L, ⟨M, A1, p1, A2, p2, X, h1, rfl⟩, rfl⟩
theorem d_move_no (h : DD κ fl fm xs ys gv gs rv rs W) (n : Nat) (hn : n ≤ 9223372036854775807) (hno : 1048576 < min n fl.length + fm.length) : Calls Try.prog 20 #[.pointer (some ⟨κ.c, 0, none⟩), .pointer (some ⟨κ.d, 0, none⟩), .int .i64 (n : Int)] W fun e w' => e = .returned (.tuple #[.int .i64 0, .int .i64 70]) ∧ DD κ fl fm xs ys gv gs rv rs w' := by
  obtain ⟨L, ⟨M, A1, p1, A2, p2, X, h1, rfl⟩, rfl⟩ := h
  refine (move_no h1.two n hn hno).mono ?_
  rintro e w' ⟨rfl, rfl⟩
  exact ⟨rfl, L, ⟨M, A1, p1, A2, p2, X, h1, rfl⟩, rfl⟩
theorem d_move (h : DD κ fl fm xs ys gv gs rv rs W) (n : Nat) (hn : n ≤ 9223372036854775807) (hno : min n fl.length + fm.length ≤ 1048576) : Calls Try.prog 20 #[.pointer (some ⟨κ.c, 0, none⟩), .pointer (some ⟨κ.d, 0, none⟩), .int .i64 (n : Int)] W fun e w' => e = .returned (.tuple #[.int .i64 ((min n fl.length : Nat) : Int), .int .i64 0]) ∧ DD κ (fl.drop n) (fm ++ fl.take n) xs ys gv gs rv rs w' := by
  obtain ⟨L, ⟨M, A1, p1, A2, p2, X, h1, rfl⟩, rfl⟩ := h
  refine (move_yes h1.two n hn hno).mono ?_
  rintro e w' ⟨rfl, L', M', g1, g2, g3, g4⟩
  exact ⟨rfl, L', ⟨M', A1, p1, A2, p2, X, h1.chain g1 g4, g3⟩, g2⟩
theorem d_move_self (h : DD κ fl fm xs ys gv gs rv rs W) (n : Int) : Calls Try.prog 20 #[.pointer (some ⟨κ.c, 0, none⟩), .pointer (some ⟨κ.c, 0, none⟩), .int .i64 n] W fun e w' => e = .returned (.tuple #[.int .i64 0, .int .i64 2]) ∧ DD κ fl fm xs ys gv gs rv rs w' := by
  refine (move_self W κ.c n).mono ?_
  rintro e w' ⟨rfl, rfl⟩
  exact ⟨rfl, h⟩
theorem d_rmove_neg (h : DD κ fl fm xs ys gv gs rv rs W) (n : Int) (hn : n < 0) : Calls Try.prog 36 #[.pointer (some ⟨κ.r, 0, none⟩), .pointer (some ⟨κ.s, 0, none⟩), .int .i64 n] W fun e w' => e = .returned (.tuple #[.int .i64 0, .int .i64 2]) ∧ DD κ fl fm xs ys gv gs rv rs w' := by
  refine (rmove_neg W κ.r κ.s n hn).mono ?_
  rintro e w' ⟨rfl, rfl⟩
  exact ⟨rfl, h⟩
theorem d_rmove_no (h : DD κ fl fm xs ys gv gs rv rs W) (hl : xs.length ≤ 1048576) (hl2 : ys.length ≤ 1048576) (n : Nat) (hn : n ≤ 9223372036854775807) (hno : 1048576 < min n xs.length + ys.length) : Calls Try.prog 36 #[.pointer (some ⟨κ.r, 0, none⟩), .pointer (some ⟨κ.s, 0, none⟩), .int .i64 (n : Int)] W fun e w' => e = .returned (.tuple #[.int .i64 0, .int .i64 70]) ∧ DD κ fl fm xs ys gv gs rv rs w' := by
  obtain ⟨L, ⟨M, A1, p1, A2, p2, X, h1, rfl⟩, rfl⟩ := h
  refine (rmove_any h1.r1 h1.r2 h1.ne hl hl2 n hn rfl).mono ?_
  intro e w' he
  rw [if_neg (by omega)] at he
  obtain ⟨rfl, rfl⟩ := he
  exact ⟨rfl, L, ⟨M, A1, p1, A2, p2, X, h1, rfl⟩, rfl⟩
theorem d_rmove (h : DD κ fl fm xs ys gv gs rv rs W) (hl : xs.length ≤ 1048576) (hl2 : ys.length ≤ 1048576) (n : Nat) (hn : n ≤ 9223372036854775807) (hno : min n xs.length + ys.length ≤ 1048576) : Calls Try.prog 36 #[.pointer (some ⟨κ.r, 0, none⟩), .pointer (some ⟨κ.s, 0, none⟩), .int .i64 (n : Int)] W fun e w' => e = .returned (.tuple #[.int .i64 ((min n xs.length : Nat) : Int), .int .i64 0]) ∧ DD κ fl fm (xs.drop n) (ys ++ xs.take n) gv gs rv rs w' := by
  obtain ⟨L, ⟨M, A1, p1, A2, p2, X, h1, rfl⟩, rfl⟩ := h
  refine (rmove_any h1.r1 h1.r2 h1.ne hl hl2 n hn rfl).mono ?_
  intro e w' he
  rw [if_pos hno] at he
  obtain ⟨rfl, A', cp', A2', cp2', g1, g2, g3⟩ := he
  exact ⟨rfl, L, ⟨M, A', cp', A2', cp2', X, h1.refs g1 g2 g3 (h1.by1.drop _) (byt_append h1.by2 (h1.by1.take _)), rfl⟩, rfl⟩
end
end Go.Proofs.Ytkhkhjkacibocaa
