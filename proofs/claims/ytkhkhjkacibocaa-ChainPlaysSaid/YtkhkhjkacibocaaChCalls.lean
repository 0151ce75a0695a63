/-
  Find, Line, Pull, Move of chains.
-/
import Derived.Test.YtkhkhjkacibocaaChFind
import Derived.Test.YtkhkhjkacibocaaChAddA
import Derived.LaidEqlPtr
namespace Go.Proofs.Ytkhkhjkacibocaa
open Go.RowKit Go.Maps Go.ChangeMaps Go.Shelf

/-- What Find answers. -/
def FindA (B z : List Int) (f : Int) (r : Option Nat) : Prop :=
  if f < 0 then r = none else if z = [] then r = (if f.toNat ≤ B.length then some f.toNat else none) else FindR B z f.toNat r

section
variable {w : World} {B c : Nat} {t : TypeId} {L : List Lk}
set_option maxHeartbeats 2000000 in
theorem find_any (h : Cn w B 29 c L) {A : Option Addr} {m cp : Nat} {z : List Int} (hs : Src w No2 A m cp z) (f : Int) (hf : -9223372036854775808 ≤ f ∧ f ≤ 9223372036854775807) :
    Calls Try.prog 23 #[.pointer (some ⟨c, 0, none⟩), .slice A m cp, .int .i64 f] w fun e w' => ∃ r, e = ansF r ∧ FindA (flat L) z f r ∧ Kept (fun _ => False) w w' := by
  have HL := Lib.hid (len_any h)
  have hle := h.le
  have l1 := h.blk.lt
  have hzl := hs.len
  have hmb := hs.big
  have hml := hs.le
  obtain ⟨n, hn⟩ : ∃ n, n = (flat L).length := ⟨_, rfl⟩
  rw [← hn] at HL hle
  by_cases h0 : f < 0
  · have HA := Lib.hid (show FindA (flat L) z f none by unfold FindA; rw [if_pos h0])
    clear hn hzl h hs
    go_enter Try.func23, Try.ntmps23
    go_wp2_with fail
    go_ret2
    exact ⟨none, rfl, HA.out, Kept.refl _ _⟩
  · have h0' : 0 ≤ f := by omega
    have e1 : IntKind.i64.wrap ((n : Int) - f) = (n : Int) - f := IntWalk.i64_in _ (by omega)
    by_cases h1 : (n : Int) - f < (m : Int)
    · have HA := Lib.hid (show FindA (flat L) z f none by
        unfold FindA
        rw [if_neg h0]
        by_cases hz : z = []
        · rw [if_pos hz, if_neg]; subst hz; simp at hzl; omega
        · rw [if_neg hz]
          intro i hi ho
          have := ho.le (by rcases Nat.eq_zero_or_pos z.length with e | e; exact absurd (List.eq_nil_of_length_eq_zero e) hz; exact e)
          omega)
      have b1 : decide ((n : Int) - f < (m : Int)) = true := by simpa using h1
      clear hn hzl h hs h0
      go_enter Try.func23, Try.ntmps23
      go_wp2_with (go_at_call 12; refine HL.out.mono ?_; rintro e w' ⟨rfl, rfl⟩)
      go_ret2
      exact ⟨none, rfl, HA.out, Kept.refl _ _⟩
    · have b1 : decide ((n : Int) - f < (m : Int)) = false := by simpa using h1
      have b1' : (m : Int) ≤ (n : Int) - f := by omega
      obtain ⟨g, rfl⟩ : ∃ g : Nat, f = (g : Int) := ⟨f.toNat, by omega⟩
      by_cases h2 : m = 0
      · subst h2
        have hz : z = [] := List.eq_nil_of_length_eq_zero hzl
        have HA := Lib.hid (show FindA (flat L) z (g : Int) (some g) by
          unfold FindA
          rw [if_neg h0, if_pos hz, Int.toNat_natCast, if_pos (by omega)])
        clear hn hzl h hs h0 h1
        go_enter Try.func23, Try.ntmps23
        go_wp2_with (go_at_call 12; refine HL.out.mono ?_; rintro e w' ⟨rfl, rfl⟩)
        go_ret2
        exact ⟨some g, rfl, HA.out, Kept.refl _ _⟩
      · have HF := Lib.hid (findL_any h hs (by omega) g (by omega))
        have hz : ¬ z = [] := fun e => by subst e; simp at hzl; omega
        have HA := Lib.hid (show ∀ r, FindR (flat L) z g r → FindA (flat L) z (g : Int) r from fun r hr => by
          unfold FindA
          rw [if_neg h0, if_neg hz, Int.toNat_natCast]; exact hr)
        have b2 : ((m : Int) == 0) = false := by rw [beq_eq_false_iff_ne]; omega
        have b3 : ¬ (m : Int) = 0 := by omega
        have b4 : ¬ m = 0 := h2
        clear hn hzl h hs h0 h1 hz
        go_enter Try.func23, Try.ntmps23
        go_wp2_with (go_at_call 12; refine HL.out.mono ?_; rintro e w' ⟨rfl, rfl⟩)
        refine HF.out.mono ?_
        rintro e w2 ⟨r, rfl, g1, g2⟩
        have HE := Lib.hid (show ∃ r', r' = r ∧ FindA (flat L) z (g : Int) r' ∧ Kept (fun _ => False) w w2 from ⟨r, rfl, HA.out r g1, g2⟩)
        clear g1 g2
        cases r with
        | none =>
          simp only [ansF]
          go_wp2_with fail
          go_ret2
          obtain ⟨r', rfl, e1, e2⟩ := HE.out
          exact ⟨none, rfl, e1, e2⟩
        | some i =>
          simp only [ansF]
          go_wp2_with fail
          go_ret2
          obtain ⟨r', rfl, e1, e2⟩ := HE.out
          exact ⟨some i, rfl, e1, e2⟩
theorem find_nil (w : World) (A : Option Addr) (m cp : Nat) (f : Int) : Calls Try.prog 23 #[.pointer none, .slice A m cp, .int .i64 f] w fun e w' => e = ansF none ∧ w = w' := by
  go_enter Try.func23, Try.ntmps23
  go_wp2_with fail
  go_ret2
  exact ⟨rfl, rfl⟩

/-- Line. -/
def LineR (w : World) (B c : Nat) (L : List Lk) (w' : World) (e : Ending) : Option Nat → Prop
  | none => e = .returned (.tuple #[.slice none 0 0, .bool false]) ∧ Cn w' B 29 c L ∧ Kept (fun _ => False) w w'
  | some n => ∃ v, e = .returned (.tuple #[v, .bool true]) ∧ RowB w' w.heap.size v ((flat L).take n) ∧ ∃ L', Cn w' B 29 c L' ∧ flat L' = (flat L).drop (n + 1) ∧ Mc w w' (Fc c L) (Fc c L')
/-- The same, and the line's row is none of the chain's. -/
def LineO (w : World) (B c : Nat) (L : List Lk) (w' : World) (e : Ending) : Option Nat → Prop
  | none => e = .returned (.tuple #[.slice none 0 0, .bool false]) ∧ Cn w' B 29 c L ∧ Kept (fun _ => False) w w'
  | some n => ∃ v, e = .returned (.tuple #[v, .bool true]) ∧ RowB w' w.heap.size v ((flat L).take n) ∧ ∃ L', Cn w' B 29 c L' ∧ flat L' = (flat L).drop (n + 1) ∧ Mc w w' (Fc c L) (Fc c L') ∧ ∀ k i, Fc c L' k i → v.ownBlock ≠ some k
set_option maxHeartbeats 2000000 in
theorem line_own (h : Cn w B 29 c L) : Calls Try.prog 19 #[.pointer (some ⟨c, 0, none⟩)] w fun e w' => ∃ r, FindR (flat L) [10] 0 r ∧ LineO w B c L w' e r := by
  obtain ⟨V, hV⟩ : ∃ V, V = w.alloc (.cells #[.int .u8 10] 5) := ⟨_, rfl⟩
  have hk : Kept (fun _ => False) w V := by rw [hV]; exact (Kept.refl _ w).alloc _
  have hs : Src V No2 (some ⟨w.heap.size, 0, none⟩) 1 1 [10] := by
    refine ⟨rfl, Nat.le_refl _, by omega, (fun e => by cases e), (fun a e _ => by cases e; rfl), fun _ => ⟨w.heap.size, 0, rfl, by rw [hV]; simp, fun i z hz => ⟨fun e => e, ?_⟩⟩⟩
    match i, hz with
    | 0, hz => simp at hz; subst hz; rw [hV]; exact (Blk.new w 5 #[.int .u8 10]).cell 0
  have HF := Lib.hid (find_any (h.kept hk) hs 0 (by omega))
  have HV := Lib.hid hV
  have H := Lib.hid (And.intro h hk)
  have hle := h.le
  clear h hV hk hs
  go_enter Try.func19, Try.ntmps19
  go_wp2_with fail
  rw [← HV.out]
  refine HF.out.mono ?_
  rintro e w2 ⟨r, rfl, g1, g2⟩
  obtain ⟨h, hk⟩ := H.out
  have g3 : FindR (flat L) [10] 0 r := by
    unfold FindA at g1
    rw [if_neg (by omega), if_neg (by simp)] at g1
    exact g1
  have k2 := hk.trans g2
  have h2 := h.kept k2
  have HE := Lib.hid (And.intro g3 (And.intro k2 h2))
  cases r with
  | none =>
    clear g1 g2 g3 k2 h2 h hk
    simp only [ansF]
    go_wp2_with fail
    go_ret2
    exact ⟨none, HE.out.1, rfl, HE.out.2.2, HE.out.2.1⟩
  | some n =>
    have hnl : n + 1 ≤ (flat L).length := by have := g3.2.1.le (by simp); simpa using this
    have HT := Lib.hid (take_any h2 (n : Int) (by omega))
    have HN := Lib.hid hnl
    clear g1 g2 g3 k2 h2 h hk hnl
    simp only [ansF]
    go_wp2_with fail
    refine HT.out.mono ?_
    rintro e w3 ⟨v, rfl, q1, L1, q2, q3, q4, q5⟩
    have HD := Lib.hid (drain_any q2 1 (by omega))
    obtain ⟨A, hv, _⟩ := q1.form
    have HQ := Lib.hid (And.intro q1 (And.intro q3 (And.intro q4 q5)))
    clear q1 q2 q3 q4 q5 hv
    go_wp2_with fail
    refine HD.out.mono ?_
    rintro e w4 ⟨rfl, L2, j1, j2, j3⟩
    obtain ⟨q1, q3, q4, q5⟩ := HQ.out
    obtain ⟨g3, k2, h2⟩ := HE.out
    have HZ := Lib.hid (show RowB w4 w.heap.size v ((flat L).take n) ∧ ∃ L', Cn w4 B 29 c L' ∧ flat L' = (flat L).drop (n + 1) ∧ Mc w w4 (Fc c L) (Fc c L') ∧ ∀ k i, Fc c L' k i → v.ownBlock ≠ some k from by
      have m1 : Mc w w3 (Fc c L) (Fc c L1) := (Mc.of_kept k2).trans q4
      have hr : RowB w3 w2.heap.size v ((flat L).take n) := by simpa using q1
      refine ⟨?_, L2, j1, by rw [j2, q3, List.drop_drop]; rfl, m1.trans j3, fun k i hf e => by
        rcases j3.o k i hf with h5 | h5
        · exact q5 k i h5 e
        · have := (hr.lt e).1; omega⟩
      have h4 : RowB w4 w2.heap.size v ((flat L).take n) := hr.same fun k e => j3.k.same (hr.lt e).1 fun i hd => by
        exact q5 k i hd e
      rcases h4 with h4 | ⟨g, e1, e2, e3⟩
      · exact .inl h4
      · exact .inr ⟨g, e1, Nat.le_trans k2.size e2, e3⟩)
    clear q1 q3 q4 q5 g3 k2 h2 j1 j2 j3
    go_wp2_with fail
    go_ret2
    exact ⟨some n, HE.out.1, v, rfl, HZ.out⟩
theorem line_any (h : Cn w B 29 c L) : Calls Try.prog 19 #[.pointer (some ⟨c, 0, none⟩)] w fun e w' => ∃ r, FindR (flat L) [10] 0 r ∧ LineR w B c L w' e r := by
  refine (line_own h).mono ?_
  rintro e w' ⟨r, g1, g2⟩
  refine ⟨r, g1, ?_⟩
  cases r with
  | none => exact g2
  | some n =>
    obtain ⟨v, q1, q2, L', q3, q4, q5, _⟩ := g2
    exact ⟨v, q1, q2, L', q3, q4, q5⟩
theorem line_nil (w : World) : Calls Try.prog 19 #[.pointer none] w fun e w' => e = .returned (.tuple #[.slice none 0 0, .bool false]) ∧ Kept (fun _ => False) w w' := by
  have HF := Lib.hid (fun (W : World) (A : Option Addr) (m cp : Nat) (f : Int) => find_nil W A m cp f)
  go_enter Try.func19, Try.ntmps19
  go_wp2_with fail
  refine (HF.out _ _ _ _ _).mono ?_
  rintro e w' ⟨rfl, rfl⟩
  simp only [ansF]
  go_wp2_with fail
  go_ret2
  exact ⟨rfl, (Kept.refl _ w).alloc _⟩

set_option maxHeartbeats 2000000 in
theorem pull_no (h : Cn w B 29 c L) (n : Int) (hn : n < 0 ∨ ((flat L).length : Int) < n) : Calls Try.prog 16 #[.pointer (some ⟨c, 0, none⟩), .int .i64 n] w fun e w' => e = .returned (.tuple #[.slice none 0 0, .int .i64 2]) ∧ w = w' := by
  have HL := Lib.hid (len_any h)
  obtain ⟨m, hm⟩ : ∃ m, m = (flat L).length := ⟨_, rfl⟩
  rw [← hm] at HL hn
  clear h hm
  by_cases h0 : n < 0
  · have b1 : decide (n < 0) = true := by simpa using h0
    clear hn
    go_enter Try.func16, Try.ntmps16
    go_wp2_with (go_at_call 12; refine HL.out.mono ?_; rintro e w' ⟨rfl, rfl⟩)
    go_ret2
    exact ⟨rfl, rfl⟩
  · have b1 : decide (n < 0) = false := by simpa using h0
    have b2 : (m : Int) < n := by omega
    have b3 : decide ((m : Int) < n) = true := by simpa using b2
    have b4 : 0 ≤ n := by omega
    clear hn
    go_enter Try.func16, Try.ntmps16
    go_wp2_with (go_at_call 12; refine HL.out.mono ?_; rintro e w' ⟨rfl, rfl⟩)
    go_ret2
    exact ⟨rfl, rfl⟩
theorem pull_nil (w : World) (n : Int) : Calls Try.prog 16 #[.pointer none, .int .i64 n] w fun e w' => e = .returned (.tuple #[.slice none 0 0, .int .i64 1]) ∧ w = w' := by
  go_enter Try.func16, Try.ntmps16
  go_wp2_with fail
  go_ret2
  exact ⟨rfl, rfl⟩

/-- What Pull leaves: the same bytes, the first n in one chunk. -/
def Pulled (w : World) (B c n : Nat) (L : List Lk) (v : Value) (w' : World) : Prop :=
  RowB w' w.heap.size v ((flat L).take n) ∧ ∃ L', Cn w' B 29 c L' ∧ flat L' = flat L ∧ Mc w w' (Fc c L) (Fc c L') ∧ (0 < n → ∃ x L2, L' = x :: L2 ∧ n ≤ x.bs.length) ∧ ∀ k i, Fc c L' k i → v.ownBlock ≠ some k
set_option maxHeartbeats 4000000 in
theorem pull_yes (h : Cn w B 29 c L) (n : Nat) (hn : n ≤ (flat L).length) : Calls Try.prog 16 #[.pointer (some ⟨c, 0, none⟩), .int .i64 (n : Int)] w fun e w' => ∃ v, e = .returned (.tuple #[v, .int .i64 0]) ∧ Pulled w B c n L v w' := by
  have hle := h.le
  have HL := Lib.hid (len_any h)
  have HC := Lib.hid (copy_any h 0 (n : Int) (by omega) (by omega))
  have hcp : cpy (flat L) 0 (n : Int) = (flat L).take n := by unfold cpy; rw [if_neg (by omega)]; simp
  rw [hcp] at HC
  obtain ⟨m, hm⟩ : ∃ m, m = (flat L).length := ⟨_, rfl⟩
  rw [← hm] at HL
  have b1 : decide ((n : Int) < 0) = false := by simp
  have b2 : decide ((m : Int) < (n : Int)) = false := by simp; omega
  have b3 : (n : Int) ≤ (m : Int) := by omega
  have b4 : n ≤ m := by omega
  have H := Lib.hid (And.intro h (And.intro hm hn))
  clear h hm hcp hn
  go_enter Try.func16, Try.ntmps16
  go_wp2_with (go_at_call 12; refine HL.out.mono ?_; rintro e w' ⟨rfl, rfl⟩)
  refine HC.out.mono ?_
  rintro e w1 ⟨v, rfl, g1, g2⟩
  obtain ⟨h, hm, hn⟩ := H.out
  have h1 := h.kept g2
  have hvb : ∀ k i, Fc c L k i → v.ownBlock ≠ some k := fun k i hf e => by have := h.lt hf; have := (g1.lt e).2; omega
  by_cases h0 : n = 0
  · subst h0
    have HE := Lib.hid (show Pulled w B c 0 L v w1 from ⟨g1, L, h1, rfl, Mc.of_kept g2, fun h => by omega, hvb⟩)
    clear h hm hn h1 g1 g2 hvb
    go_wp2_with fail
    go_ret2
    exact ⟨v, rfl, HE.out⟩
  · cases hLL : L with
    | nil => subst hLL; simp [flat] at hn; omega
    | cons x L2 =>
      subst hLL
      have hb := h1.blk
      have hxb := h1.lks.1.blk
      have c0 : w1.cell? ⟨c, 0, none⟩ = some (.pointer (some ⟨x.lb, 0, none⟩)) := hb.cell 0
      have l1 := hb.lt
      have d0 := hxb.cell 0
      simp at d0
      have l2 := hxb.lt
      obtain ⟨ln, hln⟩ : ∃ ln, ln = x.bs.length := ⟨_, rfl⟩
      rw [← hln] at d0
      have b5 : (0 : Int) < (n : Int) := by omega
      have b6 : decide ((0 : Int) < (n : Int)) = true := by simpa using b5
      have b7 : decide (0 < n) = true := by simp; omega
      have b7' : 0 < n := by omega
      by_cases hx : ln < n
      · have b8 : (ln : Int) < (n : Int) := by omega
        have b9 : decide ((ln : Int) < (n : Int)) = true := by simpa using b8
        have HK := Lib.hid (cut_any h1 n (by omega))
        have HH := Lib.hid (And.intro h (And.intro hm (And.intro hn (And.intro h1 (And.intro g1 (And.intro g2 hvb))))))
        clear h hm hn h1 g1 g2 hvb hb hxb hln
        go_wp2_with fail
        refine HK.out.mono ?_
        rintro e w2 ⟨F, L3, rfl, k1, k2, k3, k4, k5, k6⟩
        obtain ⟨h, hm, hn, h1, g1, g2, hvb⟩ := HH.out
        have hvb2 : ∀ k i, Fc c (F ++ L3) k i → v.ownBlock ≠ some k := fun k i hf e => by
          rcases k6.o k i hf with h5 | h5
          · exact hvb k i h5 e
          · have := (g1.lt e).1; omega
        have hvb3 : ∀ k i, Fc c L3 k i → v.ownBlock ≠ some k := fun k i hf => hvb2 k i ((fc_append k i).2 (.inl hf))
        have g1' : RowB w2 w.heap.size v ((flat (x :: L2)).take n) := g1.same fun k e => k6.k.same (g1.lt e).1 fun i hd => hvb k i hd e
        have htl : ((flat (x :: L2)).take n).length = n := by rw [List.length_take]; omega
        obtain ⟨A, hv, hsr⟩ := g1'.src (D := Fc c L3) (by omega) hvb3
        rw [htl] at hv hsr
        have HLd := Lib.hid (lead_any k1 hsr (by omega) (by rw [k5, List.length_drop]; omega))
        have m2 : Mc w1 w2 (Fc c (x :: L2)) (Fc c L3) := ⟨k6.k, fun k i e => k6.o k i ((fc_append k i).2 (.inl e))⟩
        have l3 := k1.blk.lt
        have HG := Lib.hid (And.intro k5 (And.intro m2 (And.intro g1' (And.intro hv (And.intro hvb3 htl)))))
        subst hv
        clear h hm hn h1 g1 g2 hvb k1 k2 k3 k4 k5 k6 hvb2 hvb3 g1' hsr m2 htl
        go_wp2_with fail
        refine HLd.out.mono ?_
        rintro e w3 ⟨rfl, y, j1, j2, j3⟩
        obtain ⟨h, hm, hn, h1, g1, g2, hvb⟩ := HH.out
        obtain ⟨k5, m2, g1', hv, hvb3, htl⟩ := HG.out
        have HE := Lib.hid (show Pulled w B c n (x :: L2) (.slice A n n) w3 from
          ⟨g1'.same fun k e => j3.k.same (g1'.lt e).1 fun i hd => hvb3 k i hd e, y :: L3, j2, by rw [flat_cons, j1, k5, List.take_append_drop], (Mc.of_kept g2).trans (m2.trans j3), fun _ => ⟨y, L3, rfl, by rw [j1, htl]; exact Nat.le_refl _⟩, fun k i hf e => by
            rcases j3.o k i hf with h5 | h5
            · exact hvb3 k i h5 e
            · have := (g1'.lt e).1; omega⟩)
        clear h hm hn h1 g1 g2 hvb k5 m2 g1' hv hvb3 htl j1 j2 j3
        go_wp2_with fail
        go_ret2
        exact ⟨_, rfl, HE.out⟩
      · have b8 : (n : Int) ≤ (ln : Int) := by omega
        have b9 : decide ((ln : Int) < (n : Int)) = false := by simp; omega
        have b10 : n ≤ ln := by omega
        have HE := Lib.hid (show Pulled w B c n (x :: L2) v w1 from ⟨g1, x :: L2, h1, rfl, Mc.of_kept g2, fun _ => ⟨x, L2, rfl, by omega⟩, hvb⟩)
        clear h hm hn h1 g1 g2 hvb hb hxb hln hx
        go_wp2_with fail
        go_ret2
        exact ⟨v, rfl, HE.out⟩

/-- Two chains beside each other. -/
structure Two (w : World) (B c : Nat) (L : List Lk) (d : Nat) (M : List Lk) : Prop where
  cc : Cn w B 29 c L
  dd : Cn w B 29 d M
  sep : (L ++ M).Pairwise Apart
  ne : c ≠ d
def F2 (c : Nat) (L : List Lk) (d : Nat) (M : List Lk) (k i : Nat) : Prop := Fc c L k i ∨ Fc d M k i
theorem Two.symm {d : Nat} {M : List Lk} (h : Two w B c L d M) : Two w B d M c L := by
  obtain ⟨s1, s2, s3⟩ := List.pairwise_append.1 h.sep
  exact ⟨h.dd, h.cc, List.pairwise_append.2 ⟨s2, s1, fun a ha b hb => (s3 b hb a ha).symm⟩, h.ne.symm⟩
theorem Two.apart {d : Nat} {M : List Lk} (h : Two w B c L d M) : ∀ k i, Fc d M k i → ¬ Fc c L k i := fc_apart h.dd h.cc h.sep h.ne.symm
theorem Two.kept {w' : World} {d : Nat} {M : List Lk} (h : Two w B c L d M) (k : Kept (fun _ => False) w w') : Two w' B c L d M := ⟨h.cc.kept k, h.dd.kept k, h.sep, h.ne⟩
/-- One of two has taken a step. -/
theorem Two.step {w' : World} {d : Nat} {L' M : List Lk} (h : Two w B c L d M) (hc : Cn w' B 29 c L') (m : Mc w w' (Fc c L) (Fc c L')) : Two w' B c L' d M ∧ Mc w w' (F2 c L d M) (F2 c L' d M) := by
  obtain ⟨s1, s2, s3⟩ := List.pairwise_append.1 h.sep
  obtain ⟨hd, hda⟩ := h.dd.apart m h.apart
  refine ⟨⟨hc, hd, List.pairwise_append.2 ⟨hc.sep, s2, fun a ha b hb k i ho ho2 => hda k i (.inr ⟨b, hb, ho2⟩) (.inr ⟨a, ha, ho⟩)⟩, h.ne⟩, ⟨m.k.mono fun i j _ e => .inl e, fun k i e => ?_⟩⟩
  rcases e with e | e
  · rcases m.o k i e with h2 | h2
    · exact .inl (.inl h2)
    · exact .inr h2
  · exact .inl (.inr e)

/-- Two pointers of chains, compared. -/
theorem ptr_same (w : World) (c : Nat) : (binOp .eql 24 (.pointer (some ⟨c, 0, none⟩)) (.pointer (some ⟨c, 0, none⟩))).run Try.prog w = .ok (.bool true) w := by
  obtain ⟨i, hi, h1⟩ := Option.map_eq_some_iff.1 (show (Try.prog.info? 29).map (·.size) = some 3 by kernel_rfl)
  exact run_eql_ptr_same w _ (show Try.prog.underlying 24 = some (.pointer 29) by kernel_rfl) hi
theorem Two.ptr {d : Nat} {M : List Lk} (h : Two w B c L d M) : (binOp .eql 24 (.pointer (some ⟨c, 0, none⟩)) (.pointer (some ⟨d, 0, none⟩))).run Try.prog w = .ok (.bool false) w := by
  obtain ⟨i, hi, h1⟩ := Option.map_eq_some_iff.1 (show (Try.prog.info? 29).map (·.size) = some 3 by kernel_rfl)
  exact run_eql_ptr_other w (show Try.prog.underlying 24 = some (.pointer 29) by kernel_rfl) hi (by omega) (fun e => h.ne (by injection e)) h.cc.blk h.dd.blk

/-- What is cut off one chain is joined to the other. -/
theorem Two.cut {w1 : World} {d : Nat} {M F L' : List Lk} (h : Two w B c L d M) (hf : Free w1 B F) (m : Mc w w1 (Fc c L) (Fc c (F ++ L'))) :
    Cn w1 B 29 d M ∧ (∀ k i, Fc d M k i → ¬ Fc c (F ++ L') k i) ∧ (M ++ F).Pairwise Apart := by
  obtain ⟨h1, h2⟩ := h.dd.apart m h.apart
  refine ⟨h1, h2, List.pairwise_append.2 ⟨h.dd.sep, hf.sep, fun a ha b hb k i ho ho2 => h2 k i (.inr ⟨a, ha, ho⟩) (.inr ⟨b, List.mem_append_left _ hb, ho2⟩)⟩⟩
theorem fj_fc {d : Nat} {M : List Lk} {k i : Nat} (h : Fj d M k i) : Fc d M k i := by
  rcases h with h | h
  · exact .inl h
  · unfold ltO at h
    cases e : M.getLast? with
    | none => rw [e] at h; simp at h
    | some y => rw [e] at h; simp at h; exact .inr ⟨y, List.mem_of_getLast? e, .inl h.symm⟩
theorem Two.joined {w1 w2 : World} {d : Nat} {M F L' : List Lk} (h : Two w B c L d M) (hc : Cn w1 B 29 c L') (hs : (F ++ L').Pairwise Apart) (m : Mc w w1 (Fc c L) (Fc c (F ++ L')))
    (hap : ∀ k i, Fc d M k i → ¬ Fc c (F ++ L') k i) (hd : Cn w2 B 29 d (M ++ F)) (k : Kc (Fj d M) w1 w2) :
    Two w2 B c L' d (M ++ F) ∧ Mc w w2 (F2 c L d M) (F2 c L' d (M ++ F)) := by
  have hin : ∀ {k i}, Fc c L' k i → Fc c (F ++ L') k i := fun e => (fc_append _ _).2 (.inl e)
  obtain ⟨s1, s2, s3⟩ := List.pairwise_append.1 hs
  refine ⟨⟨hc.kc k fun j i e f => hap j i (fj_fc f) (hin e), hd, List.pairwise_append.2 ⟨s2, hd.sep, fun a ha b hb j i ho ho2 => ?_⟩, h.ne⟩, ⟨m.k.mono (fun _ _ _ e => Or.inl e) |>.andThen k fun i j _ e => .inr (fj_fc e), fun j i e => ?_⟩⟩
  · rcases List.mem_append.1 hb with hb | hb
    · exact hap j i (.inr ⟨b, hb, ho2⟩) (hin (.inr ⟨a, ha, ho⟩))
    · exact s3 b hb a ha j i ho2 ho
  · have step : ∀ {j i}, Fc c (F ++ L') j i → F2 c L d M j i ∨ w.heap.size ≤ j := fun e => (m.o _ _ e).elim (fun e => .inl (.inl e)) .inr
    rcases e with e | e | ⟨z, hz, ho⟩
    · exact step (hin e)
    · exact .inl (.inr (.inl e))
    · rcases List.mem_append.1 hz with hz | hz
      · exact .inl (.inr (.inr ⟨z, hz, ho⟩))
      · exact step (.inr ⟨z, List.mem_append_left _ hz, ho⟩)

/-- Move. -/
theorem move_neg {d : Nat} {M : List Lk} (h : Two w B c L d M) (n : Int) (hn : n < 0) : Calls Try.prog 20 #[.pointer (some ⟨c, 0, none⟩), .pointer (some ⟨d, 0, none⟩), .int .i64 n] w fun e w' => e = .returned (.tuple #[.int .i64 0, .int .i64 2]) ∧ w = w' := by
  have b1 : decide (n < 0) = true := by simpa using hn
  have e1 := h.ptr
  clear h
  go_enter Try.func20, Try.ntmps20
  go_wp2_with fail
  go_ret2
  exact ⟨rfl, rfl⟩
theorem move_self (w : World) (c : Nat) (n : Int) : Calls Try.prog 20 #[.pointer (some ⟨c, 0, none⟩), .pointer (some ⟨c, 0, none⟩), .int .i64 n] w fun e w' => e = .returned (.tuple #[.int .i64 0, .int .i64 2]) ∧ w = w' := by
  have e1 := ptr_same w c
  go_enter Try.func20, Try.ntmps20
  go_wp2_with fail
  go_ret2
  exact ⟨rfl, rfl⟩
theorem move_to_nil (w : World) (c : Nat) (n : Int) : Calls Try.prog 20 #[.pointer (some ⟨c, 0, none⟩), .pointer none, .int .i64 n] w fun e w' => e = .returned (.tuple #[.int .i64 0, .int .i64 1]) ∧ w = w' := by
  go_enter Try.func20, Try.ntmps20
  go_wp2_with fail
  go_ret2
  exact ⟨rfl, rfl⟩
theorem move_nil (w : World) (p : Option Addr) (n : Int) : Calls Try.prog 20 #[.pointer none, .pointer p, .int .i64 n] w fun e w' => e = .returned (.tuple #[.int .i64 0, .int .i64 1]) ∧ w = w' := by
  go_enter Try.func20, Try.ntmps20
  go_wp2_with fail
  go_ret2
  exact ⟨rfl, rfl⟩
set_option maxRecDepth 100000 in
set_option maxHeartbeats 4000000 in
theorem move_no {d : Nat} {M : List Lk} (h : Two w B c L d M) (n : Nat) (hn : n ≤ 9223372036854775807) (hno : 1048576 < min n (flat L).length + (flat M).length) : Calls Try.prog 20 #[.pointer (some ⟨c, 0, none⟩), .pointer (some ⟨d, 0, none⟩), .int .i64 (n : Int)] w fun e w' => e = .returned (.tuple #[.int .i64 0, .int .i64 70]) ∧ w = w' := by
  have HC := Lib.hid (count_any h.cc 0 (n : Int) (by omega) (by omega))
  have hc : cntZ (flat L).length 0 (n : Int) = min n (flat L).length := by unfold cntZ; rw [if_neg (by omega)]; omega
  rw [hc] at HC
  obtain ⟨k, hk⟩ : ∃ k, k = min n (flat L).length := ⟨_, rfl⟩
  rw [← hk] at HC hno
  have HT := Lib.hid (takes_any h.dd k)
  unfold takesZ at HT
  rw [if_neg (by omega)] at HT
  have e1 := h.ptr
  have b1 : decide ((n : Int) < 0) = false := by simp
  clear h hc hk hno
  go_enter Try.func20, Try.ntmps20
  go_wp2_with (first
    | (go_at_call 42; refine HC.out.mono ?_; rintro e w' ⟨rfl, rfl⟩)
    | (go_at_call 40; refine HT.out.mono ?_; rintro e w' ⟨rfl, rfl⟩))
  go_ret2
  exact ⟨rfl, rfl⟩
set_option maxRecDepth 100000 in
set_option maxHeartbeats 4000000 in
theorem move_yes {d : Nat} {M : List Lk} (h : Two w B c L d M) (n : Nat) (hn : n ≤ 9223372036854775807) (hno : min n (flat L).length + (flat M).length ≤ 1048576) : Calls Try.prog 20 #[.pointer (some ⟨c, 0, none⟩), .pointer (some ⟨d, 0, none⟩), .int .i64 (n : Int)] w fun e w' =>
    e = .returned (.tuple #[.int .i64 ((min n (flat L).length : Nat) : Int), .int .i64 0]) ∧ ∃ L' M', Two w' B c L' d M' ∧ flat L' = (flat L).drop n ∧ flat M' = flat M ++ (flat L).take n ∧ Mc w w' (F2 c L d M) (F2 c L' d M') := by
  have HC := Lib.hid (count_any h.cc 0 (n : Int) (by omega) (by omega))
  have hc : cntZ (flat L).length 0 (n : Int) = min n (flat L).length := by unfold cntZ; rw [if_neg (by omega)]; omega
  rw [hc] at HC
  have htk : (flat L).take n = (flat L).take (min n (flat L).length) := by
    by_cases e : n ≤ (flat L).length
    · rw [Nat.min_eq_left e]
    · rw [Nat.min_eq_right (by omega), List.take_of_length_le (by omega), List.take_length]
  have hdk : (flat L).drop n = (flat L).drop (min n (flat L).length) := by
    by_cases e : n ≤ (flat L).length
    · rw [Nat.min_eq_left e]
    · rw [Nat.min_eq_right (by omega), List.drop_of_length_le (by omega), List.drop_length]
  obtain ⟨k, hk⟩ : ∃ k, k = min n (flat L).length := ⟨_, rfl⟩
  rw [← hk] at HC hno htk hdk ⊢
  have HT := Lib.hid (takes_any h.dd k)
  unfold takesZ at HT
  rw [if_pos hno] at HT
  have e1 := h.ptr
  have b1 : decide ((n : Int) < 0) = false := by simp
  have HK := Lib.hid (fun q => cut_any (h.cc.drewN q) k (by omega))
  have H := Lib.hid (And.intro h (And.intro htk (And.intro hdk (And.intro hno hk))))
  have l1 := h.cc.blk.lt
  have l2 := h.dd.blk.lt
  clear h hc hk hno htk hdk
  go_enter Try.func20, Try.ntmps20
  go_wp2_with (first
    | (go_at_call 42; refine HC.out.mono ?_; rintro e w' ⟨rfl, rfl⟩)
    | (go_at_call 40; refine HT.out.mono ?_; rintro e w' ⟨rfl, rfl⟩))
  go_region_with (first
    | (go_at_call 37; refine (HK.out _).mono ?_; rintro e w1 ⟨F, L', rfl, g1, g2, g3, g4, g5, g6⟩
       have HG := Lib.hid (And.intro g1 (And.intro g2 (And.intro g3 (And.intro g4 (And.intro g5 g6)))))
       have HJ := Lib.hid (H.out.1.kept ((Kept.refl _ w).drewN _) |>.cut g2 g6)
       have hfl : (flat F).length = k := by rw [g4, List.length_take]; have := H.out.2.2.2.2; omega
       have hfl2 := H.out.2.2.2.1
       have HJ2 := Lib.hid (join_any HJ.out.1 g2 HJ.out.2.2 (by omega))
       clear g1 g2 g3 g4 g5 g6 hfl hfl2)
    | (go_at_call 43; refine HJ2.out.mono ?_; rintro e w2 ⟨rfl, g1, g2⟩))
  have HE := Lib.hid (show ∃ L' M', Two w2 B c L' d M' ∧ flat L' = (flat L).drop n ∧ flat M' = flat M ++ (flat L).take n ∧ Mc w w2 (F2 c L d M) (F2 c L' d M') by
    obtain ⟨a1, a2, a3, a4, a5, a6⟩ := HG.out
    obtain ⟨b1, b2⟩ := Two.joined (H.out.1.kept ((Kept.refl _ w).drewN _)) a1 a3 a6 HJ.out.2.1 g1 g2
    refine ⟨L', M ++ F, b1, by rw [a5, H.out.2.2.1], by rw [flat_append, a4, H.out.2.1], Mc.trans (Mc.of_kept ((Kept.refl _ w).drewN _)) b2⟩)
  clear g1 g2 HG HJ HJ2 H
  go_wp2_with fail
  go_ret2
  exact ⟨rfl, HE.out⟩
end
end Go.Proofs.Ytkhkhjkacibocaa
