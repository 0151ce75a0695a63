/-
  The reference's heap: one cell with a slice of items in order.
-/
import Derived.Test.YtfflbbohgndjfaaHpTwo
import Derived.Test.YtfflbbohgndjfaaHpAhead2
import Derived.Test.YtfflbbohgndjfaaHpCount
namespace Go.Proofs.Ytfflbbohgndjfaa
open Go.RowKit Go.Maps Go.ChangeMaps Go.Sort

/-- Items at an offset of a block. -/
def ShowO (w : World) (g off : Nat) (P : List It) : Prop :=
  ∀ i x, P[i]? = some x → w.cell? ⟨g, off + i * 3, none⟩ = some (.int .i64 x.id) ∧ w.cell? ⟨g, off + i * 3 + 1, none⟩ = some (.int .u64 x.d) ∧ w.cell? ⟨g, off + i * 3 + 2, none⟩ = some (.int .u64 x.n)
theorem ShowO.same {w w' : World} {g off : Nat} {P : List It} (h : ShowO w g off P) (e : w'.heap[g]? = w.heap[g]?) : ShowO w' g off P := fun i x hx => by
  obtain ⟨a0, a1, a2⟩ := h i x hx
  exact ⟨(World.cell?_of_block e).trans a0, (World.cell?_of_block e).trans a1, (World.cell?_of_block e).trans a2⟩
theorem RowAt.take {w : World} {g : Nat} {P : List It} (h : RowAt w g P) (k : Nat) : ShowO w g 0 (P.take k) := fun i x hx => by
  have hk : P[i]? = some x := by
    rw [List.getElem?_take] at hx
    split at hx
    · exact hx
    · cases hx
  have := h i x hk
  simpa using this
theorem RowAt.drop {w : World} {g : Nat} {P : List It} (h : RowAt w g P) (k : Nat) : ShowO w g (k * 3) (P.drop k) := fun i x hx => by
  rw [List.getElem?_drop] at hx
  obtain ⟨a0, a1, a2⟩ := h (k + i) x hx
  rw [show k * 3 + i * 3 = (k + i) * 3 by omega]
  exact ⟨a0, a1, a2⟩

theorem after_take {w : World} {g : Nat} {S : List It} (h : RowAt w g S) (k : Nat) : ∃ off, (some ⟨g, 0, none⟩ : Option Addr) = some ⟨g, off, none⟩ ∧ ShowO w g off (S.take k) := ⟨0, rfl, h.take k⟩
theorem after_drop {w : World} {g c : Nat} {S : List It} (h : RowAt w g S) (hc : S.length ≤ c) (k : Nat) : ∃ off, (if c = k then (some ⟨g, 0, none⟩ : Option Addr) else some ⟨g, k * 3, none⟩) = some ⟨g, off, none⟩ ∧ ShowO w g off (S.drop k) := by
  by_cases e : c = k
  · refine ⟨0, by rw [if_pos e], ?_⟩
    rw [List.drop_eq_nil_of_le (by omega)]
    intro i x hx
    simp at hx
  · exact ⟨k * 3, by rw [if_neg e], h.drop k⟩
theorem showO_later {w w' : World} {A : Option Addr} {g : Nat} {P : List It} (h : ∃ off, A = some ⟨g, off, none⟩ ∧ ShowO w g off P) (e : w'.heap[g]? = w.heap[g]?) : ∃ off, A = some ⟨g, off, none⟩ ∧ ShowO w' g off P := let ⟨o, h1, h2⟩ := h; ⟨o, h1, h2.same e⟩
/-- append(s, x...) at items, x from an offset of a block. -/
theorem wpList_append_off {w : World} {ops : Array Oper} {rest : List Oper} {o : Oper} {a : Act} {Q : Exit → Act → World → Prop} (hgd : o.guard = none) (s x : Operand)
    (ho : o.op = .call { callee := .builtin .append, args := #[s, x], argTypes := #[26, 26] })
    (B : Nat) (v : Value) (P R : List It) (hs : a.eval s = v) (hown : OwnIt w B v P) (A : Option Addr) (g : Nat) (n c : Nat) (hn : n = R.length) (hx : a.eval x = .slice A n c) (hr : ∃ off, A = some ⟨g, off, none⟩ ∧ ShowO w g off R) (hlen : P.length + R.length ≤ 100000) (hB : B ≤ w.heap.size)
    (h : ∀ v' w', OwnIt w' B v' (P ++ R) → w.grownBy w' v.ownBlock → (v'.ownBlock = v.ownBlock ∨ v'.ownBlock = some w.heap.size) → wpList Try.prog ops Q rest (a.put o.dst v') w') : wpList Try.prog ops Q (o :: rest) a w := by
  subst hn
  obtain ⟨off, rfl, hr⟩ := hr
  obtain ⟨i0, hi, hz0, hz1, hz2⟩ := info_parts infoIt
  refine wpList_append_own_at w hgd s x _ ho B _ i0 _ 3 24 Try.underlying26 hi hz0 hz1 hz2 rfl (by decide) v P.length _ hs hown ⟨g, off, none⟩ R.length c (R.flatMap encIt) hx (enc_len R) (fun j u hu => ?_) (fun u hu => ?_) (by unfold maxLen; omega) (by omega) hB
      (fun v' w' h1 h2 h3 h4 => h v' w' (by unfold OwnIt; rw [List.length_append, List.flatMap_append]; exact h1) h2 h4)
  · have hj : j < R.length * 3 := by have := (List.getElem?_eq_some_iff.1 hu).1; rw [enc_len] at this; exact this
    have hadd : (⟨g, off, none⟩ : Addr).add j = ⟨g, off + j, none⟩ := by unfold Addr.add; split <;> simp_all
    rw [hadd, ← hu]
    have hx := List.getElem?_eq_getElem (l := R) (i := j / 3) (by omega)
    obtain ⟨e0, e1, e2⟩ := hr _ _ hx
    obtain ⟨d0, d1, d2⟩ := enc_at R _ _ hx
    have hm : j % 3 = 0 ∨ j % 3 = 1 ∨ j % 3 = 2 := by omega
    rcases hm with hm | hm | hm
    · rw [show j = j / 3 * 3 from by omega]; rw [e0, d0]
    · rw [show off + j = off + j / 3 * 3 + 1 from by omega, show j = j / 3 * 3 + 1 from by omega] ; rw [show (j / 3 * 3 + 1) / 3 = j / 3 from by omega]; rw [e1, d1]
    · rw [show off + j = off + j / 3 * 3 + 2 from by omega, show j = j / 3 * 3 + 2 from by omega] ; rw [show (j / 3 * 3 + 2) / 3 = j / 3 from by omega]; rw [e2, d2]
  · obtain ⟨y, _, hy⟩ := List.mem_flatMap.1 hu
    exact enc_one y u hy

/-- What a call on the reference's heap turns: its own block, and its row is the old one or a new one. -/
def RM (w w' : World) (r : Nat) (v v' : Value) : Prop := Kept (fun k => k = r) w w' ∧ (v' = v ∨ ∀ k, v'.ownBlock = some k → w.heap.size ≤ k)
theorem RM.trans {a b c : World} {r : Nat} {v v' v'' : Value} (h : RM a b r v v') (k : RM b c r v' v'') : RM a c r v v'' := by
  refine ⟨h.1.trans k.1, ?_⟩
  rcases k.2 with rfl | e
  · exact h.2
  · exact .inr fun i hi => Nat.le_trans h.1.size (e i hi)
theorem RM.of_below {a b : World} {r : Nat} {v : Value} (h : Below a.heap.size a b) : RM a b r v v := ⟨Kept.of_below h, .inl rfl⟩
/-- The reference's heap. -/
structure Rf (w : World) (B r : Nat) (v : Value) (S : List It) : Prop where
  blk : Blk w r 28 #[v]
  row : OwnIt w B v S
  ne : v.ownBlock ≠ some r
  hB : B ≤ r
section
variable {w w' : World} {B r : Nat} {v : Value} {S : List It}
theorem Rf.kept (R : Rf w B r v S) {F : Nat → Prop} (k : Kept F w w') (hf : ¬ F r) (hf2 : ∀ i, v.ownBlock = some i → ¬ F i) : Rf w' B r v S :=
  ⟨R.blk.kept k hf, own_same R.row (fun i e => k.block i (own_lt R.row e).1 (hf2 i e)), R.ne, R.hB⟩
theorem Rf.below (R : Rf w B r v S) (hb : Below w.heap.size w w') : Rf w' B r v S := R.kept (Kept.of_below (F := fun _ => False) hb) (fun e => e) (fun _ _ e => e)
/-- Laid anew. -/
theorem Rf.store {w3 : World} {u : Value} {S' : List It} (R : Rf w B r v S) (hb : Below w.heap.size w w3) (O : OwnIt w3 w.heap.size u S') : Rf (w3.setCell ⟨r, 0, none⟩ u) B r u S' ∧ RM w (w3.setCell ⟨r, 0, none⟩ u) r v u := by
  have hr := R.blk.lt
  have hne : u.ownBlock ≠ some r := fun e => by have := (own_lt O e).2; omega
  have b3 : Blk w3 r 28 #[v] := R.blk.same (hb.block r hr)
  have k : Kept (fun k => k = r) w (w3.setCell ⟨r, 0, none⟩ u) := Kept.setCell (F := fun k => k = r) (Kept.of_below hb) (p := ⟨r, 0, none⟩) rfl u
  exact ⟨⟨by simpa using b3.set_ 0 u, OwnIt.more (own_same O (fun i e => Below.heap_setCell _ _ _ _ (fun (e2 : i = r) => hne (by rw [← e2]; exact e)))) (Nat.le_trans R.hB (Nat.le_of_lt hr)), hne, R.hB⟩, k, .inr fun i e => (own_lt O e).2⟩
end

/-- Where an item stands. -/
theorem place_some {w : World} {B r : Nat} {v : Value} {S : List It} (R : Rf w B r v S) (hlen : S.length ≤ 1000) (hu : Uniq S) {j : Nat} {x : It} (hx : S[j]? = some x) : Calls Try.prog 32 #[.pointer (some ⟨r, 0, none⟩), .int .i64 x.id] w fun e w' => e = .returned (.int .i64 (j : Int)) ∧ w = w' := by
  have hjl := (List.getElem?_eq_some_iff.1 hx).1
  obtain ⟨A, c, hv, hs, -⟩ := R.row.shows
  obtain ⟨g, rfl, hg, hrow⟩ := hs (by omega)
  subst hv
  have c0 := R.blk.cell 0
  have rl := R.blk.lt
  simp at c0
  have HR := Lib.hid (And.intro hrow (And.intro hu hx))
  clear hrow hx hu R hs
  go_enter Try.func32, Try.ntmps32
  go_wp2_with fail
  go_loop [5] (fun i => ∃ k : Nat, i = .int .i64 (k : Int) ∧ k ≤ j) (fun i => S.length - (intOf i).toNat)
  case atStart => exact ⟨0, rfl, Nat.zero_le _⟩
  case round =>
    obtain ⟨k, rfl, hk⟩ := hrel
    have b0 : (0 : Int) ≤ (k : Int) := by omega
    have b1 : (k : Int) < (S.length : Int) := by omega
    have hy := List.getElem?_eq_getElem (l := S) (i := k) (by omega)
    obtain ⟨y, ey⟩ : ∃ y, y = S[k]'(by omega) := ⟨_, rfl⟩
    rw [← ey] at hy
    obtain ⟨y0, y1, y2⟩ := HR.out.1 k y hy
    by_cases hkj : k = j
    · subst hkj
      have e : y = x := by have := HR.out.2.2; rw [this] at hy; cases hy; rfl
      have ee : (y.id == x.id) = true := by rw [e]; simp
      rw [e] at y0
      clear hy ey y1 y2 e ee
      go_wp2_with fail
      go_ret
      exact ⟨rfl, rfl⟩
    · have ne : (y.id == x.id) = false := by simpa using HR.out.2.1.ne hy HR.out.2.2 hkj
      have hkl : k < j := by omega
      clear hy ey y1 y2 hkj
      go_wp2_with fail
      go_round
      case rel => exact ⟨k + 1, by go_num, by omega⟩
      case measure => simp [intOf]; omega
theorem place_no {w : World} {B r : Nat} {v : Value} {S : List It} (R : Rf w B r v S) (hlen : S.length ≤ 1000) {id : Int} (hid : ∀ y ∈ S, y.id ≠ id) : Calls Try.prog 32 #[.pointer (some ⟨r, 0, none⟩), .int .i64 id] w fun e w' => e = .returned (.int .i64 (-1)) ∧ w = w' := by
  obtain ⟨A, c, hv, hs, -⟩ := R.row.shows
  subst hv
  have c0 := R.blk.cell 0
  have rl := R.blk.lt
  simp at c0
  have HR := Lib.hid (And.intro hs hid)
  clear hs hid R
  go_enter Try.func32, Try.ntmps32
  go_wp2_with fail
  go_loop [5] (fun i => ∃ k : Nat, i = .int .i64 (k : Int) ∧ k ≤ S.length) (fun i => S.length - (intOf i).toNat)
  case atStart => exact ⟨0, rfl, Nat.zero_le _⟩
  case round =>
    obtain ⟨k, rfl, hk⟩ := hrel
    by_cases hlt : k < S.length
    · obtain ⟨g, rfl, hg, hrow⟩ := HR.out.1 (by omega)
      have b0 : (0 : Int) ≤ (k : Int) := by omega
      have b1 : (k : Int) < (S.length : Int) := by omega
      have hy := List.getElem?_eq_getElem hlt
      obtain ⟨y, ey⟩ : ∃ y, y = S[k] := ⟨_, rfl⟩
      rw [← ey] at hy
      obtain ⟨y0, y1, y2⟩ := hrow k y hy
      have ne : (y.id == id) = false := by simpa using HR.out.2 y (List.mem_of_getElem? hy)
      clear hy ey y1 y2 hrow
      go_wp2_with fail
      go_round
      case rel => exact ⟨k + 1, by go_num, by omega⟩
      case measure => simp [intOf]; omega
    · obtain rfl : k = S.length := by omega
      go_wp2_with fail
      go_ret
      exact ⟨rfl, rfl⟩

theorem cut_list {S : List It} (hu : Uniq S) {j : Nat} {x : It} (hx : S[j]? = some x) : S.take j ++ S.drop (j + 1) = del x.id S := by
  have hl := (List.getElem?_eq_some_iff.1 hx).1
  have e : S = S.take j ++ x :: S.drop (j + 1) := by rw [← drop_cons hx, List.take_append_drop]
  have hd := drop_ne hu hx
  have ht : ∀ y ∈ S.take j, y.id ≠ x.id := by
    intro y hy
    obtain ⟨i, hi⟩ := List.mem_iff_getElem?.1 hy
    rw [List.getElem?_take] at hi
    split at hi
    · exact hu.ne hi hx (by omega)
    · cases hi
  conv => rhs; rw [e]
  unfold del
  rw [List.filter_append, List.filter_cons_of_neg (by simp), List.filter_eq_self.2 (fun y hy => by simpa using ht y hy), List.filter_eq_self.2 (fun y hy => by simpa using hd y hy)]
/-- The place where an item belongs. -/
theorem put_list {x : It} : ∀ {S : List It} {k : Nat}, k ≤ S.length → (∀ i y, i < k → S[i]? = some y → Lt y x) → (∀ y, S[k]? = some y → ¬ Lt y x) → S.take k ++ x :: S.drop k = ins x S
  | [], k, hk, _, _ => by
    have : k = 0 := by simpa using hk
    subst this; rfl
  | y :: S, 0, _, _, h2 => by
    unfold ins
    rw [if_neg (h2 y rfl)]
    rfl
  | y :: S, k + 1, hk, h1, h2 => by
    unfold ins
    rw [if_pos (h1 0 y (by omega) rfl), List.take_succ_cons, List.drop_succ_cons, List.cons_append]
    rw [put_list (k := k) (by simpa using hk) (fun i z hi hz => h1 (i + 1) z (by omega) hz) (fun z hz => h2 z hz)]
theorem OwnIt.cap {w : World} {B : Nat} {v : Value} {S : List It} (h : OwnIt w B v S) : (v = .slice none 0 0 ∧ S = []) ∨ ∃ g c, v = .slice (some ⟨g, 0, none⟩) S.length c ∧ S.length ≤ c ∧ g < w.heap.size ∧ B ≤ g ∧ RowAt w g S := by
  rcases h.2 with ⟨rfl, hn⟩ | ⟨g, cap, cur, rfl, hg, hh, hc, r⟩
  · exact .inl ⟨rfl, List.eq_nil_of_length_eq_zero (by simpa using hn)⟩
  · right
    refine ⟨g, cap, rfl, hc, (Array.getElem?_eq_some_iff.1 hh).1, hg, fun i x hx => ?_⟩
    have hi : i < S.length := (List.getElem?_eq_some_iff.1 hx).1
    obtain ⟨e0, e1, e2⟩ := enc_at S i x hx
    exact ⟨(World.ownsRow.cellAt h _ (by omega)).trans e0, (World.ownsRow.cellAt h _ (by omega)).trans e1, (World.ownsRow.cellAt h _ (by omega)).trans e2⟩
theorem own_form {w : World} {B : Nat} {u : Value} {P : List It} (h : OwnIt w B u P) : ∃ A n c, u = .slice A n c := by
  obtain ⟨A, c, e, _⟩ := h.read
  exact ⟨A, _, c, e⟩
/-- Behind two appends to nil all that lay lies as it lay. -/
theorem ref_b {w w1 w2 : World} {u1 u2 : Value} {xs ys : List It} (hg1 : w.grownBy w1 (Value.slice none 0 0).ownBlock) (hg2 : w1.grownBy w2 u1.ownBlock) (ho1 : u1.ownBlock = (Value.slice none 0 0).ownBlock ∨ u1.ownBlock = some w.heap.size) (O2 : OwnIt w2 w.heap.size u2 ([] ++ xs ++ ys)) :
    Below w.heap.size w w2 ∧ OwnIt w2 w.heap.size u2 (xs ++ ys) := by
  have b : Below w.heap.size w w2 := (due_b7 hg1).grown hg2 hg1.size (fun k e => by
    rcases ho1 with h | h
    · rw [h] at e; cases e
    · rw [h] at e; cases e; exact Nat.le_refl _)
  exact ⟨b, by simpa using O2⟩
set_option maxHeartbeats 4000000 in
set_option maxRecDepth 100000 in
theorem cut_any {w : World} {B r : Nat} {v : Value} {S : List It} (R : Rf w B r v S) (hlen : S.length ≤ 1000) (hu : Uniq S) {j : Nat} {x : It} (hx : S[j]? = some x) : Calls Try.prog 35 #[.pointer (some ⟨r, 0, none⟩), .int .i64 (j : Int)] w fun e w' =>
    e = .returned (.tuple #[]) ∧ ∃ v', Rf w' B r v' (del x.id S) ∧ RM w w' r v v' := by
  have hjl := (List.getElem?_eq_some_iff.1 hx).1
  rcases R.row.cap with ⟨rfl, rfl⟩ | ⟨g, c, rfl, hc, hg, hgB, hrow⟩
  · simp at hjl
  have c0 := R.blk.cell 0
  have rl := R.blk.lt
  simp at c0
  have b0 : (0 : Int) ≤ (j : Int) := by omega
  have b1 : (j : Int) < (S.length : Int) := by omega
  have b2 : (j : Int) ≤ (c : Int) := by omega
  have b3 : (S.length : Int) ≤ (c : Int) := by omega
  have b4 : (j : Int) + 1 ≤ (S.length : Int) := by omega
  have HR := Lib.hid (And.intro R (And.intro hrow (cut_list hu hx)))
  clear hrow hu hx R
  go_enter Try.func35, Try.ntmps35
  have o0 : OwnIt w w.heap.size (.slice none 0 0) [] := World.ownsRow_nil _ _ _ _
  have H0 := Lib.hid (And.intro o0 (after_take HR.out.2.1 j))
  have HD := Lib.hid (after_drop HR.out.2.1 hc (j + 1))
  have hlt : (S.take j).length = j := by rw [List.length_take]; omega
  have hld : (S.drop (j + 1)).length = S.length - (j + 1) := List.length_drop
  have HLn := Lib.hid (And.intro hlt hld)
  clear o0 hlt hld
  go_wp2_with (first
    | (at_builtin; refine wpList_append_off rfl _ _ rfl w.heap.size (.slice none 0 0) [] (S.take j) rfl H0.out.1 _ g j c HLn.out.1.symm rfl H0.out.2 (by have := HLn.out.1; rw [List.length_nil]; omega) (Nat.le_refl _) ?_; intro u1 w1 O1 hg1 ho1; have c0' := (hg1.cell_far ⟨r, 0, none⟩ rl (fun e => by cases e)).trans c0)
    | (at_builtin; (refine wpList_append_off rfl _ _ rfl w.heap.size u1 ([] ++ S.take j) (S.drop (j + 1)) rfl O1 _ g _ _ HLn.out.2.symm rfl (showO_later HD.out ((due_b7 hg1).block g hg)) (by have := HLn.out.1; have := HLn.out.2; rw [List.nil_append]; omega) hg1.size ?_; intro u2 w2 O2 hg2 ho2; have F2 := Lib.hid (ref_b hg1 hg2 ho1 O2); obtain ⟨A2, n2, c2, hu2⟩ := own_form O2; subst hu2; have c0'' := (F2.out.1.cell (p := ⟨r, 0, none⟩) rl).trans c0; have rl2 := Nat.lt_of_lt_of_le rl F2.out.1.size; have fr := (HR.out.1.blk.same (F2.out.1.block r rl)).frozen; clear O1 O2 hg1 hg2 ho1 ho2)))
  all_goals
    have F3 := Lib.hid (HR.out.1.store F2.out.1 (by have := F2.out.2; rw [HR.out.2.2] at this; exact this))
    go_end0
    first | (have hcj : c = j + 1 := by assumption
             rw [hcj] at F3
             first | exact ⟨_, F3.out.1, F3.out.2⟩ | exact ⟨rfl, _, F3.out.1, F3.out.2⟩) | exact ⟨_, F3.out.1, F3.out.2⟩ | exact ⟨rfl, ⟨_, F3.out.1⟩, F3.out.2⟩ | exact ⟨rfl, _, F3.out.1, F3.out.2⟩
end Go.Proofs.Ytfflbbohgndjfaa
