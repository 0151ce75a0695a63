/-
  The reference's Same at two slices that hold the same items; an append of a slice of items.
-/
import Derived.Test.YtfflbbohgndjfaaHpLaw
import Derived.Laws.AppendOwnNone
namespace Go.Proofs.Ytfflbbohgndjfaa
open Go.RowKit Go.Maps Go.ChangeMaps Go.Sort

/-- A slice that holds items. -/
def Shows (w : World) (A : Option Addr) (P : List It) : Prop := 0 < P.length → ∃ g, A = some ⟨g, 0, none⟩ ∧ g < w.heap.size ∧ RowAt w g P
theorem Shows.below {w w' : World} {A : Option Addr} {P : List It} (h : Shows w A P) (hb : Below w.heap.size w w') : Shows w' A P := fun h0 => by
  obtain ⟨g, e, hg, hr⟩ := h h0
  exact ⟨g, e, Nat.lt_of_lt_of_le hg hb.size, hr.same (hb.block g hg)⟩
theorem OwnIt.shows {w : World} {B : Nat} {u : Value} {P : List It} (h : OwnIt w B u P) : ∃ A c, u = .slice A P.length c ∧ Shows w A P ∧ (A = none → P.length = 0) := by
  obtain ⟨A, c, hu, hr⟩ := h.read
  refine ⟨A, c, hu, fun h0 => ?_, fun e => ?_⟩
  · obtain ⟨g, e, hg, _, hra⟩ := hr h0; exact ⟨g, e, hg, hra⟩
  · rcases Nat.eq_zero_or_pos P.length with h0 | h0
    · exact h0
    · obtain ⟨g, e2, _⟩ := hr h0; rw [e] at e2; cases e2
theorem OwnIt.shows_of {w : World} {B n c : Nat} {A : Option Addr} {P : List It} (h : OwnIt w B (.slice A n c) P) : Shows w A P := by
  obtain ⟨A', c', e, hs, _⟩ := h.shows
  injection e with e1
  exact e1 ▸ hs

theorem own_cap {w : World} {B n c : Nat} {A : Option Addr} {P : List It} (h : OwnIt w B (.slice A n c) P) (e : A = none) : c = 0 := by
  subst e
  rcases h.2 with ⟨e, _⟩ | ⟨g, cap, cur, e, _⟩
  · injection e
  · cases e

set_option maxHeartbeats 2000000 in
set_option maxRecDepth 100000 in
theorem same_yes (w : World) (A1 A2 : Option Addr) (c1 c2 : Nat) (P : List It) (hlen : P.length ≤ 100000) (h1 : Shows w A1 P) (h2 : Shows w A2 P) :
    Calls Try.prog 22 #[.slice A1 P.length c1, .slice A2 P.length c2] w fun e w' => e = .returned (.bool true) ∧ ∃ j, w' = w.drewN j := by
  have HR := Lib.hid (And.intro h1 h2)
  clear h1 h2
  go_enter Try.func22, Try.ntmps22
  go_wp2_with fail
  go_loopw [5] (fun i wr => ∃ k : Nat, i = .int .i64 (k : Int) ∧ k ≤ P.length ∧ ∃ j, wr = w.drewN j) (fun i _ => P.length - (intOf i).toNat)
  case atStart => exact ⟨0, rfl, Nat.zero_le _, 0, rfl⟩
  case round =>
    obtain ⟨k, rfl, hk, j, rfl⟩ := hrel
    by_cases hlt : k < P.length
    · obtain ⟨g1, rfl, _, r1⟩ := HR.out.1 (by omega)
      obtain ⟨g2, rfl, _, r2⟩ := HR.out.2 (by omega)
      obtain ⟨y, hy⟩ : ∃ y, P[k]? = some y := ⟨_, List.getElem?_eq_getElem hlt⟩
      obtain ⟨p0, p1, p2⟩ := r1 k y hy
      obtain ⟨q0, q1, q2⟩ := r2 k y hy
      have b0 : (0 : Int) ≤ (k : Int) := by omega
      have b1 : (k : Int) < (P.length : Int) := by omega
      clear r1 r2 hy
      go_wp2_with fail
      go_quiet (fail)
      go_wp2_with fail
      go_roundw
      case rel => exact ⟨k + 1, by go_num, by omega, _, rfl⟩
      case measure => simp [intOf]; omega
    · obtain rfl : k = P.length := by omega
      go_wp2_with fail
      go_ret
      exact ⟨rfl, j, rfl⟩

/-- append(s, x...) at items: s owns its row; x holds items, wherever. -/
theorem wpList_append_it {w : World} {ops : Array Oper} {rest : List Oper} {o : Oper} {a : Act} {Q : Exit → Act → World → Prop} (hgd : o.guard = none) (s x : Operand)
    (ho : o.op = .call { callee := .builtin .append, args := #[s, x], argTypes := #[26, 26] })
    (B : Nat) (v : Value) (P R : List It) (hs : a.eval s = v) (hown : OwnIt w B v P) (A : Option Addr) (c : Nat) (hx : a.eval x = .slice A R.length c) (hc : A = none → c = 0 ∧ R.length = 0) (hr : Shows w A R) (hlen : P.length + R.length ≤ 100000) (hB : B ≤ w.heap.size)
    (h : ∀ v' w', OwnIt w' B v' (P ++ R) → w.grownBy w' v.ownBlock → (v'.ownBlock = v.ownBlock ∨ v'.ownBlock = some w.heap.size) → wpList Try.prog ops Q rest (a.put o.dst v') w') : wpList Try.prog ops Q (o :: rest) a w := by
  obtain ⟨i0, hi, hz0, hz1, hz2⟩ := info_parts infoIt
  cases A with
  | none =>
    obtain ⟨rfl, h0⟩ := hc rfl
    have hR : R = [] := List.eq_nil_of_length_eq_zero h0
    subst hR
    exact wpList_append_own_none hgd s x _ ho B _ i0 3 Try.underlying26 hi v P.length _ hs hown hx (h v w (by rw [List.append_nil]; exact hown) (World.grownBy.refl w _) (.inl rfl))
  | some ad =>
    refine wpList_append_own_at w hgd s x _ ho B _ i0 _ 3 24 Try.underlying26 hi hz0 hz1 hz2 rfl (by decide) v P.length _ hs hown ad R.length c (R.flatMap encIt) hx (enc_len R) (fun j u hu => ?_) (fun u hu => ?_) (by unfold maxLen; omega) (by omega) hB
      (fun v' w' h1 h2 h3 h4 => h v' w' (by unfold OwnIt; rw [List.length_append, List.flatMap_append]; exact h1) h2 h4)
    · have hj : j < R.length * 3 := by have := (List.getElem?_eq_some_iff.1 hu).1; rw [enc_len] at this; exact this
      obtain ⟨g, e, _, hra⟩ := hr (by omega)
      cases e
      have hadd : (⟨g, 0, none⟩ : Addr).add j = ⟨g, j, none⟩ := by unfold Addr.add; split <;> simp_all
      rw [hadd, ← hu]
      have hx := List.getElem?_eq_getElem (l := R) (i := j / 3) (by omega)
      obtain ⟨e0, e1, e2⟩ := hra _ _ hx
      obtain ⟨d0, d1, d2⟩ := enc_at R _ _ hx
      have hm : j % 3 = 0 ∨ j % 3 = 1 ∨ j % 3 = 2 := by omega
      rcases hm with hm | hm | hm
      · rw [show j = j / 3 * 3 from by omega]; rw [e0, d0]
      · rw [show j = j / 3 * 3 + 1 from by omega]; rw [e1, d1]
      · rw [show j = j / 3 * 3 + 2 from by omega]; rw [e2, d2]
    · obtain ⟨y, _, hy⟩ := List.mem_flatMap.1 hu
      exact enc_one y u hy

theorem due_b7 {w6 w7 : World} (h : w6.grownBy w7 (Value.slice none 0 0).ownBlock) : Below w6.heap.size w6 w7 := (Below.refl _ _).grown h (Nat.le_refl _) (fun k e => by cases e)
/-- Behind the two appends all that lay lies as it lay. -/
theorem due_b8 {w w6 w7 w8 : World} {u7 u8 v1 : Value} {A2 A3 : Option Addr} {xs rest S : List It} (z6 : Below w.heap.size w w6) (P6 : OwnIt w6 w.heap.size v1 S) (s2 : Shows w6 A2 xs) (s3 : Shows w6 A3 rest)
    (hg7 : w6.grownBy w7 (Value.slice none 0 0).ownBlock) (hg8 : w7.grownBy w8 u7.ownBlock) (ho7 : u7.ownBlock = (Value.slice none 0 0).ownBlock ∨ u7.ownBlock = some w6.heap.size) (O8 : OwnIt w8 w6.heap.size u8 ([] ++ xs ++ rest)) (hS : S = xs ++ rest) :
    Below w.heap.size w w8 ∧ OwnIt w8 w.heap.size v1 S ∧ Shows w8 A2 xs ∧ Shows w8 A3 rest ∧ OwnIt w8 w6.heap.size u8 S := by
  have b : Below w6.heap.size w6 w8 := (due_b7 hg7).grown hg8 hg7.size (fun k e => by
    rcases ho7 with h | h
    · rw [h] at e; cases e
    · rw [h] at e; cases e; exact Nat.le_refl _)
  exact ⟨z6.trans (b.mono z6.size), P6.below b, s2.below b, s3.below b, by rw [hS]; simpa using O8⟩

/-- A law's state: the frame; the first list; it is none of the heap's blocks. -/
def TrB (w : World) (q m : Nat) (v : Value) (u : Value) (S : List It) (W : World) : Prop :=
  Below w.heap.size w W ∧ OwnIt W w.heap.size u S ∧ (∀ k, u.ownBlock = some k → ¬ Fp q m v k)
theorem TrB.alloc {w W : World} {q m : Nat} {v u : Value} {S : List It} (h : TrB w q m v u S W) (o : Obj) : TrB w q m v u S (W.alloc o) :=
  ⟨h.1.alloc h.1.size o, h.2.1.below ((Below.refl _ W).alloc (Nat.le_refl _) o), h.2.2⟩
theorem TrB.below {w W W' : World} {q m : Nat} {v u : Value} {S : List It} (h : TrB w q m v u S W) (hb : Below W.heap.size W W') : TrB w q m v u S W' :=
  ⟨h.1.trans (hb.mono h.1.size), h.2.1.below hb, h.2.2⟩
theorem TrB.moved {w W W' : World} {q m : Nat} {v v' u : Value} {S : List It} (h : TrB w q m v u S W) (hm : Moved W W' q m v v') (hb : Below w.heap.size W W') : TrB w q m v' u S W' :=
  ⟨h.1.trans hb, h.2.1.moved hm h.2.2, apart_moved h.2.1.lt hm h.2.2⟩
theorem trace_step {w w4 w5 : World} {h q m : Nat} {v1 v5 u : Value} {S T : List It} (H4 : Hp w4 w.heap.size h q m v1 T) (z4 : Below w.heap.size w w4) (O4 : OwnIt w4 w.heap.size u S) (ap4 : ∀ k, u.ownBlock = some k → ¬ Fp q m v1 k) (lt4 : ∀ k, u.ownBlock = some k → k < w4.heap.size) (hm5 : Moved w4 w5 q m v1 v5) :
    TrB w q m v5 u S w5 := ⟨z4.trans (hm5.below H4), O4.moved hm5 ap4, apart_moved lt4 hm5 ap4⟩
/-- .. and the block of the item that was taken out. -/
structure TrS (w : World) (q m : Nat) (v : Value) (u : Value) (S : List It) (xb : Nat) (x : It) (W : World) : Prop where
  st : TrB w q m v u S W
  ap : ¬ Fp q m v xb
  bk : Blk W xb 31 #[.int .i64 x.id, .int .u64 x.d, .int .u64 x.n]
theorem TrS.alloc {w W : World} {q m xb : Nat} {v u : Value} {S : List It} {x : It} (h : TrS w q m v u S xb x W) (o : Obj) : TrS w q m v u S xb x (W.alloc o) := ⟨h.st.alloc o, h.ap, h.bk.alloc o⟩
theorem TrS.below {w W W' : World} {q m xb : Nat} {v u : Value} {S : List It} {x : It} (h : TrS w q m v u S xb x W) (hb : Below W.heap.size W W') : TrS w q m v u S xb x W' := ⟨h.st.below hb, h.ap, h.bk.same (hb.block _ h.bk.lt)⟩
theorem TrS.moved {w W W' : World} {q m xb : Nat} {v v' u : Value} {S : List It} {x : It} (h : TrS w q m v u S xb x W) (hm : Moved W W' q m v v') (hb : Below w.heap.size W W') : TrS w q m v' u S xb x W' :=
  ⟨h.st.moved hm hb, fp_moved hm h.bk.lt h.ap, h.bk.kept hm.1 h.ap⟩
theorem TrS.cells {w W : World} {q m xb : Nat} {v u : Value} {S : List It} {x : It} (h : TrS w q m v u S xb x W) : W.cell? ⟨xb, 0, none⟩ = some (.int .i64 x.id) ∧ W.cell? ⟨xb, 1, none⟩ = some (.int .u64 x.d) ∧ W.cell? ⟨xb, 2, none⟩ = some (.int .u64 x.n) := by
  have y0 := h.bk.cell 0
  have y1 := h.bk.cell 1
  have y2 := h.bk.cell 2
  simp at y0 y1 y2
  exact ⟨y0, y1, y2⟩
theorem own_box (w : World) (a b c : Value) : Blk (w.alloc (.cells #[a, b, c] 31)) w.heap.size 31 #[a, b, c] := Blk.new _ _ _
theorem del_ins {x : It} {k : Int} {D : List It} (h : ∀ y ∈ D, y.id ≠ k) (hk : x.id = k) : del k (ins x D) = D := by
  have hD : del k D = D := List.filter_eq_self.2 fun z hz => by simpa using h z hz
  have go : ∀ D : List It, del k (ins x D) = del k D := by
    intro D
    induction D with
    | nil => simp [ins, del, hk]
    | cons y D ih =>
      unfold ins
      split
      · unfold del at *
        rw [List.filter_cons, List.filter_cons, ih]
      · unfold del
        rw [List.filter_cons_of_neg (by simp [hk])]
  rw [go, hD]
end Go.Proofs.Ytfflbbohgndjfaa
