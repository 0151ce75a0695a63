/-
  The reference's chain: flat bytes; what each of its calls does.
-/
import Derived.Test.YtkhkhjkacibocaaChFinds
import Derived.Test.YtkhkhjkacibocaaCmRow
import Derived.Deep.AppendLies
import Derived.Laws.AppendOwnNone
import Derived.Maps.AppendAt
namespace Go.Proofs.Ytkhkhjkacibocaa
open Go.RowKit Go.Shelf Go.Maps Go.ChangeMaps

theorem infoB3 : (Try.prog.info? 5).map (fun i => (i.zero, i.size, i.bytes)) = some (some (.int .u8 0), 1, 1) := by kernel_rfl
/-- A row of bytes of its own. -/
def OwB (w : World) (B : Nat) (v : Value) (zs : List Int) : Prop := w.ownsRow B 5 1 v zs.length (encB zs)
section
variable {w w' : World} {B : Nat} {v : Value} {zs xs : List Int} {D : Nat → Nat → Prop}
theorem OwB.lt (h : OwB w B v zs) {k : Nat} (hk : v.ownBlock = some k) : k < w.heap.size ∧ B ≤ k := ⟨(World.ownsRow.lt h k hk).2, (World.ownsRow.lt h k hk).1⟩
theorem OwB.same (h : OwB w B v zs) (hk : ∀ k, v.ownBlock = some k → w'.heap[k]? = w.heap[k]?) : OwB w' B v zs := row_own_same h hk
theorem OwB.src (h : OwB w B v zs) (hm : zs.length ≤ 9223372036854775807) (hD : ∀ k i, D k i → v.ownBlock ≠ some k) : ∃ A c, v = .slice A zs.length c ∧ A.map (·.block) = v.ownBlock ∧ Src w D A zs.length c zs := by
  rcases h.2 with ⟨rfl, hn⟩ | ⟨g, cap, cur, rfl, hg, hh, hc, hr⟩
  · have : zs = [] := List.eq_nil_of_length_eq_zero hn
    subst this
    exact ⟨none, 0, rfl, rfl, Src.nl w D⟩
  · have hm2 : cap ≤ 9223372036854775807 := by have := hr.1; unfold maxLen at this; omega
    refine ⟨_, _, rfl, rfl, rfl, hc, hm2, (fun e => by cases e), (fun a e _ => by cases e; rfl), fun h0 => ⟨g, 0, rfl, (Array.getElem?_eq_some_iff.1 hh).1, fun i z hz => ⟨fun e => hD _ _ e rfl, ?_⟩⟩⟩
    have hi := (List.getElem?_eq_some_iff.1 hz).1
    rw [Nat.zero_add, World.ownsRow.cellAt h i (by omega), encB_get, hz]
    rfl
end
theorem app_src {w : World} {ops : Array Oper} {rest : List Oper} {o : Oper} {a : Act} {Q : Exit → Act → World → Prop} {D : Nat → Nat → Prop} {n : Nat} (hgd : o.guard = none) (s x : Operand)
    (ho : o.op = .call { callee := .builtin .append, args := #[s, x], argTypes := #[31, 31] }) (B0 : Nat) (v : Value) (xs zs : List Int) (hs : a.eval s = v) (hown : OwB w B0 v xs)
    (A : Option Addr) (c : Nat) (hx : a.eval x = .slice A n c) (hsrc : Src w D A n c zs) (hb : xs.length + zs.length ≤ 140737488355328) (hB : B0 ≤ w.heap.size)
    (h : ∀ v' w', OwB w' B0 v' (xs ++ zs) → w.grownBy w' v.ownBlock → wpList Try.prog ops Q rest (a.put o.dst v') w') : wpList Try.prog ops Q (o :: rest) a w := by
  obtain ⟨i0, hi, hz0, hz1, hz2⟩ := info_parts infoB3
  obtain rfl := hsrc.len
  have henc : encB xs ++ encB zs = encB (xs ++ zs) := by simp [encB]
  cases A with
  | none =>
    have hc0 := hsrc.nil rfl
    subst hc0
    have hz : zs = [] := List.eq_nil_of_length_eq_zero (by have := hsrc.le; omega)
    subst hz
    refine wpList_append_own_none hgd s x _ ho B0 _ i0 1 Try.underlying31 hi v xs.length _ hs hown hx (h v w ?_ (World.grownBy.refl w _))
    rw [List.append_nil]; exact hown
  | some ad =>
    refine wpList_append_own w hgd s x _ ho B0 _ i0 _ 1 1 Try.underlying31 hi hz0 hz1 hz2 rfl (by decide) v xs.length _ hs hown ad zs.length c (encB zs) hx (by rw [encB_length]; omega) (fun j u hu => ?_) (encB_one zs) (by unfold maxLen; omega) (by omega) hB (fun v' w' h1 h2 _ => h v' w' (by unfold OwB; rw [List.length_append, ← henc]; exact h1) h2)
    rw [encB_get] at hu
    cases hz : zs[j]? with
    | none => rw [hz] at hu; cases hu
    | some z =>
      rw [hz] at hu; cases hu
      have hj := (List.getElem?_eq_some_iff.1 hz).1
      obtain ⟨b, o, e, _, hcc⟩ := hsrc.at_ (by omega)
      cases e
      rw [add_plain]
      exact (hcc j z hz).2

section
variable {w : World} {D D2 : Nat → Nat → Prop} {A A2 : Option Addr} {n m c c2 : Nat} {xs ys : List Int}
set_option maxHeartbeats 2000000 in
theorem rjoin_any (hx : Src w D A n c xs) (hy : Src w D2 A2 m c2 ys) (hn : n ≤ 2097152) (hm : m ≤ 2097152) : Calls Try.prog 47 #[.slice A n c, .slice A2 m c2] w fun e w' => ∃ v, e = .returned v ∧ OwB w' w.heap.size v (xs ++ ys) ∧ Kept (fun _ => False) w w' := by
  have l1 := hx.len
  have l2 := hy.len
  have HX := Lib.hid (And.intro hx hy)
  clear hx hy
  go_enter Try.func47, Try.ntmps47
  go_wp2_with (first
    | (at_builtin; refine app_src rfl _ _ rfl w.heap.size _ [] xs rfl (World.ownsRow_nil _ _ _ _) A c rfl HX.out.1 (by simp; omega) (Nat.le_refl _) ?_; intro v1 w1 hown1 hgrow1; rw [List.nil_append] at hown1; have hk1 : Kept (fun _ => False) w w1 := (Kept.refl (fun _ => False) w).grown hgrow1 (fun k e _ => by cases e); have HO := Lib.hid (And.intro hown1 hk1); clear hown1 hgrow1 hk1)
    | (at_builtin; refine app_src rfl _ _ rfl w.heap.size _ xs ys rfl HO.out.1 A2 c2 rfl (HX.out.2.kept HO.out.2) (by omega) HO.out.2.size ?_; intro v2 w2 hown2 hgrow2; have hk2 : Kept (fun _ => False) w w2 := HO.out.2.grown hgrow2 (fun k e hk => by have := (HO.out.1.lt e).2; omega); have HE := Lib.hid (And.intro hown2 hk2); clear hown2 hgrow2 hk2))
  go_ret
  exact ⟨_, rfl, HE.out⟩
end

/-- The reference's chain: its block, and the bytes that it names, apart from the cells of E. -/
structure Rf (W : World) (E : Nat → Nat → Prop) (rb : Nat) (A : Option Addr) (cp : Nat) (bs : List Int) : Prop where
  blk : Blk W rb 33 #[.slice A bs.length cp]
  src : Src W E A bs.length cp bs
  lt : ∀ k i, E k i → k < W.heap.size
  own : ∀ i, E rb i
section
variable {w w' : World} {E D : Nat → Nat → Prop} {rb cp m c2 : Nat} {A A2 : Option Addr} {bs ys : List Int}
theorem Rf.set (h : Rf w E rb A cp bs) {A' : Option Addr} {cp' n : Nat} {bs' : List Int} (hs : Src w E A' n cp' bs') : Rf (w.setCell ⟨rb, 0, none⟩ (.slice A' n cp')) E rb A' cp' bs' ∧ Kc (fun k _ => k = rb) w (w.setCell ⟨rb, 0, none⟩ (.slice A' n cp')) := by
  have hk := (Kc.refl (fun k _ => k = rb) w).setCell (p := ⟨rb, 0, none⟩) h.blk rfl (fun _ => rfl) (.slice A' n cp')
  refine ⟨⟨?_, ?_, fun k i e => Nat.lt_of_lt_of_le (h.lt k i e) hk.size, h.own⟩, hk⟩
  · have := h.blk.set_ 0 (.slice A' n cp')
    rw [hs.len]; simpa using this
  · rw [hs.len]; exact hs.kc hk fun j i _ e => by subst e; exact h.own i
theorem Rf.kept (h : Rf w E rb A cp bs) (k : Kept (fun _ => False) w w') : Rf w' E rb A cp bs := ⟨h.blk.kept k (fun e => e), h.src.kept k, fun i j e => Nat.lt_of_lt_of_le (h.lt i j e) k.size, h.own⟩

theorem radd_no (h : Rf w E rb A cp bs) (hl : bs.length ≤ 1048576) (hn : 1048576 < m + bs.length) (hm : m ≤ 2097152) : Calls Try.prog 29 #[.pointer (some ⟨rb, 0, none⟩), .slice A2 m c2] w fun e w' => e = .returned (.int .i64 70) ∧ w = w' := by
  have c0 : w.cell? ⟨rb, 0, none⟩ = some (.slice A bs.length cp) := h.blk.cell 0
  have l1 := h.blk.lt
  obtain ⟨q, hq⟩ : ∃ q, q = bs.length := ⟨_, rfl⟩
  rw [← hq] at c0 hl hn
  have e1 : IntKind.i64.wrap (1048576 - (q : Int)) = 1048576 - (q : Int) := IntWalk.i64_in _ (by omega)
  have b1 : decide ((1048576 : Int) - (q : Int) < (m : Int)) = true := by simp; omega
  have b2 : (1048576 : Int) - (q : Int) < (m : Int) := by omega
  clear h hq
  go_enter Try.func29, Try.ntmps29
  go_wp2_with fail
  go_ret
  exact ⟨rfl, rfl⟩
theorem rahead_no (h : Rf w E rb A cp bs) (hl : bs.length ≤ 1048576) (hn : 1048576 < m + bs.length) (hm : m ≤ 2097152) : Calls Try.prog 30 #[.pointer (some ⟨rb, 0, none⟩), .slice A2 m c2] w fun e w' => e = .returned (.int .i64 70) ∧ w = w' := by
  have c0 : w.cell? ⟨rb, 0, none⟩ = some (.slice A bs.length cp) := h.blk.cell 0
  have l1 := h.blk.lt
  obtain ⟨q, hq⟩ : ∃ q, q = bs.length := ⟨_, rfl⟩
  rw [← hq] at c0 hl hn
  have e1 : IntKind.i64.wrap (1048576 - (q : Int)) = 1048576 - (q : Int) := IntWalk.i64_in _ (by omega)
  have b1 : decide ((1048576 : Int) - (q : Int) < (m : Int)) = true := by simp; omega
  have b2 : (1048576 : Int) - (q : Int) < (m : Int) := by omega
  clear h hq
  go_enter Try.func30, Try.ntmps30
  go_wp2_with fail
  go_ret
  exact ⟨rfl, rfl⟩
set_option maxHeartbeats 2000000 in
theorem radd_yes (h : Rf w E rb A cp bs) (hs : Src w D A2 m c2 ys) (hn : m + bs.length ≤ 1048576) : Calls Try.prog 29 #[.pointer (some ⟨rb, 0, none⟩), .slice A2 m c2] w fun e w' => e = .returned (.int .i64 0) ∧ ∃ A' cp', Rf w' E rb A' cp' (bs ++ ys) ∧ Kc (fun k _ => k = rb) w w' := by
  have c0 : w.cell? ⟨rb, 0, none⟩ = some (.slice A bs.length cp) := h.blk.cell 0
  have l1 := h.blk.lt
  have HJ := Lib.hid (rjoin_any h.src hs (by omega) (by omega))
  have H := Lib.hid (And.intro h hs)
  obtain ⟨q, hq⟩ : ∃ q, q = bs.length := ⟨_, rfl⟩
  rw [← hq] at c0 hn HJ
  have e1 : IntKind.i64.wrap (1048576 - (q : Int)) = 1048576 - (q : Int) := IntWalk.i64_in _ (by omega)
  have b1 : decide ((1048576 : Int) - (q : Int) < (m : Int)) = false := by simp; omega
  have b2 : (m : Int) ≤ (1048576 : Int) - (q : Int) := by omega
  have HQ := Lib.hid hq
  clear h hq hs
  go_enter Try.func29, Try.ntmps29
  go_wp2_with fail
  refine HJ.out.mono ?_
  rintro e w1 ⟨v, rfl, g1, g2⟩
  have h1 := H.out.1.kept g2
  obtain ⟨A', cp', hv, _, hs'⟩ := g1.src (D := E) (by rw [List.length_append, H.out.2.len, ← HQ.out]; omega) fun k i e hk => by
    have := H.out.1.lt k i e; have := (g1.lt hk).2; omega
  have HE := Lib.hid (h1.set hs')
  obtain ⟨z, hz⟩ : ∃ z, z = (bs ++ ys).length := ⟨_, rfl⟩
  rw [← hz] at hv HE
  have f0 := h1.blk.frozen 0
  have c1 : w1.cell? ⟨rb, 0, none⟩ = some (.slice A bs.length cp) := h1.blk.cell 0
  have l2 := h1.blk.lt
  have HK := Lib.hid g2
  subst hv
  clear g1 g2 h1 hs' hz c0 l1
  go_wp2_with fail
  go_ret
  exact ⟨rfl, A', cp', HE.out.1, (Kc.of_kept HK.out).trans HE.out.2⟩
set_option maxHeartbeats 2000000 in
theorem rahead_yes (h : Rf w E rb A cp bs) (hs : Src w D A2 m c2 ys) (hn : m + bs.length ≤ 1048576) : Calls Try.prog 30 #[.pointer (some ⟨rb, 0, none⟩), .slice A2 m c2] w fun e w' => e = .returned (.int .i64 0) ∧ ∃ A' cp', Rf w' E rb A' cp' (ys ++ bs) ∧ Kc (fun k _ => k = rb) w w' := by
  have c0 : w.cell? ⟨rb, 0, none⟩ = some (.slice A bs.length cp) := h.blk.cell 0
  have l1 := h.blk.lt
  have HJ := Lib.hid (rjoin_any hs h.src (by omega) (by omega))
  have H := Lib.hid (And.intro h hs)
  obtain ⟨q, hq⟩ : ∃ q, q = bs.length := ⟨_, rfl⟩
  rw [← hq] at c0 hn HJ
  have e1 : IntKind.i64.wrap (1048576 - (q : Int)) = 1048576 - (q : Int) := IntWalk.i64_in _ (by omega)
  have b1 : decide ((1048576 : Int) - (q : Int) < (m : Int)) = false := by simp; omega
  have b2 : (m : Int) ≤ (1048576 : Int) - (q : Int) := by omega
  have HQ := Lib.hid hq
  clear h hq hs
  go_enter Try.func30, Try.ntmps30
  go_wp2_with fail
  refine HJ.out.mono ?_
  rintro e w1 ⟨v, rfl, g1, g2⟩
  have h1 := H.out.1.kept g2
  obtain ⟨A', cp', hv, _, hs'⟩ := g1.src (D := E) (by rw [List.length_append, H.out.2.len, ← HQ.out]; omega) fun k i e hk => by
    have := H.out.1.lt k i e; have := (g1.lt hk).2; omega
  have HE := Lib.hid (h1.set hs')
  obtain ⟨z, hz⟩ : ∃ z, z = (ys ++ bs).length := ⟨_, rfl⟩
  rw [← hz] at hv HE
  have f0 := h1.blk.frozen 0
  have c1 : w1.cell? ⟨rb, 0, none⟩ = some (.slice A bs.length cp) := h1.blk.cell 0
  have l2 := h1.blk.lt
  have HK := Lib.hid g2
  subst hv
  clear g1 g2 h1 hs' hz c0 l1
  go_wp2_with fail
  go_ret
  exact ⟨rfl, A', cp', HE.out.1, (Kc.of_kept HK.out).trans HE.out.2⟩
end
end Go.Proofs.Ytkhkhjkacibocaa
