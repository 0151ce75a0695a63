/-
  kept.items: all items come one by one, each once, in some order.
-/
import Derived.Test.YtncdohbdmpfefaaCoQueue
import Derived.Test.YtncdohbdmpfefaaCoKr
import Derived.Sort.MapsRangeIn
namespace Go.Proofs.Ytncdohbdmpfefaa
open Go.RowKit Go.Maps Go.ChangeMaps Go.Shelf

attribute [local go_sem] Oper.semAt_some

def encX (x : It) : Array Value := #[.agg #[.int .i64 x.id, .int .u64 x.d, .int .u64 x.n]]
theorem items_call (w : World) (k : Nat) : Calls Try.prog 39 #[.pointer (some ⟨k, 0, none⟩)] w fun e w' =>
    e = .returned (.func (.func 52) #[] #[.pointer (some ⟨w.heap.size, 0, none⟩)]) ∧ w' = w.alloc (.cells #[.pointer (some ⟨k, 0, none⟩)] 56) := by
  go_enter Try.func39, Try.ntmps39
  go_wp2
  go_ret
  exact ⟨rfl, rfl⟩

theorem ranges_same {H : Type} {w w' : World} {P : Program} {k : TypeId} {R : Value → Option (DataW H × List MemPlace)} {b r n : Nat} {D : DataW H} {left : Lit → Bool} {cnt : Nat} (h : w.ranges P k R b r n D left cnt) (e1 : w'.heap[b]? = w.heap[b]?) (e2 : w'.heap[r]? = w.heap[r]?) : w'.ranges P k R b r n D left cnt := by
  obtain ⟨es, clock, since, seen, c0, hb, F, hs, hD, hr, rest⟩ := h
  exact ⟨es, clock, since, seen, c0, e1.trans hb, F, hs, hD, e2.trans hr, rest⟩
theorem ranges_iter {H : Type} {w : World} {P : Program} {k : TypeId} {R : Value → Option (DataW H × List MemPlace)} {b r n : Nat} {D : DataW H} {left : Lit → Bool} {cnt : Nat} (h : w.ranges P k R b r n D left cnt) : ∃ o, w.heap[r]? = some o ∧ o.isCells = false := by
  obtain ⟨es, clock, since, seen, c0, hb, F, hs, hD, hr, rest⟩ := h
  exact ⟨_, hr, rfl⟩

/-- What has come, and what is left. -/
def ItR (left : Lit → Bool) (L : List En) (pre : List It) : Prop :=
  ∃ R : List En, (∀ j : Int, left (.int .i64 j) = true ↔ ∃ e ∈ R, e.x.id = j) ∧ (pre ++ xs R).Perm (xs L) ∧ (∀ e ∈ R, e ∈ L) ∧ (R.map fun e => e.x.id).Nodup
theorem ItR.step {left : Lit → Bool} {L : List En} {pre : List It} {j : Int} (h : ItR left L pre) (hj : left (.int .i64 j) = true) : ∃ e ∈ L, e.x.id = j ∧ pre.length < L.length ∧ ItR (fun z => left z && !z.sameKey (.int .i64 j)) L (pre ++ [e.x]) := by
  obtain ⟨R, h1, h2, h3, h4⟩ := h
  obtain ⟨e, he, rfl⟩ := (h1 j).1 hj
  obtain ⟨A, B, rfl⟩ := List.append_of_mem he
  refine ⟨e, h3 e he, rfl, ?_, A ++ B, fun i => ?_, ?_, fun a ha => h3 a (by rcases List.mem_append.1 ha with ha | ha <;> simp [ha]), (ids_split h4).2.2⟩
  · have := h2.length_eq
    unfold xs at this
    simp at this; omega
  · rw [Bool.and_eq_true, h1]
    constructor
    · rintro ⟨⟨a, ha, rfl⟩, h5⟩
      have hne : a.x.id ≠ e.x.id := fun e2 => by
        rw [e2, WideAt.sameKey_self isKeyI] at h5; simp at h5
      refine ⟨a, ?_, rfl⟩
      rcases List.mem_append.1 ha with ha | ha
      · simp [ha]
      · rcases List.mem_cons.1 ha with rfl | ha
        · exact absurd rfl hne
        · simp [ha]
    · rintro ⟨a, ha, rfl⟩
      have hne : a.x.id ≠ e.x.id := by
        rcases List.mem_append.1 ha with ha | ha
        · exact (ids_split h4).1 a ha
        · exact (ids_split h4).2.1 a ha
      refine ⟨⟨a, by rcases List.mem_append.1 ha with ha | ha <;> simp [ha], rfl⟩, ?_⟩
      have : (Lit.int .i64 a.x.id).sameKey (.int .i64 e.x.id) = false := by
        cases hs : (Lit.int .i64 a.x.id).sameKey (.int .i64 e.x.id) with
        | false => rfl
        | true => exact absurd (WideAt.sameKey_eq hs) (lit_ne hne)
      rw [this]; rfl
  · refine List.Perm.trans ?_ h2
    unfold xs
    simp only [List.map_append, List.map_cons, List.append_assoc, List.singleton_append]
    exact (List.perm_middle.symm).append_left pre
theorem ItR.done {left : Lit → Bool} {L : List En} {pre : List It} (h : ItR left L pre) (hl : ∀ kl, left kl = false) : pre.Perm (xs L) := by
  obtain ⟨R, h1, h2, _, _⟩ := h
  have : R = [] := by
    rw [List.eq_nil_iff_forall_not_mem]
    intro e he
    have := (h1 e.x.id).2 ⟨e, he, rfl⟩
    rw [hl] at this; cases this
  subst this
  simpa [xs] using h2

/-- Between two rounds. -/
structure ItW (J : List It → World → Prop) (N mp rr n : Nat) (D : DataW Unit) (F G : Nd → Nd) (bo qb : Int → Nat) (L : List En) (left : Lit → Bool) (cnt : Nat) (pre : List It) (W : World) : Prop where
  j : J pre W
  rg : W.ranges Try.prog 3 ptrElem mp rr n D left cnt
  it : ItR left L pre
  pl : ∀ e ∈ L, Blk W (bo e.x.id) 74 (encPl F G bo qb e)

set_option maxRecDepth 100000 in
set_option maxHeartbeats 4000000 in
theorem items_o (n : Nat) (hn : 1 ≤ n) {w : World} {k mp : Nat} {c0 c1 c3 : Value} {F G : Nd → Nd} {bo qb : Int → Nat} {L : List En} (hb : Blk w k 66 #[c0, c1, .map (some mp), c3]) (hpm : Pq w mp L.length (placeF bo L)) (hpl : ∀ e ∈ L, Blk w (bo e.x.id) 74 (encPl F G bo qb e)) (hids : (L.map fun e => e.x.id).Nodup) (hmp : ∀ e ∈ L, bo e.x.id ≠ mp)
    (bK : Nat) (hK : Boxed w bK 56 (.pointer (some ⟨k, 0, none⟩))) (O : Obj → Prop) (hO : ∀ o, O o → o.isCells = true) (Pr : Nat → Prop) (N : Nat) (hN : bK < N ∧ k < N) (hM : mp < N ∧ Pr mp) (hPr : ∀ e ∈ L, bo e.x.id < N ∧ Pr (bo e.x.id)) :
    SeqO n Try.prog 52 #[.pointer (some ⟨bK, 0, none⟩)] encX O Pr (fun ys => ys.Perm (xs L)) (fun _ => True) (fun pre _ => pre.length < L.length) N w := by
  intro l J Jx W hz hW hJ hJx hY h0
  have b1 : Blk W k 66 #[c0, c1, .map (some mp), c3] := hb.same (hW k hN.2)
  have p1 : Pq W mp L.length (placeF bo L) := hpm.same (hW mp hM.1)
  have l1 : ∀ e ∈ L, Blk W (bo e.x.id) 74 (encPl F G bo qb e) := fun e he => (hpl e he).same (hW _ (hPr e he).1)
  have cK : W.cell? ⟨bK, 0, none⟩ = some (.pointer (some ⟨k, 0, none⟩)) := (show Boxed W bK _ _ from (hW bK hN.1).trans hK).cell
  have c2 := b1.cell 2
  simp at c2
  have lk1 := b1.lt
  have lm := p1.lt
  obtain ⟨D, hD, hs, hf⟩ := p1
  obtain ⟨rr, hrr⟩ : ∃ rr, rr = W.heap.size := ⟨_, rfl⟩
  have hi0 : ItR (Maps.has D) L [] := ⟨L, fun j => by rw [(hf j).1]; unfold placeF; rw [show (if hasI L j = true then some (bo j) else none).isSome = hasI L j by cases hasI L j <;> rfl]; exact hasI_true, by simp, fun _ h => h, hids⟩
  have HJ := Lib.hid hJ
  have HY := Lib.hid hY
  have H0 := Lib.hid (And.intro h0 (And.intro hi0 l1))
  have HP := Lib.hid (And.intro hM (And.intro hPr (And.intro hO (And.intro hf (And.intro hmp hz)))))
  have HR := Lib.hid hrr
  clear hJ hJx hY h0 hPr hW hb b1 hK hN hpm hpl hi0 hM hO hs hf hids l1 hz hmp hrr
  refine callsIn_of_wp Try.func52 rfl trivial ?_ rfl
  simp only [Try.ntmps52, List.size_toArray, List.length_cons, List.length_nil, Nat.reduceAdd, Nat.reduceSub, Array.replicate_succ, Array.replicate_zero, List.push_toArray, List.append_toArray, List.nil_append, List.cons_append]
  gi_wp2_with (first
    | (gi_at_range; refine wpListIn_range_own _ rfl _ 64 rfl 3 67 keyInt Try.underlying64 _ mp _ _ rfl hD ?_; intro w0 hrg0 hg0 hs0)
    | gi_in)
  rw [← HR.out] at hrg0 ⊢
  have k0 : Kept (fun _ => False) W w0 := (Kept.refl _ W).grown hg0 (fun k e _ => by cases e)
  have hI0 : ItW J N mp rr L.length D F G bo qb L (Maps.has D) (Maps.size D) [] w0 := ⟨HJ.out _ _ _ H0.out.1 (ChO.of_kept k0), hrg0, H0.out.2.1, fun e he => (H0.out.2.2 e he).kept k0 (fun e => e)⟩
  have HI0 := Lib.hid hI0
  clear hI0 k0 hrg0 hg0 hs0 hD
  gi_loopw [4] (fun _ wr => ∃ (left : Lit → Bool) (cnt : Nat) (pre : List It), ItW J N mp rr L.length D F G bo qb L left cnt pre wr) (fun _ wr => wr.rangeLeft mp rr)
  case atStart => exact ⟨_, _, _, HI0.out⟩
  case round =>
    obtain ⟨left, cnt, pre, hI⟩ := hrel
    have hrg := hI.rg
    have HI := Lib.hid hI
    clear hI
    gi_wp2_with (first
      | (gi_at_next; refine wpListIn_next_ranges _ rfl _ rfl 3 keyInt ptrElem (Value.int .i64) ptrO (fun key kl hk => by obtain ⟨x, hx, _⟩ := Maps.keyOf_int_inv Try.underlying3 hk; exact ⟨x, hx⟩) (fun v y hv => by obtain ⟨o, ho, _⟩ := ptrElem_inv hv; exact ⟨o, ho⟩) mp rr L.length _ _ _ rfl hrg ?_ ?_)
      | gi_in)
    · intro hc0 hl0
      have HE := Lib.hid (And.intro (HI.out.it.done hl0) HI.out.j)
      clear hrg
      gi_wp2_with fail
      go_end0
      exact ⟨⟨_, rfl⟩, .inl ⟨_, HE.out.1, HE.out.2⟩⟩
    · intro x o kl yd yp w2 cnt2 hkey hlk hv hat hrg2 hlt hg2 hs2 hen
      obtain ⟨x', ex, rfl, _⟩ := Maps.keyOf_int_inv Try.underlying3 hkey
      cases ex
      obtain ⟨e, he, rfl, hlen, hit⟩ := HI.out.it.step hlk
      have hob : o = some (bo e.x.id) := by
        obtain ⟨_, _, _, hf, _⟩ := HP.out
        have h1 := (hf e.x.id).2
        rw [hat] at h1
        obtain ⟨o', ho', hz⟩ := ptrElem_inv hv
        have h2 : o = o' := by
          cases o <;> cases o' <;> simp [ptrO] at ho' <;> first | rfl | (rw [ho'])
        subst h2
        have hz1 := congrArg Prod.fst hz
        simp only at hz1
        rw [hz1] at h1
        injection h1 with h1; injection h1 with _ h1
        rw [numO_inj h1]
        unfold placeF
        rw [if_pos (hasI_true.2 ⟨e, he, rfl⟩)]
      subst hob
      have hrN : N + 2 ≤ rr := by have := HP.out.2.2.2.2.2; rw [HR.out]; exact this
      obtain ⟨it, hit1, hit2⟩ := ranges_iter hrg
      have kg : Kept (fun i => i = rr) wr w2 := (Kept.refl _ wr).grown hg2 (fun k e _ => by cases e; rfl)
      have hch : ChO N wr w2 := ⟨kg.os, kg.tape, kg.output, kg.size, fun i hi hl => kg.block i hl (by omega), fun i o ho hc => (kg.block i (Array.getElem?_eq_some_iff.1 ho).1 (fun e2 => by subst e2; rw [hit1] at ho; cases ho; rw [hit2] at hc; cases hc)).trans ho⟩
      have hJ2 := HJ.out _ _ _ HI.out.j hch
      have l2 : ∀ a ∈ L, Blk w2 (bo a.x.id) 74 (encPl F G bo qb a) := fun a ha => (HI.out.pl a ha).kept kg (fun e2 => by have := (HP.out.2.1 a ha).1; omega)
      have x0 := (l2 e he).cell 0
      have x1 := (l2 e he).cell 1
      have x2 := (l2 e he).cell 2
      unfold encPl at x0 x1 x2
      simp at x0 x1 x2
      have lx := (l2 e he).lt
      obtain ⟨fn, tmps, assign, body, hy, hRd⟩ := HY.out pre e.x w2 hJ2 hlen
      simp only [encX] at hy
      have H2 := Lib.hid (And.intro l2 (And.intro hit (And.intro hrg2 (And.intro hrg (And.intro hlt (And.intro hrN (Nat.lt_of_lt_of_le lm (Nat.le_refl _))))))))
      have hr2 := hrg2.lt
      have hm2 := hrg2.owns.lt
      clear hs2 hg2 kg hch hJ2 l2 hit hrg2 hlt hrN hit1 hit2 hkey hlk hv hat hlen hrg
      simp only [ptrO] at hen
      simp only [ptrO]
      gi_wp2_with fail
      clear hy hen
      refine hRd.mono ?_
      rintro en W3 ⟨(⟨rfl, hJ3⟩ | ⟨rfl, hJx3⟩), hk3⟩
      · obtain ⟨l2, hit, hrg2, hrg, hlt, hrN, _⟩ := H2.out
        have hm3 := hk3.low mp HP.out.1.1 hm2 HP.out.1.2
        obtain ⟨it, hi1, hi2⟩ := ranges_iter hrg2
        have hr3 : W3.heap[rr]? = w2.heap[rr]? := (hk3.high rr it hrN hi1 (fun e2 => by rw [HP.out.2.2.1 _ e2] at hi2; cases hi2)).trans hi1.symm
        have hI3 : ItW J N mp rr L.length D F G bo qb L _ cnt2 (pre ++ [e.x]) W3 := ⟨hJ3, ranges_same hrg2 hm3 hr3, hit, fun a ha => (l2 a ha).same (hk3.low _ (HP.out.2.1 a ha).1 (l2 a ha).lt (HP.out.2.1 a ha).2)⟩
        have H3 := Lib.hid (And.intro hI3 (show W3.rangeLeft mp rr < wr.rangeLeft mp rr by rw [(ranges_same hrg2 hm3 hr3).left_eq, hrg.left_eq]; exact hlt))
        clear l2 hit hrg2 hrg hlt hrN hm3 hr3 hI3 hJ3 hk3 hRd hi1 hi2
        gi_wp2_with fail
        go_roundw
        case rel => exact ⟨_, _, _, H3.out.1⟩
        case measure => exact H3.out.2
      · have HX := Lib.hid hJx3
        clear hk3 hJx3 hRd
        gi_wp2_with fail
        refine bodyPost_ret (results_none rfl _ _ _) rfl ?_
        exact ⟨⟨_, rfl⟩, .inr ⟨_, trivial, HX.out⟩⟩
end Go.Proofs.Ytncdohbdmpfefaa
