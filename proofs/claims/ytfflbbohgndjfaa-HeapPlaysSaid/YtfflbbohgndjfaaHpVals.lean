/-
  slices.Values at items: it tells the slice's items in their order.
-/
import Derived.Test.YtfflbbohgndjfaaHpSeq
namespace Go.Proofs.Ytfflbbohgndjfaa
open Go.RowKit Go.Shelf Go.Maps Go.ChangeMaps Go.Sort

attribute [local go_sem] Oper.semAt_some

/-- The cells of a row of items. -/
def RowAt (W : World) (g : Nat) (P : List It) : Prop :=
  ∀ i x, P[i]? = some x → W.cell? ⟨g, i * 3, none⟩ = some (.int .i64 x.id) ∧ W.cell? ⟨g, i * 3 + 1, none⟩ = some (.int .u64 x.d) ∧ W.cell? ⟨g, i * 3 + 2, none⟩ = some (.int .u64 x.n)
theorem RowAt.same {W W' : World} {g : Nat} {P : List It} (h : RowAt W g P) (e : W'.heap[g]? = W.heap[g]?) : RowAt W' g P := fun i x hx => by
  obtain ⟨a, b, c⟩ := h i x hx
  exact ⟨(World.cell?_of_block (a := ⟨g, _, none⟩) e).trans a, (World.cell?_of_block (a := ⟨g, _, none⟩) e).trans b, (World.cell?_of_block (a := ⟨g, _, none⟩) e).trans c⟩

/-- What lies between two rounds. -/
def ValRel (Bs : Nat) (A : Option Addr) (c : Nat) (P : List It) (J : List It → World → Prop) (k : Nat) (wr : World) : Prop :=
  J (P.take k) wr ∧ Boxed wr Bs 26 (.slice A P.length c) ∧ (0 < P.length → ∃ g, A = some ⟨g, 0, none⟩ ∧ g < wr.heap.size ∧ RowAt wr g P)

theorem take_snoc' {P : List It} {k : Nat} {x : It} (h : P[k]? = some x) : P.take (k + 1) = P.take k ++ [x] := by
  rw [List.take_add_one, h]; rfl

set_option maxRecDepth 100000 in
set_option maxHeartbeats 4000000 in
theorem values1_in (n : Nat) (hn : 1 ≤ n) (l Bs : Nat) (A : Option Addr) (c : Nat) (P : List It) (hlen : P.length ≤ 100000) (Kp : World → World → Prop) (hKp : ∀ X Y k, Kp X Y → (k = Bs ∨ A.map (·.block) = some k) → k < X.heap.size → Y.heap[k]? = X.heap[k]?) (J Jx : List It → World → Prop)
    (hJ : ∀ s X Y, J s X → Kept (fun _ => False) X Y → J s Y)
    (hY : ∀ pre (x : It) W, J pre W → pre.length < P.length → YieldAt Fence.wide (n - 1) Try.prog l #[.agg #[.int .i64 x.id, .int .u64 x.d, .int .u64 x.n]] W fun e W' =>
      (e = .returned (.bool true) ∧ J (pre ++ [x]) W' ∧ Kp W W') ∨ (e = .returned (.bool false) ∧ Jx (pre ++ [x]) W'))
    (W : World) (h0 : ValRel Bs A c P J 0 W) :
    CallsIn Fence.wide n Try.prog 48 #[.func (.yield l) #[] #[], .pointer (some ⟨Bs, 0, none⟩)] W fun e W' => (∃ v, e = .returned v) ∧
      ((∃ ys, ys = P ∧ J ys W') ∨ (∃ pre, True ∧ Jx pre W')) := by
  have c0 := h0.2.1.cell
  refine callsIn_of_wp Try.func48 rfl trivial ?_ rfl
  simp only [Try.ntmps48, List.size_toArray, List.length_cons, List.length_nil, Nat.reduceAdd, Nat.reduceSub, Array.replicate_succ, Array.replicate_zero, List.push_toArray, List.append_toArray, List.nil_append, List.cons_append]
  gi_wp2
  clear c0
  gi_loopw [7] (fun i wr => ∃ k : Nat, k ≤ P.length ∧ i = .int .i64 (k : Int) ∧ ValRel Bs A c P J k wr) (fun i _ => P.length - (intOf i).toNat)
  case atStart => exact ⟨0, Nat.zero_le _, rfl, h0⟩
  case round =>
    obtain ⟨k, hk, rfl, hj, hbx, hrow⟩ := hrel
    by_cases hlt : k < P.length
    · obtain ⟨g, rfl, hgl, hra⟩ := hrow (by omega)
      obtain ⟨x, hx⟩ : ∃ x, P[k]? = some x := ⟨_, List.getElem?_eq_getElem hlt⟩
      obtain ⟨x0, x1, x2⟩ := hra k x hx
      have b0 : (0 : Int) ≤ (k : Int) := by omega
      have b1 : (k : Int) < (P.length : Int) := by omega
      have hj2 : J (P.take k) (wr.alloc (.cells #[.int .i64 x.id, .int .u64 x.d, .int .u64 x.n] 31)) := hJ _ _ _ hj ((Kept.refl _ wr).alloc _)
      obtain ⟨fn, tmps, assign, body, hy, hR⟩ := hY (P.take k) x _ hj2 (by rw [List.length_take]; omega)
      have HF := Lib.hid (And.intro hra (And.intro hbx hx))
      clear hra hbx hx hj2 hj hrow
      gi_wp2
      refine hR.mono ?_
      rintro e W3 (⟨rfl, hJ3, hk3⟩ | ⟨rfl, hJx3⟩)
      · obtain ⟨hra, hbx, hx⟩ := HF.out
        have e1 := hKp _ _ Bs hk3 (.inl rfl) (by simp; have := hbx.lt; omega)
        have e2 := hKp _ _ g hk3 (.inr rfl) (by simp; omega)
        have hz : g < W3.heap.size := by
          have h2 : g < (wr.alloc (.cells #[.int .i64 x.id, .int .u64 x.d, .int .u64 x.n] 31)).heap.size := by simp; omega
          rcases Nat.lt_or_ge g W3.heap.size with h | h
          · exact h
          · rw [Array.getElem?_eq_none h, Array.getElem?_eq_getElem h2] at e2; cases e2
        have HE := Lib.hid (show ValRel Bs (some ⟨g, 0, none⟩) c P J (k + 1) W3 from ⟨by rw [take_snoc' hx]; exact hJ3, e1.trans (hbx.alloc _), fun _ => ⟨g, rfl, hz, hra.same (e2.trans (Below.heap_alloc _ _ _ hgl))⟩⟩)
        clear hra hbx hx e1 e2 hz hJ3
        gi_wp2
        go_roundw
        case rel => exact ⟨k + 1, by omega, by go_num, HE.out⟩
        case measure => simp [intOf]; omega
      · gi_wp2
        refine bodyPost_ret (results_none rfl _ _ _) rfl ?_
        exact ⟨⟨_, rfl⟩, .inr ⟨_, trivial, hJx3⟩⟩
    · obtain rfl : k = P.length := by omega
      rw [List.take_length] at hj
      clear hrow hbx
      gi_wp2
      go_end0
      exact ⟨⟨_, rfl⟩, .inl ⟨_, rfl, hj⟩⟩

theorem values_ch (n : Nat) (hn : 1 ≤ n) (Bs : Nat) (A : Option Addr) (c : Nat) (P : List It) (hlen : P.length ≤ 100000) (Kp : World → World → Prop) (hKp : ∀ X Y k, Kp X Y → (k = Bs ∨ A.map (·.block) = some k) → k < X.heap.size → Y.heap[k]? = X.heap[k]?) (w : World)
    (hb : Boxed w Bs 26 (.slice A P.length c)) (hr : 0 < P.length → ∃ g, A = some ⟨g, 0, none⟩ ∧ g < w.heap.size ∧ RowAt w g P) :
    SeqCh n Try.prog 48 #[.pointer (some ⟨Bs, 0, none⟩)] (fun x : It => #[.agg #[.int .i64 x.id, .int .u64 x.d, .int .u64 x.n]]) Kp (Kept (fun _ => False)) (fun xs _ => xs = P) (fun _ => True) P.length w := fun l J Jx W hW hz hJ hY h0 =>
  values1_in n hn l Bs A c P hlen Kp hKp J Jx hJ hY W ⟨h0, (hW _ hb.lt).trans hb, fun h => by
    obtain ⟨g, e, hg, hra⟩ := hr h
    exact ⟨g, e, by omega, hra.same (hW _ hg)⟩⟩

theorem values_any (A : Option Addr) (n c : Nat) (w : World) : Calls Try.prog 44 #[.slice A n c] w fun e w' =>
    e = .returned (.func (.func 48) #[] #[.pointer (some ⟨w.heap.size, 0, none⟩)]) ∧ w' = w.alloc (.cells #[.slice A n c] 26) := by
  go_enter Try.func44, Try.ntmps44
  go_wp2
  go_ret
  exact ⟨rfl, rfl⟩
end Go.Proofs.Ytfflbbohgndjfaa
