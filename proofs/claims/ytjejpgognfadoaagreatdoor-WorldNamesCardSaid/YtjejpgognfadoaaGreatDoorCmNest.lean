/-
  A range over a function whose iterator may lay blocks, range over other functions, and be called in their rounds: a contract of such an iterator, and the law of a loop over it.
-/
import Derived.Test.YtjejpgognfadoaaGreatDoorCmSeq
namespace Go.Proofs.YtjejpgognfadoaaGreatDoor
open Go.RowKit Go.Shelf

/-- What an iterator may do between two rounds of a loop whose own blocks are N and N + 1: no block of cells, and none below N + 2, is turned. -/
structure ChO (N : Nat) (X Y : World) : Prop where
  os : Y.os = X.os
  tape : Y.tape = X.tape
  output : Y.output = X.output
  size : X.heap.size ≤ Y.heap.size
  low : ∀ k, k < N + 2 → k < X.heap.size → Y.heap[k]? = X.heap[k]?
  cells : ∀ (k : Nat) (o : Obj), X.heap[k]? = some o → o.isCells = true → Y.heap[k]? = some o
/-- What the law itself does besides: it turns its own record. -/
structure ChR (N : Nat) (X Y : World) : Prop where
  os : Y.os = X.os
  tape : Y.tape = X.tape
  output : Y.output = X.output
  size : X.heap.size ≤ Y.heap.size
  low : ∀ k, k < N → k < X.heap.size → Y.heap[k]? = X.heap[k]?
  cells : ∀ (k : Nat) (o : Obj), X.heap[k]? = some o → o.isCells = true → Y.heap[k]? = some o
/-- What a round keeps for the iterator: the blocks below N that Pr names; from N + 2 on all blocks but those of T. -/
structure KpO (T : Obj → Prop) (N : Nat) (Pr : Nat → Prop) (X Y : World) : Prop where
  size : X.heap.size ≤ Y.heap.size
  low : ∀ k, k < N → k < X.heap.size → Pr k → Y.heap[k]? = X.heap[k]?
  high : ∀ (k : Nat) (o : Obj), N + 2 ≤ k → X.heap[k]? = some o → ¬ T o → Y.heap[k]? = some o
/-- What speaks of cells and of blocks below N alone. -/
def Stab {β : Type} (N : Nat) (I : β → World → Prop) : Prop := ∀ s X Y, I s X → ChR N X Y → I s Y

section
variable {N M : Nat} {X Y Z : World} {T : Obj → Prop} {Pr : Nat → Prop}
theorem ChO.refl (N : Nat) (X : World) : ChO N X X := ⟨rfl, rfl, rfl, Nat.le_refl _, fun _ _ _ => rfl, fun _ _ h _ => h⟩
theorem ChO.trans (h : ChO N X Y) (k : ChO N Y Z) : ChO N X Z :=
  ⟨k.os.trans h.os, k.tape.trans h.tape, k.output.trans h.output, Nat.le_trans h.size k.size, fun i hi hl => (k.low i hi (Nat.lt_of_lt_of_le hl h.size)).trans (h.low i hi hl), fun i o ho hc => k.cells i o (h.cells i o ho hc) hc⟩
theorem ChO.toR (h : ChO N X Y) : ChR N X Y := ⟨h.os, h.tape, h.output, h.size, fun k hk hl => h.low k (by omega) hl, h.cells⟩
theorem ChR.refl (N : Nat) (X : World) : ChR N X X := (ChO.refl N X).toR
theorem ChR.trans (h : ChR N X Y) (k : ChR N Y Z) : ChR N X Z :=
  ⟨k.os.trans h.os, k.tape.trans h.tape, k.output.trans h.output, Nat.le_trans h.size k.size, fun i hi hl => (k.low i hi (Nat.lt_of_lt_of_le hl h.size)).trans (h.low i hi hl), fun i o ho hc => k.cells i o (h.cells i o ho hc) hc⟩
/-- What an inner loop's law turns, its iterator may turn. -/
theorem ChR.inner (h : ChR M X Y) (hN : N + 2 ≤ M) : ChO N X Y := ⟨h.os, h.tape, h.output, h.size, fun k hk hl => h.low k (by omega) hl, h.cells⟩
theorem ChO.inner (h : ChO M X Y) (hN : N ≤ M) : ChO N X Y := ⟨h.os, h.tape, h.output, h.size, fun k hk hl => h.low k (by omega) hl, h.cells⟩
theorem ChO.of_kept (h : Kept (fun _ => False) X Y) : ChO N X Y := ⟨h.os, h.tape, h.output, h.size, fun k _ hl => h.block k hl (fun e => e), fun k o ho _ => (h.block k (Array.getElem?_eq_some_iff.1 ho).1 (fun e => e)).trans ho⟩
theorem ChO.putObj {l : Nat} {o o' : Obj} (hl : N + 2 ≤ l) (ho : X.heap[l]? = some o) (hc : o.isCells = false) : ChO N X (X.putObj l o') :=
  ⟨rfl, rfl, rfl, by simp [World.putObj], fun k hk _ => World.putObj_heap_other (by omega), fun k q hq hqc => (World.putObj_heap_other (fun e => by subst e; rw [ho] at hq; cases hq; rw [hc] at hqc; cases hqc)).trans hq⟩
theorem ChR.putObj {l : Nat} {o o' : Obj} (hl : N ≤ l) (ho : X.heap[l]? = some o) (hc : o.isCells = false) : ChR N X (X.putObj l o') :=
  ⟨rfl, rfl, rfl, by simp [World.putObj], fun k hk _ => World.putObj_heap_other (by omega), fun k q hq hqc => (World.putObj_heap_other (fun e => by subst e; rw [ho] at hq; cases hq; rw [hc] at hqc; cases hqc)).trans hq⟩
theorem ChR.alloc (h : ChR N X Y) (o : Obj) : ChR N X (Y.alloc o) := h.trans (ChO.of_kept ((Kept.refl _ Y).alloc o)).toR
theorem KpO.refl (T : Obj → Prop) (N : Nat) (Pr : Nat → Prop) (X : World) : KpO T N Pr X X := ⟨Nat.le_refl _, fun _ _ _ _ => rfl, fun _ _ _ h _ => h⟩
theorem KpO.trans (h : KpO T N Pr X Y) (k : KpO T N Pr Y Z) : KpO T N Pr X Z :=
  ⟨Nat.le_trans h.size k.size, fun i hi hl hp => (k.low i hi (Nat.lt_of_lt_of_le hl h.size) hp).trans (h.low i hi hl hp), fun i o hi ho hT => k.high i o hi (h.high i o hi ho hT) hT⟩
theorem KpO.putObj {l : Nat} {o' : Obj} (h1 : N ≤ l) (h2 : l < N + 2) : KpO T N Pr X (X.putObj l o') :=
  ⟨by simp [World.putObj], fun k hk _ _ => World.putObj_heap_other (by omega), fun k o hk ho _ => (World.putObj_heap_other (by omega)).trans ho⟩
theorem KpO.of_kept {F : Nat → Prop} (h : Kept F X Y) (hF : ∀ k, k < X.heap.size → F k → (k < N → ¬ Pr k) ∧ (N + 2 ≤ k → ∀ o, X.heap[k]? = some o → T o)) : KpO T N Pr X Y :=
  ⟨h.size, fun k hk hl hp => h.block k hl (fun e => (hF k hl e).1 hk hp), fun k o hk ho hT => by
    have hl := (Array.getElem?_eq_some_iff.1 ho).1
    exact (h.block k hl (fun e => hT ((hF k hl e).2 hk o ho))).trans ho⟩
theorem KeepsFrom.of_kept {F : Nat → Prop} (h : Kept F X Y) (hF : ∀ k o, N ≤ k → X.heap[k]? = some o → F k → o.isCells = true) : KeepsFrom N X Y :=
  ⟨h.size, fun k o hk ho hc => (h.block k (Array.getElem?_eq_some_iff.1 ho).1 (fun e => by rw [hF k o hk ho e] at hc; cases hc)).trans ho⟩
theorem KpO.keepsFrom (h : KpO T N Pr X Y) (hT : ∀ o, T o → o.isCells = true) (hM : N + 2 ≤ M) : KeepsFrom M X Y :=
  ⟨h.size, fun k o hk ho hc => h.high k o (by omega) ho (fun e => by rw [hT o e] at hc; cases hc)⟩
end

/-- The iterator g: what comes comes one by one, each as E says behind what came before it, till all has come, or till a round says no more. -/
def SeqO {α : Type} (n : Nat) (P : Program) (g : Nat) (lb : Array Value) (encs : α → Array Value) (T : Obj → Prop) (Pr : Nat → Prop) (S Sp : List α → Prop) (E : List α → α → Prop) (N : Nat) (w : World) : Prop :=
  ∀ (l : Nat) (J Jx : List α → World → Prop) (W : World), N + 2 ≤ W.heap.size → (∀ k, k < N → W.heap[k]? = w.heap[k]?) → (∀ s A A', J s A → ChO N A A' → J s A') → (∀ s A A', Jx s A → ChO N A A' → Jx s A') →
    (∀ pre x W1, J pre W1 → E pre x → YieldAt Fence.wide (n - 1) P l (encs x) W1 fun e W' =>
      ((e = .returned (.bool true) ∧ J (pre ++ [x]) W') ∨ (e = .returned (.bool false) ∧ Jx (pre ++ [x]) W')) ∧ KpO T N Pr W1 W') →
    J [] W →
    CallsIn Fence.wide n P g (#[.func (.yield l) #[] #[]] ++ lb) W fun e W' => (∃ v, e = .returned v) ∧ ((∃ xs, S xs ∧ J xs W') ∨ (∃ pre, Sp pre ∧ Jx pre W'))

/-- How the body of a round may be left. -/
def postO {α : Type} (T : Obj → Prop) (N : Nat) (Pr : Nat → Prop) (I : List α → World → Prop) (Ix : Code → List α → World → Prop) (xs : List α) (W : World) : Exit → Act → World → Prop
  | .normal, _, W' => KeepsFrom N W W' ∧ KpO T N Pr W W' ∧ I xs W'
  | .ret, _, W' => KeepsFrom N W W' ∧ KpO T N Pr W W' ∧ Ix .ret xs W'
  | .exit id, _, W' => KeepsFrom N W W' ∧ KpO T N Pr W W' ∧ Ix (.exit id) xs W'
  | .goto t, _, W' => KeepsFrom N W W' ∧ KpO T N Pr W W' ∧ Ix (.goto t) xs W'
  | .panic _, _, _ => False
  | .outgrown, _, _ => False

abbrev markO (D : Nat) : Deferred := { target := .collected D, args := #[] }

section
variable {n : Nat} {P : Program}

theorem rangeFunc_o {α : Type} {g : Operand} {ps : Array Tmp} {assign body : Code} {Q : Exit → Act → World → Prop} {a : Act} {w : World} (h1 : 1 ≤ n)
    {gf : Nat} {lb : Array Value} (hg : a.eval g = .func (.func gf) #[] lb) (eg : ∀ args w, (callFunc gf args).run P w = .ok (.enter gf args) w)
    {encs : α → Array Value} (T : Obj → Prop) (Pr : Nat → Prop) {S Sp : List α → Prop} {E : List α → α → Prop} (hseq : SeqO (n - 1) P gf lb encs T Pr S Sp E w.heap.size w) (hps : ∀ x, (encs x).size = ps.size)
    (I : List α → World → Prop) (Ix : Code → List α → World → Prop) (hI : Stab w.heap.size I) (hIx : ∀ c, Stab w.heap.size (Ix c)) (h0 : I [] w)
    (hround : ∀ (l : Nat) (pre : List α) (x : α) (W : World), w.heap.size + 2 ≤ W.heap.size → I pre W → E pre x →
      assign.wpIn (Fence.wide.inRound l) (n - 1 - 1) P (Exit.then (fun a' W1 => KeepsFrom w.heap.size W W1 ∧ KpO T w.heap.size Pr W W1 ∧
        ∀ W2, ChR w.heap.size W1 W2 → body.wpIn (Fence.wide.inRound l) (n - 1 - 1) P (postO T w.heap.size Pr I Ix (pre ++ [x]) W2) a' W2) (fun _ _ _ => False)) { tmps := (ps.zip (encs x)).foldl (fun t (p, v) => t.setIfInBounds p v) a.tmps, defers := [] } W)
    (hdone : ∀ (xs : List α) (W : World), S xs → I xs W → W.heap[w.heap.size]? = some (.deferred (some [])) → w.heap.size + 2 ≤ W.heap.size → Q .normal { a with defers := markO w.heap.size :: a.defers } W)
    (hstop : ∀ (c : Code) (pre : List α) (W : World), Sp pre → Ix c pre W → W.heap[w.heap.size]? = some (.deferred (some [])) → w.heap.size + 2 ≤ W.heap.size → c.wpIn Fence.wide n P Q { a with defers := markO w.heap.size :: a.defers } W) :
    (Code.rangeFunc g ps assign body).wpIn Fence.wide n P Q a w := by
  refine wpIn_rangeFunc fun fn hfn => ?_
  obtain ⟨R, hR⟩ : ∃ R, R = recOf fn a ps assign body w.heap.size := ⟨_, rfl⟩
  obtain ⟨V, hV⟩ : ∃ V, (w.alloc (.deferred (some []))).alloc (.loop (R .ready none)) = V := ⟨_, rfl⟩
  have vL : V.heap[w.heap.size + 1]? = some (.loop (R .ready none)) := by
    rw [← hV]
    have h := World.alloc_heap_new (w.alloc (.deferred (some []))) (.loop (R .ready none))
    rwa [World.size_alloc] at h
  have vD : V.heap[w.heap.size]? = some (.deferred (some [])) := by
    rw [← hV]; exact (Below.heap_alloc _ _ _ (by simp)).trans (World.alloc_heap_new w _)
  have vB : ∀ k, k < w.heap.size → V.heap[k]? = w.heap[k]? := fun k hk => by
    rw [← hV]
    exact (Below.heap_alloc _ _ _ (by simp; omega)).trans (Below.heap_alloc _ _ _ hk)
  have vZ : w.heap.size + 2 ≤ V.heap.size := by rw [← hV]; simp
  have vI : I [] V := by rw [← hV]; exact hI _ _ _ h0 (((ChR.refl _ w).alloc _).alloc _)
  refine ⟨w.heap.size + 1, [{ target := .collected w.heap.size, args := #[] }], V, { target := .fn (.func gf) lb, args := #[.func (.yield (w.heap.size + 1)) #[] #[]] }, V, gf,
    #[.func (.yield (w.heap.size + 1)) #[] #[]] ++ lb, V, ?enter, ?res, ?lead, ?inv, fun _ => h1, ?call⟩
  case enter => rw [← hV, hR]; exact run_enterLoop_outer _ _ _ _ _
  case res => simp only [resolve, hg]; simp [go_sem]
  case lead => intro f' _; trivial
  case inv => simp [invoke, go_sem, eg]
  case call =>
    refine (hseq (w.heap.size + 1)
      (fun pre W => I pre W ∧ W.heap[w.heap.size + 1]? = some (.loop (R .ready none)) ∧ W.heap[w.heap.size]? = some (.deferred (some [])) ∧ w.heap.size + 2 ≤ W.heap.size)
      (fun pre W => ∃ c, Ix c pre W ∧ W.heap[w.heap.size + 1]? = some (.loop (R .done (some c))) ∧ W.heap[w.heap.size]? = some (.deferred (some [])) ∧ w.heap.size + 2 ≤ W.heap.size)
      V vZ vB
      (fun s A A' hs hc => ⟨hI s A A' hs.1 hc.toR, (hc.low _ (by omega) (by have := hs.2.2.2; omega)).trans hs.2.1, (hc.low _ (by omega) (by have := hs.2.2.2; omega)).trans hs.2.2.1, Nat.le_trans hs.2.2.2 hc.size⟩)
      (fun s A A' hs hc => by obtain ⟨c, h1, h2, h3, h4⟩ := hs; exact ⟨c, hIx c s A A' h1 hc.toR, (hc.low _ (by omega) (by omega)).trans h2, (hc.low _ (by omega) (by omega)).trans h3, Nat.le_trans h4 hc.size⟩) ?round ⟨vI, vL, vD, vZ⟩).mono ?behind
    case round =>
      rintro pre x W ⟨hi, hl, hd, hz⟩ hlen
      have hy := run_yield (P := P) (args := encs x) hl (by rw [hR]; exact hps x)
      rw [hR] at hy
      refine ⟨fn, _, assign, body, hy, roundIn_of_wpIn hfn (wpIn_mono (hround _ pre x W hz hi hlen) ?_)⟩
      clear hy
      rintro e a' W1 hp
      cases e with
      | normal =>
        obtain ⟨hkf, hkp, hb⟩ := hp
        have hl1 := hkf.same _ _ (by omega) hl rfl
        have hd1 := hkf.same _ _ (Nat.le_refl _) hd rfl
        have hlt : w.heap.size + 1 < W1.heap.size := (Array.getElem?_eq_some_iff.1 hl1).1
        refine ⟨_, run_beginRound hl1 (by rw [hR]), ?_⟩
        obtain ⟨U, hU⟩ : ∃ U, W1.putObj (w.heap.size + 1) (.loop { R .ready none with state := .busy }) = U := ⟨_, rfl⟩
        have uL : U.heap[w.heap.size + 1]? = some (.loop { R .ready none with state := .busy }) := by rw [← hU]; exact World.putObj_heap_same hlt
        have uD : U.heap[w.heap.size]? = some (.deferred (some [])) := by rw [← hU]; exact (World.putObj_heap_other (by omega)).trans hd1
        have uC : ChR w.heap.size W1 U := by rw [← hU]; exact ChR.putObj (by omega) hl1 rfl
        have uK : KpO T w.heap.size Pr W U := by rw [← hU]; exact hkp.trans (KpO.putObj (by omega) (by omega))
        have uZ : w.heap.size + 2 ≤ U.heap.size := Nat.le_trans hz (Nat.le_trans hkf.size uC.size)
        rw [hU]
        refine wpIn_mono (hb U uC) ?_
        have over : ∀ (jump : Option Code) (X : World), KeepsFrom w.heap.size U X →
            (Instr.endRound (w.heap.size + 1) jump).run P X = .ok (.bool jump.isNone) (X.putObj (w.heap.size + 1) (.loop (R (if jump.isNone then .ready else .done) jump))) ∧
            X.heap[w.heap.size + 1]? = some (.loop { R .ready none with state := .busy }) ∧
            (X.putObj (w.heap.size + 1) (.loop (R (if jump.isNone then .ready else .done) jump))).heap[w.heap.size + 1]? = some (.loop (R (if jump.isNone then .ready else .done) jump)) ∧
            (X.putObj (w.heap.size + 1) (.loop (R (if jump.isNone then .ready else .done) jump))).heap[w.heap.size]? = some (.deferred (some [])) ∧
            w.heap.size + 2 ≤ (X.putObj (w.heap.size + 1) (.loop (R (if jump.isNone then .ready else .done) jump))).heap.size := fun jump X hX => by
          have xL := hX.same _ _ (by omega) uL rfl
          have he := run_endRound (P := P) jump xL
          rw [hR] at he ⊢
          exact ⟨he, by rw [hR] at xL; exact xL, World.putObj_heap_same (Array.getElem?_eq_some_iff.1 xL).1, (World.putObj_heap_other (by omega)).trans (hX.same _ _ (Nat.le_refl _) uD rfl), by have := hX.size; simp [World.putObj]; omega⟩
        have leave : ∀ (c : Code) (X : World), KeepsFrom w.heap.size U X → KpO T w.heap.size Pr U X → Ix c (pre ++ [x]) X → ∃ v W', (Instr.endRound (w.heap.size + 1) (some c)).run P X = .ok v W' ∧ v = .bool false ∧
            (∃ c, Ix c (pre ++ [x]) W' ∧ W'.heap[w.heap.size + 1]? = some (.loop (R .done (some c))) ∧ W'.heap[w.heap.size]? = some (.deferred (some [])) ∧ w.heap.size + 2 ≤ W'.heap.size) ∧ KpO T w.heap.size Pr W W' := fun c X hX hk hx => by
          obtain ⟨hr, b1, b2, b3, b4⟩ := over (some c) X hX
          exact ⟨_, _, hr, rfl, ⟨c, hIx c _ _ _ hx (ChR.putObj (by omega) b1 rfl), b2, b3, b4⟩, uK.trans (hk.trans (KpO.putObj (by omega) (by omega)))⟩
        rintro e b X hp
        cases e with
        | normal =>
          obtain ⟨hX, hk, hi2⟩ := hp
          obtain ⟨hr, b1, b2, b3, b4⟩ := over none X hX
          exact ⟨_, _, hr, .inl ⟨rfl, hI _ _ _ hi2 (ChR.putObj (by omega) b1 rfl), b2, b3, b4⟩, uK.trans (hk.trans (KpO.putObj (by omega) (by omega)))⟩
        | ret => obtain ⟨v, W', h1, rfl, h2, h3⟩ := leave _ X hp.1 hp.2.1 hp.2.2; exact ⟨_, _, h1, .inr ⟨rfl, h2⟩, h3⟩
        | exit id => obtain ⟨v, W', h1, rfl, h2, h3⟩ := leave _ X hp.1 hp.2.1 hp.2.2; exact ⟨_, _, h1, .inr ⟨rfl, h2⟩, h3⟩
        | goto t => obtain ⟨v, W', h1, rfl, h2, h3⟩ := leave _ X hp.1 hp.2.1 hp.2.2; exact ⟨_, _, h1, .inr ⟨rfl, h2⟩, h3⟩
        | panic ch => exact hp.elim
        | outgrown => exact hp.elim
      | ret => exact hp.elim
      | exit id => exact hp.elim
      | goto t => exact hp.elim
      | panic ch => exact hp.elim
      | outgrown => exact hp.elim
    case behind =>
      rintro e X ⟨⟨v, rfl⟩, (⟨xs, hSx, hi, hl, hd, hz⟩ | ⟨pre, hSp, c, hi, hl, hd, hz⟩)⟩
      · have he := run_endLoop (P := P) hl (by rw [hR]; simp)
        rw [hR] at he
        exact ⟨none, _, he, hdone xs _ hSx (hI _ _ _ hi (ChR.putObj (by omega) hl rfl)) ((World.putObj_heap_other (by omega)).trans hd) (by simpa [World.putObj] using hz)⟩
      · have he := run_endLoop (P := P) hl (by rw [hR]; simp)
        rw [hR] at he
        exact ⟨some c, _, he, hstop c pre _ hSp (hIx c _ _ _ hi (ChR.putObj (by omega) hl rfl)) ((World.putObj_heap_other (by omega)).trans hd) (by simpa [World.putObj] using hz)⟩

/-- Marks on the way out: each is taken, and hands over nothing. -/
theorem leaves_marks {fn : Func} {tmps : Array Value} {R : Ending → World → Prop} (N : Nat) : ∀ (Ds : List Nat) (W : World), Ds.Nodup → (∀ D ∈ Ds, N + 2 ≤ D ∧ W.heap[D]? = some (.deferred (some []))) →
    (∀ W', ChO N W W' → LeavesInM Fence.wide n P fn tmps R [] .returning W') → LeavesInM Fence.wide n P fn tmps R (Ds.map markO) .returning W
  | [], W, _, _, h => h W (ChO.refl _ _)
  | D :: Ds, W, hn, hD, h => by
    obtain ⟨h1, h2⟩ := hD D (by simp)
    refine ⟨by simp, .inl ⟨D, _, rfl, run_takeDeferred h2, ?_⟩⟩
    have hc : ChO N W (W.putObj D (.deferred none)) := ChO.putObj h1 h2 rfl
    refine leaves_marks N Ds _ (List.nodup_cons.1 hn).2 (fun E hE => ?_) (fun W' hW' => h W' (hc.trans hW'))
    obtain ⟨g1, g2⟩ := hD E (List.mem_cons_of_mem _ hE)
    refine ⟨g1, (World.putObj_heap_other (fun e => ?_)).trans g2⟩
    subst e
    exact (List.nodup_cons.1 hn).1 hE
end
end Go.Proofs.YtjejpgognfadoaaGreatDoor
