/-
  What the other texts stand on, in one.
-/
import Derived.Test.YtlephnfepofbbaaDoorProg
import Derived.WalkKit
import Derived.LoopTactic
import Derived.Deep.QuietTactic
import Derived.BigQuiet
import Derived.Deep.RegionHeld3
import Derived.Deep.RegionLaw
import Derived.Deep.DeepCutAuto
import Derived.Deep.DeepFit
import Derived.Sort.Grow
import Derived.Below
import Derived.Lib.Hide
import Derived.StillTailTactics
import Derived.OwnWalk
import Derived.Outline
import Derived.IntWalk
import Derived.Laws.Pointers
import Derived.Laws.NewBlocks
import Derived.Maps.OwnSet
import Derived.Laws.OwnMore
import Derived.Deep.Draws
import Derived.Laws.Rows
import Derived.RangeFuncNested
import Derived.RangeFuncBound
import Derived.RangeFuncCalls
import Derived.RangeFuncLeaves
import Derived.RangeFuncBox
import Derived.Shelf.Abstract
import Derived.Shelf.RegionOpen
import Derived.OwnWalkIn
import Derived.TacticsInMore
import Derived.LoopNIn
import Derived.LoopIn
import Derived.Lib.ItoaLen
import Derived.Lib.ParseIntB
import Derived.Lib.UnsafeStr
import Derived.Shelf.Small.Strs
import Derived.Shelf.Small.Wraps
import Derived.Shelf.Strconv.Itoa0
import Derived.Shelf.Strconv.Itoa1
import Derived.Shelf.LaysM
import Derived.Shelf.Strconv.Itoa2
import Derived.Shelf.Strconv.Itoa3
import Derived.Shelf.Strconv.Clone
import Derived.Shelf.Strconv.SyntaxError
import Derived.Shelf.LaysC
import Derived.Shelf.Strconv.ToError
import Derived.Shelf.Strconv.Lower
import Derived.Shelf.Strconv.ParseUint10
import Derived.Shelf.Strconv.ParseUint10Empty
import Derived.Shelf.Strconv.ParseUint10Any
import Derived.Shelf.Strconv.RangeError
import Derived.Shelf.Strconv.ToErrorRange
import Derived.Shelf.Strconv.ParseUintEmpty
import Derived.Shelf.Strconv.ParseUint10b64
import Derived.Shelf.Strconv.ParseUint10b32
import Derived.Shelf.Strconv.ParseUint10b16
import Derived.Shelf.Strconv.ParseUint10b8
import Derived.Shelf.Strconv.ParseUint10At
import Derived.Shelf.Strings.Search1
import Derived.Shelf.Strings.Search2
import Derived.Shelf.Strings.Search3
import Derived.Shelf.Strings.Shaped
import Derived.Shelf.Strconv.AppendUint10
import Derived.Shelf.Strconv.AppendInt10
import Derived.Shelf.Strconv.AppendIntPublic10
import Derived.Shelf.Strings.Prefix
import Derived.Shelf.Unicode.DecodeSlow
import Derived.Maps.AppendAt
import Derived.Laws.AppendOwnNone
import Derived.Deep.AppendLies
import Derived.Laws.CopyRow
import Derived.Test.YtlephnfepofbbaaDoorRows
import Derived.ProofKit
import Derived.OpenShut
import Derived.Carry
import Derived.Deep.SlicePairs

/-
  What lies in memory, of any program: which blocks were written, a block known whole.
-/
namespace Go.Proofs.YtlephnfepofbbaaDoor
open Go.RowKit Go.Maps Go.ChangeMaps

/-- w' is w with new blocks, and writes to the blocks of F alone. -/
structure Kept (F : Nat → Prop) (w w' : World) : Prop where
  os : w'.os = w.os
  tape : w'.tape = w.tape
  output : w'.output = w.output
  size : w.heap.size ≤ w'.heap.size
  block : ∀ k, k < w.heap.size → ¬ F k → w'.heap[k]? = w.heap[k]?

section
variable {F G : Nat → Prop} {w w' a b c : World}
theorem Kept.refl (F : Nat → Prop) (w : World) : Kept F w w := ⟨rfl, rfl, rfl, Nat.le_refl _, fun _ _ _ => rfl⟩
theorem Kept.trans (h : Kept F a b) (k : Kept F b c) : Kept F a c :=
  ⟨k.os.trans h.os, k.tape.trans h.tape, k.output.trans h.output, Nat.le_trans h.size k.size, fun i hi hf => (k.block i (Nat.lt_of_lt_of_le hi h.size) hf).trans (h.block i hi hf)⟩
theorem Kept.mono (h : Kept F a b) (hF : ∀ k, k < a.heap.size → F k → G k) : Kept G a b := ⟨h.os, h.tape, h.output, h.size, fun k hk hg => h.block k hk fun hf => hg (hF k hk hf)⟩
theorem Kept.drew (h : Kept F a b) : Kept F a b.drew := ⟨h.os, h.tape, h.output, h.size, h.block⟩
theorem Kept.drewN (h : Kept F a b) (n : Nat) : Kept F a (b.drewN n) := ⟨h.os, h.tape, h.output, h.size, h.block⟩
theorem Kept.alloc (h : Kept F a b) (o : Obj) : Kept F a (b.alloc o) :=
  h.trans ⟨rfl, rfl, rfl, by simp, fun k hk _ => Below.heap_alloc _ _ _ hk⟩
theorem Kept.setCell (h : Kept F a b) {p : Addr} (hp : F p.block) (u : Value) : Kept F a (b.setCell p u) :=
  h.trans ⟨rfl, rfl, rfl, by simp [World.setCell], fun k _ hf => Below.heap_setCell _ _ _ _ (fun e => hf (e ▸ hp))⟩
theorem Kept.setCell_new (h : Kept F a b) {p : Addr} (hp : a.heap.size ≤ p.block) (u : Value) : Kept F a (b.setCell p u) :=
  ⟨h.os, h.tape, h.output, by simpa [World.setCell] using h.size, fun k hk hf => (Below.heap_setCell _ _ _ _ (by omega)).trans (h.block k hk hf)⟩
theorem Kept.grown (h : Kept F a b) {row : Option Nat} (hg : b.grownBy c row) (hr : ∀ k, row = some k → k < a.heap.size → F k) : Kept F a c :=
  ⟨hg.os.trans h.os, hg.tape.trans h.tape, hg.output.trans h.output, Nat.le_trans h.size hg.size, fun k hk hf => (hg.block k (Nat.lt_of_lt_of_le hk h.size) (fun e => hf (hr k e.symm hk))).trans (h.block k hk hf)⟩
theorem Kept.grow (h : Kept F a b) (q : Nat) (os : Array Obj) : Kept F a (Sort.grow (b.drewN q) os) :=
  ⟨h.os, h.tape, h.output, by rw [Sort.size_grow]; exact Nat.le_trans h.size (Nat.le_add_right _ _), fun k hk hf => (Sort.heap_grow_old _ _ (Nat.lt_of_lt_of_le hk h.size)).trans (h.block k hk hf)⟩
theorem Kept.below {B : Nat} (h : Kept F a b) (hF : ∀ k, F k → B ≤ k) (hB : B ≤ a.heap.size) : Below B a b :=
  ⟨h.os, h.tape, h.output, h.size, fun k hk => h.block k (by omega) (fun hf => by have := hF k hf; omega)⟩
theorem Kept.below' {B : Nat} (h : Kept F a b) (hF : ∀ k, k < a.heap.size → F k → B ≤ k) (hB : B ≤ a.heap.size) : Below B a b :=
  ⟨h.os, h.tape, h.output, h.size, fun k hk => h.block k (by omega) (fun hf => by have := hF k (by omega) hf; omega)⟩
theorem Kept.of_below (h : Below a.heap.size a b) : Kept F a b := ⟨h.os, h.tape, h.output, h.size, fun k hk _ => h.block k hk⟩
/-- Two steps, the second of which may also write what the first one has laid. -/
theorem Kept.andThen (h : Kept F a b) (k : Kept G b c) (hG : ∀ i, i < a.heap.size → G i → F i) : Kept F a c :=
  ⟨k.os.trans h.os, k.tape.trans h.tape, k.output.trans h.output, Nat.le_trans h.size k.size, fun i hi hf => (k.block i (Nat.lt_of_lt_of_le hi h.size) (fun hg => hf (hG i hi hg))).trans (h.block i hi hf)⟩
end

/-- A block known whole. -/
def Blk (w : World) (g : Nat) (t : TypeId) (cs : Array Value) : Prop := w.heap[g]? = some (.cells cs t (0, 0))
section
variable {w w' : World} {g : Nat} {t : TypeId} {cs : Array Value}
theorem Blk.lt (h : Blk w g t cs) : g < w.heap.size := (Array.getElem?_eq_some_iff.1 h).1
theorem Blk.cell (h : Blk w g t cs) (i : Nat) : w.cell? ⟨g, i, none⟩ = cs[i]? := cell_of_row w g i cs t (0, 0) h
theorem Blk.frozen (h : Blk w g t cs) (i : Nat) : w.frozen? ⟨g, i, none⟩ = false := by
  unfold Blk at h
  simp [World.frozen?, h]
theorem Blk.new (w : World) (t : TypeId) (cs : Array Value) : Blk (w.alloc (.cells cs t)) w.heap.size t cs := heap_alloc_new w _
theorem Blk.alloc (h : Blk w g t cs) (o : Obj) : Blk (w.alloc o) g t cs := (Below.heap_alloc w o g h.lt).trans h
theorem Blk.set_ (h : Blk w g t cs) (i : Nat) (u : Value) : Blk (w.setCell ⟨g, i, none⟩ u) g t (cs.setIfInBounds i u) := by
  unfold Blk at h ⊢
  simp [World.setCell, Array.getElem?_modify, h]
theorem Blk.far (h : Blk w g t cs) {p : Addr} (hp : g ≠ p.block) (u : Value) : Blk (w.setCell p u) g t cs := (Below.heap_setCell w p u g hp).trans h
theorem Blk.same (h : Blk w g t cs) (e : w'.heap[g]? = w.heap[g]?) : Blk w' g t cs := e.trans h
theorem Blk.kept {F : Nat → Prop} (h : Blk w g t cs) (k : Kept F w w') (hf : ¬ F g) : Blk w' g t cs := (k.block g h.lt hf).trans h
end

end Go.Proofs.YtlephnfepofbbaaDoor

/-
  A range over a function whose iterator may turn memory of its own: a contract of such an iterator, and the law of a loop over it.
-/
namespace Go.Proofs.YtlephnfepofbbaaDoor
open Go.RowKit Go.Shelf

/-- The iterator g: what comes comes one by one, fewer than N before each, till all has come, or till a round says no more. Ch: how it turns memory between two rounds; Kp: what a round keeps; S: all that came, and the world behind. -/
def SeqCh {α : Type} (n : Nat) (P : Program) (g : Nat) (lb : Array Value) (encs : α → Array Value) (Kp Ch : World → World → Prop) (S : List α → World → Prop) (Sp : List α → Prop) (N : Nat) (w : World) : Prop :=
  ∀ (l : Nat) (J Jx : List α → World → Prop) (W : World), (∀ k, k < w.heap.size → W.heap[k]? = w.heap[k]?) → w.heap.size ≤ W.heap.size → (∀ s A A', J s A → Ch A A' → J s A') →
    (∀ pre x W1, J pre W1 → pre.length < N → YieldAt Fence.wide (n - 1) P l (encs x) W1 fun e W' =>
      (e = .returned (.bool true) ∧ J (pre ++ [x]) W' ∧ Kp W1 W') ∨ (e = .returned (.bool false) ∧ Jx (pre ++ [x]) W')) →
    J [] W →
    CallsIn Fence.wide n P g (#[.func (.yield l) #[] #[]] ++ lb) W fun e W' => (∃ v, e = .returned v) ∧ ((∃ xs, S xs W' ∧ J xs W') ∨ (∃ pre, Sp pre ∧ Jx pre W'))

section
variable {n : Nat} {P : Program}

/-- What the loop's record says. -/
abbrev recOf (fn : FuncId) (a : Act) (ps : Array Tmp) (assign body : Code) (D : Nat) (st : LoopState) (pe : Option Code) : Loop :=
  { state := st, pending := pe, fn, tmps := a.tmps, params := ps, assign, body, defers := D }

theorem rangeFunc_ch {α : Type} {g : Operand} {ps : Array Tmp} {assign body : Code} {Q : Exit → Act → World → Prop} {a : Act} {w : World} (h1 : 1 ≤ n)
    {gf : Nat} {lb : Array Value} (hg : a.eval g = .func (.func gf) #[] lb) (eg : ∀ args w, (callFunc gf args).run P w = .ok (.enter gf args) w)
    {encs : α → Array Value} {Kp Ch : World → World → Prop} {S : List α → World → Prop} {Sp : List α → Prop} {N : Nat} {w0 : World} (hseq : SeqCh (n - 1) P gf lb encs Kp Ch S Sp N w0) (hw0 : ∀ k, k < w0.heap.size → w.heap[k]? = w0.heap[k]?) (hz0 : w0.heap.size ≤ w.heap.size)
    (hKt : ∀ {A B C : World}, Kp A B → Kp B C → Kp A C) (hKb : ∀ (W : World) (l : Nat) (o o' : Obj), w.heap.size ≤ l → W.heap[l]? = some o → o.isCells = false → o.isWalk = false → Kp W (W.putObj l o')) (hps : ∀ x, (encs x).size = ps.size)
    (I : List α → World → Prop) (Ix : Code → List α → World → Prop) (hI : OwnFrom w.heap.size I) (hIx : ∀ c, OwnFrom w.heap.size (Ix c)) (hCh : ∀ A A' k o, Ch A A' → w.heap.size ≤ k → A.heap[k]? = some o → A'.heap[k]? = some o) (hIc : ∀ s A A', I s A → Ch A A' → I s A') (hS : ∀ xs, OwnFrom w.heap.size (fun (_ : Unit) W => S xs W)) (h0 : I [] w) (Ax : α → Act → World → Prop) (hAx : ∀ x a', OwnFrom w.heap.size (fun (_ : Unit) W => Ax x a' W))
    (hassign : ∀ (l : Nat) (pre : List α) (x : α) (W : World) (K : Act → World → Prop), I pre W → (∀ a' W', KeepsFrom w.heap.size W W' → Kp W W' → I pre W' → Ax x a' W' → K a' W') →
      assign.wpIn (Fence.wide.inRound l) (n - 1 - 1) P (Exit.then K (fun _ _ _ => False)) { tmps := (ps.zip (encs x)).foldl (fun t (p, v) => t.setIfInBounds p v) a.tmps, defers := [] } W)
    (hbody : ∀ (l : Nat) (pre : List α) (x : α) (a' : Act) (W : World), w.heap.size ≤ l → I pre W → Ax x a' W → pre.length < N → body.wpIn (Fence.wide.inRound l) (n - 1 - 1) P (ownPostG w.heap.size Kp I Ix (pre ++ [x]) W) a' W)
    (hdone : ∀ (D : Nat) (xs : List α) (W : World), w.heap.size ≤ D → S xs W → I xs W → W.heap[D]? = some (.deferred (some [])) → Q .normal { a with defers := { target := .collected D, args := #[] } :: a.defers } W)
    (hstop : ∀ (D : Nat) (c : Code) (pre : List α) (W : World), w.heap.size ≤ D → Sp pre → Ix c pre W → W.heap[D]? = some (.deferred (some [])) → c.wpIn Fence.wide n P Q { a with defers := { target := .collected D, args := #[] } :: a.defers } W) :
    (Code.rangeFunc g ps assign body).wpIn Fence.wide n P Q a w := by
  refine wpIn_rangeFunc fun fn hfn => ?_
  obtain ⟨R, hR⟩ : ∃ R, R = recOf fn a ps assign body w.heap.size := ⟨_, rfl⟩
  obtain ⟨V, hV⟩ : ∃ V, (w.alloc (.deferred (some []))).alloc (.loop (R .ready none)) = V := ⟨_, rfl⟩
  have vL : V.heap[w.heap.size + 1]? = some (.loop (R .ready none)) := by
    rw [← hV]
    have h := World.alloc_heap_new (w.alloc (.deferred (some []))) (.loop (R .ready none))
    rwa [World.size_alloc] at h
  have vD : V.heap[w.heap.size]? = some (.deferred (some [])) := by
    rw [← hV]; exact (Below.heap_alloc _ _ _ (by simp)).trans (World.alloc_heap_new w _)
  have vB : ∀ k, k < w.heap.size → V.heap[k]? = w.heap[k]? := fun k hk => by
    rw [← hV]
    exact (Below.heap_alloc _ _ _ (by simp; omega)).trans (Below.heap_alloc _ _ _ hk)
  have vZ : w.heap.size ≤ V.heap.size := by rw [← hV]; simp; omega
  have vI : I [] V := by rw [← hV]; exact hI.alloc _ (hI.alloc _ h0)
  refine ⟨w.heap.size + 1, [{ target := .collected w.heap.size, args := #[] }], V, { target := .fn (.func gf) lb, args := #[.func (.yield (w.heap.size + 1)) #[] #[]] }, V, gf,
    #[.func (.yield (w.heap.size + 1)) #[] #[]] ++ lb, V, ?enter, ?res, ?lead, ?inv, fun _ => h1, ?call⟩
  case enter => rw [← hV, hR]; exact run_enterLoop_outer _ _ _ _ _
  case res => simp only [resolve, hg]; simp [go_sem]
  case lead => intro f' _; trivial
  case inv => simp [invoke, go_sem, eg]
  case call =>
    refine (hseq (w.heap.size + 1)
      (fun pre W => I pre W ∧ W.heap[w.heap.size + 1]? = some (.loop (R .ready none)) ∧ W.heap[w.heap.size]? = some (.deferred (some [])))
      (fun pre W => ∃ c, Ix c pre W ∧ W.heap[w.heap.size + 1]? = some (.loop (R .done (some c))) ∧ W.heap[w.heap.size]? = some (.deferred (some [])))
      V (fun k hk => (vB k (Nat.lt_of_lt_of_le hk hz0)).trans (hw0 k hk)) (Nat.le_trans hz0 vZ) (fun s A A' hs hc => ⟨hIc s A A' hs.1 hc, hCh _ _ _ _ hc (by omega) hs.2.1, hCh _ _ _ _ hc (Nat.le_refl _) hs.2.2⟩) ?round ⟨vI, vL, vD⟩).mono ?behind
    case round =>
      rintro pre x W ⟨hi, hl, hd⟩ hlen
      have hy := run_yield (P := P) (args := encs x) hl (by rw [hR]; exact hps x)
      rw [hR] at hy
      refine ⟨fn, _, assign, body, hy, roundIn_of_wpIn hfn (hassign _ pre x W _ hi ?_)⟩
      clear hy
      intro a' Wa hkfa hkpa hia hax
      replace hl := hkfa.same _ _ (by omega) hl rfl
      replace hd := hkfa.same _ _ (Nat.le_refl _) hd rfl
      replace hi := hia
      clear hia
      revert hkpa hkfa
      generalize W = Wb
      intro hkfa hkpa
      obtain ⟨W, rfl⟩ : ∃ W, W = Wa := ⟨_, rfl⟩
      have hlt : w.heap.size + 1 < W.heap.size := (Array.getElem?_eq_some_iff.1 hl).1
      refine ⟨_, run_beginRound hl (by rw [hR]), ?_⟩
      obtain ⟨U, hU⟩ : ∃ U, W.putObj (w.heap.size + 1) (.loop { R .ready none with state := .busy }) = U := ⟨_, rfl⟩
      have uL : U.heap[w.heap.size + 1]? = some (.loop { R .ready none with state := .busy }) := by rw [← hU]; exact World.putObj_heap_same hlt
      have uD : U.heap[w.heap.size]? = some (.deferred (some [])) := by rw [← hU]; exact (World.putObj_heap_other (by omega)).trans hd
      have uK : Kp W U := by rw [← hU]; exact hKb _ _ _ _ (by omega) hl rfl rfl
      have uI : I pre U := by rw [← hU]; exact hI.putObj _ hi (by omega) hl rfl
      rw [hU]
      have uA : Ax x a' U := by rw [← hU]; exact (hAx x a').putObj (s := ()) _ hax (by omega) hl rfl
      refine wpIn_mono (hbody _ pre x a' U (by omega) uI uA hlen) ?_
      have over : ∀ (jump : Option Code) (X : World), KeepsFrom w.heap.size U X →
          (Instr.endRound (w.heap.size + 1) jump).run P X = .ok (.bool jump.isNone) (X.putObj (w.heap.size + 1) (.loop (R (if jump.isNone then .ready else .done) jump))) ∧
          X.heap[w.heap.size + 1]? = some (.loop { R .ready none with state := .busy }) ∧
          (X.putObj (w.heap.size + 1) (.loop (R (if jump.isNone then .ready else .done) jump))).heap[w.heap.size + 1]? = some (.loop (R (if jump.isNone then .ready else .done) jump)) ∧
          (X.putObj (w.heap.size + 1) (.loop (R (if jump.isNone then .ready else .done) jump))).heap[w.heap.size]? = some (.deferred (some [])) := fun jump X hX => by
        have xL := hX.same _ _ (by omega) uL rfl
        have he := run_endRound (P := P) jump xL
        rw [hR] at he ⊢
        exact ⟨he, by rw [hR] at xL; exact xL, World.putObj_heap_same (Array.getElem?_eq_some_iff.1 xL).1, (World.putObj_heap_other (by omega)).trans (hX.same _ _ (Nat.le_refl _) uD rfl)⟩
      have leave : ∀ (c : Code) (X : World), KeepsFrom w.heap.size U X → Ix c (pre ++ [x]) X → ∃ v W', (Instr.endRound (w.heap.size + 1) (some c)).run P X = .ok v W' ∧ v = .bool false ∧ ∃ c, Ix c (pre ++ [x]) W' ∧ W'.heap[w.heap.size + 1]? = some (.loop (R .done (some c))) ∧ W'.heap[w.heap.size]? = some (.deferred (some [])) := fun c X hX hx => by
        obtain ⟨hr, b1, b2, b3⟩ := over (some c) X hX
        exact ⟨_, _, hr, rfl, c, (hIx c).putObj _ hx (by omega) b1 rfl, b2, b3⟩
      rintro e b X hp
      cases e with
      | normal =>
        obtain ⟨hX, hk, hi⟩ := hp
        obtain ⟨hr, b1, b2, b3⟩ := over none X hX
        exact ⟨_, _, hr, .inl ⟨rfl, ⟨hI.putObj _ hi (by omega) b1 rfl, b2, b3⟩, hKt hkpa (hKt (hKt uK hk) (hKb _ _ _ _ (by omega) b1 rfl rfl))⟩⟩
      | ret => obtain ⟨v, W', h1, rfl, h2⟩ := leave _ X hp.1 hp.2; exact ⟨_, _, h1, .inr ⟨rfl, h2⟩⟩
      | exit id => obtain ⟨v, W', h1, rfl, h2⟩ := leave _ X hp.1 hp.2; exact ⟨_, _, h1, .inr ⟨rfl, h2⟩⟩
      | goto t => obtain ⟨v, W', h1, rfl, h2⟩ := leave _ X hp.1 hp.2; exact ⟨_, _, h1, .inr ⟨rfl, h2⟩⟩
      | panic ch => exact hp.elim
      | outgrown => exact hp.elim
    case behind =>
      rintro e X ⟨⟨v, rfl⟩, (⟨xs, hSx, hi, hl, hd⟩ | ⟨pre, hSp, c, hi, hl, hd⟩)⟩
      · have he := run_endLoop (P := P) hl (by rw [hR]; simp)
        rw [hR] at he
        exact ⟨none, _, he, hdone _ xs _ (Nat.le_refl _) ((hS xs).putObj (s := ()) _ hSx (by omega) hl rfl) (hI.putObj _ hi (by omega) hl rfl) ((World.putObj_heap_other (by omega)).trans hd)⟩
      · have he := run_endLoop (P := P) hl (by rw [hR]; simp)
        rw [hR] at he
        exact ⟨some c, _, he, hstop _ c pre _ (Nat.le_refl _) hSp ((hIx c).putObj _ hi (by omega) hl rfl) ((World.putObj_heap_other (by omega)).trans hd)⟩
end
end Go.Proofs.YtlephnfepofbbaaDoor

/-
  A range over a function whose iterator keeps a state of its own in a variable's box: a contract of such an iterator, and the law of a loop over it.
-/
namespace Go.Proofs.YtlephnfepofbbaaDoor
open Go.RowKit

/-- The iterator g, its state in the box Bs: the pieces come one by one till all have come, or till a round says no more; what the loop holds must bear what is stored in that box. -/
def SeqBox {α : Type} (n : Nat) (P : Program) (g : Nat) (lb : Array Value) (encs : α → Array Value) (Kp : World → World → Prop) (Bs : Nat) (S Sp : List α → Prop) (w : World) : Prop :=
  ∀ (l : Nat) (J Jx : List α → World → Prop) (W : World), (∀ k, k < w.heap.size → W.heap[k]? = w.heap[k]?) → (∀ s A v, J s A → J s (A.setCell ⟨Bs, 0, none⟩ v)) →
    (∀ pre x W1, J pre W1 → YieldAt Fence.wide (n - 1) P l (encs x) W1 fun e W' =>
      (e = .returned (.bool true) ∧ J (pre ++ [x]) W' ∧ Kp W1 W') ∨ (e = .returned (.bool false) ∧ Jx (pre ++ [x]) W')) →
    J [] W →
    CallsIn Fence.wide n P g (#[.func (.yield l) #[] #[]] ++ lb) W fun e W' => (∃ v, e = .returned v) ∧ ((∃ xs, S xs ∧ J xs W') ∨ (∃ pre, Sp pre ∧ Jx pre W'))

theorem heap_setCell_other (W : World) (B k : Nat) (v : Value) (o : Obj) (h : W.heap[k]? = some o) (hc : o.isCells = false) : (W.setCell ⟨B, 0, none⟩ v).heap[k]? = some o :=
  (KeepsOthers.setCell W ⟨B, 0, none⟩ v).same k o h hc

section
variable {n : Nat} {P : Program}

theorem rangeFunc_box {α : Type} {g : Operand} {ps : Array Tmp} {assign body : Code} {Q : Exit → Act → World → Prop} {a : Act} {w : World} (h1 : 1 ≤ n)
    {gf : Nat} {lb : Array Value} (hg : a.eval g = .func (.func gf) #[] lb) (eg : ∀ args w, (callFunc gf args).run P w = .ok (.enter gf args) w)
    {encs : α → Array Value} {Kp : World → World → Prop} {Bs : Nat} {S Sp : List α → Prop} (hseq : SeqBox (n - 1) P gf lb encs Kp Bs S Sp w)
    (hKt : ∀ {A B C : World}, Kp A B → Kp B C → Kp A C) (hKb : ∀ (W : World) (l : Nat) (o o' : Obj), w.heap.size ≤ l → W.heap[l]? = some o → o.isCells = false → o.isWalk = false → Kp W (W.putObj l o')) (hps : ∀ x, (encs x).size = ps.size)
    (I : List α → World → Prop) (Ix : Code → List α → World → Prop) (hI : OwnFrom w.heap.size I) (hIx : ∀ c, OwnFrom w.heap.size (Ix c)) (hIs : ∀ s A v, I s A → I s (A.setCell ⟨Bs, 0, none⟩ v)) (h0 : I [] w) (a₁ : α → Act)
    (hassign : ∀ (l : Nat) (x : α) (W : World) (K : Act → World → Prop), K (a₁ x) W →
      assign.wpIn (Fence.wide.inRound l) (n - 1 - 1) P (Exit.then K (fun _ _ _ => False)) { tmps := (ps.zip (encs x)).foldl (fun t (p, v) => t.setIfInBounds p v) a.tmps, defers := [] } W)
    (hbody : ∀ (l : Nat) (pre : List α) (x : α) (W : World), I pre W → body.wpIn (Fence.wide.inRound l) (n - 1 - 1) P (ownPostK Kp I Ix (pre ++ [x]) W) (a₁ x) W)
    (hdone : ∀ (D : Nat) (xs : List α) (W : World), w.heap.size ≤ D → S xs → I xs W → W.heap[D]? = some (.deferred (some [])) → Q .normal { a with defers := { target := .collected D, args := #[] } :: a.defers } W)
    (hstop : ∀ (D : Nat) (c : Code) (pre : List α) (W : World), w.heap.size ≤ D → Sp pre → Ix c pre W → W.heap[D]? = some (.deferred (some [])) → c.wpIn Fence.wide n P Q { a with defers := { target := .collected D, args := #[] } :: a.defers } W) :
    (Code.rangeFunc g ps assign body).wpIn Fence.wide n P Q a w := by
  refine wpIn_rangeFunc fun fn hfn => ?_
  obtain ⟨R, hR⟩ : ∃ R, R = recOf fn a ps assign body w.heap.size := ⟨_, rfl⟩
  obtain ⟨V, hV⟩ : ∃ V, (w.alloc (.deferred (some []))).alloc (.loop (R .ready none)) = V := ⟨_, rfl⟩
  have vL : V.heap[w.heap.size + 1]? = some (.loop (R .ready none)) := by
    rw [← hV]
    have h := World.alloc_heap_new (w.alloc (.deferred (some []))) (.loop (R .ready none))
    rwa [World.size_alloc] at h
  have vD : V.heap[w.heap.size]? = some (.deferred (some [])) := by
    rw [← hV]; exact (Below.heap_alloc _ _ _ (by simp)).trans (World.alloc_heap_new w _)
  have vB : ∀ k, k < w.heap.size → V.heap[k]? = w.heap[k]? := fun k hk => by
    rw [← hV]
    exact (Below.heap_alloc _ _ _ (by simp; omega)).trans (Below.heap_alloc _ _ _ hk)
  have vI : I [] V := by rw [← hV]; exact hI.alloc _ (hI.alloc _ h0)
  refine ⟨w.heap.size + 1, [{ target := .collected w.heap.size, args := #[] }], V, { target := .fn (.func gf) lb, args := #[.func (.yield (w.heap.size + 1)) #[] #[]] }, V, gf,
    #[.func (.yield (w.heap.size + 1)) #[] #[]] ++ lb, V, ?enter, ?res, ?lead, ?inv, fun _ => h1, ?call⟩
  case enter => rw [← hV, hR]; exact run_enterLoop_outer _ _ _ _ _
  case res => simp only [resolve, hg]; simp [go_sem]
  case lead => intro f' _; trivial
  case inv => simp [invoke, go_sem, eg]
  case call =>
    refine (hseq (w.heap.size + 1)
      (fun pre W => I pre W ∧ W.heap[w.heap.size + 1]? = some (.loop (R .ready none)) ∧ W.heap[w.heap.size]? = some (.deferred (some [])))
      (fun pre W => ∃ c, Ix c pre W ∧ W.heap[w.heap.size + 1]? = some (.loop (R .done (some c))) ∧ W.heap[w.heap.size]? = some (.deferred (some [])))
      V vB (fun s A v hs => ⟨hIs s A v hs.1, heap_setCell_other _ _ _ _ _ hs.2.1 rfl, heap_setCell_other _ _ _ _ _ hs.2.2 rfl⟩) ?round ⟨vI, vL, vD⟩).mono ?behind
    case round =>
      rintro pre x W ⟨hi, hl, hd⟩
      have hlt : w.heap.size + 1 < W.heap.size := (Array.getElem?_eq_some_iff.1 hl).1
      have hy := run_yield (P := P) (args := encs x) hl (by rw [hR]; exact hps x)
      rw [hR] at hy
      refine ⟨fn, _, assign, body, hy, roundIn_of_wpIn hfn (hassign _ x W _ ⟨_, run_beginRound hl (by rw [hR]), ?_⟩)⟩
      obtain ⟨U, hU⟩ : ∃ U, W.putObj (w.heap.size + 1) (.loop { R .ready none with state := .busy }) = U := ⟨_, rfl⟩
      have uL : U.heap[w.heap.size + 1]? = some (.loop { R .ready none with state := .busy }) := by rw [← hU]; exact World.putObj_heap_same hlt
      have uD : U.heap[w.heap.size]? = some (.deferred (some [])) := by rw [← hU]; exact (World.putObj_heap_other (by omega)).trans hd
      have uK : Kp W U := by rw [← hU]; exact hKb _ _ _ _ (by omega) hl rfl rfl
      have uI : I pre U := by rw [← hU]; exact hI.putObj _ hi (by omega) hl rfl
      rw [hU]
      refine wpIn_mono (hbody _ pre x U uI) ?_
      have over : ∀ (jump : Option Code) (X : World), KeepsOthers U X →
          (Instr.endRound (w.heap.size + 1) jump).run P X = .ok (.bool jump.isNone) (X.putObj (w.heap.size + 1) (.loop (R (if jump.isNone then .ready else .done) jump))) ∧
          X.heap[w.heap.size + 1]? = some (.loop { R .ready none with state := .busy }) ∧
          (X.putObj (w.heap.size + 1) (.loop (R (if jump.isNone then .ready else .done) jump))).heap[w.heap.size + 1]? = some (.loop (R (if jump.isNone then .ready else .done) jump)) ∧
          (X.putObj (w.heap.size + 1) (.loop (R (if jump.isNone then .ready else .done) jump))).heap[w.heap.size]? = some (.deferred (some [])) := fun jump X hX => by
        have xL := hX.same _ _ uL rfl
        have he := run_endRound (P := P) jump xL
        rw [hR] at he ⊢
        exact ⟨he, by rw [hR] at xL; exact xL, World.putObj_heap_same (Array.getElem?_eq_some_iff.1 xL).1, (World.putObj_heap_other (by omega)).trans (hX.same _ _ uD rfl)⟩
      have leave : ∀ (c : Code) (X : World), KeepsOthers U X → Ix c (pre ++ [x]) X → ∃ v W', (Instr.endRound (w.heap.size + 1) (some c)).run P X = .ok v W' ∧ v = .bool false ∧ ∃ c, Ix c (pre ++ [x]) W' ∧ W'.heap[w.heap.size + 1]? = some (.loop (R .done (some c))) ∧ W'.heap[w.heap.size]? = some (.deferred (some [])) := fun c X hX hx => by
        obtain ⟨hr, b1, b2, b3⟩ := over (some c) X hX
        exact ⟨_, _, hr, rfl, c, (hIx c).putObj _ hx (by omega) b1 rfl, b2, b3⟩
      rintro e b X hp
      cases e with
      | normal =>
        obtain ⟨hX, hk, hi⟩ := hp
        obtain ⟨hr, b1, b2, b3⟩ := over none X hX
        exact ⟨_, _, hr, .inl ⟨rfl, ⟨hI.putObj _ hi (by omega) b1 rfl, b2, b3⟩, hKt (hKt uK hk) (hKb _ _ _ _ (by omega) b1 rfl rfl)⟩⟩
      | ret => obtain ⟨v, W', h1, rfl, h2⟩ := leave _ X hp.1 hp.2; exact ⟨_, _, h1, .inr ⟨rfl, h2⟩⟩
      | exit id => obtain ⟨v, W', h1, rfl, h2⟩ := leave _ X hp.1 hp.2; exact ⟨_, _, h1, .inr ⟨rfl, h2⟩⟩
      | goto t => obtain ⟨v, W', h1, rfl, h2⟩ := leave _ X hp.1 hp.2; exact ⟨_, _, h1, .inr ⟨rfl, h2⟩⟩
      | panic ch => exact hp.elim
      | outgrown => exact hp.elim
    case behind =>
      rintro e X ⟨⟨v, rfl⟩, (⟨xs, hS, hi, hl, hd⟩ | ⟨pre, hSp, c, hi, hl, hd⟩)⟩
      · have he := run_endLoop (P := P) hl (by rw [hR]; simp)
        rw [hR] at he
        exact ⟨none, _, he, hdone _ xs _ (Nat.le_refl _) hS (hI.putObj _ hi (by omega) hl rfl) ((World.putObj_heap_other (by omega)).trans hd)⟩
      · have he := run_endLoop (P := P) hl (by rw [hR]; simp)
        rw [hR] at he
        exact ⟨some c, _, he, hstop _ c pre _ (Nat.le_refl _) hSp ((hIx c).putObj _ hi (by omega) hl rfl) ((World.putObj_heap_other (by omega)).trans hd)⟩
end
end Go.Proofs.YtlephnfepofbbaaDoor

/-
  Plain mathematics of decimal digits: what a text of digits says, and that it says it in one way.
-/
namespace Go.Proofs.YtlephnfepofbbaaDoor

theorem u8_digit (d : Nat) (h : d < 10) : (UInt8.ofNat (48 + d)).toNat = 48 + d := by
  rw [UInt8.toNat_ofNat']; omega
theorem u8_eq {a b : UInt8} (h : a.toNat = b.toNat) : a = b := UInt8.toNat_inj.1 h
theorem dec_lt {u : Nat} (h : u < 10) : Lib.decDigits u = [UInt8.ofNat (48 + u)] := by rw [Lib.decDigits, dif_pos h]
theorem dec_ge {u : Nat} (h : ¬ u < 10) : Lib.decDigits u = Lib.decDigits (u / 10) ++ [UInt8.ofNat (48 + u % 10)] := by rw [Lib.decDigits, dif_neg h]
theorem head_app {α : Type} {l : List α} (m : List α) (h : l ≠ []) : (l ++ m).head? = l.head? := by
  cases l with
  | nil => exact absurd rfl h
  | cons a l => rfl
/-- What digits add to a number. -/
def gath (acc : Nat) (l : List UInt8) : Nat := l.foldl (fun a c => a * 10 + (c.toNat - 48)) acc
def allDig (l : List UInt8) : Prop := ∀ c ∈ l, 48 ≤ c.toNat ∧ c.toNat ≤ 57
theorem gath_app (acc : Nat) (l m : List UInt8) : gath acc (l ++ m) = gath (gath acc l) m := by unfold gath; rw [List.foldl_append]
theorem dec_props : ∀ u : Nat, allDig (Lib.decDigits u) ∧ gath 0 (Lib.decDigits u) = u ∧ Lib.decDigits u ≠ [] ∧ (1 < (Lib.decDigits u).length → (Lib.decDigits u).head? ≠ some 48)
  | u => by
    by_cases h : u < 10
    · rw [dec_lt h]
      refine ⟨fun c hc => ?_, ?_, by simp, fun h1 => by simp at h1⟩
      · have : c = UInt8.ofNat (48 + u) := by simpa using hc
        rw [this, u8_digit u h]; omega
      · show 0 * 10 + ((UInt8.ofNat (48 + u)).toNat - 48) = u
        rw [u8_digit u h]; omega
    · have ih := dec_props (u / 10)
      obtain ⟨h1, h2, h3, h4⟩ := ih
      rw [dec_ge h]
      refine ⟨fun c hc => ?_, ?_, by simp, fun _ => ?_⟩
      · rcases List.mem_append.1 hc with hc | hc
        · exact h1 c hc
        · have : c = UInt8.ofNat (48 + u % 10) := by simpa using hc
          rw [this, u8_digit _ (Nat.mod_lt _ (by omega))]; omega
      · rw [gath_app, h2]
        show u / 10 * 10 + ((UInt8.ofNat (48 + u % 10)).toNat - 48) = u
        rw [u8_digit _ (Nat.mod_lt _ (by omega))]; omega
      · rw [head_app _ h3]
        by_cases h10 : u / 10 < 10
        · rw [dec_lt h10]
          intro e
          have e2 : UInt8.ofNat (48 + u / 10) = 48 := by simpa using e
          have := congrArg UInt8.toNat e2
          rw [u8_digit _ h10] at this
          have h48 : (48 : UInt8).toNat = 48 := rfl
          omega
        · refine h4 ?_
          rw [dec_ge h10]
          have := (dec_props (u / 10 / 10)).2.2.1
          have := List.length_pos_iff.2 this
          simp; omega
termination_by u => u
decreasing_by all_goals omega

theorem dec_len (u : Nat) (h : u < 18446744073709551616) : (Lib.decDigits u).length ≤ 20 := by
  rw [Lib.decDigits_length]; exact Lib.nDigits_le20 u h

theorem gath_ge : ∀ (l : List UInt8) (acc : Nat), acc ≤ gath acc l
  | [], _ => Nat.le_refl _
  | c :: r, acc => by
    show acc ≤ gath (acc * 10 + (c.toNat - 48)) r
    exact Nat.le_trans (by omega) (gath_ge r _)
theorem parseM_all : ∀ (l : List UInt8) (acc M : Nat), M < 18446744073709551616 → allDig l → gath acc l ≤ M → Lib.parseUintM M acc l = .ok (gath acc l)
  | [], acc, M, _, _, _ => rfl
  | c :: r, acc, M, hM, hd, hl => by
    have hc := hd c (List.mem_cons_self ..)
    have hg : gath (acc * 10 + (c.toNat - 48)) r ≤ M := hl
    have hge := gath_ge r (acc * 10 + (c.toNat - 48))
    unfold Lib.parseUintM
    rw [if_pos hc, if_neg (by omega), if_neg (by omega)]
    exact parseM_all r _ M hM (fun x hx => hd x (List.mem_cons_of_mem _ hx)) hg
theorem parseM_ok : ∀ (l : List UInt8) (acc M v : Nat), acc ≤ M → Lib.parseUintM M acc l = .ok v → allDig l ∧ gath acc l = v ∧ v ≤ M
  | [], acc, M, v, ha, h => by
    have : acc = v := by simpa [Lib.parseUintM] using h
    exact ⟨fun c hc => by simp at hc, this, by omega⟩
  | c :: r, acc, M, v, ha, h => by
    unfold Lib.parseUintM at h
    split at h
    · split at h
      · cases h
      · split at h
        · cases h
        · obtain ⟨h1, h2, h3⟩ := parseM_ok r _ M v (by omega) h
          refine ⟨fun x hx => ?_, h2, h3⟩
          rcases List.mem_cons.1 hx with rfl | hx
          · assumption
          · exact h1 x hx
    · cases h

/-- Digits without a leading zero are those of their number. -/
theorem dec_of (n : Nat) : ∀ l : List UInt8, l.length = n → l ≠ [] → allDig l → (1 < l.length → l.head? ≠ some 48) → Lib.decDigits (gath 0 l) = l := by
  induction n with
  | zero => intro l h hn; exact absurd (List.eq_nil_of_length_eq_zero h) hn
  | succ n ih =>
    intro l hlen hne hd hz
    obtain ⟨q, x, rfl⟩ : ∃ q x, l = q ++ [x] := ⟨l.dropLast, l.getLast hne, (List.dropLast_concat_getLast hne).symm⟩
    have hx := hd x (by simp)
    rw [gath_app]
    show Lib.decDigits (gath 0 q * 10 + (x.toNat - 48)) = _
    by_cases hq : q = []
    · subst hq
      show Lib.decDigits (0 * 10 + (x.toNat - 48)) = _
      rw [dec_lt (by omega)]
      have : UInt8.ofNat (48 + (0 * 10 + (x.toNat - 48))) = x := u8_eq (by rw [UInt8.toNat_ofNat']; omega)
      rw [this]; rfl
    · have hl1 : 1 < (q ++ [x]).length := by have := List.length_pos_iff.2 hq; simp; omega
      have hz1 := hz hl1
      rw [head_app _ hq] at hz1
      have hdq : allDig q := fun c hc => hd c (List.mem_append_left _ hc)
      have ihq := ih q (by simpa using hlen) hq hdq (fun _ => hz1)
      have hpos : 1 ≤ gath 0 q := by
        cases q with
        | nil => exact absurd rfl hq
        | cons c r =>
          have hc := hdq c (List.mem_cons_self ..)
          have hge := gath_ge r (0 * 10 + (c.toNat - 48))
          have hne : c.toNat ≠ 48 := fun e => hz1 (by
            have : c = 48 := u8_eq e
            simp [this])
          show 1 ≤ gath (0 * 10 + (c.toNat - 48)) r
          omega
      rw [dec_ge (by omega)]
      have e1 : (gath 0 q * 10 + (x.toNat - 48)) / 10 = gath 0 q := by omega
      have e2 : (gath 0 q * 10 + (x.toNat - 48)) % 10 = x.toNat - 48 := by omega
      rw [e1, e2, ihq]
      have : UInt8.ofNat (48 + (x.toNat - 48)) = x := u8_eq (by rw [UInt8.toNat_ofNat']; omega)
      rw [this]

/-- What a text of digits says, if it is a number's. -/
def numP (B : Nat) (l : List UInt8) : Option Nat := match Lib.parseUintB B l with
  | .ok n => if 1 < l.length ∧ l.head? = some 48 then none else some n
  | _ => none
theorem numP_some {B : Nat} (hB : B = 63 ∨ B = 64) {l : List UInt8} {n : Nat} (h : numP B l = some n) : l = Lib.decDigits n ∧ n < 2 ^ B := by
  have hp : 2 ^ B - 1 < 18446744073709551616 ∧ 0 < 2 ^ B := by rcases hB with rfl | rfl <;> decide
  unfold numP at h
  rcases hq : Lib.parseUintB B l with v | _ | _
  ·
    rw [hq] at h
    simp only [] at h
    split at h
    · cases h
    · rename_i hz
      have : v = n := by simpa using h
      subst this
      unfold Lib.parseUintB at hq
      split at hq
      · cases hq
      · rename_i hne
        obtain ⟨h1, h2, h3⟩ := parseM_ok l 0 _ v (Nat.zero_le _) hq
        refine ⟨?_, by omega⟩
        have := dec_of l.length l rfl hne h1 (fun hl e => hz ⟨hl, e⟩)
        rw [h2] at this
        exact this.symm
  · rw [hq] at h; cases h
  · rw [hq] at h; cases h
theorem numP_dec {B : Nat} (hB : B = 63 ∨ B = 64) {n : Nat} (h : n < 2 ^ B) : numP B (Lib.decDigits n) = some n := by
  have hp : 2 ^ B - 1 < 18446744073709551616 := by rcases hB with rfl | rfl <;> decide
  obtain ⟨h1, h2, h3, h4⟩ := dec_props n
  have e : Lib.parseUintB B (Lib.decDigits n) = .ok n := by
    unfold Lib.parseUintB
    rw [if_neg h3, parseM_all _ 0 _ hp h1 (by rw [h2]; omega), h2]
  unfold numP
  rw [e]
  simp only []
  rw [if_neg (fun ⟨a, b⟩ => h4 a b)]
end Go.Proofs.YtlephnfepofbbaaDoor

/-
  Plain mathematics of steps and their lines: a step's words, what a reader makes of words, and that it reads just the words of a step that may be.
-/
namespace Go.Proofs.YtlephnfepofbbaaDoor

/-! Splitting at a byte. -/
def splitB (c : UInt8) : List UInt8 → List (List UInt8)
  | [] => [[]]
  | x :: r => if x = c then [] :: splitB c r else match splitB c r with
    | h :: t => (x :: h) :: t
    | [] => [[x]]
def joinW (c : UInt8) : List (List UInt8) → List UInt8
  | [] => []
  | [w] => w
  | w :: v :: r => w ++ c :: joinW c (v :: r)
theorem split_ne (c : UInt8) : ∀ l, splitB c l ≠ []
  | [] => by simp [splitB]
  | x :: r => by
    unfold splitB
    split
    · simp
    · split <;> simp
theorem join_cons (c : UInt8) (w : List UInt8) {ws : List (List UInt8)} (h : ws ≠ []) : joinW c (w :: ws) = w ++ c :: joinW c ws := by
  cases ws with
  | nil => exact absurd rfl h
  | cons v r => rfl
theorem join_split (c : UInt8) : ∀ l, joinW c (splitB c l) = l
  | [] => rfl
  | x :: r => by
    have ih := join_split c r
    have hne := split_ne c r
    unfold splitB
    split
    · rename_i h
      rw [join_cons c _ hne, ih, h]; rfl
    · cases hs : splitB c r with
      | nil => exact absurd hs hne
      | cons h t =>
        rw [hs] at ih
        simp only []
        cases t with
        | nil => show x :: h = x :: r; rw [← ih]; rfl
        | cons v t => rw [join_cons c _ (by simp)]; rw [join_cons c _ (by simp)] at ih; rw [← ih]; rfl
theorem split_none (c : UInt8) : ∀ l, c ∉ l → splitB c l = [l]
  | [], _ => rfl
  | x :: r, h => by
    have hx : ¬ x = c := fun e => h (by simp [e])
    have hr : c ∉ r := fun e => h (List.mem_cons_of_mem _ e)
    unfold splitB
    rw [if_neg hx, split_none c r hr]
theorem split_cut (c : UInt8) : ∀ p r, c ∉ p → splitB c (p ++ c :: r) = p :: splitB c r
  | [], r, _ => by show splitB c (c :: r) = _; rw [splitB, if_pos rfl]
  | x :: p, r, h => by
    have hx : ¬ x = c := fun e => h (by simp [e])
    have hp : c ∉ p := fun e => h (List.mem_cons_of_mem _ e)
    show splitB c (x :: (p ++ c :: r)) = _
    rw [splitB, if_neg hx, split_cut c p r hp]
theorem split_join (c : UInt8) : ∀ ws : List (List UInt8), ws ≠ [] → (∀ w ∈ ws, c ∉ w) → splitB c (joinW c ws) = ws
  | [], h, _ => absurd rfl h
  | [w], _, h => split_none c w (h w (by simp))
  | w :: v :: r, _, h => by
    rw [join_cons c w (by simp), split_cut c w _ (h w (by simp)), split_join c (v :: r) (by simp) (fun x hx => h x (List.mem_cons_of_mem _ hx))]

/-! Steps. -/
structure Mv where
  op : Int
  wire : Int
  n : Int
  b : List UInt8
deriving DecidableEq
structure St where
  t : Nat
  intr : Bool
  ord : List Int
  mv : List Mv
deriving DecidableEq
instance : Inhabited Mv := ⟨⟨0, 0, 0, []⟩⟩
instance : Inhabited St := ⟨⟨0, false, [], []⟩⟩
def hasW (op : Int) : Bool := decide (1 ≤ op) && decide (op ≤ 6)
def hasN (op : Int) : Bool := decide (op = 2) || (decide (op = 6) || decide (op = 7))
def wStep : List UInt8 := [115, 116, 101, 112]
def wIntr : List UInt8 := [105, 110, 116, 114]
def wOrder : List UInt8 := [111, 114, 100, 101, 114]
def wordN : Nat → List UInt8
  | 1 => [112, 117, 116]
  | 2 => [116, 97, 107, 101]
  | 3 => [115, 104, 117, 116]
  | 4 => [99, 108, 111, 115, 101]
  | 5 => [114, 101, 115, 101, 116]
  | 6 => [99, 111, 110, 110, 101, 99, 116]
  | 7 => [114, 97, 105, 115, 101]
  | _ => []
def wordI (op : Int) : List UInt8 := wordN op.toNat
/-- May a move be? -/
def mvOk (m : Mv) : Bool := decide (1 ≤ m.op) && (decide (m.op ≤ 7) && (decide (0 ≤ m.wire) && (decide (0 ≤ m.n) && (decide (m.b.length ≤ 1000) && ((hasW m.op || decide (m.wire = 0)) && ((hasN m.op || decide (m.n = 0)) && (decide (m.op = 1) == !m.b.isEmpty)))))))
def ordOk (l : List Int) : Bool := l.all fun n => decide (0 ≤ n) && decide (n ≤ 999)
/-- May a step be? -/
def stOk (x : St) : Bool := decide (x.mv.length ≤ 50) && (decide (x.ord.length ≤ 50) && (ordOk x.ord && x.mv.all mvOk))
/-- May steps be a script's? -/
def allOk (l : List St) : Bool := decide (l.length ≤ 2000) && l.all stOk

def hexd (n : Nat) : UInt8 := if n < 10 then UInt8.ofNat (48 + n) else UInt8.ofNat (87 + n)
def hexB (l : List UInt8) : List UInt8 := l.flatMap fun b => [hexd (b.toNat / 16), hexd (b.toNat % 16)]
def decI (n : Int) : List UInt8 := Lib.decDigits n.toNat
def ordB (l : List Int) : List UInt8 := joinW 44 (l.map decI)
def moveWs (m : Mv) : List (List UInt8) := wordI m.op :: ((if hasW m.op then [decI m.wire] else []) ++ ((if hasN m.op then [decI m.n] else []) ++ (if m.op = 1 then [hexB m.b] else [])))
def headWs (x : St) : List (List UInt8) := wStep :: Lib.decDigits x.t :: ((if x.intr then [wIntr] else []) ++ (if x.ord = [] then [] else [wOrder, ordB x.ord]))
def stepWs (x : St) : List (List UInt8) := headWs x ++ x.mv.flatMap moveWs
/-- Words, a blank ahead of each. -/
def sp (ws : List (List UInt8)) : List UInt8 := ws.flatMap fun w => 32 :: w
def lineB (x : St) : List UInt8 := joinW 32 (stepWs x)
def textB (l : List St) : List UInt8 := l.flatMap fun x => lineB x ++ [10]
theorem sp_app (a b : List (List UInt8)) : sp (a ++ b) = sp a ++ sp b := by simp [sp]
theorem join_sp : ∀ (w : List UInt8) (ws : List (List UInt8)), joinW 32 (w :: ws) = w ++ sp ws
  | w, [] => by simp [joinW, sp]
  | w, v :: r => by rw [join_cons 32 w (by simp), join_sp v r]; simp [sp]
theorem line_eq (x : St) : lineB x = wStep ++ (32 :: Lib.decDigits x.t ++ ((if x.intr then 32 :: wIntr else []) ++ ((if x.ord = [] then [] else (32 :: wOrder) ++ (32 :: ordB x.ord)) ++ x.mv.flatMap fun m => sp (moveWs m)))) := by
  unfold lineB stepWs headWs
  rw [List.cons_append, join_sp, List.cons_append]
  congr 1
  have e : ∀ (l : List Mv), sp (l.flatMap moveWs) = l.flatMap fun m => sp (moveWs m) := fun l => by
    induction l with
    | nil => rfl
    | cons m l ih => rw [List.flatMap_cons, List.flatMap_cons, sp_app, ih]
  show 32 :: Lib.decDigits x.t ++ sp _ = _
  congr 1
  rw [sp_app, sp_app, e, List.append_assoc]
  congr 1
  · cases x.intr <;> simp [sp]
  · congr 1
    split <;> simp [sp]

/-! Bytes that are in words. -/
theorem hexd_ok (n : Nat) (h : n < 16) : (48 ≤ (hexd n).toNat ∧ (hexd n).toNat ≤ 57) ∨ (97 ≤ (hexd n).toNat ∧ (hexd n).toNat ≤ 102) := by
  unfold hexd
  split
  · left; rw [UInt8.toNat_ofNat']; omega
  · right; rw [UInt8.toNat_ofNat']; omega
def Black (l : List UInt8) : Prop := ∀ c ∈ l, 32 < c.toNat
theorem Black.no {l : List UInt8} (h : Black l) (c : UInt8) (hc : c.toNat ≤ 32) : c ∉ l := fun hm => by have := h c hm; omega
theorem black_dec (n : Nat) : Black (Lib.decDigits n) := fun c hc => by have := (dec_props n).1 c hc; omega
theorem black_hex : ∀ l : List UInt8, Black (hexB l)
  | [], c, h => by simp [hexB] at h
  | b :: l, c, h => by
    have hb := UInt8.toNat_lt b
    unfold hexB at h
    rw [List.flatMap_cons] at h
    rcases List.mem_append.1 h with h | h
    · have : c = hexd (b.toNat / 16) ∨ c = hexd (b.toNat % 16) := by simpa using h
      rcases this with rfl | rfl
      · have := hexd_ok (b.toNat / 16) (by omega); omega
      · have := hexd_ok (b.toNat % 16) (by omega); omega
    · exact black_hex l c h
theorem black_ord : ∀ l : List Int, Black (ordB l)
  | [], c, h => by simp [ordB, joinW] at h
  | [n], c, h => black_dec _ c h
  | n :: m :: l, c, h => by
    unfold ordB at h
    rw [List.map_cons, List.map_cons, join_cons 44 _ (by simp)] at h
    rcases List.mem_append.1 h with h | h
    · exact black_dec _ c h
    · rcases List.mem_cons.1 h with rfl | h
      · decide
      · exact black_ord (m :: l) c h
theorem black_word (op : Int) : Black (wordI op) := by
  unfold wordI wordN
  split <;> (unfold Black; decide)
theorem black_move (m : Mv) : ∀ w ∈ moveWs m, Black w := fun w hw => by
  unfold moveWs at hw
  rcases List.mem_cons.1 hw with rfl | hw
  · exact black_word _
  · rcases List.mem_append.1 hw with hw | hw
    · split at hw
      · have : w = decI m.wire := by simpa using hw
        rw [this]; exact black_dec _
      · simp at hw
    · rcases List.mem_append.1 hw with hw | hw
      · split at hw
        · have : w = decI m.n := by simpa using hw
          rw [this]; exact black_dec _
        · simp at hw
      · split at hw
        · have : w = hexB m.b := by simpa using hw
          rw [this]; exact black_hex _
        · simp at hw
theorem black_step (x : St) : ∀ w ∈ stepWs x, Black w := fun w hw => by
  unfold stepWs headWs at hw
  rcases List.mem_append.1 hw with hw | hw
  · rcases List.mem_cons.1 hw with rfl | hw
    · unfold Black wStep; decide
    rcases List.mem_cons.1 hw with rfl | hw
    · exact black_dec _
    rcases List.mem_append.1 hw with hw | hw
    · split at hw
      · have : w = wIntr := by simpa using hw
        rw [this]; unfold Black wIntr; decide
      · simp at hw
    · split at hw
      · simp at hw
      · have : w = wOrder ∨ w = ordB x.ord := by simpa using hw
        rcases this with rfl | rfl
        · unfold Black wOrder; decide
        · exact black_ord _
  · obtain ⟨m, _, hm⟩ := List.mem_flatMap.1 hw
    exact black_move m w hm
theorem split_line (x : St) : splitB 32 (lineB x) = stepWs x := by
  unfold lineB
  refine split_join 32 _ (by unfold stepWs headWs; simp) fun w hw => (black_step x w hw).no 32 (by decide)
theorem join_black : ∀ ws : List (List UInt8), (∀ w ∈ ws, Black w) → ∀ c ∈ joinW 32 ws, 32 ≤ c.toNat
  | [], _, c, h => by simp [joinW] at h
  | [w], hw, c, h => by have := hw w (by simp) c h; omega
  | w :: v :: r, hw, c, h => by
    rw [join_cons 32 w (by simp)] at h
    rcases List.mem_append.1 h with h | h
    · have := hw w (by simp) c h; omega
    · rcases List.mem_cons.1 h with rfl | h
      · decide
      · exact join_black (v :: r) (fun x hx => hw x (List.mem_cons_of_mem _ hx)) c h
/-- No line feed is in a line. -/
theorem line_nofeed (x : St) : (10 : UInt8) ∉ lineB x := fun h => by
  have := join_black (stepWs x) (black_step x) 10 h
  revert this; decide

/-! What reads a line: word by word. -/
structure Rd where
  next : Nat
  st : St
  mv : Mv
def fromR (next : Nat) (st : St) (mv : Mv) : Option Rd :=
  if next ≤ 6 ∧ hasW mv.op = true then some ⟨6, st, mv⟩
  else if next ≤ 7 ∧ hasN mv.op = true then some ⟨7, st, mv⟩
  else if next ≤ 8 ∧ mv.op = 1 then some ⟨8, st, mv⟩
  else if st.mv.length = 50 then none
  else some ⟨5, { st with mv := st.mv ++ [mv] }, mv⟩
def ordP : List (List UInt8) → List Int → Option (List Int)
  | [], acc => some acc
  | p :: ps, acc => match numP 63 p with
    | some n => if acc.length = 50 then none else ordP ps (acc ++ [(n : Int)])
    | none => none
def hexv (c : UInt8) : Option Nat := if 48 ≤ c.toNat ∧ c.toNat ≤ 57 then some (c.toNat - 48) else if 97 ≤ c.toNat ∧ c.toNat ≤ 102 then some (c.toNat - 87) else none
def unhex : List UInt8 → Option (List UInt8)
  | [] => some []
  | [_] => none
  | a :: b :: r => match hexv a, hexv b, unhex r with
    | some x, some y, some l => some (UInt8.ofNat (16 * x + y) :: l)
    | _, _, _ => none
def dataP (w : List UInt8) : Option (List UInt8) := if w.length % 2 ≠ 0 ∨ 2000 < w.length then none else unhex w
def opOf (w : List UInt8) : Option Nat := [1, 2, 3, 4, 5, 6, 7].find? fun k => decide (w = wordN k)
def partR (r : Rd) (w : List UInt8) : Option Rd :=
  if w = wIntr ∧ r.next = 3 then some ⟨4, { r.st with intr := true }, r.mv⟩
  else if w = wOrder ∧ r.next ≠ 5 then some ⟨2, r.st, r.mv⟩
  else match opOf w with
    | some k => fromR 6 r.st ⟨(k : Int), 0, 0, []⟩
    | none => none
def rdW (r : Rd) (w : List UInt8) : Option Rd :=
  if r.next = 0 then (if w = wStep then some ⟨1, r.st, r.mv⟩ else none)
  else if r.next = 1 then (match numP 64 w with
    | some n => some ⟨3, { r.st with t := n }, r.mv⟩
    | none => none)
  else if r.next = 2 then (match ordP (splitB 44 w) r.st.ord with
    | some l => some ⟨5, { r.st with ord := l }, r.mv⟩
    | none => none)
  else if r.next = 6 then (match numP 63 w with
    | some n => fromR 7 r.st { r.mv with wire := (n : Int) }
    | none => none)
  else if r.next = 7 then (match numP 63 w with
    | some n => fromR 8 r.st { r.mv with n := (n : Int) }
    | none => none)
  else if r.next = 8 then (match dataP w with
    | some b => fromR 9 r.st { r.mv with b := b }
    | none => none)
  else partR r w
def rdAll : List (List UInt8) → Rd → Option Rd
  | [], r => some r
  | w :: ws, r => match rdW r w with
    | some r' => rdAll ws r'
    | none => none
def rd0 : Rd := ⟨0, default, default⟩
/-- The step that a line is the text of. -/
def rdLine (l : List UInt8) : Option St := match rdAll (splitB 32 l) rd0 with
  | some r => if 3 ≤ r.next ∧ r.next ≤ 5 ∧ stOk r.st = true then some r.st else none
  | none => none
end Go.Proofs.YtlephnfepofbbaaDoor

/-
  What a reader of lines takes is the text of a step that may be, and each such text is taken.
-/
namespace Go.Proofs.YtlephnfepofbbaaDoor

/-! What is read was written so. -/
theorem p63 : (2 : Nat) ^ 63 = 9223372036854775808 := by decide
theorem p64 : (2 : Nat) ^ 64 = 18446744073709551616 := by decide
theorem word_len (k : Nat) : (wordN k).length ≤ 7 := by unfold wordN; split <;> simp
theorem opOf_some {w : List UInt8} {k : Nat} (h : opOf w = some k) : w = wordN k ∧ 1 ≤ k ∧ k ≤ 7 := by
  unfold opOf at h
  have h1 := List.find?_some h
  have h2 := List.mem_of_find?_eq_some h
  refine ⟨by simpa using h1, ?_⟩
  simp at h2; omega
theorem opOf_word : ∀ k, 1 ≤ k → k ≤ 7 → opOf (wordN k) = some k := by
  intro k h1 h2
  obtain ⟨j, rfl⟩ : ∃ j : Fin 8, k = j.val := ⟨⟨k, by omega⟩, rfl⟩
  revert h1 h2 j; decide +kernel
theorem hexv_some {c : UInt8} {x : Nat} (h : hexv c = some x) : x < 16 ∧ hexd x = c := by
  unfold hexv at h
  unfold hexd
  split at h
  · have e : c.toNat - 48 = x := by simpa using h
    refine ⟨by omega, ?_⟩
    rw [if_pos (by omega)]
    exact u8_eq (by rw [UInt8.toNat_ofNat']; omega)
  · split at h
    · have e : c.toNat - 87 = x := by simpa using h
      refine ⟨by omega, ?_⟩
      rw [if_neg (by omega)]
      exact u8_eq (by rw [UInt8.toNat_ofNat']; omega)
    · cases h
theorem hexv_hexd (x : Nat) (h : x < 16) : hexv (hexd x) = some x := by
  obtain ⟨j, rfl⟩ : ∃ j : Fin 16, x = j.val := ⟨⟨x, h⟩, rfl⟩
  revert j; decide +kernel
theorem unhex_some : ∀ (w b : List UInt8), unhex w = some b → hexB b = w
  | [], b, h => by have : b = [] := by simpa [unhex] using h.symm
                   subst this; rfl
  | [x], b, h => by cases h
  | x :: y :: r, b, h => by
    unfold unhex at h
    split at h
    · rename_i p q l hp hq hl
      have e : UInt8.ofNat (16 * p + q) :: l = b := by simpa using h
      obtain ⟨p1, p2⟩ := hexv_some hp
      obtain ⟨q1, q2⟩ := hexv_some hq
      have ih := unhex_some r l hl
      rw [← e]
      unfold hexB at ih ⊢
      rw [List.flatMap_cons, ih]
      have e3 : (UInt8.ofNat (16 * p + q)).toNat = 16 * p + q := by rw [UInt8.toNat_ofNat']; omega
      rw [e3, show (16 * p + q) / 16 = p by omega, show (16 * p + q) % 16 = q by omega, p2, q2]
      rfl
    · cases h
theorem hex_len : ∀ b : List UInt8, (hexB b).length = 2 * b.length
  | [] => rfl
  | x :: b => by
    have ih := hex_len b
    unfold hexB at ih ⊢
    rw [List.flatMap_cons, List.length_append, ih]; simp; omega
theorem unhex_hex : ∀ b : List UInt8, unhex (hexB b) = some b
  | [] => rfl
  | x :: b => by
    have ih := unhex_hex b
    have hx := UInt8.toNat_lt x
    unfold hexB at ih ⊢
    rw [List.flatMap_cons]
    show unhex (hexd (x.toNat / 16) :: hexd (x.toNat % 16) :: List.flatMap _ b) = _
    unfold unhex
    rw [hexv_hexd _ (by omega), hexv_hexd _ (by omega), ih]
    simp only []
    rw [show 16 * (x.toNat / 16) + x.toNat % 16 = x.toNat by omega]
    congr 2
    exact u8_eq (by rw [UInt8.toNat_ofNat']; omega)
theorem dataP_some {w b : List UInt8} (h : dataP w = some b) : hexB b = w ∧ b.length ≤ 1000 := by
  unfold dataP at h
  split at h
  · cases h
  · have e := unhex_some w b h
    refine ⟨e, ?_⟩
    have := hex_len b
    rw [e] at this
    omega
theorem dataP_hex (b : List UInt8) (h : b.length ≤ 1000) : dataP (hexB b) = some b := by
  unfold dataP
  rw [if_neg (by rw [hex_len]; omega), unhex_hex]
theorem ordP_some : ∀ (ps : List (List UInt8)) (acc l : List Int), ordP ps acc = some l → ∃ ns : List Int, l = acc ++ ns ∧ ps = ns.map decI ∧ ∀ n ∈ ns, 0 ≤ n ∧ n < 9223372036854775808
  | [], acc, l, h => ⟨[], by simpa [ordP] using h.symm, rfl, fun n hn => by simp at hn⟩
  | p :: ps, acc, l, h => by
    unfold ordP at h
    cases hn : numP 63 p with
    | none => rw [hn] at h; cases h
    | some n =>
      rw [hn] at h
      simp only [] at h
      split at h
      · cases h
      · obtain ⟨ns, h1, h2, h3⟩ := ordP_some ps _ l h
        obtain ⟨e, hb⟩ := numP_some (Or.inl rfl) hn
        refine ⟨(n : Int) :: ns, by rw [h1]; simp, ?_, fun x hx => ?_⟩
        · rw [List.map_cons, ← h2, e]; rfl
        · rcases List.mem_cons.1 hx with rfl | hx
          · rw [p63] at hb; omega
          · exact h3 x hx
theorem ordP_map : ∀ (ns acc : List Int), (∀ n ∈ ns, 0 ≤ n ∧ n < 9223372036854775808) → acc.length + ns.length ≤ 50 → ordP (ns.map decI) acc = some (acc ++ ns)
  | [], acc, _, _ => by simp [ordP]
  | n :: ns, acc, h, hl => by
    have hn := h n (by simp)
    have e : numP 63 (decI n) = some n.toNat := numP_dec (Or.inl rfl) (by rw [p63]; omega)
    rw [List.map_cons, ordP, e]
    simp only []
    simp only [List.length_cons] at hl
    rw [if_neg (by omega), show ((n.toNat : Nat) : Int) = n by omega, ordP_map ns _ (fun x hx => h x (List.mem_cons_of_mem _ hx)) (by simp; omega)]
    simp

/-- The words that were read. -/
def doneWs (r : Rd) : List (List UInt8) :=
  if r.next = 0 then []
  else if r.next = 1 then [wStep]
  else if r.next = 2 then stepWs r.st ++ [wOrder]
  else if r.next = 6 then stepWs r.st ++ [wordI r.mv.op]
  else if r.next = 7 then stepWs r.st ++ wordI r.mv.op :: (if hasW r.mv.op then [decI r.mv.wire] else [])
  else if r.next = 8 then stepWs r.st ++ wordI r.mv.op :: (if hasW r.mv.op then [decI r.mv.wire] else [])
  else stepWs r.st
structure RdI (r : Rd) : Prop where
  le : r.next ≤ 8
  zero : r.next ≤ 1 → r.st = default
  two : 2 ≤ r.next → r.next ≤ 4 → r.st.ord = [] ∧ r.st.mv = []
  three : r.next = 3 → r.st.intr = false
  six : r.next = 6 → hasW r.mv.op = true
  seven : r.next = 7 → hasN r.mv.op = true
  eight : r.next = 8 → r.mv.op = 1
  t : r.st.t < 18446744073709551616
  pos : ∀ m ∈ r.st.mv, (0 ≤ m.wire ∧ m.wire < 9223372036854775808) ∧ (0 ≤ m.n ∧ m.n < 9223372036854775808)
  mpos : (0 ≤ r.mv.wire ∧ r.mv.wire < 9223372036854775808) ∧ (0 ≤ r.mv.n ∧ r.mv.n < 9223372036854775808)
theorem step_mv (st : St) (m : Mv) : stepWs { st with mv := st.mv ++ [m] } = stepWs st ++ moveWs m := by
  unfold stepWs headWs
  simp
theorem hasN_one : hasN 1 = false := by decide
theorem fromR_some {next : Nat} {st : St} {mv : Mv} {r : Rd} (h : fromR next st mv = some r) :
    (r = ⟨6, st, mv⟩ ∧ next ≤ 6 ∧ hasW mv.op = true) ∨ (r = ⟨7, st, mv⟩ ∧ next ≤ 7 ∧ hasN mv.op = true ∧ ¬ (next ≤ 6 ∧ hasW mv.op = true)) ∨ (r = ⟨8, st, mv⟩ ∧ next ≤ 8 ∧ mv.op = 1 ∧ ¬ (next ≤ 6 ∧ hasW mv.op = true)) ∨
    (r = ⟨5, { st with mv := st.mv ++ [mv] }, mv⟩ ∧ st.mv.length ≠ 50 ∧ ¬ (next ≤ 6 ∧ hasW mv.op = true) ∧ ¬ (next ≤ 7 ∧ hasN mv.op = true) ∧ ¬ (next ≤ 8 ∧ mv.op = 1)) := by
  unfold fromR at h
  split at h
  · rename_i h1; exact .inl ⟨by simpa using h.symm, h1.1, h1.2⟩
  · rename_i h1
    split at h
    · rename_i h2; exact .inr (.inl ⟨by simpa using h.symm, h2.1, h2.2, h1⟩)
    · rename_i h2
      split at h
      · rename_i h3; exact .inr (.inr (.inl ⟨by simpa using h.symm, h3.1, h3.2, h1⟩))
      · rename_i h3
        split at h
        · cases h
        · rename_i h4; exact .inr (.inr (.inr ⟨by simpa using h.symm, h4, h1, h2, h3⟩))
theorem mv_bounds {st : St} {mv : Mv} (h : ∀ m ∈ st.mv, (0 ≤ m.wire ∧ m.wire < 9223372036854775808) ∧ (0 ≤ m.n ∧ m.n < 9223372036854775808)) (hm : (0 ≤ mv.wire ∧ mv.wire < 9223372036854775808) ∧ (0 ≤ mv.n ∧ mv.n < 9223372036854775808)) :
    ∀ m ∈ st.mv ++ [mv], (0 ≤ m.wire ∧ m.wire < 9223372036854775808) ∧ (0 ≤ m.n ∧ m.n < 9223372036854775808) := fun m h1 => by
  rcases List.mem_append.1 h1 with h1 | h1
  · exact h m h1
  · have : m = mv := by simpa using h1
    rw [this]; exact hm

theorem rdW_some {r r' : Rd} {w : List UInt8} (hI : RdI r) (h : rdW r w = some r') : RdI r' ∧ doneWs r' = doneWs r ++ [w] := by
  obtain ⟨next, st, mv⟩ := r
  obtain ⟨le, zero, two, three, six, seven, eight, ht, pos, mpos⟩ := hI
  simp only [] at le zero two three six seven eight ht pos mpos
  unfold rdW at h
  simp only [] at h
  by_cases h0 : next = 0
  · rw [if_pos h0] at h
    subst h0
    split at h
    · rename_i hw
      have e : r' = ⟨1, st, mv⟩ := by simpa using h.symm
      subst e
      exact ⟨⟨by simp, fun _ => zero (by omega), fun h => by simp at h, fun h => by simp at h, fun h => by simp at h, fun h => by simp at h, fun h => by simp at h, ht, pos, mpos⟩, by simp [doneWs, hw]⟩
    · cases h
  rw [if_neg h0] at h
  by_cases h1 : next = 1
  · rw [if_pos h1] at h
    subst h1
    have hz := zero (by omega)
    subst hz
    cases hn : numP 64 w with
    | none => rw [hn] at h; cases h
    | some n =>
      rw [hn] at h
      have e : r' = ⟨3, { (default : St) with t := n }, mv⟩ := by simpa using h.symm
      subst e
      obtain ⟨hw, hb⟩ := numP_some (Or.inr rfl) hn
      rw [p64] at hb
      exact ⟨⟨by simp, fun h => by simp at h, fun _ _ => ⟨rfl, rfl⟩, fun _ => rfl, fun h => by simp at h, fun h => by simp at h, fun h => by simp at h, hb, pos, mpos⟩, by simp [doneWs, hw, stepWs, headWs, default]⟩
  rw [if_neg h1] at h
  by_cases h2 : next = 2
  · rw [if_pos h2] at h
    subst h2
    obtain ⟨ho, hm⟩ := two (by omega) (by omega)
    obtain ⟨t, intr, ord, ms⟩ := st
    simp only [] at ho hm ht h
    subst ho hm
    cases hn : ordP (splitB 44 w) [] with
    | none => rw [hn] at h; cases h
    | some l =>
      rw [hn] at h
      have e : r' = ⟨5, ⟨t, intr, l, []⟩, mv⟩ := by simpa using h.symm
      subst e
      obtain ⟨ns, e1, e2, _⟩ := ordP_some _ _ _ hn
      rw [List.nil_append] at e1
      subst e1
      have hw : ordB l = w := by unfold ordB; rw [← e2, join_split]
      have hne : l ≠ [] := fun e => split_ne 44 w (by rw [e2, e]; rfl)
      exact ⟨⟨by simp, fun h => by simp at h, fun h => by simp, fun h => by simp at h, fun h => by simp at h, fun h => by simp at h, fun h => by simp at h, ht, pos, mpos⟩, by simp [doneWs, stepWs, headWs, hne, hw]⟩
  rw [if_neg h2] at h
  by_cases h6 : next = 6
  · rw [if_pos h6] at h
    subst h6
    have hw6 := six rfl
    cases hn : numP 63 w with
    | none => rw [hn] at h; cases h
    | some n =>
      rw [hn] at h
      simp only [] at h
      obtain ⟨hw, hb⟩ := numP_some (Or.inl rfl) hn
      rw [p63] at hb
      have hd : decI (n : Int) = w := by unfold decI; rw [Int.toNat_natCast, hw]
      have hmp : (0 ≤ (n : Int) ∧ (n : Int) < 9223372036854775808) ∧ (0 ≤ mv.n ∧ mv.n < 9223372036854775808) := ⟨⟨by omega, by omega⟩, mpos.2⟩
      rcases fromR_some h with ⟨rfl, h3, _⟩ | ⟨rfl, _, h4, _⟩ | ⟨rfl, _, h4, _⟩ | ⟨rfl, _, _, h4, h5⟩
      · omega
      · exact ⟨⟨by simp, fun h => by simp at h, fun h => by simp, fun h => by simp at h, fun h => by simp at h, fun _ => h4, fun h => by simp at h, ht, pos, hmp⟩, by simp [doneWs, hw6, hd]⟩
      · exact ⟨⟨by simp, fun h => by simp at h, fun h => by simp, fun h => by simp at h, fun h => by simp at h, fun h => by simp at h, fun _ => h4, ht, pos, hmp⟩, by simp [doneWs, hw6, hd]⟩
      · have hN : hasN mv.op = false := by cases hq : hasN mv.op with
          | false => rfl
          | true => exact absurd ⟨by omega, hq⟩ h4
        have hO : ¬ mv.op = 1 := fun e => h5 ⟨by omega, e⟩
        exact ⟨⟨by simp, fun h => by simp at h, fun h => by simp, fun h => by simp at h, fun h => by simp at h, fun h => by simp at h, fun h => by simp at h, ht, mv_bounds pos hmp, hmp⟩, by simp only [doneWs]; rw [step_mv]; simp [moveWs, hw6, hd, hN, hO]⟩
  rw [if_neg h6] at h
  by_cases h7 : next = 7
  · rw [if_pos h7] at h
    subst h7
    have hw7 := seven rfl
    cases hn : numP 63 w with
    | none => rw [hn] at h; cases h
    | some n =>
      rw [hn] at h
      simp only [] at h
      obtain ⟨hw, hb⟩ := numP_some (Or.inl rfl) hn
      rw [p63] at hb
      have hd : decI (n : Int) = w := by unfold decI; rw [Int.toNat_natCast, hw]
      have hO : ¬ mv.op = 1 := fun e => by rw [e, hasN_one] at hw7; cases hw7
      have hmp : (0 ≤ mv.wire ∧ mv.wire < 9223372036854775808) ∧ (0 ≤ (n : Int) ∧ (n : Int) < 9223372036854775808) := ⟨mpos.1, ⟨by omega, by omega⟩⟩
      rcases fromR_some h with ⟨rfl, h3, _⟩ | ⟨rfl, h3, _⟩ | ⟨rfl, _, h4, _⟩ | ⟨rfl, _, _, _, _⟩
      · omega
      · omega
      · exact absurd h4 hO
      · exact ⟨⟨by simp, fun h => by simp at h, fun h => by simp, fun h => by simp at h, fun h => by simp at h, fun h => by simp at h, fun h => by simp at h, ht, mv_bounds pos hmp, hmp⟩, by simp only [doneWs]; rw [step_mv]; simp [moveWs, hw7, hd, hO]⟩
  rw [if_neg h7] at h
  by_cases h8 : next = 8
  · rw [if_pos h8] at h
    subst h8
    have hO := eight rfl
    obtain ⟨op, wire, n, b0⟩ := mv
    simp only [] at hO h mpos
    subst hO
    cases hn : dataP w with
    | none => rw [hn] at h; cases h
    | some b =>
      rw [hn] at h
      simp only [] at h
      obtain ⟨hw, hb⟩ := dataP_some hn
      rcases fromR_some h with ⟨rfl, h3, _⟩ | ⟨rfl, h3, _⟩ | ⟨rfl, h3, _⟩ | ⟨rfl, _, _, _, _⟩
      · omega
      · omega
      · omega
      · exact ⟨⟨by simp, fun h => by simp at h, fun h => by simp, fun h => by simp at h, fun h => by simp at h, fun h => by simp at h, fun h => by simp at h, ht, mv_bounds pos mpos, mpos⟩, by simp only [doneWs]; rw [step_mv]; simp [moveWs, hasN_one, hw]⟩
  rw [if_neg h8] at h
  unfold partR at h
  simp only [] at h
  have hd : doneWs ⟨next, st, mv⟩ = stepWs st := by unfold doneWs; simp only []; rw [if_neg h0, if_neg h1, if_neg h2, if_neg h6, if_neg h7, if_neg h8]
  rw [hd]
  by_cases hi : w = wIntr ∧ next = 3
  · rw [if_pos hi] at h
    obtain ⟨hw, h3⟩ := hi
    subst h3
    obtain ⟨ho, hm⟩ := two (by omega) (by omega)
    have hint := three rfl
    have e : r' = ⟨4, { st with intr := true }, mv⟩ := by simpa using h.symm
    subst e
    exact ⟨⟨by simp, fun h => by simp at h, fun _ _ => ⟨ho, hm⟩, fun h => by simp at h, fun h => by simp at h, fun h => by simp at h, fun h => by simp at h, ht, pos, mpos⟩, by simp [doneWs, stepWs, headWs, ho, hm, hint, hw]⟩
  rw [if_neg hi] at h
  by_cases hor : w = wOrder ∧ next ≠ 5
  · rw [if_pos hor] at h
    obtain ⟨hw, h5⟩ := hor
    obtain ⟨ho, hm⟩ := two (by omega) (by omega)
    have e : r' = ⟨2, st, mv⟩ := by simpa using h.symm
    subst e
    exact ⟨⟨by simp, fun h => by simp at h, fun _ _ => ⟨ho, hm⟩, fun h => by simp at h, fun h => by simp at h, fun h => by simp at h, fun h => by simp at h, ht, pos, mpos⟩, by simp [doneWs, hw]⟩
  rw [if_neg hor] at h
  cases hop : opOf w with
  | none => rw [hop] at h; cases h
  | some k =>
    rw [hop] at h
    simp only [] at h
    obtain ⟨hw, hk1, hk7⟩ := opOf_some hop
    have hwi : wordI ((k : Nat) : Int) = w := by unfold wordI; rw [Int.toNat_natCast, hw]
    rcases fromR_some h with ⟨rfl, _, h4⟩ | ⟨rfl, _, h4, h5⟩ | ⟨rfl, _, h4, h5⟩ | ⟨rfl, _, h3, h4, h5⟩
    · exact ⟨⟨by simp, fun h => by simp at h, fun h => by simp, fun h => by simp at h, fun _ => h4, fun h => by simp at h, fun h => by simp at h, ht, pos, by simp⟩, by simp [doneWs, hwi]⟩
    · have hW : hasW (k : Int) = false := by cases hq : hasW (k : Int) with
        | false => rfl
        | true => exact absurd ⟨by omega, hq⟩ h5
      exact ⟨⟨by simp, fun h => by simp at h, fun h => by simp, fun h => by simp at h, fun h => by simp at h, fun _ => h4, fun h => by simp at h, ht, pos, by simp⟩, by simp [doneWs, hwi, hW]⟩
    · simp only [] at h4 h5
      rw [h4] at h5
      exact absurd ⟨by omega, by decide⟩ h5
    · exfalso
      simp only [] at h3 h4
      have : hasW (k : Int) = true ∨ hasN (k : Int) = true := by
        obtain ⟨j, rfl⟩ : ∃ j : Fin 8, k = j.val := ⟨⟨k, by omega⟩, rfl⟩
        revert hk1 hk7; clear h h3 h4 h5 hop hw hwi; revert j; decide
      rcases this with h | h
      · exact h3 ⟨by omega, h⟩
      · exact h4 ⟨by omega, h⟩
theorem rdAll_some : ∀ (ws : List (List UInt8)) (r r' : Rd), RdI r → rdAll ws r = some r' → RdI r' ∧ doneWs r' = doneWs r ++ ws
  | [], r, r', hI, h => by
    have : r = r' := by simpa [rdAll] using h
    subst this; exact ⟨hI, by simp⟩
  | w :: ws, r, r', hI, h => by
    unfold rdAll at h
    cases hq : rdW r w with
    | none => rw [hq] at h; cases h
    | some r1 =>
      rw [hq] at h
      obtain ⟨h1, h2⟩ := rdW_some hI hq
      obtain ⟨h3, h4⟩ := rdAll_some ws r1 r' h1 h
      exact ⟨h3, by rw [h4, h2]; simp⟩
/-- Numbers that a step's fields can hold. -/
def St.In (x : St) : Prop := x.t < 18446744073709551616 ∧ (∀ m ∈ x.mv, (-9223372036854775808 ≤ m.wire ∧ m.wire < 9223372036854775808) ∧ (-9223372036854775808 ≤ m.n ∧ m.n < 9223372036854775808))
theorem rdLine_some {l : List UInt8} {x : St} (h : rdLine l = some x) : lineB x = l ∧ stOk x = true ∧ x.In := by
  unfold rdLine at h
  cases hq : rdAll (splitB 32 l) rd0 with
  | none => rw [hq] at h; cases h
  | some r =>
    rw [hq] at h
    simp only [] at h
    split at h
    · rename_i hc
      obtain ⟨h3, h5, hok⟩ := hc
      have e : r.st = x := by simpa using h
      subst e
      obtain ⟨hI, hd⟩ := rdAll_some _ rd0 _ ⟨by decide, fun _ => rfl, fun h => by simp [rd0] at h, fun h => by simp [rd0] at h, fun h => by simp [rd0] at h, fun h => by simp [rd0] at h, fun h => by simp [rd0] at h, by decide, fun m hm => by simp [rd0, default] at hm, by decide⟩ hq
      have e2 : doneWs r = stepWs r.st := by
        unfold doneWs
        rw [if_neg (by omega), if_neg (by omega), if_neg (by omega), if_neg (by omega), if_neg (by omega), if_neg (by omega)]
      rw [e2] at hd
      have e3 : stepWs r.st = splitB 32 l := by rw [hd]; rfl
      exact ⟨by unfold lineB; rw [e3, join_split], hok, hI.t, fun m hm => by have := hI.pos m hm; omega⟩
    · cases h

/-! Each such text is read. -/
theorem rdAll_app : ∀ (ws vs : List (List UInt8)) (r : Rd), rdAll (ws ++ vs) r = (match rdAll ws r with
    | some r' => rdAll vs r'
    | none => none)
  | [], vs, r => rfl
  | w :: ws, vs, r => by
    rw [List.cons_append, rdAll, rdAll]
    cases rdW r w with
    | none => rfl
    | some r1 => exact rdAll_app ws vs r1
theorem mvOk_parts {m : Mv} (h : mvOk m = true) : (1 ≤ m.op ∧ m.op ≤ 7) ∧ 0 ≤ m.wire ∧ 0 ≤ m.n ∧ m.b.length ≤ 1000 ∧ (hasW m.op = false → m.wire = 0) ∧ (hasN m.op = false → m.n = 0) ∧ (¬ m.op = 1 → m.b = []) ∧ (m.op = 1 → m.b ≠ []) := by
  unfold mvOk at h
  simp only [Bool.and_eq_true, Bool.or_eq_true, decide_eq_true_eq, beq_iff_eq] at h
  obtain ⟨h1, h2, h3, h4, h5, h6, h7, h8⟩ := h
  refine ⟨⟨h1, h2⟩, h3, h4, h5, fun e => ?_, fun e => ?_, fun e => ?_, fun e => ?_⟩
  · rcases h6 with h6 | h6
    · rw [e] at h6; cases h6
    · exact h6
  · rcases h7 with h7 | h7
    · rw [e] at h7; cases h7
    · exact h7
  · have : decide (m.op = 1) = false := by simpa using e
    rw [this] at h8
    cases hb : m.b with
    | nil => rfl
    | cons a l => rw [hb] at h8; cases h8
  · have : decide (m.op = 1) = true := by simpa using e
    rw [this] at h8
    intro hb
    rw [hb] at h8; cases h8
theorem numP_I {n : Int} (h0 : 0 ≤ n) (h1 : n < 9223372036854775808) : ∃ k : Nat, n = (k : Int) ∧ numP 63 (decI n) = some k := by
  obtain ⟨k, rfl⟩ : ∃ k : Nat, n = k := ⟨n.toNat, by omega⟩
  refine ⟨k, rfl, ?_⟩
  unfold decI
  rw [Int.toNat_natCast]
  exact numP_dec (Or.inl rfl) (by rw [p63]; omega)
theorem word_ne (k : Nat) : wordN k ≠ wIntr ∧ wordN k ≠ wOrder := by
  unfold wordN
  split <;> (unfold wIntr wOrder; decide)
theorem rd_move (st : St) (m m0 : Mv) (next : Nat) (hn : 3 ≤ next ∧ next ≤ 5) (h : mvOk m = true) (hin : m.wire < 9223372036854775808 ∧ m.n < 9223372036854775808) (hl : st.mv.length < 50) :
    rdAll (moveWs m) ⟨next, st, m0⟩ = some ⟨5, { st with mv := st.mv ++ [m] }, m⟩ := by
  obtain ⟨⟨h1, h7⟩, hw, hnn, hb, h3, h4, h5, h6⟩ := mvOk_parts h
  obtain ⟨op, wire, n, b⟩ := m
  simp only [] at h1 h7 hw hnn hb h3 h4 h5 h6 hin
  obtain ⟨k, rfl⟩ : ∃ k : Nat, op = (k : Int) := ⟨op.toNat, by omega⟩
  obtain ⟨x, rfl, ex⟩ := numP_I hw hin.1
  obtain ⟨y, rfl, ey⟩ := numP_I hnn hin.2
  have eop := opOf_word k (by omega) (by omega)
  have e1 : rdW ⟨next, st, m0⟩ (wordI (k : Int)) = fromR 6 st ⟨(k : Int), 0, 0, []⟩ := by
    unfold wordI
    rw [Int.toNat_natCast]
    unfold rdW
    simp only []
    rw [if_neg (by omega), if_neg (by omega), if_neg (by omega), if_neg (by omega), if_neg (by omega), if_neg (by omega)]
    unfold partR
    rw [if_neg (fun e => (word_ne k).1 e.1), if_neg (fun e => (word_ne k).2 e.1), eop]
  have hl' : ¬ st.mv.length = 50 := by omega
  unfold moveWs
  simp only []
  rw [rdAll, e1]
  rcases Nat.lt_or_ge k 2 with hk | hk
  · -- put
    obtain rfl : k = 1 := by omega
    obtain rfl : y = 0 := by have := h4 hasN_one; omega
    have hd := dataP_hex b hb
    simp only [fromR, rdAll, rdW, ex, show hasW ((1 : Nat) : Int) = true from rfl, show hasN ((1 : Nat) : Int) = false from rfl, if_true, List.cons_append, List.nil_append]
    simp [fromR, rdAll, rdW, hd, hl', show hasN 1 = false from rfl]
  · have hO : ¬ ((k : Nat) : Int) = 1 := by omega
    obtain rfl : b = [] := h5 hO
    cases eW : hasW ((k : Nat) : Int) with
    | true =>
      cases eN : hasN ((k : Nat) : Int) with
      | true => simp [fromR, rdAll, rdW, ex, ey, hl', eW, eN, hO]
      | false =>
        obtain rfl : y = 0 := by have := h4 eN; omega
        simp [fromR, rdAll, rdW, ex, hl', eW, eN, hO]
    | false =>
      obtain rfl : x = 0 := by have := h3 eW; omega
      cases eN : hasN ((k : Nat) : Int) with
      | true => simp [fromR, rdAll, rdW, ey, hl', eW, eN, hO]
      | false =>
        exfalso
        have : k ≤ 7 := by omega
        obtain ⟨j, rfl⟩ : ∃ j : Fin 8, k = j.val := ⟨⟨k, by omega⟩, rfl⟩
        clear h3 h4 h5 h6 ex ey e1 eop hO h hin hw hnn hb
        revert hk eW eN h1 h7 this; revert j; decide
theorem rd_moves (y : St) : ∀ (ms : List Mv) (st : St) (m0 : Mv) (next : Nat), 3 ≤ next ∧ next ≤ 5 → (∀ m ∈ ms, mvOk m = true) → (∀ m ∈ ms, m.wire < 9223372036854775808 ∧ m.n < 9223372036854775808) → st.mv.length + ms.length ≤ 50 → y = { st with mv := st.mv ++ ms } →
    ∃ next' m', (3 ≤ next' ∧ next' ≤ 5) ∧ rdAll (ms.flatMap moveWs) ⟨next, st, m0⟩ = some ⟨next', y, m'⟩
  | [], st, m0, next, hn, _, _, _, hy => ⟨next, m0, hn, by rw [hy]; simp [rdAll]⟩
  | m :: ms, st, m0, next, hn, hok, hin, hl, hy => by
    simp only [List.length_cons] at hl
    obtain ⟨n', m', h1, h2⟩ := rd_moves y ms { st with mv := st.mv ++ [m] } m 5 (by omega) (fun x hx => hok x (List.mem_cons_of_mem _ hx)) (fun x hx => hin x (List.mem_cons_of_mem _ hx)) (by simp; omega) (by rw [hy]; simp)
    refine ⟨n', m', h1, ?_⟩
    rw [List.flatMap_cons, rdAll_app, rd_move st m m0 next hn (hok m (by simp)) (hin m (by simp)) (by omega)]
    exact h2
theorem stOk_parts {x : St} (h : stOk x = true) : x.mv.length ≤ 50 ∧ x.ord.length ≤ 50 ∧ (∀ n ∈ x.ord, 0 ≤ n ∧ n ≤ 999) ∧ ∀ m ∈ x.mv, mvOk m = true := by
  unfold stOk ordOk at h
  simp only [Bool.and_eq_true, decide_eq_true_eq, List.all_eq_true] at h
  exact h
theorem rdLine_line (x : St) (h : stOk x = true) (hin : x.In) : rdLine (lineB x) = some x := by
  obtain ⟨h1, h2, h3, h4⟩ := stOk_parts h
  obtain ⟨t, intr, ord, ms⟩ := x
  have ht : t < 18446744073709551616 := hin.1
  have hms := hin.2
  simp only [] at h1 h2 h3 h4 ht hms
  have e0 : rdAll (headWs ⟨t, intr, ord, ms⟩) rd0 = some ⟨if ord = [] then (if intr = true then 4 else 3) else 5, ⟨t, intr, ord, []⟩, default⟩ := by
    have e1 : numP 64 (Lib.decDigits t) = some t := numP_dec (Or.inr rfl) (by rw [p64]; exact ht)
    have eI : ∀ (st : St), rdW ⟨3, st, default⟩ wIntr = some ⟨4, { st with intr := true }, default⟩ := fun st => by simp [rdW, partR]
    have eO : ∀ (st : St) (k : Nat), k = 3 ∨ k = 4 → rdW ⟨k, st, default⟩ wOrder = some ⟨2, st, default⟩ := fun st k hk => by
      have hne : ¬ wOrder = wIntr := by decide
      rcases hk with rfl | rfl <;> simp [rdW, partR, hne]
    have eP : ord ≠ [] → ∀ i, rdW ⟨2, ⟨t, i, [], []⟩, default⟩ (ordB ord) = some ⟨5, ⟨t, i, ord, []⟩, default⟩ := fun hne i => by
      have hs : splitB 44 (ordB ord) = ord.map decI := by
        unfold ordB
        refine split_join 44 _ (by simpa using hne) fun w hw => ?_
        obtain ⟨n, _, rfl⟩ := List.mem_map.1 hw
        intro hc
        have := (dec_props n.toNat).1 44 hc
        revert this; decide
      have hp := ordP_map ord [] (fun n hn => by have := h3 n hn; omega) (by simpa using h2)
      simp [rdW, hs, hp]
    have eS : rdW rd0 wStep = some ⟨1, default, default⟩ := by simp [rdW, rd0]
    have eT : rdW ⟨1, default, default⟩ (Lib.decDigits t) = some ⟨3, ⟨t, false, [], []⟩, default⟩ := by simp only [rdW, e1]; rfl
    unfold headWs
    simp only []
    rw [rdAll, eS]
    simp only []
    rw [rdAll, eT]
    simp only []
    cases intr with
    | true =>
      rw [if_pos rfl, if_pos rfl, List.cons_append, rdAll, eI]
      simp only []
      by_cases ho : ord = []
      · rw [if_pos ho, if_pos ho, ho]; rfl
      · rw [if_neg ho, if_neg ho]
        show rdAll [wOrder, ordB ord] _ = _
        rw [rdAll, eO _ _ (Or.inr rfl)]
        simp only []
        rw [rdAll, eP ho]
        rfl
    | false =>
      by_cases ho : ord = []
      · subst ho; rfl
      · simp only [if_neg ho]
        show rdAll [wOrder, ordB ord] _ = _
        rw [rdAll, eO _ _ (Or.inl rfl)]
        simp only []
        rw [rdAll, eP ho]
        rfl
  obtain ⟨n', m', hn', e2⟩ := rd_moves ⟨t, intr, ord, ms⟩ ms ⟨t, intr, ord, []⟩ default (if ord = [] then (if intr = true then 4 else 3) else 5) (by split <;> (try split) <;> omega) h4 (fun m hm => by have := hms m hm; omega) (by simpa using h1) (by simp)
  unfold rdLine
  rw [split_line]
  unfold stepWs
  rw [rdAll_app, e0]
  simp only []
  rw [e2]
  simp only []
  rw [if_pos ⟨hn'.1, hn'.2, h⟩]
end Go.Proofs.YtlephnfepofbbaaDoor

/-
  A text of steps: line by line; what is read of it was written, and what is written is read.
-/
namespace Go.Proofs.YtlephnfepofbbaaDoor

/-- What reads the pieces between line feeds: the steps, or the number of the line that is wrong. -/
def parseL : List (List UInt8) → Nat → List St → Except Nat (List St)
  | [], _, acc => .ok acc
  | [p], n, acc => if p = [] then .ok acc else .error (n + 1)
  | p :: q :: ps, n, acc => match rdLine p with
    | some x => if 2000 < n + 1 then .error (n + 1) else parseL (q :: ps) (n + 1) (acc ++ [x])
    | none => .error (n + 1)
def parseS (s : List UInt8) : Except Nat (List St) := parseL (splitB 10 s) 0 []

theorem parseL_ok : ∀ (ps : List (List UInt8)) (n : Nat) (acc l : List St), ps ≠ [] → parseL ps n acc = .ok l → n ≤ 2000 → acc.length = n →
    ∃ xs, l = acc ++ xs ∧ ps = xs.map lineB ++ [[]] ∧ (∀ x ∈ xs, stOk x = true ∧ x.In) ∧ n + xs.length ≤ 2000
  | [], n, acc, l, h, _, _, _ => absurd rfl h
  | [p], n, acc, l, _, h, hn, _ => by
    unfold parseL at h
    split at h
    · rename_i hp
      have : acc = l := by simpa using h
      exact ⟨[], by simp [this], by simp [hp], fun x hx => by simp at hx, by simpa using hn⟩
    · cases h
  | p :: q :: ps, n, acc, l, _, h, hn, ha => by
    unfold parseL at h
    cases hr : rdLine p with
    | none => rw [hr] at h; cases h
    | some x =>
      rw [hr] at h
      simp only [] at h
      split at h
      · cases h
      · obtain ⟨xs, h1, h2, h3, h4⟩ := parseL_ok (q :: ps) (n + 1) _ l (by simp) h (by omega) (by simp [ha])
        obtain ⟨e1, e2, e3⟩ := rdLine_some hr
        refine ⟨x :: xs, by rw [h1]; simp, by rw [List.map_cons, e1, h2]; rfl, fun y hy => ?_, by simp; omega⟩
        rcases List.mem_cons.1 hy with rfl | hy
        · exact ⟨e2, e3⟩
        · exact h3 y hy
theorem join_lines : ∀ l : List St, joinW 10 (l.map lineB ++ [[]]) = textB l
  | [] => rfl
  | x :: l => by
    rw [List.map_cons, List.cons_append, join_cons 10 _ (by simp), join_lines l]
    unfold textB
    rw [List.flatMap_cons]; simp
theorem allOk_parts {l : List St} (h : allOk l = true) : l.length ≤ 2000 ∧ ∀ x ∈ l, stOk x = true := by
  unfold allOk at h
  simp only [Bool.and_eq_true, decide_eq_true_eq, List.all_eq_true] at h
  exact h
theorem allOk_mk {l : List St} (h : l.length ≤ 2000) (h2 : ∀ x ∈ l, stOk x = true) : allOk l = true := by
  unfold allOk
  simp only [Bool.and_eq_true, decide_eq_true_eq, List.all_eq_true]
  exact ⟨h, h2⟩
/-- What is read of a text, as text, is that text. -/
theorem parseS_ok {s : List UInt8} {l : List St} (h : parseS s = .ok l) : textB l = s ∧ allOk l = true ∧ ∀ x ∈ l, x.In := by
  obtain ⟨xs, h1, h2, h3, h4⟩ := parseL_ok _ _ _ _ (split_ne 10 s) h (by omega) rfl
  rw [List.nil_append] at h1
  subst h1
  exact ⟨by rw [← join_lines, ← h2, join_split], allOk_mk (by omega) (fun x hx => (h3 x hx).1), fun x hx => (h3 x hx).2⟩
theorem split_lines : ∀ l : List St, splitB 10 (textB l) = l.map lineB ++ [[]]
  | [] => rfl
  | x :: l => by
    unfold textB
    rw [List.flatMap_cons, List.append_assoc]
    show splitB 10 (lineB x ++ 10 :: textB l) = _
    rw [split_cut 10 _ _ (line_nofeed x), split_lines l]; rfl
theorem parseL_map : ∀ (xs : List St) (n : Nat) (acc : List St), (∀ x ∈ xs, stOk x = true ∧ x.In) → n + xs.length ≤ 2000 → parseL (xs.map lineB ++ [[]]) n acc = .ok (acc ++ xs)
  | [], n, acc, _, _ => by simp [parseL]
  | x :: xs, n, acc, h, hl => by
    have hx := h x (by simp)
    have ih := parseL_map xs (n + 1) (acc ++ [x]) (fun y hy => h y (List.mem_cons_of_mem _ hy)) (by simp at hl; omega)
    simp only [List.length_cons] at hl
    rw [List.map_cons, List.cons_append]
    obtain ⟨q, qs, hq⟩ : ∃ q qs, xs.map lineB ++ [[]] = q :: qs := by
      cases hz : xs.map lineB ++ [[]] with
      | nil => simp at hz
      | cons q qs => exact ⟨q, qs, rfl⟩
    rw [hq] at ih ⊢
    rw [parseL, rdLine_line x hx.1 hx.2]
    simp only []
    rw [if_neg (by omega), ih]
    simp
/-- Steps are read from their text as they were. -/
theorem parseS_text {l : List St} (h : allOk l = true) (hin : ∀ x ∈ l, x.In) : parseS (textB l) = .ok l := by
  obtain ⟨h1, h2⟩ := allOk_parts h
  unfold parseS
  rw [split_lines, parseL_map l 0 [] (fun x hx => ⟨h2 x hx, hin x hx⟩) (by omega)]
  simp
/-- One text, one list of steps. -/
theorem text_inj {l m : List St} (h : allOk l = true) (hi : ∀ x ∈ l, x.In) (h' : allOk m = true) (hi' : ∀ x ∈ m, x.In) (e : textB l = textB m) : l = m := by
  have h1 := parseS_text h hi
  rw [e, parseS_text h' hi'] at h1
  injection h1 with h1
  exact h1.symm
end Go.Proofs.YtlephnfepofbbaaDoor

/-
  Steps in memory: bytes, numbers, moves and steps that a slice shows, wherever they lie.
-/
namespace Go.Proofs.YtlephnfepofbbaaDoor
open Go.RowKit

/-- Cells that a slice shows, n things, within the blocks D. -/
def Sh (D : Nat → Prop) (W : World) (v : Value) (n : Nat) (cs : List Value) : Prop :=
  ∃ A c, v = .slice A n c ∧ n ≤ c ∧ c ≤ 9223372036854775807 ∧ (A = none → c = 0) ∧ (0 < n → ∃ g off, A = some ⟨g, off, none⟩ ∧ D g ∧ g < W.heap.size ∧ ∀ j u, cs[j]? = some u → W.cell? ⟨g, off + j, none⟩ = some u)
section
variable {D D' : Nat → Prop} {W W' : World} {v : Value} {n : Nat} {cs : List Value}
theorem Sh.same (h : Sh D W v n cs) (k : ∀ g, D g → g < W.heap.size → W'.heap[g]? = W.heap[g]?) (hs : W.heap.size ≤ W'.heap.size) : Sh D W' v n cs := by
  obtain ⟨A, c, e, h1, h2, h3, h4⟩ := h
  refine ⟨A, c, e, h1, h2, h3, fun h0 => ?_⟩
  obtain ⟨g, off, e2, hd, hg, hc⟩ := h4 h0
  exact ⟨g, off, e2, hd, Nat.lt_of_lt_of_le hg hs, fun j u hu => (World.cell?_of_block (k g hd hg)).trans (hc j u hu)⟩
theorem Sh.weak (h : Sh D W v n cs) (k : ∀ g, g < W.heap.size → D g → D' g) : Sh D' W v n cs := by
  obtain ⟨A, c, e, h1, h2, h3, h4⟩ := h
  refine ⟨A, c, e, h1, h2, h3, fun h0 => ?_⟩
  obtain ⟨g, off, e2, hd, hg, hc⟩ := h4 h0
  exact ⟨g, off, e2, k g hg hd, hg, hc⟩
theorem Sh.nil (D : Nat → Prop) (W : World) : Sh D W (.slice none 0 0) 0 [] := ⟨none, 0, rfl, Nat.le_refl _, by omega, fun _ => rfl, fun h => by omega⟩
end

/-! The four kinds. -/
def encM (p : Mv × Value) : List Value := [.int .i64 p.1.op, .int .i64 p.1.wire, .int .i64 p.1.n, p.2]
def encS (p : St × Value × Value) : List Value := [.int .u64 (p.1.t : Int), .bool p.1.intr, p.2.1, p.2.2]
def SrcB (D : Nat → Prop) (W : World) (v : Value) (b : List UInt8) : Prop := Sh D W v b.length (Lib.byteCells b)
def SrcI (D : Nat → Prop) (W : World) (v : Value) (l : List Int) : Prop := Sh D W v l.length (l.map (Value.int .i64))
def SrcM (D : Nat → Prop) (W : World) (v : Value) (ms : List Mv) : Prop := ∃ ps : List (Mv × Value), ps.map Prod.fst = ms ∧ Sh D W v ps.length (ps.flatMap encM) ∧ ∀ p ∈ ps, SrcB D W p.2 p.1.b
def StepV (D : Nat → Prop) (W : World) (ov mv : Value) (x : St) : Prop := SrcI D W ov x.ord ∧ SrcM D W mv x.mv
def SrcS (D : Nat → Prop) (W : World) (v : Value) (l : List St) : Prop := ∃ ps : List (St × Value × Value), ps.map Prod.fst = l ∧ Sh D W v ps.length (ps.flatMap encS) ∧ ∀ p ∈ ps, StepV D W p.2.1 p.2.2 p.1
/-- Numbers that the fields hold. -/
def I64 (n : Int) : Prop := -9223372036854775808 ≤ n ∧ n ≤ 9223372036854775807
def Mv.Wf (m : Mv) : Prop := I64 m.op ∧ I64 m.wire ∧ I64 m.n
def St.Wf (x : St) : Prop := x.t ≤ 18446744073709551615 ∧ (∀ n ∈ x.ord, I64 n) ∧ ∀ m ∈ x.mv, m.Wf
theorem St.Wf.in_ {x : St} (h : x.Wf) : x.In := ⟨by have := h.1; omega, fun m hm => by obtain ⟨_, h1, h2⟩ := h.2.2 m hm; unfold I64 at h1 h2; omega⟩
def Lt (N : Nat) : Nat → Prop := fun g => g < N

theorem flat4_len {α : Type} (f : α → List Value) (hf : ∀ x, (f x).length = 4) : ∀ l : List α, (l.flatMap f).length = 4 * l.length
  | [] => rfl
  | x :: l => by rw [List.flatMap_cons, List.length_append, hf, flat4_len f hf l, List.length_cons]; omega
theorem flat4_at {α : Type} (f : α → List Value) (hf : ∀ x, (f x).length = 4) : ∀ (l : List α) (k : Nat) (x : α) (j : Nat), l[k]? = some x → j < 4 → (l.flatMap f)[k * 4 + j]? = (f x)[j]?
  | [], k, x, j, h, _ => by simp at h
  | y :: l, 0, x, j, h, hj => by
    have : y = x := by simpa using h
    subst this
    rw [List.flatMap_cons, List.getElem?_append_left (by rw [hf]; omega)]; simp
  | y :: l, k + 1, x, j, h, hj => by
    rw [List.flatMap_cons, List.getElem?_append_right (by rw [hf]; omega), hf, ← flat4_at f hf l k x j (by simpa using h) hj]
    congr 1; omega

section
variable {D D' : Nat → Prop} {W W' : World} {v ov mv : Value} {b : List UInt8} {l : List Int} {ms : List Mv} {x : St} {xs : List St}
theorem SrcB.same (h : SrcB D W v b) (k : ∀ g, D g → g < W.heap.size → W'.heap[g]? = W.heap[g]?) (hs : W.heap.size ≤ W'.heap.size) : SrcB D W' v b := Sh.same h k hs
theorem SrcI.same (h : SrcI D W v l) (k : ∀ g, D g → g < W.heap.size → W'.heap[g]? = W.heap[g]?) (hs : W.heap.size ≤ W'.heap.size) : SrcI D W' v l := Sh.same h k hs
theorem SrcM.same (h : SrcM D W v ms) (k : ∀ g, D g → g < W.heap.size → W'.heap[g]? = W.heap[g]?) (hs : W.heap.size ≤ W'.heap.size) : SrcM D W' v ms := by
  obtain ⟨ps, e, h1, h2⟩ := h
  exact ⟨ps, e, h1.same k hs, fun p hp => (h2 p hp).same k hs⟩
theorem StepV.same (h : StepV D W ov mv x) (k : ∀ g, D g → g < W.heap.size → W'.heap[g]? = W.heap[g]?) (hs : W.heap.size ≤ W'.heap.size) : StepV D W' ov mv x := ⟨h.1.same k hs, h.2.same k hs⟩
theorem SrcS.same (h : SrcS D W v xs) (k : ∀ g, D g → g < W.heap.size → W'.heap[g]? = W.heap[g]?) (hs : W.heap.size ≤ W'.heap.size) : SrcS D W' v xs := by
  obtain ⟨ps, e, h1, h2⟩ := h
  exact ⟨ps, e, h1.same k hs, fun p hp => (h2 p hp).same k hs⟩
theorem SrcB.weak (h : SrcB D W v b) (k : ∀ g, g < W.heap.size → D g → D' g) : SrcB D' W v b := Sh.weak h k
theorem SrcI.weak (h : SrcI D W v l) (k : ∀ g, g < W.heap.size → D g → D' g) : SrcI D' W v l := Sh.weak h k
theorem SrcM.weak (h : SrcM D W v ms) (k : ∀ g, g < W.heap.size → D g → D' g) : SrcM D' W v ms := by
  obtain ⟨ps, e, h1, h2⟩ := h
  exact ⟨ps, e, h1.weak k, fun p hp => (h2 p hp).weak k⟩
theorem StepV.weak (h : StepV D W ov mv x) (k : ∀ g, g < W.heap.size → D g → D' g) : StepV D' W ov mv x := ⟨h.1.weak k, h.2.weak k⟩
theorem SrcS.weak (h : SrcS D W v xs) (k : ∀ g, g < W.heap.size → D g → D' g) : SrcS D' W v xs := by
  obtain ⟨ps, e, h1, h2⟩ := h
  exact ⟨ps, e, h1.weak k, fun p hp => (h2 p hp).weak k⟩
/-- What a slice's value looks like. -/
def Form (v : Value) (n : Nat) : Prop := ∃ A c, v = .slice A n c ∧ n ≤ c ∧ c ≤ 9223372036854775807 ∧ (A = none → c = 0)
theorem Sh.form {n : Nat} {cs : List Value} (h : Sh D W v n cs) : Form v n := by
  obtain ⟨A, c, e, h1, h2, h3, _⟩ := h
  exact ⟨A, c, e, h1, h2, h3⟩
theorem SrcB.form (h : SrcB D W v b) : Form v b.length := Sh.form h
theorem SrcI.form (h : SrcI D W v l) : Form v l.length := Sh.form h
theorem SrcM.form (h : SrcM D W v ms) : Form v ms.length := by
  obtain ⟨ps, e, h1, _⟩ := h
  rw [← e, List.length_map]; exact h1.form
theorem SrcS.form (h : SrcS D W v xs) : Form v xs.length := by
  obtain ⟨ps, e, h1, _⟩ := h
  rw [← e, List.length_map]; exact h1.form
theorem SrcB.at_ {A : Option Addr} {n c : Nat} (h : SrcB D W (.slice A n c) b) {k : Nat} (hk : k < b.length) : ∃ g off, A = some ⟨g, off, none⟩ ∧ D g ∧ g < W.heap.size ∧ W.cell? ⟨g, off + k, none⟩ = some (.int .u8 (b[k].toNat : Int)) := by
  obtain ⟨A', c', e, h1, h2, h3, h4⟩ := h
  cases e
  obtain ⟨g, off, e2, hd, hg, hc⟩ := h4 (by omega)
  exact ⟨g, off, e2, hd, hg, hc k _ (by simp [Lib.byteCells, List.getElem?_eq_getElem hk])⟩
theorem SrcI.at_ {A : Option Addr} {n c : Nat} (h : SrcI D W (.slice A n c) l) {k : Nat} (hk : k < l.length) : ∃ g off, A = some ⟨g, off, none⟩ ∧ D g ∧ g < W.heap.size ∧ W.cell? ⟨g, off + k, none⟩ = some (.int .i64 l[k]) := by
  obtain ⟨A', c', e, h1, h2, h3, h4⟩ := h
  cases e
  obtain ⟨g, off, e2, hd, hg, hc⟩ := h4 (by omega)
  exact ⟨g, off, e2, hd, hg, hc k _ (by simp [List.getElem?_eq_getElem hk])⟩
theorem SrcM.at_ {A : Option Addr} {n c : Nat} (h : SrcM D W (.slice A n c) ms) {k : Nat} (hk : k < ms.length) : ∃ g off dv, A = some ⟨g, off, none⟩ ∧ D g ∧ g < W.heap.size ∧
    (W.cell? ⟨g, off + k * 4, none⟩ = some (.int .i64 ms[k].op) ∧ W.cell? ⟨g, off + k * 4 + 1, none⟩ = some (.int .i64 ms[k].wire) ∧ W.cell? ⟨g, off + k * 4 + 2, none⟩ = some (.int .i64 ms[k].n) ∧ W.cell? ⟨g, off + k * 4 + 3, none⟩ = some dv) ∧ SrcB D W dv ms[k].b := by
  obtain ⟨ps, rfl, ⟨A', c', e, h1, h2, h3, h4⟩, h5⟩ := h
  cases e
  have hk' : k < ps.length := by simpa using hk
  obtain ⟨g, off, e2, hd, hg, hc⟩ := h4 (by omega)
  have hp := List.getElem?_eq_getElem hk'
  have f := fun j (hj : j < 4) => flat4_at encM (fun _ => rfl) ps k _ j hp hj
  refine ⟨g, off, (ps[k]).2, e2, hd, hg, ⟨?_, ?_, ?_, ?_⟩, ?_⟩
  · have := hc _ _ (f 0 (by omega)); simpa [encM] using this
  · have := hc _ _ (f 1 (by omega)); simpa [encM, Nat.add_assoc] using this
  · have := hc _ _ (f 2 (by omega)); simpa [encM, Nat.add_assoc] using this
  · have := hc _ _ (f 3 (by omega)); simpa [encM, Nat.add_assoc] using this
  · have := h5 _ (List.mem_of_getElem? hp); simpa using this
theorem SrcS.at_ {A : Option Addr} {n c : Nat} (h : SrcS D W (.slice A n c) xs) {k : Nat} (hk : k < xs.length) : ∃ g off ov mv, A = some ⟨g, off, none⟩ ∧ D g ∧ g < W.heap.size ∧
    (W.cell? ⟨g, off + k * 4, none⟩ = some (.int .u64 (xs[k].t : Int)) ∧ W.cell? ⟨g, off + k * 4 + 1, none⟩ = some (.bool xs[k].intr) ∧ W.cell? ⟨g, off + k * 4 + 2, none⟩ = some ov ∧ W.cell? ⟨g, off + k * 4 + 3, none⟩ = some mv) ∧ StepV D W ov mv xs[k] := by
  obtain ⟨ps, rfl, ⟨A', c', e, h1, h2, h3, h4⟩, h5⟩ := h
  cases e
  have hk' : k < ps.length := by simpa using hk
  obtain ⟨g, off, e2, hd, hg, hc⟩ := h4 (by omega)
  have hp := List.getElem?_eq_getElem hk'
  have f := fun j (hj : j < 4) => flat4_at encS (fun _ => rfl) ps k _ j hp hj
  refine ⟨g, off, (ps[k]).2.1, (ps[k]).2.2, e2, hd, hg, ⟨?_, ?_, ?_, ?_⟩, ?_⟩
  · have := hc _ _ (f 0 (by omega)); simpa [encS] using this
  · have := hc _ _ (f 1 (by omega)); simpa [encS, Nat.add_assoc] using this
  · have := hc _ _ (f 2 (by omega)); simpa [encS, Nat.add_assoc] using this
  · have := hc _ _ (f 3 (by omega)); simpa [encS, Nat.add_assoc] using this
  · have := h5 _ (List.mem_of_getElem? hp); simpa using this
end

/-! Below a bound all stays. -/
section
variable {N : Nat} {W W' : World} {v ov mv : Value} {b : List UInt8} {l : List Int} {ms : List Mv} {x : St} {xs : List St}
theorem SrcB.below (h : SrcB (Lt N) W v b) (k : Below N W W') : SrcB (Lt N) W' v b := h.same (fun g hg _ => k.block g hg) k.size
theorem SrcI.below (h : SrcI (Lt N) W v l) (k : Below N W W') : SrcI (Lt N) W' v l := h.same (fun g hg _ => k.block g hg) k.size
theorem SrcM.below (h : SrcM (Lt N) W v ms) (k : Below N W W') : SrcM (Lt N) W' v ms := h.same (fun g hg _ => k.block g hg) k.size
theorem StepV.below (h : StepV (Lt N) W ov mv x) (k : Below N W W') : StepV (Lt N) W' ov mv x := h.same (fun g hg _ => k.block g hg) k.size
theorem SrcS.below (h : SrcS (Lt N) W v xs) (k : Below N W W') : SrcS (Lt N) W' v xs := h.same (fun g hg _ => k.block g hg) k.size
end
end Go.Proofs.YtlephnfepofbbaaDoor

/-
  DERIVED: THE SHELF's CONTRACTS AT THIS DUMP, IN PLAIN WORDS (tools/lay-plain.mjs out of 'TrydShelfPart.lean', which tools/lay-shelf.mjs wrote): THE SAME DECLARATIONS UNDER THE SAME NAMES: 'import', 'namespace', 'open', 'def', 'theorem' AND NOTHING ELSE: no command of the shelf's: FOR A HAND-IN. Each laying: the table of numbers ('.._ren') and one theorem, a field a fact of the dump's own or the kernel's comparison; each contract: ONE APPLICATION.
-/
namespace Go.Proofs
open Go.Shelf
def Tryd.lays137_ren : Go.Shelf.Ren := ⟨fun | 137 => 32 | 217 => 47 | 266 => 61 | n => n, fun | 9 => 9 | 5 => 5 | 3 => 3 | n => n, fun | n => n⟩
theorem Tryd.lays137 : Go.Proofs.Lays.n137 Tryd.prog Tryd.lays137_ren := {
  mixed := by kernel_rfl
  f137 := Tryd.func32.trans (congrArg some (by kernel_rfl))
  f217 := Tryd.func47.trans (congrArg some (by kernel_rfl))
  f266 := Tryd.func61.trans (congrArg some (by kernel_rfl))
  t3 := Tryd.underlying3
  a3 := Tryd.isAgg3
  z3 := Tryd.sizeOf3
  v3 := Tryd.zeroValue3
  t5 := Tryd.underlying5
  a5 := Tryd.isAgg5
  z5 := Tryd.sizeOf5
  v5 := Tryd.zeroValue5
  t9 := Tryd.underlying9
  a9 := Tryd.isAgg9
  z9 := Tryd.sizeOf9
  v9 := Tryd.zeroValue9 }
open Go.RowKit in
/-- strings.IndexByte: "IndexByte returns the index of the first instance of c in s, or -1 if c is not present in s.": IT RETURNS 'Lib.indexByte s c'; the world is as it was. (LAID: no walk: one application.) -/
theorem Tryd.strings_IndexByte (s : ByteArray) (c : Int) (w : World) :
    Calls Tryd.prog 32 #[.string s, .int .u8 c] w fun e w' => e = .returned (.int .i64 (Lib.indexByte s.data.toList c.toNat.toUInt8)) ∧ w' = w := Any.strings_IndexByte Tryd.lays137 s c w
def Tryd.lays104_ren : Go.Shelf.Ren := ⟨fun | 104 => 19 | 211 => 33 | 207 => 48 | n => n, fun | 9 => 9 | 4 => 4 | 24 => 53 | 3 => 3 | n => n, fun | n => n⟩
theorem Tryd.lays104 : Go.Proofs.Lays.n104 Tryd.prog Tryd.lays104_ren := {
  mixed := by kernel_rfl
  f104 := Tryd.func19.trans (congrArg some (by kernel_rfl))
  f207 := Tryd.func48.trans (congrArg some (by kernel_rfl))
  f211 := Tryd.func33.trans (congrArg some (by kernel_rfl))
  t3 := Tryd.underlying3
  a3 := Tryd.isAgg3
  z3 := Tryd.sizeOf3
  v3 := Tryd.zeroValue3
  t4 := Tryd.underlying4
  a4 := Tryd.isAgg4
  z4 := Tryd.sizeOf4
  v4 := Tryd.zeroValue4
  t9 := Tryd.underlying9
  a9 := Tryd.isAgg9
  z9 := Tryd.sizeOf9
  v9 := Tryd.zeroValue9
  t24 := Tryd.underlying53
  a24 := Tryd.isAgg53
  z24 := Tryd.sizeOf53
  v24 := Tryd.zeroValue53 }
open Go.RowKit in
/-- strings.CutSuffix: "CutSuffix returns s without the provided ending suffix string and reports whether it found the suffix. If s doesn't end with suffix, CutSuffix returns s, false. If suffix is the empty string, CutSuffix returns s, true.": IT RETURNS '(Lib.trimSuffix s p, Lib.hasSuffix s p)'; the world is as it was. (LAID: no walk: one application.) -/
theorem Tryd.strings_CutSuffix (s p : ByteArray) (w : World) (hs : s.size ≤ 9223372036854775807) :
    Calls Tryd.prog 19 #[.string s, .string p] w fun e w' => e = .returned (.tuple #[.string ⟨(Lib.trimSuffix s.data.toList p.data.toList).toArray⟩, .bool (Lib.hasSuffix s.data.toList p.data.toList)]) ∧ w' = w := Any.strings_CutSuffix Tryd.lays104 s p w hs
def Tryd.laysM171_ren : Go.Shelf.Ren := ⟨fun | 171 => 46 | 243 => 60 | 246 => 71 | 283 => 55 | 284 => 56 | 285 => 57 | 286 => 58 | 129 => 67 | 317 => 66 | 318 => 68 | 319 => 69 | 320 => 70 | 337 => 76 | 338 => 77 | n => n, fun | 3 => 3 | 9 => 9 | 2 => 2 | 4 => 4 | 171 => 90 | 0 => 0 | 53 => 26 | 37 => 42 | 5 => 5 | 173 => 93 | 212 => 103 | 51 => 104 | 20 => 20 | 213 => 105 | 46 => 79 | 232 => 118 | 233 => 119 | n => n, fun | 17 => 2 | 18 => 6 | 19 => 7 | n => n⟩
theorem Tryd.laysM171 : Go.Proofs.LaysM.n171 Tryd.prog Tryd.laysM171_ren := {
  mixed := by kernel_rfl
  f129 := Tryd.func67.trans (congrArg some (by kernel_rfl))
  f171 := Tryd.func46.trans (congrArg some (by kernel_rfl))
  f243 := Tryd.func60.trans (congrArg some (by kernel_rfl))
  f246 := Tryd.func71.trans (congrArg some (by kernel_rfl))
  f283 := Tryd.func55.trans (congrArg some (by kernel_rfl))
  f284 := Tryd.func56.trans (congrArg some (by kernel_rfl))
  f285 := Tryd.func57.trans (congrArg some (by kernel_rfl))
  f286 := Tryd.func58.trans (congrArg some (by kernel_rfl))
  f317 := Tryd.func66.trans (congrArg some (by kernel_rfl))
  f318 := Tryd.func68.trans (congrArg some (by kernel_rfl))
  f319 := Tryd.func69.trans (congrArg some (by kernel_rfl))
  f320 := Tryd.func70.trans (congrArg some (by kernel_rfl))
  f337 := Tryd.func76.trans (congrArg some (by kernel_rfl))
  f338 := Tryd.func77.trans (congrArg some (by kernel_rfl))
  t0 := Tryd.underlying0
  a0 := Tryd.isAgg0
  z0 := Tryd.sizeOf0
  v0 := Tryd.zeroValue0
  t2 := Tryd.underlying2
  a2 := Tryd.isAgg2
  z2 := Tryd.sizeOf2
  v2 := Tryd.zeroValue2
  t3 := Tryd.underlying3
  a3 := Tryd.isAgg3
  z3 := Tryd.sizeOf3
  v3 := Tryd.zeroValue3
  t4 := Tryd.underlying4
  a4 := Tryd.isAgg4
  z4 := Tryd.sizeOf4
  v4 := Tryd.zeroValue4
  t5 := Tryd.underlying5
  a5 := Tryd.isAgg5
  z5 := Tryd.sizeOf5
  v5 := Tryd.zeroValue5
  t9 := Tryd.underlying9
  a9 := Tryd.isAgg9
  z9 := Tryd.sizeOf9
  v9 := Tryd.zeroValue9
  t20 := Tryd.underlying20
  a20 := Tryd.isAgg20
  z20 := Tryd.sizeOf20
  v20 := Tryd.zeroValue20
  t37 := Tryd.underlying42
  a37 := Tryd.isAgg42
  z37 := Tryd.sizeOf42
  v37 := Tryd.zeroValue42
  t46 := Tryd.underlying79
  a46 := Tryd.isAgg79
  z46 := Tryd.sizeOf79
  v46 := Tryd.zeroValue79
  t51 := Tryd.underlying104
  a51 := Tryd.isAgg104
  z51 := Tryd.sizeOf104
  v51 := Tryd.zeroValue104
  t53 := Tryd.underlying26
  a53 := Tryd.isAgg26
  z53 := Tryd.sizeOf26
  v53 := Tryd.zeroValue26
  t171 := Tryd.underlying90
  a171 := Tryd.isAgg90
  z171 := Tryd.sizeOf90
  v171 := Tryd.zeroValue90
  t173 := Tryd.underlying93
  a173 := Tryd.isAgg93
  z173 := Tryd.sizeOf93
  v173 := Tryd.zeroValue93
  t212 := Tryd.underlying103
  a212 := Tryd.isAgg103
  z212 := Tryd.sizeOf103
  v212 := Tryd.zeroValue103
  t213 := Tryd.underlying105
  a213 := Tryd.isAgg105
  z213 := Tryd.sizeOf105
  t232 := Tryd.underlying118
  a232 := Tryd.isAgg118
  z232 := Tryd.sizeOf118
  v232 := Tryd.zeroValue118
  t233 := Tryd.underlying119
  a233 := Tryd.isAgg119
  z233 := Tryd.sizeOf119
  v233 := Tryd.zeroValue119
  g17 := by kernel_rfl
  g18 := by kernel_rfl
  g19 := by kernel_rfl
  i0 := by kernel_rfl
  i2 := by kernel_rfl
  i3 := by kernel_rfl
  i4 := by kernel_rfl
  i5 := by kernel_rfl
  i9 := by kernel_rfl
  i20 := by kernel_rfl
  i37 := by kernel_rfl
  i46 := by kernel_rfl
  i51 := by kernel_rfl
  i53 := by kernel_rfl
  i171 := by kernel_rfl
  i173 := by kernel_rfl
  i212 := by kernel_rfl
  i232 := by kernel_rfl
  i233 := by kernel_rfl
  m17 := by kernel_rfl
  m18 := by kernel_rfl
  m19 := by kernel_rfl }
open Go.RowKit Go.Sort Go.Lib in
/-- strconv.Itoa: "Itoa is equivalent to FormatInt(int64(i), 10).": i's DECIMAL NUMERAL ('Lib.itoa': a '-' where i is negative, then the digits), FOR EVERY int. The world behind the call: the world before it, new blocks behind the heap (the library's 'var a [24]byte'), draws. (LAID: no walk: one application.) -/
theorem Tryd.strconv_Itoa (n : Int) (h0 : -9223372036854775808 ≤ n) (h1 : n ≤ 9223372036854775807) (w : World) (htab : Lib.TabIs Tryd.prog w "internal/strconv.uint64pow10" .u64 Lib.pow10Tab) :
    Calls Tryd.prog 46 #[.int .i64 n] w fun e w' => e = .returned (.string ⟨(Lib.itoa n).toArray⟩) ∧ ∃ k os, w' = grow (w.drewN k) os := Any.strconv_Itoa Tryd.laysM171 n h0 h1 w htab
def Tryd.laysC245_ren : Go.Shelf.Ren := ⟨fun | 245 => 75 | 279 => 83 | 280 => 84 | 281 => 85 | 282 => 86 | 316 => 88 | 171 => 46 | 205 => 89 | 243 => 60 | 246 => 71 | 283 => 55 | 284 => 56 | 285 => 57 | 286 => 58 | 129 => 67 | 317 => 66 | 318 => 68 | 319 => 69 | 320 => 70 | 337 => 76 | 338 => 77 | n => n, fun | 9 => 9 | 3 => 3 | 75 => 99 | 167 => 114 | 4 => 4 | 168 => 115 | 210 => 124 | 37 => 42 | 0 => 0 | 127 => 126 | 145 => 129 | 143 => 127 | 2 => 2 | 171 => 90 | 53 => 26 | 5 => 5 | 173 => 93 | 212 => 103 | 51 => 104 | 20 => 20 | 213 => 105 | 46 => 79 | 232 => 118 | 233 => 119 | 80 => 130 | n => n, fun | 15 => 8 | 16 => 9 | 17 => 2 | 18 => 6 | 19 => 7 | n => n⟩
theorem Tryd.laysC245 : Go.Proofs.LaysC.n245 Tryd.prog Tryd.laysC245_ren := {
  mixed := by kernel_rfl
  f129 := Tryd.func67.trans (congrArg some (by kernel_rfl))
  f171 := Tryd.func46.trans (congrArg some (by kernel_rfl))
  f205 := Tryd.func89.trans (congrArg some (by kernel_rfl))
  f243 := Tryd.func60.trans (congrArg some (by kernel_rfl))
  f245 := Tryd.func75.trans (congrArg some (by kernel_rfl))
  f246 := Tryd.func71.trans (congrArg some (by kernel_rfl))
  f279 := Tryd.func83.trans (congrArg some (by kernel_rfl))
  f280 := Tryd.func84.trans (congrArg some (by kernel_rfl))
  f281 := Tryd.func85.trans (congrArg some (by kernel_rfl))
  f282 := Tryd.func86.trans (congrArg some (by kernel_rfl))
  f283 := Tryd.func55.trans (congrArg some (by kernel_rfl))
  f284 := Tryd.func56.trans (congrArg some (by kernel_rfl))
  f285 := Tryd.func57.trans (congrArg some (by kernel_rfl))
  f286 := Tryd.func58.trans (congrArg some (by kernel_rfl))
  f316 := Tryd.func88.trans (congrArg some (by kernel_rfl))
  f317 := Tryd.func66.trans (congrArg some (by kernel_rfl))
  f318 := Tryd.func68.trans (congrArg some (by kernel_rfl))
  f319 := Tryd.func69.trans (congrArg some (by kernel_rfl))
  f320 := Tryd.func70.trans (congrArg some (by kernel_rfl))
  f337 := Tryd.func76.trans (congrArg some (by kernel_rfl))
  f338 := Tryd.func77.trans (congrArg some (by kernel_rfl))
  t0 := Tryd.underlying0
  a0 := Tryd.isAgg0
  z0 := Tryd.sizeOf0
  v0 := Tryd.zeroValue0
  t2 := Tryd.underlying2
  a2 := Tryd.isAgg2
  z2 := Tryd.sizeOf2
  v2 := Tryd.zeroValue2
  t3 := Tryd.underlying3
  a3 := Tryd.isAgg3
  z3 := Tryd.sizeOf3
  v3 := Tryd.zeroValue3
  t4 := Tryd.underlying4
  a4 := Tryd.isAgg4
  z4 := Tryd.sizeOf4
  v4 := Tryd.zeroValue4
  t5 := Tryd.underlying5
  a5 := Tryd.isAgg5
  z5 := Tryd.sizeOf5
  v5 := Tryd.zeroValue5
  t9 := Tryd.underlying9
  a9 := Tryd.isAgg9
  z9 := Tryd.sizeOf9
  v9 := Tryd.zeroValue9
  t20 := Tryd.underlying20
  a20 := Tryd.isAgg20
  z20 := Tryd.sizeOf20
  v20 := Tryd.zeroValue20
  t37 := Tryd.underlying42
  a37 := Tryd.isAgg42
  z37 := Tryd.sizeOf42
  v37 := Tryd.zeroValue42
  t46 := Tryd.underlying79
  a46 := Tryd.isAgg79
  z46 := Tryd.sizeOf79
  v46 := Tryd.zeroValue79
  t51 := Tryd.underlying104
  a51 := Tryd.isAgg104
  z51 := Tryd.sizeOf104
  v51 := Tryd.zeroValue104
  t53 := Tryd.underlying26
  a53 := Tryd.isAgg26
  z53 := Tryd.sizeOf26
  v53 := Tryd.zeroValue26
  t75 := Tryd.underlying99
  a75 := Tryd.isAgg99
  z75 := Tryd.sizeOf99
  v75 := Tryd.zeroValue99
  t127 := Tryd.underlying126
  a127 := Tryd.isAgg126
  z127 := Tryd.sizeOf126
  v127 := Tryd.zeroValue126
  t143 := Tryd.underlying127
  a143 := Tryd.isAgg127
  z143 := Tryd.sizeOf127
  v143 := Tryd.zeroValue127
  t145 := Tryd.underlying129
  a145 := Tryd.isAgg129
  z145 := Tryd.sizeOf129
  v145 := Tryd.zeroValue129
  t167 := Tryd.underlying114
  a167 := Tryd.isAgg114
  z167 := Tryd.sizeOf114
  v167 := Tryd.zeroValue114
  t168 := Tryd.underlying115
  a168 := Tryd.isAgg115
  z168 := Tryd.sizeOf115
  v168 := Tryd.zeroValue115
  t171 := Tryd.underlying90
  a171 := Tryd.isAgg90
  z171 := Tryd.sizeOf90
  v171 := Tryd.zeroValue90
  t173 := Tryd.underlying93
  a173 := Tryd.isAgg93
  z173 := Tryd.sizeOf93
  v173 := Tryd.zeroValue93
  t210 := Tryd.underlying124
  a210 := Tryd.isAgg124
  z210 := Tryd.sizeOf124
  v210 := Tryd.zeroValue124
  t212 := Tryd.underlying103
  a212 := Tryd.isAgg103
  z212 := Tryd.sizeOf103
  v212 := Tryd.zeroValue103
  t213 := Tryd.underlying105
  a213 := Tryd.isAgg105
  z213 := Tryd.sizeOf105
  t232 := Tryd.underlying118
  a232 := Tryd.isAgg118
  z232 := Tryd.sizeOf118
  v232 := Tryd.zeroValue118
  t233 := Tryd.underlying119
  a233 := Tryd.isAgg119
  z233 := Tryd.sizeOf119
  v233 := Tryd.zeroValue119
  g15 := by kernel_rfl
  g16 := by kernel_rfl
  g17 := by kernel_rfl
  g18 := by kernel_rfl
  g19 := by kernel_rfl
  t80 := Tryd.underlying130
  a80 := Tryd.isAgg130
  z80 := Tryd.sizeOf130
  v80 := Tryd.zeroValue130
  i0 := by kernel_rfl
  i2 := by kernel_rfl
  i3 := by kernel_rfl
  i4 := by kernel_rfl
  i5 := by kernel_rfl
  i9 := by kernel_rfl
  i20 := by kernel_rfl
  i37 := by kernel_rfl
  i46 := by kernel_rfl
  i51 := by kernel_rfl
  i53 := by kernel_rfl
  i75 := by kernel_rfl
  i80 := by kernel_rfl
  i127 := by kernel_rfl
  i143 := by kernel_rfl
  i145 := by kernel_rfl
  i167 := by kernel_rfl
  i168 := by kernel_rfl
  i171 := by kernel_rfl
  i173 := by kernel_rfl
  i210 := by kernel_rfl
  i212 := by kernel_rfl
  i232 := by kernel_rfl
  i233 := by kernel_rfl
  m15 := by kernel_rfl
  m16 := by kernel_rfl
  m17 := by kernel_rfl
  m18 := by kernel_rfl
  m19 := by kernel_rfl
  c0 := by kernel_rfl
  c2 := by kernel_rfl
  c3 := by kernel_rfl
  c4 := by kernel_rfl
  c5 := by kernel_rfl
  c9 := by kernel_rfl
  c20 := by kernel_rfl
  c37 := by kernel_rfl
  c46 := by kernel_rfl
  c51 := by kernel_rfl
  c53 := by kernel_rfl
  c75 := by kernel_rfl
  c80 := by kernel_rfl
  c127 := by kernel_rfl
  c143 := by kernel_rfl
  c145 := by kernel_rfl
  c167 := by kernel_rfl
  c168 := by kernel_rfl
  c171 := by kernel_rfl
  c173 := by kernel_rfl
  c210 := by kernel_rfl
  c212 := by kernel_rfl
  c213 := by kernel_rfl
  c232 := by kernel_rfl
  c233 := by kernel_rfl }
open Go.RowKit in
/-- strconv.toError, at the inner package's ErrSyntax: 'syntaxError(fn, s)' as an error: A *NumError IN A NEW BLOCK. (LAID: no walk: one application.) -/
theorem Tryd.strconv_toError_syntax (fn s : ByteArray) (base bits : Int) (ev : Value) (w : World) (hlim : s.size ≤ 281474976710656) (hv : w.cell? ⟨8, 0, none⟩ = some ev) (hev : ev = .nilIface ∨ ∃ te pe, ev = .iface te pe) :
    Calls Tryd.prog 75 #[.string fn, .string s, .int .i64 base, .int .i64 bits, .iface 114 (.int .i64 2)] w fun e w' => ∃ N, e = .returned (.iface 115 (.pointer (some ⟨N, 0, none⟩))) ∧ w.heap.size ≤ N ∧ w'.heap[N]? = some (.cells #[.string fn, .string s, ev] 124 (0, 0)) ∧ Below w.heap.size w w' := Any.strconv_toError_syntax Tryd.laysC245 fn s base bits ev w hlim hv hev
def Tryd.lays321_ren : Go.Shelf.Ren := ⟨fun | 321 => 81 | n => n, fun | 5 => 5 | n => n, fun | n => n⟩
theorem Tryd.lays321 : Go.Proofs.Lays.n321 Tryd.prog Tryd.lays321_ren := {
  mixed := by kernel_rfl
  f321 := Tryd.func81.trans (congrArg some (by kernel_rfl))
  t5 := Tryd.underlying5
  a5 := Tryd.isAgg5
  z5 := Tryd.sizeOf5
  v5 := Tryd.zeroValue5 }
open Go.RowKit in
/-- internal/strconv.lower: 'c | ('x' - 'X')': the bit 32 set. The world is as it was. (LAID: no walk: one application.) -/
theorem Tryd.internal_strconv_lower (c : Int) (w : World) :
    Calls Tryd.prog 81 #[.int .u8 c] w fun e w' => e = .returned (.int .u8 (bits .or .u8 c 32)) ∧ w' = w := Any.internal_strconv_lower Tryd.lays321 c w
def Tryd.lays287_ren : Go.Shelf.Ren := ⟨fun | 287 => 74 | 321 => 81 | 322 => 82 | n => n, fun | 9 => 9 | 3 => 3 | 53 => 26 | 75 => 99 | 4 => 4 | 167 => 114 | 5 => 5 | 46 => 79 | 37 => 42 | 0 => 0 | 21 => 21 | 80 => 130 | n => n, fun | n => n⟩
theorem Tryd.lays287 : Go.Proofs.Lays.n287 Tryd.prog Tryd.lays287_ren := {
  mixed := by kernel_rfl
  f287 := Tryd.func74.trans (congrArg some (by kernel_rfl))
  f321 := Tryd.func81.trans (congrArg some (by kernel_rfl))
  f322 := Tryd.func82.trans (congrArg some (by kernel_rfl))
  t0 := Tryd.underlying0
  a0 := Tryd.isAgg0
  z0 := Tryd.sizeOf0
  v0 := Tryd.zeroValue0
  t3 := Tryd.underlying3
  a3 := Tryd.isAgg3
  z3 := Tryd.sizeOf3
  v3 := Tryd.zeroValue3
  t4 := Tryd.underlying4
  a4 := Tryd.isAgg4
  z4 := Tryd.sizeOf4
  v4 := Tryd.zeroValue4
  t5 := Tryd.underlying5
  a5 := Tryd.isAgg5
  z5 := Tryd.sizeOf5
  v5 := Tryd.zeroValue5
  t9 := Tryd.underlying9
  a9 := Tryd.isAgg9
  z9 := Tryd.sizeOf9
  v9 := Tryd.zeroValue9
  t21 := Tryd.underlying21
  a21 := Tryd.isAgg21
  z21 := Tryd.sizeOf21
  v21 := Tryd.zeroValue21
  t37 := Tryd.underlying42
  a37 := Tryd.isAgg42
  z37 := Tryd.sizeOf42
  v37 := Tryd.zeroValue42
  t46 := Tryd.underlying79
  a46 := Tryd.isAgg79
  z46 := Tryd.sizeOf79
  v46 := Tryd.zeroValue79
  t53 := Tryd.underlying26
  a53 := Tryd.isAgg26
  z53 := Tryd.sizeOf26
  v53 := Tryd.zeroValue26
  t75 := Tryd.underlying99
  a75 := Tryd.isAgg99
  z75 := Tryd.sizeOf99
  v75 := Tryd.zeroValue99
  t167 := Tryd.underlying114
  a167 := Tryd.isAgg114
  z167 := Tryd.sizeOf114
  v167 := Tryd.zeroValue114 }
open Go.RowKit in
/-- strconv.toError, at the inner package's ErrRange: 'rangeError(fn, s)' as an error: A *NumError IN A NEW BLOCK. (LAID: no walk: one application.) -/
theorem Tryd.strconv_toError_range (fn s : ByteArray) (base bits : Int) (ev : Value) (w : World) (hlim : s.size ≤ 281474976710656) (hv : w.cell? ⟨9, 0, none⟩ = some ev) (hev : ev = .nilIface ∨ ∃ te pe, ev = .iface te pe) :
    Calls Tryd.prog 75 #[.string fn, .string s, .int .i64 base, .int .i64 bits, .iface 114 (.int .i64 1)] w fun e w' => ∃ N, e = .returned (.iface 115 (.pointer (some ⟨N, 0, none⟩))) ∧ w.heap.size ≤ N ∧ w'.heap[N]? = some (.cells #[.string fn, .string s, ev] 124 (0, 0)) ∧ Below w.heap.size w w' := Any.strconv_toError_range Tryd.laysC245 fn s base bits ev w hlim hv hev
open Go.RowKit in
/-- internal/strconv.ParseUint(s, 10, 64): 'Lib.parseUintB 64' OF ITS BYTES. The world: as it was (the empty string), or with the one new row that '[]byte(s)' lays. (LAID: no walk: one application.) -/
theorem Tryd.internal_strconv_ParseUint_10_at64 (t : ByteArray) (hmax : t.size ≤ 9223372036854775806) (w : World) :
    Calls Tryd.prog 74 #[.string t, .int .i64 10, .int .i64 64] w fun e w' => e = .returned (Lib.uintTupleM 114 18446744073709551615 (Lib.parseUintB 64 t.data.toList)) ∧ (w' = w ∨ w' = Lib.bytesWorld w 5 t) := Any.internal_strconv_ParseUint_10_at64 Tryd.lays287 t hmax w
def Tryd.lays143_ren : Go.Shelf.Ren := ⟨fun | 143 => 64 | 219 => 73 | 217 => 47 | 225 => 78 | 224 => 79 | 267 => 80 | 266 => 61 | 314 => 87 | n => n, fun | 9 => 9 | 3 => 3 | 4 => 4 | 5 => 5 | 46 => 79 | 146 => 120 | 51 => 104 | n => n, fun | 1 => 3 | n => n⟩
theorem Tryd.lays143 : Go.Proofs.Lays.n143 Tryd.prog Tryd.lays143_ren := {
  mixed := by kernel_rfl
  f143 := Tryd.func64.trans (congrArg some (by kernel_rfl))
  f217 := Tryd.func47.trans (congrArg some (by kernel_rfl))
  f219 := Tryd.func73.trans (congrArg some (by kernel_rfl))
  f224 := Tryd.func79.trans (congrArg some (by kernel_rfl))
  f225 := Tryd.func78.trans (congrArg some (by kernel_rfl))
  f266 := Tryd.func61.trans (congrArg some (by kernel_rfl))
  f267 := Tryd.func80.trans (congrArg some (by kernel_rfl))
  f314 := Tryd.func87.trans (congrArg some (by kernel_rfl))
  t3 := Tryd.underlying3
  a3 := Tryd.isAgg3
  z3 := Tryd.sizeOf3
  v3 := Tryd.zeroValue3
  t4 := Tryd.underlying4
  a4 := Tryd.isAgg4
  z4 := Tryd.sizeOf4
  v4 := Tryd.zeroValue4
  t5 := Tryd.underlying5
  a5 := Tryd.isAgg5
  z5 := Tryd.sizeOf5
  v5 := Tryd.zeroValue5
  t9 := Tryd.underlying9
  a9 := Tryd.isAgg9
  z9 := Tryd.sizeOf9
  v9 := Tryd.zeroValue9
  t46 := Tryd.underlying79
  a46 := Tryd.isAgg79
  z46 := Tryd.sizeOf79
  v46 := Tryd.zeroValue79
  t51 := Tryd.underlying104
  a51 := Tryd.isAgg104
  z51 := Tryd.sizeOf104
  v51 := Tryd.zeroValue104
  t146 := Tryd.underlying120
  a146 := Tryd.isAgg120
  z146 := Tryd.sizeOf120
  v146 := Tryd.zeroValue120
  g1 := by kernel_rfl }
open Go.RowKit Go.Lib in
/-- strings.Index: "Index returns the index of the first instance of substr in s, or -1 if substr is not present in s.": AT A substr OF ONE BYTE c: IT RETURNS 'Lib.indexByte s c'; the world is as it was. (LAID: no walk: one application.) -/
theorem Tryd.strings_Index_one (s : ByteArray) (c : UInt8) (w : World) :
    Calls Tryd.prog 64 #[.string s, .string ⟨#[c]⟩] w fun e w' => e = .returned (.int .i64 (Lib.indexByte s.data.toList c)) ∧ w' = w := Any.strings_Index_one Tryd.lays143 s c w
def Tryd.laysM288_ren : Go.Shelf.Ren := ⟨fun | 288 => 44 | 283 => 55 | 284 => 56 | 285 => 57 | 286 => 58 | 129 => 67 | 317 => 66 | 318 => 68 | 319 => 69 | 320 => 70 | 337 => 76 | 338 => 77 | n => n, fun | 37 => 42 | 53 => 26 | 3 => 3 | 4 => 4 | 9 => 9 | 171 => 90 | 0 => 0 | 173 => 93 | 212 => 103 | 51 => 104 | 5 => 5 | 20 => 20 | 213 => 105 | 46 => 79 | 232 => 118 | 233 => 119 | n => n, fun | 17 => 2 | 18 => 6 | 19 => 7 | n => n⟩
theorem Tryd.laysM288 : Go.Proofs.LaysM.n288 Tryd.prog Tryd.laysM288_ren := {
  mixed := by kernel_rfl
  f129 := Tryd.func67.trans (congrArg some (by kernel_rfl))
  f283 := Tryd.func55.trans (congrArg some (by kernel_rfl))
  f284 := Tryd.func56.trans (congrArg some (by kernel_rfl))
  f285 := Tryd.func57.trans (congrArg some (by kernel_rfl))
  f286 := Tryd.func58.trans (congrArg some (by kernel_rfl))
  f288 := Tryd.func44.trans (congrArg some (by kernel_rfl))
  f317 := Tryd.func66.trans (congrArg some (by kernel_rfl))
  f318 := Tryd.func68.trans (congrArg some (by kernel_rfl))
  f319 := Tryd.func69.trans (congrArg some (by kernel_rfl))
  f320 := Tryd.func70.trans (congrArg some (by kernel_rfl))
  f337 := Tryd.func76.trans (congrArg some (by kernel_rfl))
  f338 := Tryd.func77.trans (congrArg some (by kernel_rfl))
  t0 := Tryd.underlying0
  a0 := Tryd.isAgg0
  z0 := Tryd.sizeOf0
  v0 := Tryd.zeroValue0
  t3 := Tryd.underlying3
  a3 := Tryd.isAgg3
  z3 := Tryd.sizeOf3
  v3 := Tryd.zeroValue3
  t4 := Tryd.underlying4
  a4 := Tryd.isAgg4
  z4 := Tryd.sizeOf4
  v4 := Tryd.zeroValue4
  t5 := Tryd.underlying5
  a5 := Tryd.isAgg5
  z5 := Tryd.sizeOf5
  v5 := Tryd.zeroValue5
  t9 := Tryd.underlying9
  a9 := Tryd.isAgg9
  z9 := Tryd.sizeOf9
  v9 := Tryd.zeroValue9
  t20 := Tryd.underlying20
  a20 := Tryd.isAgg20
  z20 := Tryd.sizeOf20
  v20 := Tryd.zeroValue20
  t37 := Tryd.underlying42
  a37 := Tryd.isAgg42
  z37 := Tryd.sizeOf42
  v37 := Tryd.zeroValue42
  t46 := Tryd.underlying79
  a46 := Tryd.isAgg79
  z46 := Tryd.sizeOf79
  v46 := Tryd.zeroValue79
  t51 := Tryd.underlying104
  a51 := Tryd.isAgg104
  z51 := Tryd.sizeOf104
  v51 := Tryd.zeroValue104
  t53 := Tryd.underlying26
  a53 := Tryd.isAgg26
  z53 := Tryd.sizeOf26
  v53 := Tryd.zeroValue26
  t171 := Tryd.underlying90
  a171 := Tryd.isAgg90
  z171 := Tryd.sizeOf90
  v171 := Tryd.zeroValue90
  t173 := Tryd.underlying93
  a173 := Tryd.isAgg93
  z173 := Tryd.sizeOf93
  v173 := Tryd.zeroValue93
  t212 := Tryd.underlying103
  a212 := Tryd.isAgg103
  z212 := Tryd.sizeOf103
  v212 := Tryd.zeroValue103
  t213 := Tryd.underlying105
  a213 := Tryd.isAgg105
  z213 := Tryd.sizeOf105
  t232 := Tryd.underlying118
  a232 := Tryd.isAgg118
  z232 := Tryd.sizeOf118
  v232 := Tryd.zeroValue118
  t233 := Tryd.underlying119
  a233 := Tryd.isAgg119
  z233 := Tryd.sizeOf119
  v233 := Tryd.zeroValue119
  g17 := by kernel_rfl
  g18 := by kernel_rfl
  g19 := by kernel_rfl
  i0 := by kernel_rfl
  i3 := by kernel_rfl
  i4 := by kernel_rfl
  i5 := by kernel_rfl
  i9 := by kernel_rfl
  i20 := by kernel_rfl
  i37 := by kernel_rfl
  i46 := by kernel_rfl
  i51 := by kernel_rfl
  i53 := by kernel_rfl
  i171 := by kernel_rfl
  i173 := by kernel_rfl
  i212 := by kernel_rfl
  i232 := by kernel_rfl
  i233 := by kernel_rfl
  m17 := by kernel_rfl
  m18 := by kernel_rfl
  m19 := by kernel_rfl }
open Go.RowKit Go.Sort Go.Lib in
/-- internal/strconv.AppendUint(dst, i, 10): the two contracts as one. NO WALK. (LAID: no walk: one application.) -/
theorem Tryd.internal_strconv_AppendUint_10 (B n u : Nat) (hu64 : u < 18446744073709551616) (sv : Value) (xs : List Value) (w : World) (hown : w.ownsRow B 5 1 sv n xs) (hBw : B ≤ w.heap.size) (hlim : n + 20 ≤ 140737488355328) (htab : Lib.TabIs Tryd.prog w "internal/strconv.uint64pow10" .u64 Lib.pow10Tab) :
    Calls Tryd.prog 44 #[sv, .int .u64 u, .int .i64 10] w fun e w' => ∃ v', e = .returned v' ∧ w'.ownsRow B 5 1 v' (n + (Lib.decDigits u).length) (xs ++ Lib.byteCells (Lib.decDigits u)) ∧ Below B w w' ∧ Lib.OthersKept 5 none w w' := Any.internal_strconv_AppendUint_10 Tryd.laysM288 B n u hu64 sv xs w hown hBw hlim htab
def Tryd.laysM176_ren : Go.Shelf.Ren := ⟨fun | 176 => 45 | 249 => 59 | 288 => 44 | 283 => 55 | 284 => 56 | 285 => 57 | 286 => 58 | 129 => 67 | 317 => 66 | 318 => 68 | 319 => 69 | 320 => 70 | 337 => 76 | 338 => 77 | n => n, fun | 37 => 42 | 2 => 2 | 3 => 3 | 53 => 26 | 4 => 4 | 9 => 9 | 171 => 90 | 0 => 0 | 173 => 93 | 212 => 103 | 51 => 104 | 5 => 5 | 20 => 20 | 213 => 105 | 46 => 79 | 232 => 118 | 233 => 119 | n => n, fun | 17 => 2 | 18 => 6 | 19 => 7 | n => n⟩
theorem Tryd.laysM176 : Go.Proofs.LaysM.n176 Tryd.prog Tryd.laysM176_ren := {
  mixed := by kernel_rfl
  f129 := Tryd.func67.trans (congrArg some (by kernel_rfl))
  f176 := Tryd.func45.trans (congrArg some (by kernel_rfl))
  f249 := Tryd.func59.trans (congrArg some (by kernel_rfl))
  f283 := Tryd.func55.trans (congrArg some (by kernel_rfl))
  f284 := Tryd.func56.trans (congrArg some (by kernel_rfl))
  f285 := Tryd.func57.trans (congrArg some (by kernel_rfl))
  f286 := Tryd.func58.trans (congrArg some (by kernel_rfl))
  f288 := Tryd.func44.trans (congrArg some (by kernel_rfl))
  f317 := Tryd.func66.trans (congrArg some (by kernel_rfl))
  f318 := Tryd.func68.trans (congrArg some (by kernel_rfl))
  f319 := Tryd.func69.trans (congrArg some (by kernel_rfl))
  f320 := Tryd.func70.trans (congrArg some (by kernel_rfl))
  f337 := Tryd.func76.trans (congrArg some (by kernel_rfl))
  f338 := Tryd.func77.trans (congrArg some (by kernel_rfl))
  t0 := Tryd.underlying0
  a0 := Tryd.isAgg0
  z0 := Tryd.sizeOf0
  v0 := Tryd.zeroValue0
  t2 := Tryd.underlying2
  a2 := Tryd.isAgg2
  z2 := Tryd.sizeOf2
  v2 := Tryd.zeroValue2
  t3 := Tryd.underlying3
  a3 := Tryd.isAgg3
  z3 := Tryd.sizeOf3
  v3 := Tryd.zeroValue3
  t4 := Tryd.underlying4
  a4 := Tryd.isAgg4
  z4 := Tryd.sizeOf4
  v4 := Tryd.zeroValue4
  t5 := Tryd.underlying5
  a5 := Tryd.isAgg5
  z5 := Tryd.sizeOf5
  v5 := Tryd.zeroValue5
  t9 := Tryd.underlying9
  a9 := Tryd.isAgg9
  z9 := Tryd.sizeOf9
  v9 := Tryd.zeroValue9
  t20 := Tryd.underlying20
  a20 := Tryd.isAgg20
  z20 := Tryd.sizeOf20
  v20 := Tryd.zeroValue20
  t37 := Tryd.underlying42
  a37 := Tryd.isAgg42
  z37 := Tryd.sizeOf42
  v37 := Tryd.zeroValue42
  t46 := Tryd.underlying79
  a46 := Tryd.isAgg79
  z46 := Tryd.sizeOf79
  v46 := Tryd.zeroValue79
  t51 := Tryd.underlying104
  a51 := Tryd.isAgg104
  z51 := Tryd.sizeOf104
  v51 := Tryd.zeroValue104
  t53 := Tryd.underlying26
  a53 := Tryd.isAgg26
  z53 := Tryd.sizeOf26
  v53 := Tryd.zeroValue26
  t171 := Tryd.underlying90
  a171 := Tryd.isAgg90
  z171 := Tryd.sizeOf90
  v171 := Tryd.zeroValue90
  t173 := Tryd.underlying93
  a173 := Tryd.isAgg93
  z173 := Tryd.sizeOf93
  v173 := Tryd.zeroValue93
  t212 := Tryd.underlying103
  a212 := Tryd.isAgg103
  z212 := Tryd.sizeOf103
  v212 := Tryd.zeroValue103
  t213 := Tryd.underlying105
  a213 := Tryd.isAgg105
  z213 := Tryd.sizeOf105
  t232 := Tryd.underlying118
  a232 := Tryd.isAgg118
  z232 := Tryd.sizeOf118
  v232 := Tryd.zeroValue118
  t233 := Tryd.underlying119
  a233 := Tryd.isAgg119
  z233 := Tryd.sizeOf119
  v233 := Tryd.zeroValue119
  g17 := by kernel_rfl
  g18 := by kernel_rfl
  g19 := by kernel_rfl
  i0 := by kernel_rfl
  i2 := by kernel_rfl
  i3 := by kernel_rfl
  i4 := by kernel_rfl
  i5 := by kernel_rfl
  i9 := by kernel_rfl
  i20 := by kernel_rfl
  i37 := by kernel_rfl
  i46 := by kernel_rfl
  i51 := by kernel_rfl
  i53 := by kernel_rfl
  i171 := by kernel_rfl
  i173 := by kernel_rfl
  i212 := by kernel_rfl
  i232 := by kernel_rfl
  i233 := by kernel_rfl
  m17 := by kernel_rfl
  m18 := by kernel_rfl
  m19 := by kernel_rfl }
open Go.RowKit Go.Sort Go.Lib in
/-- strconv.AppendInt: "AppendInt appends the string form of the integer i, as generated by FormatInt, to dst and returns the extended buffer.": AT BASE 10: WHAT COMES BACK OWNS dst's CELLS AND, BEHIND THEM, i's DECIMAL NUMERAL ('Lib.itoa i': at most 20 bytes), for every int64. Below the call's own blocks nothing has turned. (LAID: no walk: one application.) -/
theorem Tryd.strconv_AppendInt_10 (B n : Nat) (i : Int) (h0 : -9223372036854775808 ≤ i) (h1 : i ≤ 9223372036854775807) (sv : Value) (xs : List Value) (w : World) (hown : w.ownsRow B 5 1 sv n xs) (hBw : B ≤ w.heap.size) (hlim : n + 21 ≤ 140737488355328) (htab : Lib.TabBelow Tryd.prog B w "internal/strconv.uint64pow10" .u64 Lib.pow10Tab) :
    Calls Tryd.prog 45 #[sv, .int .i64 i, .int .i64 10] w fun e w' => ∃ v', e = .returned v' ∧ w'.ownsRow B 5 1 v' (n + (Lib.itoa i).length) (xs ++ Lib.byteCells (Lib.itoa i)) ∧ Below B w w' ∧ Lib.OthersKept 5 none w w' := Any.strconv_AppendInt_10 Tryd.laysM176 B n i h0 h1 sv xs w hown hBw hlim htab
end Go.Proofs

/-
  Rows of structs of one kind, of any program: what lies in them, at any offset; append; a store of one of them.
-/
namespace Go.Proofs.YtlephnfepofbbaaDoor
open Go.RowKit Go.Maps Go.ChangeMaps

/-- A kind of struct: its type, its slices' type, its cells. -/
structure RowK (P : Program) (α : Type) where
  e : TypeId
  s : TypeId
  n : Nat
  bytes : Nat
  zero : Value
  enc : α → List Value
  pos : 0 < n
  by_ : bytes ≤ 1000
  len : ∀ x, (enc x).length = n
  one : ∀ x, ∀ u ∈ enc x, u.oneCell' = true
  und : P.underlying s = some (.slice e)
  info : (P.info? e).map (fun i => (i.zero, i.size, i.bytes)) = some (some zero, n, bytes)
  zs : zero.cells.size = n

theorem row_info {o : Option TypeInfo} {z : Option Value} {s b : Nat} (h : o.map (fun i => (i.zero, i.size, i.bytes)) = some (z, s, b)) : ∃ i, o = some i ∧ i.zero = z ∧ i.size = s ∧ i.bytes = b := by
  cases o with
  | none => cases h
  | some i =>
    simp only [Option.map_some, Option.some.injEq, Prod.mk.injEq] at h
    exact ⟨i, rfl, h.1, h.2.1, h.2.2⟩

section
variable {P : Program} {α : Type} (R : RowK P α)
/-- All cells, one behind the other. -/
def RowK.all (xs : List α) : List Value := xs.flatMap R.enc
theorem RowK.all_len (xs : List α) : (R.all xs).length = xs.length * R.n := by
  unfold RowK.all
  induction xs with
  | nil => simp
  | cons x xs ih => rw [List.flatMap_cons, List.length_append, ih, R.len, List.length_cons, Nat.succ_mul, Nat.add_comm]
theorem RowK.all_append (xs ys : List α) : R.all (xs ++ ys) = R.all xs ++ R.all ys := by simp [RowK.all]
theorem RowK.all_at : ∀ (xs : List α) (i : Nat) (x : α), xs[i]? = some x → ∀ j, j < R.n → (R.all xs)[i * R.n + j]? = (R.enc x)[j]?
  | [], i, x, h, _, _ => by simp at h
  | y :: xs, 0, x, h, j, hj => by
    simp at h; subst h
    unfold RowK.all
    rw [List.flatMap_cons, List.getElem?_append_left (by rw [R.len]; omega)]
    simp
  | y :: xs, i + 1, x, h, j, hj => by
    have ih := RowK.all_at xs i x (by simpa using h) j hj
    unfold RowK.all at ih ⊢
    rw [List.flatMap_cons, List.getElem?_append_right (by rw [R.len, Nat.succ_mul]; omega), R.len, ← ih]
    congr 1
    rw [Nat.succ_mul]; omega
theorem RowK.all_one (xs : List α) : ∀ u ∈ R.all xs, u.oneCell' = true := fun u hu => by
  obtain ⟨x, _, hx⟩ := List.mem_flatMap.1 hu
  exact R.one x u hx

/-- A slice value that owns its row. -/
def RowK.own (w : World) (B : Nat) (v : Value) (xs : List α) : Prop := w.ownsRow B R.e R.n v xs.length (R.all xs)
/-- What lies at an offset of a block. -/
def RowK.lies (w : World) (g off : Nat) (xs : List α) : Prop := ∀ i x, xs[i]? = some x → ∀ j, j < R.n → w.cell? ⟨g, off + (i * R.n + j), none⟩ = (R.enc x)[j]?
/-- A slice that shows these, wherever. -/
def RowK.shows (w : World) (A : Option Addr) (xs : List α) : Prop := 0 < xs.length → ∃ g off, A = some ⟨g, off, none⟩ ∧ g < w.heap.size ∧ R.lies w g off xs
variable {R}
variable {w w' : World} {g off B : Nat} {v : Value} {A : Option Addr} {xs ys : List α}
theorem RowK.lies_same (h : R.lies w g off xs) (e : w'.heap[g]? = w.heap[g]?) : R.lies w' g off xs := fun i x hx j hj => (World.cell?_of_block e).trans (h i x hx j hj)
theorem RowK.lies_take (h : R.lies w g off xs) (k : Nat) : R.lies w g off (xs.take k) := fun i x hx j hj => by
  rw [List.getElem?_take] at hx
  split at hx
  · exact h i x hx j hj
  · cases hx
theorem RowK.lies_drop (h : R.lies w g off xs) (k : Nat) : R.lies w g (off + k * R.n) (xs.drop k) := fun i x hx j hj => by
  rw [List.getElem?_drop] at hx
  have := h (k + i) x hx j hj
  rw [Nat.add_mul] at this
  rw [show off + k * R.n + (i * R.n + j) = off + (k * R.n + i * R.n + j) by omega]
  exact this
theorem RowK.shows_same (h : R.shows w A xs) (e : ∀ g, A.map (·.block) = some g → w'.heap[g]? = w.heap[g]?) (hs : w.heap.size ≤ w'.heap.size) : R.shows w' A xs := fun h0 => by
  obtain ⟨g, off, rfl, hg, hl⟩ := h h0
  exact ⟨g, off, rfl, Nat.lt_of_lt_of_le hg hs, RowK.lies_same hl (e g rfl)⟩
theorem RowK.shows_below (h : R.shows w A xs) (hb : Below w.heap.size w w') : R.shows w' A xs := fun h0 => by
  obtain ⟨g, off, rfl, hg, hl⟩ := h h0
  exact ⟨g, off, rfl, Nat.lt_of_lt_of_le hg hb.size, RowK.lies_same hl (hb.block g hg)⟩
theorem RowK.shows_nil : R.shows w A [] := fun h => by simp at h
theorem RowK.own_nil (w : World) (B : Nat) : R.own w B (.slice none 0 0) [] := World.ownsRow_nil _ _ _ _
theorem row_own_same {base : Nat} {e : TypeId} {size n : Nat} {zs : List Value} (h : w.ownsRow base e size v n zs) (hk : ∀ k, v.ownBlock = some k → w'.heap[k]? = w.heap[k]?) : w'.ownsRow base e size v n zs := by
  refine ⟨h.1, ?_⟩
  rcases h.2 with h2 | ⟨g, cap, cur, rfl, hb, hg, rest⟩
  · exact .inl h2
  · exact .inr ⟨g, cap, cur, rfl, hb, (hk g rfl).trans hg, rest⟩
theorem RowK.own_same (h : R.own w B v xs) (hk : ∀ k, v.ownBlock = some k → w'.heap[k]? = w.heap[k]?) : R.own w' B v xs := row_own_same h hk
theorem RowK.own_lt (h : R.own w B v xs) {k : Nat} (hk : v.ownBlock = some k) : k < w.heap.size ∧ B ≤ k := by
  rcases h.2 with ⟨e, _⟩ | ⟨g, cap, cur, rfl, hb, hg, _⟩
  · rw [e] at hk; cases hk
  · have e : g = k := Option.some.inj hk
    subst e
    exact ⟨(Array.getElem?_eq_some_iff.1 hg).1, hb⟩
theorem RowK.own_below (h : R.own w B v xs) (hb : Below w.heap.size w w') : R.own w' B v xs := RowK.own_same h fun k e => hb.block k (RowK.own_lt h e).1
theorem RowK.own_kept {F : Nat → Prop} (h : R.own w B v xs) (k : Kept F w w') (ha : ∀ i, v.ownBlock = some i → ¬ F i) : R.own w' B v xs := RowK.own_same h fun i e => k.block i (RowK.own_lt h e).1 (ha i e)
theorem RowK.own_more {B' : Nat} (h : R.own w B v xs) (hB : B' ≤ B) : R.own w B' v xs := by
  refine ⟨h.1, ?_⟩
  rcases h.2 with h2 | ⟨g, cap, cur, rfl, hb, r⟩
  · exact .inl h2
  · exact .inr ⟨g, cap, cur, rfl, Nat.le_trans hB hb, r⟩
/-- What a walk reads of a row of its own. -/
theorem RowK.own_form (h : R.own w B v xs) : (v = .slice none 0 0 ∧ xs = []) ∨ ∃ g c, v = .slice (some ⟨g, 0, none⟩) xs.length c ∧ xs.length ≤ c ∧ g < w.heap.size ∧ B ≤ g ∧ R.lies w g 0 xs := by
  rcases h.2 with ⟨rfl, hn⟩ | ⟨g, cap, cur, rfl, hg, hh, hc, r⟩
  · exact .inl ⟨rfl, List.eq_nil_of_length_eq_zero (by simpa using hn)⟩
  · right
    refine ⟨g, cap, rfl, hc, (Array.getElem?_eq_some_iff.1 hh).1, hg, fun i x hx j hj => ?_⟩
    have hi : i < xs.length := (List.getElem?_eq_some_iff.1 hx).1
    have hlt : i * R.n + j < xs.length * R.n := by
      have : (i + 1) * R.n ≤ xs.length * R.n := Nat.mul_le_mul_right _ (by omega)
      rw [Nat.succ_mul] at this; omega
    rw [Nat.zero_add]
    exact (World.ownsRow.cellAt h _ hlt).trans (R.all_at xs i x hx j hj)
theorem RowK.own_shows (h : R.own w B v xs) : ∃ A c, v = .slice A xs.length c ∧ R.shows w A xs ∧ (A = none → c = 0 ∧ xs.length = 0) ∧ xs.length ≤ c := by
  rcases RowK.own_form h with ⟨rfl, rfl⟩ | ⟨g, c, rfl, hc, hg, _, hl⟩
  · exact ⟨none, 0, rfl, RowK.shows_nil, fun _ => ⟨rfl, rfl⟩, Nat.le_refl _⟩
  · exact ⟨_, c, rfl, fun _ => ⟨g, 0, rfl, hg, hl⟩, (fun e => by cases e), hc⟩
theorem RowK.own_slice (h : R.own w B v xs) : ∃ A n c, v = .slice A n c := by
  obtain ⟨A, c, e, _⟩ := RowK.own_shows h
  exact ⟨A, _, c, e⟩

/-- A new block of one of them. -/
theorem RowK.lies_new (w : World) (x : α) (t : TypeId) : R.lies (w.alloc (.cells (R.enc x).toArray t)) w.heap.size 0 [x] := fun i y hy j hj => by
  match i, hy with
  | 0, hy =>
    simp at hy; subst hy
    rw [show (0 + (0 * R.n + j)) = j by omega, cell_of_row _ _ j _ t (0, 0) (heap_alloc_new w _)]
    simp

/-- append(s, x...): s owns its row, x shows what it shows, wherever. -/
theorem RowK.append {ops : Array Oper} {rest : List Oper} {o : Oper} {a : Act} {Q : Exit → Act → World → Prop} (hgd : o.guard = none) (s x : Operand)
    (ho : o.op = .call { callee := .builtin .append, args := #[s, x], argTypes := #[R.s, R.s] })
    (B : Nat) (v : Value) (xs ys : List α) (hs : a.eval s = v) (hown : R.own w B v xs) (A : Option Addr) (n c : Nat) (hn : n = ys.length) (hx : a.eval x = .slice A n c) (hr : R.shows w A ys) (hc : A = none → c = 0 ∧ ys.length = 0) (hlen : xs.length + ys.length ≤ 100000000) (hB : B ≤ w.heap.size)
    (h : ∀ v' w', R.own w' B v' (xs ++ ys) → w.grownBy w' v.ownBlock → (v'.ownBlock = v.ownBlock ∨ v'.ownBlock = some w.heap.size) → wpList P ops Q rest (a.put o.dst v') w') : wpList P ops Q (o :: rest) a w := by
  subst hn
  obtain ⟨i0, hi, hz0, hz1, hz2⟩ := row_info R.info
  have hb := R.by_
  have hbig : (xs.length + ys.length) * R.bytes ≤ 140737488355328 := by
    have := Nat.mul_le_mul hlen hb
    omega
  cases A with
  | none =>
    obtain ⟨rfl, h0⟩ := hc rfl
    have hR : ys = [] := List.eq_nil_of_length_eq_zero h0
    subst hR
    exact wpList_append_own_none hgd s x _ ho B _ i0 R.n R.und hi v xs.length _ hs hown hx (h v w (by rw [List.append_nil]; exact hown) (World.grownBy.refl w _) (.inl rfl))
  | some ad =>
    refine wpList_append_own_at w hgd s x _ ho B _ i0 _ R.n R.bytes R.und hi hz0 hz1 hz2 R.zs R.pos v xs.length _ hs hown ad ys.length c (R.all ys) hx (R.all_len ys) (fun j u hu => ?_) (R.all_one ys) (by unfold maxLen; omega) hbig hB
      (fun v' w' h1 h2 h3 h4 => h v' w' (by unfold RowK.own; rw [List.length_append, R.all_append]; exact h1) h2 h4)
    have hj : j < ys.length * R.n := by have := (List.getElem?_eq_some_iff.1 hu).1; rw [R.all_len] at this; exact this
    have hy : 0 < ys.length := by
      rcases Nat.eq_zero_or_pos ys.length with e | e
      · rw [e] at hj; omega
      · exact e
    obtain ⟨g, off, e, _, hl⟩ := hr hy
    cases e
    have hadd : (⟨g, off, none⟩ : Addr).add j = ⟨g, off + j, none⟩ := by unfold Addr.add; split <;> simp_all
    have hp := R.pos
    have hq : j / R.n < ys.length := Nat.div_lt_of_lt_mul (by rw [Nat.mul_comm]; exact hj)
    have hm : j % R.n < R.n := Nat.mod_lt _ hp
    have hx := List.getElem?_eq_getElem hq
    have e1 := hl _ _ hx _ hm
    have e2 := R.all_at ys _ _ hx _ hm
    have ej : j / R.n * R.n + j % R.n = j := Nat.div_add_mod' j R.n
    rw [ej] at e1 e2
    rw [hadd, e1, ← e2, hu]
end

/-- append(s, x...) inside a region that draws its order: something is appended. -/
theorem RowK.step_append {P : Program} {α : Type} {R : RowK P α} {w : World} {ops : Array Oper} {o : Oper} {a : Act} {K : Act → World → Prop} {Q : Exit → Act → World → Prop} {E : Prop} (hgd : o.guard = none) (s x : Operand)
    (ho : o.op = .call { callee := .builtin .append, args := #[s, x], argTypes := #[R.s, R.s] })
    (B : Nat) (v : Value) (xs ys : List α) (hs : a.eval s = v) (hown : R.own w B v xs) (ad : Addr) (n c : Nat) (hn : n = ys.length) (hx : a.eval x = .slice (some ad) n c) (hr : R.shows w (some ad) ys) (h0 : 0 < n) (hlen : xs.length + ys.length ≤ 100000000) (hB : B ≤ w.heap.size) (H : Nat) (hH : w.heap.size = H)
    (h : ∀ g cap w', R.own w' B (.slice (some ⟨g, 0, none⟩) (xs.length + n) cap) (xs ++ ys) → w.grownBy w' v.ownBlock → (v.ownBlock = some g ∨ g = H) → g < w'.heap.size → K (a.put o.dst (.slice (some ⟨g, 0, none⟩) (xs.length + n) cap)) w') :
    if Region.wanted o (yielded ops a.tmps) = true then Oper.wp P o a w K Q else E := by
  subst hn
  obtain ⟨i0, hi, hz0, hz1, hz2⟩ := row_info R.info
  have hb := R.by_
  have hbig : (xs.length + ys.length) * R.bytes ≤ 140737488355328 := by
    have := Nat.mul_le_mul hlen hb
    omega
  obtain ⟨g, off, e, _, hl⟩ := hr h0
  cases e
  refine step_append_lies w hgd s x _ ho B _ i0 _ R.n R.bytes R.und hi hz0 hz1 hz2 R.zs R.pos v xs.length _ hs hown ⟨g, off, none⟩ ys.length c (R.all ys) hx (R.all_len ys) (fun j u hu => ?_) (R.all_one ys) h0 (by unfold maxLen; omega) hbig hB H hH
    (fun g cap w' h1 h2 h3 h4 => h g cap w' (by unfold RowK.own; rw [List.length_append, R.all_append]; exact h1) h2 h3 h4)
  have hj : j < ys.length * R.n := by have := (List.getElem?_eq_some_iff.1 hu).1; rw [R.all_len] at this; exact this
  have hadd : (⟨g, off, none⟩ : Addr).add j = ⟨g, off + j, none⟩ := by unfold Addr.add; split <;> simp_all
  have hp := R.pos
  have hq : j / R.n < ys.length := Nat.div_lt_of_lt_mul (by rw [Nat.mul_comm]; exact hj)
  have hm : j % R.n < R.n := Nat.mod_lt _ hp
  have hx := List.getElem?_eq_getElem hq
  have e1 := hl _ _ hx _ hm
  have e2 := R.all_at ys _ _ hx _ hm
  have ej : j / R.n * R.n + j % R.n = j := Nat.div_add_mod' j R.n
  rw [ej] at e1 e2
  rw [hadd, e1, ← e2, hu]

/-- Cells laid one behind the other, from a place on. -/
def setMany (zs : List Value) (off : Nat) : List Value → List Value
  | [] => zs
  | u :: us => setMany (zs.set off u) (off + 1) us
theorem setMany_mid : ∀ (us pre bs zs : List Value), bs.length = us.length → setMany (pre ++ (bs ++ zs)) pre.length us = pre ++ (us ++ zs)
  | [], pre, [], zs, _ => rfl
  | u :: us, pre, b :: bs, zs, h => by
    show setMany ((pre ++ (b :: bs ++ zs)).set pre.length u) (pre.length + 1) us = _
    rw [List.set_append_right _ _ (Nat.le_refl _), Nat.sub_self]
    show setMany (pre ++ (u :: (bs ++ zs))) (pre.length + 1) us = _
    have := setMany_mid us (pre ++ [u]) bs zs (by simpa using h)
    simpa using this
theorem RowK.all_set {P : Program} {α : Type} {R : RowK P α} {xs : List α} {j : Nat} {y : α} (hy : xs[j]? = some y) (x : α) : R.all (xs.set j x) = setMany (R.all xs) (j * R.n) (R.enc x) := by
  obtain ⟨hj, ey⟩ := List.getElem?_eq_some_iff.1 hy
  have e1 : xs = xs.take j ++ y :: xs.drop (j + 1) := by
    rw [← ey, List.getElem_cons_drop, List.take_append_drop]
  have e2 : xs.set j x = xs.take j ++ x :: xs.drop (j + 1) := List.set_eq_take_append_cons_drop.trans (if_pos hj)
  have hl : (R.all (xs.take j)).length = j * R.n := by rw [R.all_len, List.length_take, Nat.min_eq_left (Nat.le_of_lt hj)]
  rw [e2]
  conv => rhs; rw [e1]
  have c : ∀ z : α, R.all (xs.take j ++ z :: xs.drop (j + 1)) = R.all (xs.take j) ++ (R.enc z ++ R.all (xs.drop (j + 1))) := fun z => by
    rw [R.all_append]; rfl
  rw [c, c, ← hl, setMany_mid _ _ _ _ (by rw [R.len, R.len])]
/-- One cell of a row laid anew. -/
theorem row_set {w : World} {base : Nat} {e : TypeId} {size n g cap : Nat} {zs : List Value} (h : w.ownsRow base e size (.slice (some ⟨g, 0, none⟩) n cap) n zs) (i : Nat) (u : Value) :
    (w.setCell ⟨g, i, none⟩ u).ownsRow base e size (.slice (some ⟨g, 0, none⟩) n cap) n (zs.set i u) := by
  refine ⟨by rw [List.length_set]; exact h.1, ?_⟩
  rcases h.2 with ⟨e, _⟩ | ⟨g', cap', cur, e, hb, hg, h1, h2, h3, h4⟩
  · cases e
  · injection e with e1 e2 e3
    injection e1 with e1
    injection e1 with e1
    subst e1; subst e3
    have hb2 : Blk w g _ cur := hg
    refine .inr ⟨g, cap, _, rfl, hb, hb2.set_ i u, h1, h2, by simpa using h3, ?_⟩
    rw [Array.toList_setIfInBounds, List.take_set, h4]
theorem row_setMany {base : Nat} {e : TypeId} {size n g cap : Nat} : ∀ (us : List Value) {w : World} {zs : List Value} (_ : w.ownsRow base e size (.slice (some ⟨g, 0, none⟩) n cap) n zs) (i : Nat),
    ((us.foldl (fun (p : World × Nat) u => (p.1.setCell ⟨g, p.2, none⟩ u, p.2 + 1)) (w, i)).1).ownsRow base e size (.slice (some ⟨g, 0, none⟩) n cap) n (setMany zs i us)
  | [], _, _, h, _ => h
  | u :: us, _, _, h, i => row_setMany us (row_set h i u) (i + 1)
/-- One of them laid anew. -/
theorem RowK.own_set {P : Program} {α : Type} {R : RowK P α} {w : World} {B g c : Nat} {xs : List α} {j : Nat} {y : α} (h : R.own w B (.slice (some ⟨g, 0, none⟩) xs.length c) xs) (hy : xs[j]? = some y) (x : α) :
    R.own (((R.enc x).foldl (fun (p : World × Nat) u => (p.1.setCell ⟨g, p.2, none⟩ u, p.2 + 1)) (w, j * R.n)).1) B (.slice (some ⟨g, 0, none⟩) xs.length c) (xs.set j x) := by
  unfold RowK.own
  rw [List.length_set, RowK.all_set hy]
  exact row_setMany (R.enc x) h _
theorem RowK.own_frozen {P : Program} {α : Type} {R : RowK P α} {w : World} {B g c : Nat} {xs : List α} (h : R.own w B (.slice (some ⟨g, 0, none⟩) xs.length c) xs) (i : Nat) : w.frozen? ⟨g, i, none⟩ = false := World.ownsRow.frozenAt h i

/-- What s[:k] shows. -/
theorem RowK.cut_take {P : Program} {α : Type} {R : RowK P α} {w : World} {A : Option Addr} {xs : List α} (h : R.shows w A xs) (k : Nat) : R.shows w A (xs.take k) := fun h0 => by
  rw [List.length_take] at h0
  obtain ⟨g, off, rfl, hg, hl⟩ := h (by omega)
  exact ⟨g, off, rfl, hg, RowK.lies_take hl k⟩
/-- What s[k:] shows: at k = cap the old address is kept. -/
theorem RowK.cut_drop {P : Program} {α : Type} {R : RowK P α} {w : World} {g off c : Nat} {xs : List α} (hl : R.lies w g off xs) (hg : g < w.heap.size) (hc : xs.length ≤ c) (k : Nat) :
    R.shows w (if c = k then (some ⟨g, off, none⟩ : Option Addr) else some ⟨g, off + k * R.n, none⟩) (xs.drop k) := fun h0 => by
  rw [List.length_drop] at h0
  have e : c ≠ k := by omega
  rw [if_neg e]
  exact ⟨g, _, rfl, hg, RowK.lies_drop hl k⟩
end Go.Proofs.YtlephnfepofbbaaDoor

/-
  The document's reader of a line: the step that its words could be, if its text is the line: the same step.
-/
namespace Go.Proofs.YtlephnfepofbbaaDoor

def valR : Nat → List UInt8 → Nat
  | n, [] => n
  | n, c :: r => if c.toNat < 48 ∨ 57 < c.toNat ∨ 1844674407370955161 < n then n else if n = 1844674407370955161 ∧ 5 < c.toNat - 48 then n else valR (10 * n + (c.toNat - 48)) r
theorem valR_lt : ∀ (l : List UInt8) (n : Nat), n < 18446744073709551616 → valR n l < 18446744073709551616
  | [], n, h => h
  | c :: r, n, h => by
    unfold valR
    split
    · exact h
    · split
      · exact h
      · exact valR_lt r _ (by omega)
theorem valR_gath : ∀ (l : List UInt8) (n : Nat), allDig l → gath n l < 18446744073709551616 → valR n l = gath n l
  | [], _, _, _ => rfl
  | c :: r, n, hd, hl => by
    have hc := hd c (List.mem_cons_self ..)
    have hg : gath (n * 10 + (c.toNat - 48)) r < 18446744073709551616 := hl
    have hge := gath_ge r (n * 10 + (c.toNat - 48))
    unfold valR
    rw [if_neg (by omega), if_neg (by omega), show 10 * n + (c.toNat - 48) = n * 10 + (c.toNat - 48) by omega]
    exact valR_gath r _ (fun x hx => hd x (List.mem_cons_of_mem _ hx)) hg
theorem valR_dec (n : Nat) (h : n < 18446744073709551616) : valR 0 (Lib.decDigits n) = n := by
  obtain ⟨h1, h2, _⟩ := dec_props n
  rw [valR_gath _ _ h1 (by rw [h2]; exact h), h2]
def smallR (s : List UInt8) : Int := if 9223372036854775807 < valR 0 s then -1 else (valR 0 s : Int)
theorem smallR_bd (s : List UInt8) : -9223372036854775808 ≤ smallR s ∧ smallR s < 9223372036854775808 := by unfold smallR; split <;> omega
theorem smallR_dec {n : Int} (h0 : 0 ≤ n) (h1 : n < 9223372036854775808) : smallR (decI n) = n := by
  unfold smallR decI
  rw [valR_dec _ (by omega), if_neg (by omega)]; omega
def nibR (c : UInt8) : Nat := if 48 ≤ c.toNat ∧ c.toNat ≤ 57 then c.toNat - 48 else if 97 ≤ c.toNat ∧ c.toNat ≤ 102 then c.toNat - 97 + 10 else 255
theorem nibR_hexd (x : Nat) (h : x < 16) : nibR (hexd x) = x := by
  obtain ⟨j, rfl⟩ : ∃ j : Fin 16, x = j.val := ⟨⟨x, h⟩, rfl⟩
  revert j; decide +kernel
def pairR (a b : UInt8) : List UInt8 := if nibR a < 16 ∧ nibR b < 16 then [UInt8.ofNat (16 * nibR a + nibR b)] else []
def unhexR : List UInt8 → List UInt8
  | a :: b :: r => pairR a b ++ unhexR r
  | _ => []
theorem unhexR_hex : ∀ b : List UInt8, unhexR (hexB b) = b
  | [] => rfl
  | x :: b => by
    have ih := unhexR_hex b
    have hx := UInt8.toNat_lt x
    unfold hexB at ih ⊢
    rw [List.flatMap_cons]
    show pairR (hexd (x.toNat / 16)) (hexd (x.toNat % 16)) ++ unhexR (List.flatMap _ b) = _
    rw [ih]
    unfold pairR
    rw [nibR_hexd _ (by omega), nibR_hexd _ (by omega), if_pos (by omega), show 16 * (x.toNat / 16) + x.toNat % 16 = x.toNat by omega]
    have : UInt8.ofNat x.toNat = x := u8_eq (by rw [UInt8.toNat_ofNat']; omega)
    rw [this]; rfl

def mvWR (l : List (List UInt8)) (op : Int) : Int × Nat := if hasW op = true ∧ 1 < l.length then (smallR (l.getD 1 []), 2) else (0, 1)
def mvNR (l : List (List UInt8)) (op : Int) (n : Nat) : Int × Nat := if hasN op = true ∧ n < l.length then (smallR (l.getD n []), n + 1) else (0, n)
def mvDR (l : List (List UInt8)) (op : Int) (n : Nat) : List UInt8 × Nat := if op = 1 ∧ n < l.length then (unhexR (l.getD n []), n + 1) else ([], n)
def moveR (l : List (List UInt8)) : Mv × Nat := match opOf (l.getD 0 []) with
  | none => (⟨0, 0, 0, []⟩, 0)
  | some k => (⟨(k : Int), (mvWR l k).1, (mvNR l k (mvWR l k).2).1, (mvDR l k (mvNR l k (mvWR l k).2).2).1⟩, (mvDR l k (mvNR l k (mvWR l k).2).2).2)
def movesR : Nat → List (List UInt8) → List Mv → Option (List Mv)
  | _, [], acc => some acc
  | 0, _ :: _, acc => some acc
  | f + 1, w :: ws, acc => if (moveR (w :: ws)).2 = 0 then none else movesR f ((w :: ws).drop (moveR (w :: ws)).2) (acc ++ [(moveR (w :: ws)).1])
theorem movesR_fuel : ∀ (f g : Nat) (l : List (List UInt8)) (acc : List Mv), l.length ≤ f → l.length ≤ g → movesR f l acc = movesR g l acc
  | f, g, [], acc, _, _ => by cases f <;> cases g <;> rfl
  | 0, g, w :: ws, acc, h, _ => by simp at h
  | f + 1, 0, w :: ws, acc, _, h => by simp at h
  | f + 1, g + 1, w :: ws, acc, hf, hg => by
    unfold movesR
    split
    · rfl
    · rename_i hn
      simp only [List.length_cons] at hf hg
      exact movesR_fuel f g _ _ (by rw [List.length_drop, List.length_cons]; omega) (by rw [List.length_drop, List.length_cons]; omega)
def headR (ws : List (List UInt8)) : St × Nat :=
  let i := if 2 < ws.length ∧ ws.getD 2 [] = wIntr then (true, 3) else (false, 2)
  if i.2 + 1 < ws.length ∧ ws.getD i.2 [] = wOrder then (⟨valR 0 (ws.getD 1 []), i.1, (splitB 44 (ws.getD (i.2 + 1) [])).map smallR, []⟩, i.2 + 2)
  else (⟨valR 0 (ws.getD 1 []), i.1, [], []⟩, i.2)
def candR (ws : List (List UInt8)) : Option St := if ws.length < 2 then none else match movesR ws.length (ws.drop (headR ws).2) [] with
  | some ms => some { (headR ws).1 with mv := ms }
  | none => none
def readR (s : List UInt8) : Option St := match candR (splitB 32 s) with
  | some x => if stOk x = true ∧ lineB x = s then some x else none
  | none => none

theorem moveR_le (l : List (List UInt8)) (h : l ≠ []) : (moveR l).2 ≤ l.length ∧ (-9223372036854775808 ≤ (moveR l).1.wire ∧ (moveR l).1.wire < 9223372036854775808) ∧ (-9223372036854775808 ≤ (moveR l).1.n ∧ (moveR l).1.n < 9223372036854775808) := by
  have hl := List.length_pos_iff.2 h
  have hW : ∀ op, (mvWR l op).2 ≤ l.length ∧ (-9223372036854775808 ≤ (mvWR l op).1 ∧ (mvWR l op).1 < 9223372036854775808) := fun op => by
    unfold mvWR; split
    · rename_i h; exact ⟨h.2, smallR_bd _⟩
    · exact ⟨hl, by simp⟩
  have hN : ∀ op n, n ≤ l.length → (mvNR l op n).2 ≤ l.length ∧ (-9223372036854775808 ≤ (mvNR l op n).1 ∧ (mvNR l op n).1 < 9223372036854775808) := fun op n hn => by
    unfold mvNR; split
    · rename_i h; exact ⟨h.2, smallR_bd _⟩
    · exact ⟨hn, by simp⟩
  have hD : ∀ op n, n ≤ l.length → (mvDR l op n).2 ≤ l.length := fun op n hn => by
    unfold mvDR; split
    · rename_i h; exact h.2
    · exact hn
  unfold moveR
  split
  · exact ⟨Nat.zero_le _, by simp, by simp⟩
  · rename_i k _
    have a := hW k
    have b := hN k _ a.1
    exact ⟨hD k _ b.1, a.2, b.2⟩
theorem movesR_in : ∀ (f : Nat) (l : List (List UInt8)) (acc ms : List Mv), (∀ m ∈ acc, (-9223372036854775808 ≤ m.wire ∧ m.wire < 9223372036854775808) ∧ (-9223372036854775808 ≤ m.n ∧ m.n < 9223372036854775808)) → movesR f l acc = some ms → ∀ m ∈ ms, (-9223372036854775808 ≤ m.wire ∧ m.wire < 9223372036854775808) ∧ (-9223372036854775808 ≤ m.n ∧ m.n < 9223372036854775808)
  | f, [], acc, ms, ha, h => by
    have : acc = ms := by cases f <;> simpa [movesR] using h
    rw [← this]; exact ha
  | 0, w :: ws, acc, ms, ha, h => by
    have : acc = ms := by simpa [movesR] using h
    rw [← this]; exact ha
  | f + 1, w :: ws, acc, ms, ha, h => by
    unfold movesR at h
    split at h
    · cases h
    · refine movesR_in f _ _ ms (fun m hm => ?_) h
      rcases List.mem_append.1 hm with hm | hm
      · exact ha m hm
      · have : m = (moveR (w :: ws)).1 := by simpa using hm
        rw [this]; exact (moveR_le (w :: ws) (by simp)).2
theorem candR_in {ws : List (List UInt8)} {x : St} (h : candR ws = some x) : x.In := by
  unfold candR at h
  split at h
  · cases h
  · split at h
    · rename_i ms hm
      have e : { (headR ws).1 with mv := ms } = x := by simpa using h
      subst e
      refine ⟨?_, movesR_in _ _ _ _ (fun m hm => by simp at hm) hm⟩
      show (headR ws).1.t < _
      have hv := valR_lt (ws.getD 1 []) 0 (by decide)
      unfold headR
      simp only []
      (repeat' split) <;> exact hv
    · cases h

theorem moveR_ws (m : Mv) (rest : List (List UInt8)) (h : mvOk m = true) (hin : m.wire < 9223372036854775808 ∧ m.n < 9223372036854775808) : moveR (moveWs m ++ rest) = (m, (moveWs m).length) := by
  obtain ⟨⟨h1, h7⟩, hw, hnn, hb, h3, h4, h5, h6⟩ := mvOk_parts h
  obtain ⟨op, wire, n, b⟩ := m
  simp only [] at h1 h7 hw hnn hb h3 h4 h5 h6 hin
  obtain ⟨k, rfl⟩ : ∃ k : Nat, op = (k : Int) := ⟨op.toNat, by omega⟩
  have eop := opOf_word k (by omega) (by omega)
  have ex := smallR_dec hw hin.1
  have ey := smallR_dec hnn hin.2
  have eb := unhexR_hex b
  have e0 : (moveWs ⟨(k : Int), wire, n, b⟩ ++ rest).getD 0 [] = wordN k := by simp [moveWs, wordI]
  unfold moveR
  rw [e0, eop]
  simp only []
  rcases Nat.lt_or_ge k 2 with hk | hk
  · obtain rfl : k = 1 := by omega
    obtain rfl : n = 0 := h4 hasN_one
    simp [mvWR, mvNR, mvDR, moveWs, ex, eb, show hasW 1 = true from rfl, show hasN 1 = false from rfl]
  · have hO : ¬ ((k : Nat) : Int) = 1 := by omega
    obtain rfl : b = [] := h5 hO
    cases eW : hasW ((k : Nat) : Int) with
    | true =>
      cases eN : hasN ((k : Nat) : Int) with
      | true => simp [mvWR, mvNR, mvDR, moveWs, ex, ey, eW, eN, hO]
      | false =>
        obtain rfl : n = 0 := h4 eN
        simp [mvWR, mvNR, mvDR, moveWs, ex, eW, eN, hO]
    | false =>
      obtain rfl : wire = 0 := h3 eW
      cases eN : hasN ((k : Nat) : Int) with
      | true => simp [mvWR, mvNR, mvDR, moveWs, ey, eW, eN, hO]
      | false =>
        exfalso
        have : k ≤ 7 := by omega
        obtain ⟨j, rfl⟩ : ∃ j : Fin 8, k = j.val := ⟨⟨k, by omega⟩, rfl⟩
        clear h3 h4 h5 h6 ex ey eop hO h hin hw hnn hb e0
        revert hk eW eN h1 h7 this; revert j; decide
theorem moveWs_ne (m : Mv) : 0 < (moveWs m).length := by simp [moveWs]
theorem movesR_ws : ∀ (ms : List Mv) (f : Nat) (acc : List Mv), (∀ m ∈ ms, mvOk m = true) → (∀ m ∈ ms, m.wire < 9223372036854775808 ∧ m.n < 9223372036854775808) → ms.length ≤ f → movesR f (ms.flatMap moveWs) acc = some (acc ++ ms)
  | [], f, acc, _, _, _ => by cases f <;> simp [movesR]
  | m :: ms, 0, acc, _, _, h => by simp at h
  | m :: ms, f + 1, acc, hok, hin, hf => by
    have hm := moveR_ws m (ms.flatMap moveWs) (hok m (by simp)) (hin m (by simp))
    have ih := movesR_ws ms f (acc ++ [m]) (fun x hx => hok x (List.mem_cons_of_mem _ hx)) (fun x hx => hin x (List.mem_cons_of_mem _ hx)) (by simpa using hf)
    rw [List.flatMap_cons]
    obtain ⟨w, ws, hws⟩ : ∃ w ws, moveWs m ++ ms.flatMap moveWs = w :: ws := ⟨_, _, rfl⟩
    rw [hws] at hm ⊢
    unfold movesR
    rw [hm]
    simp only []
    have := moveWs_ne m
    rw [if_neg (by omega), ← hws, List.drop_left, ih]
    simp
theorem candR_ws (x : St) (h : stOk x = true) (hin : x.In) : candR (stepWs x) = some x := by
  obtain ⟨h1, h2, h3, h4⟩ := stOk_parts h
  obtain ⟨t, intr, ord, ms⟩ := x
  have ht : t < 18446744073709551616 := hin.1
  have hms := hin.2
  simp only [] at h1 h2 h3 h4 ht hms
  have hv := valR_dec t ht
  have hord : (splitB 44 (ordB ord)).map smallR = ord ∨ ord = [] := by
    by_cases ho : ord = []
    · exact .inr ho
    · left
      have hs : splitB 44 (ordB ord) = ord.map decI := by
        unfold ordB
        refine split_join 44 _ (by simpa using ho) fun w hw => ?_
        obtain ⟨n, _, rfl⟩ := List.mem_map.1 hw
        intro hc
        have := (dec_props n.toNat).1 44 hc
        revert this; decide
      rw [hs, List.map_map]
      conv => rhs; rw [← List.map_id ord]
      refine List.map_congr_left fun n hn => ?_
      have := h3 n hn
      exact smallR_dec this.1 (by omega)
  have hno : ∀ rest, ms.flatMap moveWs ≠ wIntr :: rest ∧ ms.flatMap moveWs ≠ wOrder :: rest := fun rest => by
    cases ms with
    | nil => simp
    | cons m ms =>
      obtain ⟨⟨q1, q7⟩, _⟩ := mvOk_parts (h4 m (by simp))
      have hw := word_ne m.op.toNat
      rw [List.flatMap_cons]
      unfold moveWs
      constructor
      · intro e; exact hw.1 (by injection e)
      · intro e; exact hw.2 (by injection e)
  have hhead : headR (stepWs ⟨t, intr, ord, ms⟩) = (⟨t, intr, ord, []⟩, (headWs ⟨t, intr, ord, ms⟩).length) := by
    have hne : ¬ wOrder = wIntr := by decide
    have hne2 : ¬ wIntr = wOrder := by decide
    obtain ⟨F, hF⟩ : ∃ F, ms.flatMap moveWs = F := ⟨_, rfl⟩
    rw [hF] at hno
    unfold stepWs headWs headR
    rw [hF]
    cases intr with
    | true =>
      by_cases ho : ord = []
      · subst ho
        cases F with
        | nil => simp [hv]
        | cons w F =>
          have q : ¬ w = wOrder := fun e => (hno F).2 (by rw [e])
          simp [hv, q]
      · rcases hord with hord | hord
        · simp [hv, ho, hord]
        · exact absurd hord ho
    | false =>
      by_cases ho : ord = []
      · subst ho
        cases F with
        | nil => simp [hv]
        | cons w F =>
          have q : ¬ w = wOrder := fun e => (hno F).2 (by rw [e])
          have q2 : ¬ w = wIntr := fun e => (hno F).1 (by rw [e])
          simp [hv, q, q2]
      · rcases hord with hord | hord
        · simp [hv, ho, hord, hne]
        · exact absurd hord ho
  unfold candR
  rw [hhead]
  have hl : ms.length ≤ (ms.flatMap moveWs).length := by
    clear h1 h2 h3 h4 hms hin h hno hhead hord
    induction ms with
    | nil => simp
    | cons m ms ih => have := moveWs_ne m; rw [List.flatMap_cons, List.length_append, List.length_cons]; omega
  have hlen : ¬ (stepWs ⟨t, intr, ord, ms⟩).length < 2 := by unfold stepWs headWs; simp
  rw [if_neg hlen]
  simp only []
  unfold stepWs
  rw [List.drop_left, movesR_ws ms _ [] h4 (fun m hm => by have := hms m hm; omega) (by rw [List.length_append]; show ms.length ≤ (headWs _).length + (ms.flatMap moveWs).length; omega)]
  rfl
/-- Both readers take the same lines for the same steps. -/
theorem readR_eq (s : List UInt8) : readR s = rdLine s := by
  cases hr : rdLine s with
  | some x =>
    obtain ⟨h1, h2, h3⟩ := rdLine_some hr
    unfold readR
    rw [← h1, split_line, candR_ws x h2 h3]
    simp only []
    rw [if_pos ⟨h2, trivial⟩]
  | none =>
    unfold readR
    cases hc : candR (splitB 32 s) with
    | none => rfl
    | some x =>
      simp only []
      split
      · rename_i h
        have := rdLine_line x h.1 (candR_in hc)
        rw [h.2, hr] at this
        cases this
      · rfl
end Go.Proofs.YtlephnfepofbbaaDoor

/-
  A range over a function whose iterator keeps a state of its own in a variable's box and draws orders: a contract of such an iterator, and the law of a loop over it.
-/
namespace Go.Proofs.YtlephnfepofbbaaDoor
open Go.RowKit

/-- The iterator g, its state in the box Bs: the pieces come one by one till all have come, or till a round says no more; what the loop holds must bear what is stored in that box. -/
def SeqDr {α : Type} (n : Nat) (P : Program) (g : Nat) (lb : Array Value) (encs : α → Array Value) (Kp : World → World → Prop) (Bs : Nat) (S Sp : List α → Prop) (w : World) : Prop :=
  ∀ (l : Nat) (J Jx : List α → World → Prop) (W : World), (∀ k, k < w.heap.size → W.heap[k]? = w.heap[k]?) → (∀ s A v, J s A → J s (A.setCell ⟨Bs, 0, none⟩ v)) → (∀ s A, J s A → J s A.drew) →
    (∀ pre x W1, J pre W1 → YieldAt Fence.wide (n - 1) P l (encs x) W1 fun e W' =>
      (e = .returned (.bool true) ∧ J (pre ++ [x]) W' ∧ Kp W1 W') ∨ (e = .returned (.bool false) ∧ Jx (pre ++ [x]) W')) →
    J [] W →
    CallsIn Fence.wide n P g (#[.func (.yield l) #[] #[]] ++ lb) W fun e W' => (∃ v, e = .returned v) ∧ ((∃ xs, S xs ∧ J xs W') ∨ (∃ pre, Sp pre ∧ Jx pre W'))

section
variable {n : Nat} {P : Program}

theorem rangeFunc_dr {α : Type} {g : Operand} {ps : Array Tmp} {assign body : Code} {Q : Exit → Act → World → Prop} {a : Act} {w : World} (h1 : 1 ≤ n)
    {gf : Nat} {lb : Array Value} (hg : a.eval g = .func (.func gf) #[] lb) (eg : ∀ args w, (callFunc gf args).run P w = .ok (.enter gf args) w)
    {encs : α → Array Value} {Kp : World → World → Prop} {Bs : Nat} {S Sp : List α → Prop} (hseq : SeqDr (n - 1) P gf lb encs Kp Bs S Sp w)
    (hKt : ∀ {A B C : World}, Kp A B → Kp B C → Kp A C) (hKb : ∀ (W : World) (l : Nat) (o o' : Obj), w.heap.size ≤ l → W.heap[l]? = some o → o.isCells = false → o.isWalk = false → Kp W (W.putObj l o')) (hps : ∀ x, (encs x).size = ps.size)
    (I : List α → World → Prop) (Ix : Code → List α → World → Prop) (hI : OwnFrom w.heap.size I) (hIx : ∀ c, OwnFrom w.heap.size (Ix c)) (hIs : ∀ s A v, I s A → I s (A.setCell ⟨Bs, 0, none⟩ v)) (h0 : I [] w) (a₁ : α → Act)
    (hassign : ∀ (l : Nat) (x : α) (W : World) (K : Act → World → Prop), K (a₁ x) W →
      assign.wpIn (Fence.wide.inRound l) (n - 1 - 1) P (Exit.then K (fun _ _ _ => False)) { tmps := (ps.zip (encs x)).foldl (fun t (p, v) => t.setIfInBounds p v) a.tmps, defers := [] } W)
    (hbody : ∀ (l : Nat) (pre : List α) (x : α) (W : World), I pre W → body.wpIn (Fence.wide.inRound l) (n - 1 - 1) P (ownPostK Kp I Ix (pre ++ [x]) W) (a₁ x) W)
    (hdone : ∀ (D : Nat) (xs : List α) (W : World), w.heap.size ≤ D → S xs → I xs W → W.heap[D]? = some (.deferred (some [])) → Q .normal { a with defers := { target := .collected D, args := #[] } :: a.defers } W)
    (hstop : ∀ (D : Nat) (c : Code) (pre : List α) (W : World), w.heap.size ≤ D → Sp pre → Ix c pre W → W.heap[D]? = some (.deferred (some [])) → c.wpIn Fence.wide n P Q { a with defers := { target := .collected D, args := #[] } :: a.defers } W) :
    (Code.rangeFunc g ps assign body).wpIn Fence.wide n P Q a w := by
  refine wpIn_rangeFunc fun fn hfn => ?_
  obtain ⟨R, hR⟩ : ∃ R, R = recOf fn a ps assign body w.heap.size := ⟨_, rfl⟩
  obtain ⟨V, hV⟩ : ∃ V, (w.alloc (.deferred (some []))).alloc (.loop (R .ready none)) = V := ⟨_, rfl⟩
  have vL : V.heap[w.heap.size + 1]? = some (.loop (R .ready none)) := by
    rw [← hV]
    have h := World.alloc_heap_new (w.alloc (.deferred (some []))) (.loop (R .ready none))
    rwa [World.size_alloc] at h
  have vD : V.heap[w.heap.size]? = some (.deferred (some [])) := by
    rw [← hV]; exact (Below.heap_alloc _ _ _ (by simp)).trans (World.alloc_heap_new w _)
  have vB : ∀ k, k < w.heap.size → V.heap[k]? = w.heap[k]? := fun k hk => by
    rw [← hV]
    exact (Below.heap_alloc _ _ _ (by simp; omega)).trans (Below.heap_alloc _ _ _ hk)
  have vI : I [] V := by rw [← hV]; exact hI.alloc _ (hI.alloc _ h0)
  refine ⟨w.heap.size + 1, [{ target := .collected w.heap.size, args := #[] }], V, { target := .fn (.func gf) lb, args := #[.func (.yield (w.heap.size + 1)) #[] #[]] }, V, gf,
    #[.func (.yield (w.heap.size + 1)) #[] #[]] ++ lb, V, ?enter, ?res, ?lead, ?inv, fun _ => h1, ?call⟩
  case enter => rw [← hV, hR]; exact run_enterLoop_outer _ _ _ _ _
  case res => simp only [resolve, hg]; simp [go_sem]
  case lead => intro f' _; trivial
  case inv => simp [invoke, go_sem, eg]
  case call =>
    refine (hseq (w.heap.size + 1)
      (fun pre W => I pre W ∧ W.heap[w.heap.size + 1]? = some (.loop (R .ready none)) ∧ W.heap[w.heap.size]? = some (.deferred (some [])))
      (fun pre W => ∃ c, Ix c pre W ∧ W.heap[w.heap.size + 1]? = some (.loop (R .done (some c))) ∧ W.heap[w.heap.size]? = some (.deferred (some [])))
      V vB (fun s A v hs => ⟨hIs s A v hs.1, heap_setCell_other _ _ _ _ _ hs.2.1 rfl, heap_setCell_other _ _ _ _ _ hs.2.2 rfl⟩) (fun s A hs => ⟨hI s A A.drew none hs.1 ⟨rfl, rfl, rfl, Nat.le_refl _, fun _ _ _ => rfl⟩ (fun r e => by cases e), hs.2.1, hs.2.2⟩) ?round ⟨vI, vL, vD⟩).mono ?behind
    case round =>
      rintro pre x W ⟨hi, hl, hd⟩
      have hlt : w.heap.size + 1 < W.heap.size := (Array.getElem?_eq_some_iff.1 hl).1
      have hy := run_yield (P := P) (args := encs x) hl (by rw [hR]; exact hps x)
      rw [hR] at hy
      refine ⟨fn, _, assign, body, hy, roundIn_of_wpIn hfn (hassign _ x W _ ⟨_, run_beginRound hl (by rw [hR]), ?_⟩)⟩
      obtain ⟨U, hU⟩ : ∃ U, W.putObj (w.heap.size + 1) (.loop { R .ready none with state := .busy }) = U := ⟨_, rfl⟩
      have uL : U.heap[w.heap.size + 1]? = some (.loop { R .ready none with state := .busy }) := by rw [← hU]; exact World.putObj_heap_same hlt
      have uD : U.heap[w.heap.size]? = some (.deferred (some [])) := by rw [← hU]; exact (World.putObj_heap_other (by omega)).trans hd
      have uK : Kp W U := by rw [← hU]; exact hKb _ _ _ _ (by omega) hl rfl rfl
      have uI : I pre U := by rw [← hU]; exact hI.putObj _ hi (by omega) hl rfl
      rw [hU]
      refine wpIn_mono (hbody _ pre x U uI) ?_
      have over : ∀ (jump : Option Code) (X : World), KeepsOthers U X →
          (Instr.endRound (w.heap.size + 1) jump).run P X = .ok (.bool jump.isNone) (X.putObj (w.heap.size + 1) (.loop (R (if jump.isNone then .ready else .done) jump))) ∧
          X.heap[w.heap.size + 1]? = some (.loop { R .ready none with state := .busy }) ∧
          (X.putObj (w.heap.size + 1) (.loop (R (if jump.isNone then .ready else .done) jump))).heap[w.heap.size + 1]? = some (.loop (R (if jump.isNone then .ready else .done) jump)) ∧
          (X.putObj (w.heap.size + 1) (.loop (R (if jump.isNone then .ready else .done) jump))).heap[w.heap.size]? = some (.deferred (some [])) := fun jump X hX => by
        have xL := hX.same _ _ uL rfl
        have he := run_endRound (P := P) jump xL
        rw [hR] at he ⊢
        exact ⟨he, by rw [hR] at xL; exact xL, World.putObj_heap_same (Array.getElem?_eq_some_iff.1 xL).1, (World.putObj_heap_other (by omega)).trans (hX.same _ _ uD rfl)⟩
      have leave : ∀ (c : Code) (X : World), KeepsOthers U X → Ix c (pre ++ [x]) X → ∃ v W', (Instr.endRound (w.heap.size + 1) (some c)).run P X = .ok v W' ∧ v = .bool false ∧ ∃ c, Ix c (pre ++ [x]) W' ∧ W'.heap[w.heap.size + 1]? = some (.loop (R .done (some c))) ∧ W'.heap[w.heap.size]? = some (.deferred (some [])) := fun c X hX hx => by
        obtain ⟨hr, b1, b2, b3⟩ := over (some c) X hX
        exact ⟨_, _, hr, rfl, c, (hIx c).putObj _ hx (by omega) b1 rfl, b2, b3⟩
      rintro e b X hp
      cases e with
      | normal =>
        obtain ⟨hX, hk, hi⟩ := hp
        obtain ⟨hr, b1, b2, b3⟩ := over none X hX
        exact ⟨_, _, hr, .inl ⟨rfl, ⟨hI.putObj _ hi (by omega) b1 rfl, b2, b3⟩, hKt (hKt uK hk) (hKb _ _ _ _ (by omega) b1 rfl rfl)⟩⟩
      | ret => obtain ⟨v, W', h1, rfl, h2⟩ := leave _ X hp.1 hp.2; exact ⟨_, _, h1, .inr ⟨rfl, h2⟩⟩
      | exit id => obtain ⟨v, W', h1, rfl, h2⟩ := leave _ X hp.1 hp.2; exact ⟨_, _, h1, .inr ⟨rfl, h2⟩⟩
      | goto t => obtain ⟨v, W', h1, rfl, h2⟩ := leave _ X hp.1 hp.2; exact ⟨_, _, h1, .inr ⟨rfl, h2⟩⟩
      | panic ch => exact hp.elim
      | outgrown => exact hp.elim
    case behind =>
      rintro e X ⟨⟨v, rfl⟩, (⟨xs, hS, hi, hl, hd⟩ | ⟨pre, hSp, c, hi, hl, hd⟩)⟩
      · have he := run_endLoop (P := P) hl (by rw [hR]; simp)
        rw [hR] at he
        exact ⟨none, _, he, hdone _ xs _ (Nat.le_refl _) hS (hI.putObj _ hi (by omega) hl rfl) ((World.putObj_heap_other (by omega)).trans hd)⟩
      · have he := run_endLoop (P := P) hl (by rw [hR]; simp)
        rw [hR] at he
        exact ⟨some c, _, he, hstop _ c pre _ (Nat.le_refl _) hSp ((hIx c).putObj _ hi (by omega) hl rfl) ((World.putObj_heap_other (by omega)).trans hd)⟩
end
end Go.Proofs.YtlephnfepofbbaaDoor

/-
  A range over a function whose iterator may lay blocks, range over other functions, and be called in their rounds: a contract of such an iterator, and the law of a loop over it.
-/
namespace Go.Proofs.YtlephnfepofbbaaDoor
open Go.RowKit Go.Shelf

/-- What an iterator may do between two rounds of a loop whose own blocks are N and N + 1: no block of cells, and none below N + 2, is turned. -/
structure ChO (N : Nat) (X Y : World) : Prop where
  os : Y.os = X.os
  tape : Y.tape = X.tape
  output : Y.output = X.output
  size : X.heap.size ≤ Y.heap.size
  low : ∀ k, k < N + 2 → k < X.heap.size → Y.heap[k]? = X.heap[k]?
  cells : ∀ (k : Nat) (o : Obj), X.heap[k]? = some o → o.isCells = true → Y.heap[k]? = some o
/-- What the law itself does besides: it turns its own record. -/
structure ChR (N : Nat) (X Y : World) : Prop where
  os : Y.os = X.os
  tape : Y.tape = X.tape
  output : Y.output = X.output
  size : X.heap.size ≤ Y.heap.size
  low : ∀ k, k < N → k < X.heap.size → Y.heap[k]? = X.heap[k]?
  cells : ∀ (k : Nat) (o : Obj), X.heap[k]? = some o → o.isCells = true → Y.heap[k]? = some o
/-- What a round keeps for the iterator: the blocks below N that Pr names; from N + 2 on all blocks but those of T. -/
structure KpO (T : Obj → Prop) (N : Nat) (Pr : Nat → Prop) (X Y : World) : Prop where
  size : X.heap.size ≤ Y.heap.size
  low : ∀ k, k < N → k < X.heap.size → Pr k → Y.heap[k]? = X.heap[k]?
  high : ∀ (k : Nat) (o : Obj), N + 2 ≤ k → X.heap[k]? = some o → ¬ T o → Y.heap[k]? = some o
/-- What speaks of cells and of blocks below N alone. -/
def Stab {β : Type} (N : Nat) (I : β → World → Prop) : Prop := ∀ s X Y, I s X → ChR N X Y → I s Y

section
variable {N M : Nat} {X Y Z : World} {T : Obj → Prop} {Pr : Nat → Prop}
theorem ChO.refl (N : Nat) (X : World) : ChO N X X := ⟨rfl, rfl, rfl, Nat.le_refl _, fun _ _ _ => rfl, fun _ _ h _ => h⟩
theorem ChO.trans (h : ChO N X Y) (k : ChO N Y Z) : ChO N X Z :=
  ⟨k.os.trans h.os, k.tape.trans h.tape, k.output.trans h.output, Nat.le_trans h.size k.size, fun i hi hl => (k.low i hi (Nat.lt_of_lt_of_le hl h.size)).trans (h.low i hi hl), fun i o ho hc => k.cells i o (h.cells i o ho hc) hc⟩
theorem ChO.toR (h : ChO N X Y) : ChR N X Y := ⟨h.os, h.tape, h.output, h.size, fun k hk hl => h.low k (by omega) hl, h.cells⟩
theorem ChR.refl (N : Nat) (X : World) : ChR N X X := (ChO.refl N X).toR
theorem ChR.trans (h : ChR N X Y) (k : ChR N Y Z) : ChR N X Z :=
  ⟨k.os.trans h.os, k.tape.trans h.tape, k.output.trans h.output, Nat.le_trans h.size k.size, fun i hi hl => (k.low i hi (Nat.lt_of_lt_of_le hl h.size)).trans (h.low i hi hl), fun i o ho hc => k.cells i o (h.cells i o ho hc) hc⟩
/-- What an inner loop's law turns, its iterator may turn. -/
theorem ChR.inner (h : ChR M X Y) (hN : N + 2 ≤ M) : ChO N X Y := ⟨h.os, h.tape, h.output, h.size, fun k hk hl => h.low k (by omega) hl, h.cells⟩
theorem ChO.inner (h : ChO M X Y) (hN : N ≤ M) : ChO N X Y := ⟨h.os, h.tape, h.output, h.size, fun k hk hl => h.low k (by omega) hl, h.cells⟩
theorem ChO.of_kept (h : Kept (fun _ => False) X Y) : ChO N X Y := ⟨h.os, h.tape, h.output, h.size, fun k _ hl => h.block k hl (fun e => e), fun k o ho _ => (h.block k (Array.getElem?_eq_some_iff.1 ho).1 (fun e => e)).trans ho⟩
theorem ChO.putObj {l : Nat} {o o' : Obj} (hl : N + 2 ≤ l) (ho : X.heap[l]? = some o) (hc : o.isCells = false) : ChO N X (X.putObj l o') :=
  ⟨rfl, rfl, rfl, by simp [World.putObj], fun k hk _ => World.putObj_heap_other (by omega), fun k q hq hqc => (World.putObj_heap_other (fun e => by subst e; rw [ho] at hq; cases hq; rw [hc] at hqc; cases hqc)).trans hq⟩
theorem ChR.putObj {l : Nat} {o o' : Obj} (hl : N ≤ l) (ho : X.heap[l]? = some o) (hc : o.isCells = false) : ChR N X (X.putObj l o') :=
  ⟨rfl, rfl, rfl, by simp [World.putObj], fun k hk _ => World.putObj_heap_other (by omega), fun k q hq hqc => (World.putObj_heap_other (fun e => by subst e; rw [ho] at hq; cases hq; rw [hc] at hqc; cases hqc)).trans hq⟩
theorem ChR.alloc (h : ChR N X Y) (o : Obj) : ChR N X (Y.alloc o) := h.trans (ChO.of_kept ((Kept.refl _ Y).alloc o)).toR
theorem KpO.refl (T : Obj → Prop) (N : Nat) (Pr : Nat → Prop) (X : World) : KpO T N Pr X X := ⟨Nat.le_refl _, fun _ _ _ _ => rfl, fun _ _ _ h _ => h⟩
theorem KpO.trans (h : KpO T N Pr X Y) (k : KpO T N Pr Y Z) : KpO T N Pr X Z :=
  ⟨Nat.le_trans h.size k.size, fun i hi hl hp => (k.low i hi (Nat.lt_of_lt_of_le hl h.size) hp).trans (h.low i hi hl hp), fun i o hi ho hT => k.high i o hi (h.high i o hi ho hT) hT⟩
theorem KpO.putObj {l : Nat} {o' : Obj} (h1 : N ≤ l) (h2 : l < N + 2) : KpO T N Pr X (X.putObj l o') :=
  ⟨by simp [World.putObj], fun k hk _ _ => World.putObj_heap_other (by omega), fun k o hk ho _ => (World.putObj_heap_other (by omega)).trans ho⟩
theorem KpO.of_kept {F : Nat → Prop} (h : Kept F X Y) (hF : ∀ k, k < X.heap.size → F k → (k < N → ¬ Pr k) ∧ (N + 2 ≤ k → ∀ o, X.heap[k]? = some o → T o)) : KpO T N Pr X Y :=
  ⟨h.size, fun k hk hl hp => h.block k hl (fun e => (hF k hl e).1 hk hp), fun k o hk ho hT => by
    have hl := (Array.getElem?_eq_some_iff.1 ho).1
    exact (h.block k hl (fun e => hT ((hF k hl e).2 hk o ho))).trans ho⟩
theorem KeepsFrom.of_kept {F : Nat → Prop} (h : Kept F X Y) (hF : ∀ k o, N ≤ k → X.heap[k]? = some o → F k → o.isCells = true) : KeepsFrom N X Y :=
  ⟨h.size, fun k o hk ho hc => (h.block k (Array.getElem?_eq_some_iff.1 ho).1 (fun e => by rw [hF k o hk ho e] at hc; cases hc)).trans ho⟩
theorem KpO.keepsFrom (h : KpO T N Pr X Y) (hT : ∀ o, T o → o.isCells = true) (hM : N + 2 ≤ M) : KeepsFrom M X Y :=
  ⟨h.size, fun k o hk ho hc => h.high k o (by omega) ho (fun e => by rw [hT o e] at hc; cases hc)⟩
end

/-- The iterator g: what comes comes one by one, each as E says behind what came before it, till all has come, or till a round says no more. -/
def SeqO {α : Type} (n : Nat) (P : Program) (g : Nat) (lb : Array Value) (encs : α → Array Value) (T : Obj → Prop) (Pr : Nat → Prop) (S Sp : List α → Prop) (E : List α → α → Prop) (N : Nat) (w : World) : Prop :=
  ∀ (l : Nat) (J Jx : List α → World → Prop) (W : World), N + 2 ≤ W.heap.size → (∀ k, k < N → W.heap[k]? = w.heap[k]?) → (∀ s A A', J s A → ChO N A A' → J s A') → (∀ s A A', Jx s A → ChO N A A' → Jx s A') →
    (∀ pre x W1, J pre W1 → E pre x → YieldAt Fence.wide (n - 1) P l (encs x) W1 fun e W' =>
      ((e = .returned (.bool true) ∧ J (pre ++ [x]) W') ∨ (e = .returned (.bool false) ∧ Jx (pre ++ [x]) W')) ∧ KpO T N Pr W1 W') →
    J [] W →
    CallsIn Fence.wide n P g (#[.func (.yield l) #[] #[]] ++ lb) W fun e W' => (∃ v, e = .returned v) ∧ ((∃ xs, S xs ∧ J xs W') ∨ (∃ pre, Sp pre ∧ Jx pre W'))

/-- How the body of a round may be left. -/
def postO {α : Type} (T : Obj → Prop) (N : Nat) (Pr : Nat → Prop) (I : List α → World → Prop) (Ix : Code → List α → World → Prop) (xs : List α) (W : World) : Exit → Act → World → Prop
  | .normal, _, W' => KeepsFrom N W W' ∧ KpO T N Pr W W' ∧ I xs W'
  | .ret, _, W' => KeepsFrom N W W' ∧ KpO T N Pr W W' ∧ Ix .ret xs W'
  | .exit id, _, W' => KeepsFrom N W W' ∧ KpO T N Pr W W' ∧ Ix (.exit id) xs W'
  | .goto t, _, W' => KeepsFrom N W W' ∧ KpO T N Pr W W' ∧ Ix (.goto t) xs W'
  | .panic _, _, _ => False
  | .outgrown, _, _ => False

abbrev markO (D : Nat) : Deferred := { target := .collected D, args := #[] }

section
variable {n : Nat} {P : Program}

theorem rangeFunc_o {α : Type} {g : Operand} {ps : Array Tmp} {assign body : Code} {Q : Exit → Act → World → Prop} {a : Act} {w : World} (h1 : 1 ≤ n)
    {gf : Nat} {lb : Array Value} (hg : a.eval g = .func (.func gf) #[] lb) (eg : ∀ args w, (callFunc gf args).run P w = .ok (.enter gf args) w)
    {encs : α → Array Value} (T : Obj → Prop) (Pr : Nat → Prop) {S Sp : List α → Prop} {E : List α → α → Prop} (hseq : SeqO (n - 1) P gf lb encs T Pr S Sp E w.heap.size w) (hps : ∀ x, (encs x).size = ps.size)
    (I : List α → World → Prop) (Ix : Code → List α → World → Prop) (hI : Stab w.heap.size I) (hIx : ∀ c, Stab w.heap.size (Ix c)) (h0 : I [] w)
    (hround : ∀ (l : Nat) (pre : List α) (x : α) (W : World), w.heap.size + 2 ≤ W.heap.size → I pre W → E pre x →
      assign.wpIn (Fence.wide.inRound l) (n - 1 - 1) P (Exit.then (fun a' W1 => KeepsFrom w.heap.size W W1 ∧ KpO T w.heap.size Pr W W1 ∧
        ∀ W2, ChR w.heap.size W1 W2 → body.wpIn (Fence.wide.inRound l) (n - 1 - 1) P (postO T w.heap.size Pr I Ix (pre ++ [x]) W2) a' W2) (fun _ _ _ => False)) { tmps := (ps.zip (encs x)).foldl (fun t (p, v) => t.setIfInBounds p v) a.tmps, defers := [] } W)
    (hdone : ∀ (xs : List α) (W : World), S xs → I xs W → W.heap[w.heap.size]? = some (.deferred (some [])) → w.heap.size + 2 ≤ W.heap.size → Q .normal { a with defers := markO w.heap.size :: a.defers } W)
    (hstop : ∀ (c : Code) (pre : List α) (W : World), Sp pre → Ix c pre W → W.heap[w.heap.size]? = some (.deferred (some [])) → w.heap.size + 2 ≤ W.heap.size → c.wpIn Fence.wide n P Q { a with defers := markO w.heap.size :: a.defers } W) :
    (Code.rangeFunc g ps assign body).wpIn Fence.wide n P Q a w := by
  refine wpIn_rangeFunc fun fn hfn => ?_
  obtain ⟨R, hR⟩ : ∃ R, R = recOf fn a ps assign body w.heap.size := ⟨_, rfl⟩
  obtain ⟨V, hV⟩ : ∃ V, (w.alloc (.deferred (some []))).alloc (.loop (R .ready none)) = V := ⟨_, rfl⟩
  have vL : V.heap[w.heap.size + 1]? = some (.loop (R .ready none)) := by
    rw [← hV]
    have h := World.alloc_heap_new (w.alloc (.deferred (some []))) (.loop (R .ready none))
    rwa [World.size_alloc] at h
  have vD : V.heap[w.heap.size]? = some (.deferred (some [])) := by
    rw [← hV]; exact (Below.heap_alloc _ _ _ (by simp)).trans (World.alloc_heap_new w _)
  have vB : ∀ k, k < w.heap.size → V.heap[k]? = w.heap[k]? := fun k hk => by
    rw [← hV]
    exact (Below.heap_alloc _ _ _ (by simp; omega)).trans (Below.heap_alloc _ _ _ hk)
  have vZ : w.heap.size + 2 ≤ V.heap.size := by rw [← hV]; simp
  have vI : I [] V := by rw [← hV]; exact hI _ _ _ h0 (((ChR.refl _ w).alloc _).alloc _)
  refine ⟨w.heap.size + 1, [{ target := .collected w.heap.size, args := #[] }], V, { target := .fn (.func gf) lb, args := #[.func (.yield (w.heap.size + 1)) #[] #[]] }, V, gf,
    #[.func (.yield (w.heap.size + 1)) #[] #[]] ++ lb, V, ?enter, ?res, ?lead, ?inv, fun _ => h1, ?call⟩
  case enter => rw [← hV, hR]; exact run_enterLoop_outer _ _ _ _ _
  case res => simp only [resolve, hg]; simp [go_sem]
  case lead => intro f' _; trivial
  case inv => simp [invoke, go_sem, eg]
  case call =>
    refine (hseq (w.heap.size + 1)
      (fun pre W => I pre W ∧ W.heap[w.heap.size + 1]? = some (.loop (R .ready none)) ∧ W.heap[w.heap.size]? = some (.deferred (some [])) ∧ w.heap.size + 2 ≤ W.heap.size)
      (fun pre W => ∃ c, Ix c pre W ∧ W.heap[w.heap.size + 1]? = some (.loop (R .done (some c))) ∧ W.heap[w.heap.size]? = some (.deferred (some [])) ∧ w.heap.size + 2 ≤ W.heap.size)
      V vZ vB
      (fun s A A' hs hc => ⟨hI s A A' hs.1 hc.toR, (hc.low _ (by omega) (by have := hs.2.2.2; omega)).trans hs.2.1, (hc.low _ (by omega) (by have := hs.2.2.2; omega)).trans hs.2.2.1, Nat.le_trans hs.2.2.2 hc.size⟩)
      (fun s A A' hs hc => by obtain ⟨c, h1, h2, h3, h4⟩ := hs; exact ⟨c, hIx c s A A' h1 hc.toR, (hc.low _ (by omega) (by omega)).trans h2, (hc.low _ (by omega) (by omega)).trans h3, Nat.le_trans h4 hc.size⟩) ?round ⟨vI, vL, vD, vZ⟩).mono ?behind
    case round =>
      rintro pre x W ⟨hi, hl, hd, hz⟩ hlen
      have hy := run_yield (P := P) (args := encs x) hl (by rw [hR]; exact hps x)
      rw [hR] at hy
      refine ⟨fn, _, assign, body, hy, roundIn_of_wpIn hfn (wpIn_mono (hround _ pre x W hz hi hlen) ?_)⟩
      clear hy
      rintro e a' W1 hp
      cases e with
      | normal =>
        obtain ⟨hkf, hkp, hb⟩ := hp
        have hl1 := hkf.same _ _ (by omega) hl rfl
        have hd1 := hkf.same _ _ (Nat.le_refl _) hd rfl
        have hlt : w.heap.size + 1 < W1.heap.size := (Array.getElem?_eq_some_iff.1 hl1).1
        refine ⟨_, run_beginRound hl1 (by rw [hR]), ?_⟩
        obtain ⟨U, hU⟩ : ∃ U, W1.putObj (w.heap.size + 1) (.loop { R .ready none with state := .busy }) = U := ⟨_, rfl⟩
        have uL : U.heap[w.heap.size + 1]? = some (.loop { R .ready none with state := .busy }) := by rw [← hU]; exact World.putObj_heap_same hlt
        have uD : U.heap[w.heap.size]? = some (.deferred (some [])) := by rw [← hU]; exact (World.putObj_heap_other (by omega)).trans hd1
        have uC : ChR w.heap.size W1 U := by rw [← hU]; exact ChR.putObj (by omega) hl1 rfl
        have uK : KpO T w.heap.size Pr W U := by rw [← hU]; exact hkp.trans (KpO.putObj (by omega) (by omega))
        have uZ : w.heap.size + 2 ≤ U.heap.size := Nat.le_trans hz (Nat.le_trans hkf.size uC.size)
        rw [hU]
        refine wpIn_mono (hb U uC) ?_
        have over : ∀ (jump : Option Code) (X : World), KeepsFrom w.heap.size U X →
            (Instr.endRound (w.heap.size + 1) jump).run P X = .ok (.bool jump.isNone) (X.putObj (w.heap.size + 1) (.loop (R (if jump.isNone then .ready else .done) jump))) ∧
            X.heap[w.heap.size + 1]? = some (.loop { R .ready none with state := .busy }) ∧
            (X.putObj (w.heap.size + 1) (.loop (R (if jump.isNone then .ready else .done) jump))).heap[w.heap.size + 1]? = some (.loop (R (if jump.isNone then .ready else .done) jump)) ∧
            (X.putObj (w.heap.size + 1) (.loop (R (if jump.isNone then .ready else .done) jump))).heap[w.heap.size]? = some (.deferred (some [])) ∧
            w.heap.size + 2 ≤ (X.putObj (w.heap.size + 1) (.loop (R (if jump.isNone then .ready else .done) jump))).heap.size := fun jump X hX => by
          have xL := hX.same _ _ (by omega) uL rfl
          have he := run_endRound (P := P) jump xL
          rw [hR] at he ⊢
          exact ⟨he, by rw [hR] at xL; exact xL, World.putObj_heap_same (Array.getElem?_eq_some_iff.1 xL).1, (World.putObj_heap_other (by omega)).trans (hX.same _ _ (Nat.le_refl _) uD rfl), by have := hX.size; simp [World.putObj]; omega⟩
        have leave : ∀ (c : Code) (X : World), KeepsFrom w.heap.size U X → KpO T w.heap.size Pr U X → Ix c (pre ++ [x]) X → ∃ v W', (Instr.endRound (w.heap.size + 1) (some c)).run P X = .ok v W' ∧ v = .bool false ∧
            (∃ c, Ix c (pre ++ [x]) W' ∧ W'.heap[w.heap.size + 1]? = some (.loop (R .done (some c))) ∧ W'.heap[w.heap.size]? = some (.deferred (some [])) ∧ w.heap.size + 2 ≤ W'.heap.size) ∧ KpO T w.heap.size Pr W W' := fun c X hX hk hx => by
          obtain ⟨hr, b1, b2, b3, b4⟩ := over (some c) X hX
          exact ⟨_, _, hr, rfl, ⟨c, hIx c _ _ _ hx (ChR.putObj (by omega) b1 rfl), b2, b3, b4⟩, uK.trans (hk.trans (KpO.putObj (by omega) (by omega)))⟩
        rintro e b X hp
        cases e with
        | normal =>
          obtain ⟨hX, hk, hi2⟩ := hp
          obtain ⟨hr, b1, b2, b3, b4⟩ := over none X hX
          exact ⟨_, _, hr, .inl ⟨rfl, hI _ _ _ hi2 (ChR.putObj (by omega) b1 rfl), b2, b3, b4⟩, uK.trans (hk.trans (KpO.putObj (by omega) (by omega)))⟩
        | ret => obtain ⟨v, W', h1, rfl, h2, h3⟩ := leave _ X hp.1 hp.2.1 hp.2.2; exact ⟨_, _, h1, .inr ⟨rfl, h2⟩, h3⟩
        | exit id => obtain ⟨v, W', h1, rfl, h2, h3⟩ := leave _ X hp.1 hp.2.1 hp.2.2; exact ⟨_, _, h1, .inr ⟨rfl, h2⟩, h3⟩
        | goto t => obtain ⟨v, W', h1, rfl, h2, h3⟩ := leave _ X hp.1 hp.2.1 hp.2.2; exact ⟨_, _, h1, .inr ⟨rfl, h2⟩, h3⟩
        | panic ch => exact hp.elim
        | outgrown => exact hp.elim
      | ret => exact hp.elim
      | exit id => exact hp.elim
      | goto t => exact hp.elim
      | panic ch => exact hp.elim
      | outgrown => exact hp.elim
    case behind =>
      rintro e X ⟨⟨v, rfl⟩, (⟨xs, hSx, hi, hl, hd, hz⟩ | ⟨pre, hSp, c, hi, hl, hd, hz⟩)⟩
      · have he := run_endLoop (P := P) hl (by rw [hR]; simp)
        rw [hR] at he
        exact ⟨none, _, he, hdone xs _ hSx (hI _ _ _ hi (ChR.putObj (by omega) hl rfl)) ((World.putObj_heap_other (by omega)).trans hd) (by simpa [World.putObj] using hz)⟩
      · have he := run_endLoop (P := P) hl (by rw [hR]; simp)
        rw [hR] at he
        exact ⟨some c, _, he, hstop c pre _ hSp (hIx c _ _ _ hi (ChR.putObj (by omega) hl rfl)) ((World.putObj_heap_other (by omega)).trans hd) (by simpa [World.putObj] using hz)⟩

/-- Marks on the way out: each is taken, and hands over nothing. -/
theorem leaves_marks {fn : Func} {tmps : Array Value} {R : Ending → World → Prop} (N : Nat) : ∀ (Ds : List Nat) (W : World), Ds.Nodup → (∀ D ∈ Ds, N + 2 ≤ D ∧ W.heap[D]? = some (.deferred (some []))) →
    (∀ W', ChO N W W' → LeavesInM Fence.wide n P fn tmps R [] .returning W') → LeavesInM Fence.wide n P fn tmps R (Ds.map markO) .returning W
  | [], W, _, _, h => h W (ChO.refl _ _)
  | D :: Ds, W, hn, hD, h => by
    obtain ⟨h1, h2⟩ := hD D (by simp)
    refine ⟨by simp, .inl ⟨D, _, rfl, run_takeDeferred h2, ?_⟩⟩
    have hc : ChO N W (W.putObj D (.deferred none)) := ChO.putObj h1 h2 rfl
    refine leaves_marks N Ds _ (List.nodup_cons.1 hn).2 (fun E hE => ?_) (fun W' hW' => h W' (hc.trans hW'))
    obtain ⟨g1, g2⟩ := hD E (List.mem_cons_of_mem _ hE)
    refine ⟨g1, (World.putObj_heap_other (fun e => ?_)).trans g2⟩
    subst e
    exact (List.nodup_cons.1 hn).1 hE
end
end Go.Proofs.YtlephnfepofbbaaDoor

/-
  A whole struct or array out of a block, and into a part of one, of any program: the cells are whatever, no cell is unrolled.
-/
namespace Go.Proofs.YtlephnfepofbbaaDoor
open Go.RowKit

/-- A block's cells with some laid anew from a place on. -/
def putAt (cs : Array Value) (off : Nat) (c : Array Value) : Array Value := (cs.toList.take off ++ c.toList ++ cs.toList.drop (off + c.size)).toArray
theorem putAt_whole {cs c : Array Value} (h : c.size = cs.size) : putAt cs 0 c = c := by
  unfold putAt
  rw [List.take_zero, List.nil_append, Nat.zero_add, h, show cs.toList.drop cs.size = [] from List.drop_eq_nil_of_le (by simp), List.append_nil]
theorem blk_setRow {w : World} {g : Nat} {t : TypeId} {cs : Array Value} (h : Blk w g t cs) (c : Array Value) : Blk (w.setRow g c) g t c := setRow_heap w g cs c t (0, 0) h
theorem kept_setRow (w : World) (g : Nat) (c : Array Value) : Kept (fun j => j = g) w (w.setRow g c) :=
  ⟨rfl, rfl, rfl, by simp [World.setRow], fun k _ hf => by
    simp only [World.setRow]
    rw [Array.getElem?_modify, if_neg (fun e => hf e.symm)]⟩

section
variable {P : Program}
theorem run_storeVar_part {w : World} {g off : Nat} {t ty : TypeId} {cs c : Array Value} (hg : Blk w g t cs) (hi : (P.info? ty).map (·.size) = some c.size) (hfit : off + c.size ≤ cs.size) (h1 : ∀ v ∈ c, v.oneCell' = true) :
    (storeVar ty ⟨g, off, none⟩ (.agg c)).run P w = .ok () (w.setRow g (putAt cs off c)) := by
  have hs := run_storeCells_at P g off t c.toList 0 cs w hg (by simpa using hfit) (fun v hv => h1 v (by simpa using hv))
  cases hq : P.info? ty with
  | none => simp [hq] at hi
  | some i =>
    have hz : c.size = i.size := by simp [hq] at hi; omega
    simp only [Nat.add_zero, Array.length_toList] at hs
    simp [storeVar, sizeOf, typeInfo, hq, Value.cells, hz, putAt, hs]

theorem wpList_store_part {ops : Array Oper} {rest : List Oper} {o : Oper} {a : Act} {w : World} {Q : Exit → Act → World → Prop} (hgd : o.guard = none) (ty : TypeId) (x v : Operand) (ho : o.op = .store ty x v)
    {g off : Nat} (hx : a.eval x = .pointer (some ⟨g, off, none⟩)) {c : Array Value} (hv : a.eval v = .agg c) {t : TypeId} {cs : Array Value} (hg : Blk w g t cs) (hi : (P.info? ty).map (·.size) = some c.size) (hfit : off + c.size ≤ cs.size) (h1 : ∀ v ∈ c, v.oneCell' = true)
    (h : wpList P ops Q rest (a.put o.dst undef) (w.setRow g (putAt cs off c))) : wpList P ops Q (o :: rest) a w :=
  wpList_plain hgd fun K hK => by
    unfold Oper.wp execOp
    simp only [ho, hx, hv, Instr.storeAt, Instr.sureAddr, Sem.run_bind, Sem.run_pure, Result.andThen_ok, run_storeVar_part hg hi hfit h1]
    exact hK _ _ h
end
end Go.Proofs.YtlephnfepofbbaaDoor

/-
  A slice in a box that a range over a function fills, of any program and any kind of row; a number in such a box; append of one, and a store of a whole array, in a round.
-/
namespace Go.Proofs.YtlephnfepofbbaaDoor
open Go.RowKit Go.Maps Go.ChangeMaps Go.Shelf

/-- Blocks of cells. -/
def TCe (o : Obj) : Prop := o.isCells = true
theorem boxed_chR {X Y : World} {M b : Nat} {t : TypeId} {v : Value} (h : Boxed X b t v) (k : ChR M X Y) : Boxed Y b t v := k.cells _ _ h rfl
theorem blk_chR {X Y : World} {M b : Nat} {t : TypeId} {cs : Array Value} (h : Blk X b t cs) (k : ChR M X Y) : Blk Y b t cs := k.cells _ _ h rfl
theorem below_chR {w X Y : World} {N : Nat} (h : Below w.heap.size w X) (k : ChR N X Y) (hN : w.heap.size ≤ N) : Below w.heap.size w Y :=
  ⟨k.os.trans h.os, k.tape.trans h.tape, k.output.trans h.output, Nat.le_trans h.size k.size, fun i hi => (k.low i (by omega) (Nat.lt_of_lt_of_le hi h.size)).trans (h.block i hi)⟩
theorem boxed_set {W : World} {b : Nat} {t : TypeId} {v : Value} (h : Boxed W b t v) (u : Value) : Boxed (W.setCell ⟨b, 0, none⟩ u) b t u := by
  have hb2 : Blk W b t #[v] := h
  have := hb2.set_ 0 u
  simpa [Boxed, Blk] using this

section
variable {P : Program} {α : Type} {R : RowK P α} {w W X Y w1 : World} {N b M B : Nat} {v v' : Value} {xs pre : List α} {x : α}
theorem RowK.own_chR (h : R.own X B v xs) (k : ChR M X Y) : R.own Y B v xs := RowK.own_same h fun j e => by
  rcases h.2 with ⟨e2, _⟩ | ⟨g, cap, cur, rfl, hb, hg, _⟩
  · rw [e2] at e; cases e
  · cases e
    exact (k.cells _ _ hg rfl).trans hg.symm
/-- The box of a slice that has been collected so far. -/
structure ColR (R : RowK P α) (w : World) (b N : Nat) (pre : List α) (W : World) : Prop where
  ex : ∃ v, Boxed W b R.s v ∧ R.own W N v pre
  bel : Below w.heap.size w W
theorem ColR.chR (h : ColR R w b N pre X) (k : ChR M X Y) (hM : w.heap.size ≤ M) : ColR R w b N pre Y := by
  obtain ⟨v, h1, h2⟩ := h.ex
  exact ⟨⟨v, boxed_chR h1 k, RowK.own_chR h2 k⟩, below_chR h.bel k hM⟩
theorem ColR.step {o : Obj} {Pr : Nat → Prop} (i3 : Boxed W b R.s v) (io : R.own W N v pre) (ib : Below w.heap.size w W) (hb : b < N) (hwb : w.heap.size ≤ b)
    (hg : (W.alloc o).grownBy w1 v.ownBlock) (O1 : R.own w1 N v' (pre ++ [x])) (hP : ∀ k, Pr k → k ≠ b) :
    ColR R w b N (pre ++ [x]) (w1.setCell ⟨b, 0, none⟩ v') ∧ KeepsFrom N W (w1.setCell ⟨b, 0, none⟩ v') ∧ KpO TCe N Pr W (w1.setCell ⟨b, 0, none⟩ v') := by
  have lt := i3.lt
  have ez : (W.alloc o).heap.size = W.heap.size + 1 := by simp
  have sz : W.heap.size ≤ (w1.setCell ⟨b, 0, none⟩ v').heap.size := by
    have := hg.size
    simp [World.setCell] at this ⊢; omega
  have s1 : ∀ k, k < W.heap.size → v.ownBlock ≠ some k → w1.heap[k]? = W.heap[k]? := fun k hk hn => (hg.block k (by omega) (fun e => hn e.symm)).trans (Below.heap_alloc W o k hk)
  have same : ∀ k, k < W.heap.size → k ≠ b → v.ownBlock ≠ some k → (w1.setCell ⟨b, 0, none⟩ v').heap[k]? = W.heap[k]? := fun k hk hkb hn => (Below.heap_setCell _ _ _ _ hkb).trans (s1 k hk hn)
  have hN : ∀ k, v.ownBlock = some k → N ≤ k := fun k e => (RowK.own_lt io e).2
  have hT : ∀ k ob, v.ownBlock = some k → W.heap[k]? = some ob → TCe ob := fun k ob e ho => by
    rcases io.2 with ⟨e2, _⟩ | ⟨g, cap, cur, rfl, _, hg2, _⟩
    · rw [e2] at e; cases e
    · cases e
      rw [hg2] at ho; cases ho; rfl
  refine ⟨⟨⟨v', boxed_set (t := R.s) (v := v) ((s1 b lt (fun e => by have := hN b e; omega)).trans i3) v', RowK.own_same O1 fun k e => Below.heap_setCell _ _ _ _ (by have := (RowK.own_lt O1 e).2; simp; omega)⟩, ?_⟩, ⟨sz, fun k ob hk ho hc => (same k (Array.getElem?_eq_some_iff.1 ho).1 (by omega) fun e => by
      have := hT k ob e ho
      unfold TCe at this; rw [hc] at this; cases this).trans ho⟩, ⟨sz, fun k hk hl hp => same k hl (hP k hp) (fun e => by have := hN k e; omega), fun k ob hk ho hc => (same k (Array.getElem?_eq_some_iff.1 ho).1 (by omega) fun e => hc (hT k ob e ho)).trans ho⟩⟩
  exact ((ib.alloc ib.size o).grown hg (by have := ib.size; omega) (fun k e => by have := hN k e; omega)).setCell hwb v'

/-- append(s, x) in a round. -/
theorem RowK.append_in {F : Fence} {n : Nat} {ops : Array Oper} {rest : List Oper} {o : Oper} {a : Act} {Q : Exit → Act → World → Prop} (hgd : o.guard = none) (s y : Operand)
    (ho : o.op = .call { callee := .builtin .append, args := #[s, y], argTypes := #[R.s, R.s] }) (B : Nat) (v : Value) (xs : List α) (x : α) (hs : a.eval s = v) (hown : R.own w B v xs) {ad : Addr} {c : Nat} (hy : a.eval y = .slice (some ad) 1 c)
    (hr : R.shows w (some ad) [x]) (hlen : xs.length + 1 ≤ 100000000) (hB : B ≤ w.heap.size)
    (h : ∀ g cap w', R.own w' B (.slice (some ⟨g, 0, none⟩) (xs.length + 1) cap) (xs ++ [x]) → w.grownBy w' v.ownBlock → wpListIn F n P ops Q rest (a.put o.dst (.slice (some ⟨g, 0, none⟩) (xs.length + 1) cap)) w') : wpListIn F n P ops Q (o :: rest) a w := by
  obtain ⟨i0, hi, hz0, hz1, hz2⟩ := row_info R.info
  have hb := R.by_
  have hbig : (xs.length + 1) * R.bytes ≤ 140737488355328 := by
    have := Nat.mul_le_mul hlen hb
    omega
  obtain ⟨g, off, e, _, hl⟩ := hr (by simp)
  cases e
  refine wpListIn_append_own w hgd s y _ ho B _ i0 _ R.n R.bytes R.und hi hz0 hz1 hz2 R.zs R.pos v xs.length (R.all xs) hs hown ⟨g, off, none⟩ 1 c (R.all [x]) hy (R.all_len [x]) (fun j u hu => ?_) (R.all_one [x]) (by unfold maxLen; omega) hbig hB
    (fun v' w' h1 h2 _ => ?_)
  · have hj : j < R.n := by have := (List.getElem?_eq_some_iff.1 hu).1; rw [R.all_len] at this; simpa using this
    have hadd : (⟨g, off, none⟩ : Addr).add j = ⟨g, off + j, none⟩ := by unfold Addr.add; split <;> simp_all
    have e1 := hl 0 x rfl j hj
    have e2 := R.all_at [x] 0 x rfl j hj
    rw [Nat.zero_mul, Nat.zero_add] at e1 e2
    rw [hadd, e1, ← e2, hu]
  · have h3 : R.own w' B v' (xs ++ [x]) := by unfold RowK.own; rw [List.length_append, R.all_append]; exact h1
    rcases h1.2 with ⟨_, hn⟩ | ⟨g', cap, cur, rfl, _⟩
    · omega
    · exact h g' cap w' h3 h2
end

section
variable {P : Program}
/-- A store of a whole array into a block, in a round or behind one. -/
theorem wpListIn_store_part {F : Fence} {n : Nat} {ops : Array Oper} {rest : List Oper} {o : Oper} {a : Act} {w : World} {Q : Exit → Act → World → Prop} (hgd : o.guard = none) (ty : TypeId) (x v : Operand) (ho : o.op = .store ty x v)
    {g off : Nat} (hx : a.eval x = .pointer (some ⟨g, off, none⟩)) {c : Array Value} (hv : a.eval v = .agg c) {t : TypeId} {cs : Array Value} (hg : Blk w g t cs) (hi : (P.info? ty).map (·.size) = some c.size) (hfit : off + c.size ≤ cs.size) (h1 : ∀ v ∈ c, v.oneCell' = true)
    (h : wpListIn F n P ops Q rest (a.put o.dst undef) (w.setRow g (putAt cs off c))) : wpListIn F n P ops Q (o :: rest) a w := by
  refine wpListIn_plain hgd fun K hK => ?_
  unfold Oper.wpIn
  refine ⟨?_, ?_⟩
  · simp [Oper.about, ho]
  · rw [Oper.semAt_plain F _ _ (by rw [ho]; intro c hc'; cases hc')]
    simp only [execOp, ho, hx, hv, Instr.storeAt, Instr.sureAddr, Sem.run_bind, Sem.run_pure, Result.andThen_ok, run_storeVar_part hg hi hfit h1]
    exact hK _ _ h

/-- A number in a box that grows, round by round. -/
structure ColN (w : World) (b : Nat) (t : TypeId) (v : Value) (W : World) : Prop where
  ex : Boxed W b t v
  bel : Below w.heap.size w W
variable {w X Y W : World} {b N M : Nat} {t : TypeId} {v : Value}
theorem ColN.chR (h : ColN w b t v X) (k : ChR M X Y) (hM : w.heap.size ≤ M) : ColN w b t v Y := ⟨boxed_chR h.ex k, below_chR h.bel k hM⟩
theorem ColN.step {Pr : Nat → Prop} {T : Obj → Prop} (h : ColN w b t v W) (hb : b < N) (hwb : w.heap.size ≤ b) (hP : ∀ k, Pr k → k ≠ b) (u : Value) :
    ColN w b t u (W.setCell ⟨b, 0, none⟩ u) ∧ KeepsFrom N W (W.setCell ⟨b, 0, none⟩ u) ∧ KpO T N Pr W (W.setCell ⟨b, 0, none⟩ u) := by
  have k : Kept (fun i => i = b) W (W.setCell ⟨b, 0, none⟩ u) := (Kept.refl (fun i => i = b) W).setCell (p := ⟨b, 0, none⟩) rfl u
  exact ⟨⟨boxed_set h.ex u, h.bel.setCell hwb u⟩, KeepsFrom.of_kept k (fun i o hi ho e => by omega), KpO.of_kept k (fun i _ e => ⟨fun _ hp => hP i hp e, fun hi => by omega⟩)⟩
end
end Go.Proofs.YtlephnfepofbbaaDoor

/-
  For the frames of the statements of moves: steps that come in; what the listed variables are.
-/
namespace Go.Proofs.YtlephnfepofbbaaDoor
open Go.ChangeShapes Go.WideShapes Go.ChangeAt Go.RowKit Go.Deep

theorem own : ownKnob Tryd.prog.godebug = none := by kernel_rfl
theorem laidOut : laidOutB Tryd.prog = true := by kernel_rfl
theorem flat_at {α : Type} (f : α → List Value) (k : Nat) (hf : ∀ x, (f x).length = k) : ∀ (xs : List α) (i : Nat) (x : α), xs[i]? = some x → ∀ j, j < k → (xs.flatMap f)[i * k + j]? = (f x)[j]?
  | [], i, x, h, _, _ => by simp at h
  | y :: xs, 0, x, h, j, hj => by
    have : y = x := by simpa using h
    subst this
    rw [List.flatMap_cons, Nat.zero_mul, Nat.zero_add, List.getElem?_append_left (by rw [hf]; exact hj)]
  | y :: xs, i + 1, x, h, j, hj => by
    have ih := flat_at f k hf xs i x (by simpa using h) j hj
    rw [List.flatMap_cons, List.getElem?_append_right (by rw [hf, Nat.succ_mul]; omega), hf, ← ih]
    congr 1
    rw [Nat.succ_mul]; omega
theorem flat_len {α : Type} (f : α → List Value) (k : Nat) (hf : ∀ x, (f x).length = k) : ∀ xs : List α, (xs.flatMap f).length = xs.length * k
  | [] => by simp
  | x :: xs => by rw [List.flatMap_cons, List.length_append, hf, flat_len f k hf xs, List.length_cons, Nat.succ_mul]; omega
section
variable {H : Type} {enc : TypeId × Value → H} {W : World} {base : Nat} {held : Bool}
theorem sh_of_trod {α : Type} [Inhabited α] {fuel : Nat} {t e : TypeId} {v : Value} {y : DataW H × List MemPlace} (ek : α → List Value) (k : Nat) (hk : 0 < k) (hel : ∀ x, (ek x).length = k) (Ok : α → Prop)
    (ht : Tryd.prog.underlying t = some (.slice e)) (hc : Tryd.prog.cellsOf e = k) (h : DataW.trod enc Tryd.prog W base (fun _ => true) held fuel t [v] = some y)
    (each : ∀ n cs y, DataW.trod enc Tryd.prog W base (fun _ => true) held n e cs = some y → cs.length = k → ∃ x, Ok x ∧ cs = ek x) :
    ∃ xs : List α, (∀ x ∈ xs, Ok x) ∧ Sh (Lt W.heap.size) W v xs.length (xs.flatMap ek) := by
  rcases open_slice ht h with ⟨hcs, _⟩ | ⟨a, len, cap, m, n, D, Pl, hcs, hb, hl, hm, hmm, hx, hi⟩
  · have : v = .slice none 0 0 := by simpa using hcs
    subst this
    exact ⟨[], fun x hx => by simp at hx, none, 0, rfl, Nat.le_refl _, by omega, fun _ => rfl, fun h => by simp at h⟩
  · have : v = .slice (some a) len cap := by simpa using hcs
    subst this
    have hlm : len ≤ m := by rw [hmm]; split <;> omega
    have each' : ∀ i, i < len → ∃ x, Ok x ∧ ∀ j, j < k → W.cell? (a.add (i * k + j)) = (ek x)[j]? := fun i hil => by
      obtain ⟨cs', h1, h2⟩ := hi i (by omega)
      rw [hc] at h1
      obtain ⟨_, hlen, hcell⟩ := World.cells?_some h1
      obtain ⟨x, hok, rfl⟩ := each _ _ _ h2 hlen
      refine ⟨x, hok, fun j hj => ?_⟩
      have e1 := hcell j (by omega)
      rw [add_add] at e1
      rw [e1]
    obtain ⟨X, hX⟩ := choose_lt each'
    have hlen : ((List.range len).map X).length = len := by simp
    refine ⟨(List.range len).map X, fun x hx => ?_, some a, cap, by rw [hlen], by rw [hlen]; exact hl, by unfold maxLen at hm; omega, (fun e => by cases e), fun h0 => ?_⟩
    · obtain ⟨i, hi', rfl⟩ := List.mem_map.1 hx
      exact (hX i (by have := List.mem_range.1 hi'; omega)).1
    · rw [hlen] at h0
      obtain ⟨b, off, spot⟩ := a
      have h1 := (hX 0 h0).2 0 hk
      have h1' : ∃ u, W.cell? ((⟨b, off, spot⟩ : Addr).add (0 * k + 0)) = some u := ⟨_, h1.trans (List.getElem?_eq_getElem (by rw [hel]; exact hk))⟩
      obtain ⟨u0, h1'⟩ := h1'
      have hs : spot = none := by simpa [Addr.add] using World.cell?_spot h1'
      subst hs
      have hadd : ∀ j, (⟨b, off, none⟩ : Addr).add j = ⟨b, off + j, none⟩ := fun j => by unfold Addr.add; split <;> simp_all
      have hbl := World.block_lt_of_cell? W _ h1'
      rw [hadd] at hbl
      refine ⟨b, off, rfl, hbl, hbl, fun j u hu => ?_⟩
      have hjl : j < len * k := by
        have := (List.getElem?_eq_some_iff.1 hu).1
        rwa [flat_len ek k hel, hlen] at this
      have hq : j / k < len := Nat.div_lt_of_lt_mul (by rw [Nat.mul_comm]; exact hjl)
      have hr : j % k < k := Nat.mod_lt _ hk
      have ej : j / k * k + j % k = j := Nat.div_add_mod' j k
      have e1 := flat_at ek k hel ((List.range len).map X) (j / k) (X (j / k)) (by rw [List.getElem?_map, List.getElem?_range hq]; rfl) (j % k) hr
      rw [ej, hu] at e1
      have e2 := (hX (j / k) hq).2 (j % k) hr
      rw [ej, hadd, ← e1] at e2
      exact e2
theorem open_bytes {fuel : Nat} {v : Value} {y : DataW H × List MemPlace} (h : DataW.trod enc Tryd.prog W base (fun _ => true) held fuel 42 [v] = some y) : ∃ b : List UInt8, SrcB (Lt W.heap.size) W v b := by
  obtain ⟨xs, _, hs⟩ := sh_of_trod (α := UInt8) (fun b => [Value.int .u8 (b.toNat : Int)]) 1 (by decide) (fun _ => rfl) (fun _ => True) Tryd.underlying42 (by kernel_rfl) h (fun n cs y hy hl => by
    obtain ⟨z, rfl, _, hz⟩ := DataW.trod_int Tryd.underlying5 hy
    have hb := bounds_u8 hz
    refine ⟨UInt8.ofNat z.toNat, trivial, ?_⟩
    rw [UInt8.toNat_ofNat']
    congr 2
    omega)
  refine ⟨xs, ?_⟩
  have e : xs.flatMap (fun b => [Value.int .u8 (b.toNat : Int)]) = Lib.byteCells xs := by
    unfold Lib.byteCells
    rw [List.map_eq_flatMap]
  rw [e] at hs
  exact hs
theorem open_nums {fuel : Nat} {v : Value} {y : DataW H × List MemPlace} (h : DataW.trod enc Tryd.prog W base (fun _ => true) held fuel 27 [v] = some y) : ∃ l : List Int, (∀ n ∈ l, I64 n) ∧ SrcI (Lt W.heap.size) W v l := by
  obtain ⟨xs, hok, hs⟩ := sh_of_trod (α := Int) (fun n => [Value.int .i64 n]) 1 (by decide) (fun _ => rfl) I64 Tryd.underlying27 (by kernel_rfl) h (fun n cs y hy hl => by
    obtain ⟨z, rfl, _, hz⟩ := DataW.trod_int Tryd.underlying3 hy
    exact ⟨z, by have := bounds_i64 hz; unfold I64; omega, rfl⟩)
  refine ⟨xs, hok, ?_⟩
  have e : xs.flatMap (fun n => [Value.int .i64 n]) = xs.map (Value.int .i64) := by rw [List.map_eq_flatMap]
  rw [e] at hs
  exact hs
theorem cellsI : Tryd.prog.cellsOf 3 = 1 := by kernel_rfl
theorem cellsB : Tryd.prog.cellsOf 4 = 1 := by kernel_rfl
theorem cellsU : Tryd.prog.cellsOf 26 = 1 := by kernel_rfl
theorem cellsBs : Tryd.prog.cellsOf 42 = 1 := by kernel_rfl
theorem cellsIs : Tryd.prog.cellsOf 27 = 1 := by kernel_rfl
theorem cellsMs : Tryd.prog.cellsOf 28 = 1 := by kernel_rfl
instance : Inhabited (Mv × Value) := ⟨(default, .slice none 0 0)⟩
instance : Inhabited (St × Value × Value) := ⟨(default, .slice none 0 0, .slice none 0 0)⟩
set_option maxRecDepth 100000 in
theorem open_moves {fuel : Nat} {v : Value} {y : DataW H × List MemPlace} (h : DataW.trod enc Tryd.prog W base (fun _ => true) held fuel 28 [v] = some y) : ∃ ms : List Mv, (∀ m ∈ ms, m.Wf) ∧ SrcM (Lt W.heap.size) W v ms := by
  obtain ⟨xs, hok, hs⟩ := sh_of_trod (α := Mv × Value) encM 4 (by decide) (fun _ => rfl) (fun p => p.1.Wf ∧ SrcB (Lt W.heap.size) W p.2 p.1.b) Tryd.underlying28 (by kernel_rfl) h (fun n cs y hy hl => by
    obtain ⟨xs, k, hk, hxy, _, hxl, hf⟩ := DataW.trod_struct Tryd.underlying44 hy
    match xs, hxl, cs, hl with
    | [y0, y1, y2, y3], _, [v0, v1, v2, v3], _ =>
      have g0 := hf 0 _ rfl
      have g1 := hf 1 _ rfl
      have g2 := hf 2 _ rfl
      have g3 := hf 3 _ rfl
      simp [cellsI, cellsBs] at g0 g1 g2 g3
      obtain ⟨x0, f0, _, q0⟩ := DataW.trod_int Tryd.underlying3 g0
      obtain ⟨x1, f1, _, q1⟩ := DataW.trod_int Tryd.underlying3 g1
      obtain ⟨x2, f2, _, q2⟩ := DataW.trod_int Tryd.underlying3 g2
      simp at f0 f1 f2
      subst f0 f1 f2
      obtain ⟨b, hb⟩ := open_bytes g3
      have b0 := bounds_i64 q0
      have b1 := bounds_i64 q1
      have b2 := bounds_i64 q2
      exact ⟨(⟨x0, x1, x2, b⟩, v3), ⟨by show I64 x0 ∧ I64 x1 ∧ I64 x2; unfold I64; omega, hb⟩, rfl⟩)
  exact ⟨xs.map Prod.fst, fun m hm => by
    obtain ⟨p, hp, rfl⟩ := List.mem_map.1 hm
    exact (hok p hp).1, xs, rfl, hs, fun p hp => (hok p hp).2⟩
set_option maxRecDepth 100000 in
theorem open_steps_trod {fuel : Nat} {v : Value} {y : DataW H × List MemPlace} (h : DataW.trod enc Tryd.prog W base (fun _ => true) held fuel 22 [v] = some y) : ∃ l : List St, (∀ x ∈ l, x.Wf) ∧ SrcS (Lt W.heap.size) W v l := by
  obtain ⟨xs, hok, hs⟩ := sh_of_trod (α := St × Value × Value) encS 4 (by decide) (fun _ => rfl) (fun p => p.1.Wf ∧ StepV (Lt W.heap.size) W p.2.1 p.2.2 p.1) Tryd.underlying22 (by kernel_rfl) h (fun n cs y hy hl => by
    obtain ⟨xs, k, hk, hxy, _, hxl, hf⟩ := DataW.trod_struct Tryd.underlying30 hy
    match xs, hxl, cs, hl with
    | [y0, y1, y2, y3], _, [v0, v1, v2, v3], _ =>
      have g0 := hf 0 _ rfl
      have g1 := hf 1 _ rfl
      have g2 := hf 2 _ rfl
      have g3 := hf 3 _ rfl
      simp [cellsU, cellsB, cellsIs, cellsMs] at g0 g1 g2 g3
      obtain ⟨x0, f0, _, q0⟩ := DataW.trod_int Tryd.underlying26 g0
      obtain ⟨x1, f1, _⟩ := DataW.trod_bool Tryd.underlying4 g1
      simp at f0 f1
      subst f0 f1
      obtain ⟨ord, ho, hO⟩ := open_nums g2
      obtain ⟨ms, hm, hM⟩ := open_moves g3
      have b0 := bounds_u64 q0
      refine ⟨(⟨x0.toNat, x1, ord, ms⟩, v2, v3), ⟨⟨by show x0.toNat ≤ _; omega, ho, hm⟩, hO, hM⟩, ?_⟩
      show [Value.int .u64 x0, _, _, _] = [Value.int .u64 (x0.toNat : Int), _, _, _]
      rw [Int.toNat_of_nonneg (by omega)])
  exact ⟨xs.map Prod.fst, fun m hm => by
    obtain ⟨p, hp, rfl⟩ := List.mem_map.1 hm
    exact (hok p hp).1, xs, rfl, hs, fun p hp => (hok p hp).2⟩
set_option maxRecDepth 100000 in
theorem open_steps {b0 : Nat} {r : Reach} {v : Value} {d : DataW H} {p : List MemPlace}
    (hv : Value.okWide Tryd.prog W r b0 22 v) (h : DataW.Trod enc Tryd.prog W base (fun _ => true) held 22 v d p) : ∃ l : List St, (∀ x ∈ l, x.Wf) ∧ SrcS (Lt W.heap.size) W v l := by
  obtain ⟨a0, len0, cap0, rfl⟩ := okWide_slice Tryd.underlying22 hv
  obtain ⟨fuel, hf⟩ := h
  exact open_steps_trod (by simpa [Value.cells] using hf)
end
end Go.Proofs.YtlephnfepofbbaaDoor
