/-
  What the other texts stand on, in one.
-/
import Derived.Test.YtlephnfepofbbaaGreatDoorProg
import Derived.WalkKit
import Derived.LoopTactic
import Derived.Deep.QuietTactic
import Derived.BigQuiet
import Derived.Deep.RegionHeld3
import Derived.Deep.RegionLaw
import Derived.Deep.DeepCutAuto
import Derived.Deep.DeepFit
import Derived.Sort.Grow
import Derived.Below
import Derived.Lib.Hide
import Derived.StillTailTactics
import Derived.OwnWalk
import Derived.Outline
import Derived.IntWalk
import Derived.Laws.Pointers
import Derived.Laws.NewBlocks
import Derived.Maps.OwnSet
import Derived.Laws.OwnMore
import Derived.Deep.Draws
import Derived.Laws.Rows
import Derived.Lib.ItoaLen
import Derived.Lib.ParseIntB
import Derived.Lib.UnsafeStr
import Derived.Maps.AppendAt
import Derived.Laws.AppendOwnNone
import Derived.Deep.AppendLies
import Derived.RangeFuncNested
import Derived.RangeFuncBound
import Derived.RangeFuncCalls
import Derived.RangeFuncLeaves
import Derived.RangeFuncBox
import Derived.Shelf.Abstract
import Derived.Shelf.RegionOpen
import Derived.OwnWalkIn
import Derived.TacticsInMore
import Derived.LoopNIn
import Derived.LoopIn
import Derived.Tactics
import Derived.Tactics2
import Derived.Defers
import Derived.Recover
import Derived.Laws.CopyOwn
import Derived.Laws.MakeOwn
import Derived.Scope
import Derived.Laws.BytesArg
import Derived.Lib.SlBytesConst

/-
  What lies in memory, of any program: which blocks were written, a block known whole.
-/
namespace Go.Proofs.YtlephnfepofbbaaGreatDoor
open Go.RowKit Go.Maps Go.ChangeMaps

/-- w' is w with new blocks, and writes to the blocks of F alone. -/
structure Kept (F : Nat → Prop) (w w' : World) : Prop where
  os : w'.os = w.os
  tape : w'.tape = w.tape
  output : w'.output = w.output
  size : w.heap.size ≤ w'.heap.size
  block : ∀ k, k < w.heap.size → ¬ F k → w'.heap[k]? = w.heap[k]?

section
variable {F G : Nat → Prop} {w w' a b c : World}
theorem Kept.refl (F : Nat → Prop) (w : World) : Kept F w w := ⟨rfl, rfl, rfl, Nat.le_refl _, fun _ _ _ => rfl⟩
theorem Kept.trans (h : Kept F a b) (k : Kept F b c) : Kept F a c :=
  ⟨k.os.trans h.os, k.tape.trans h.tape, k.output.trans h.output, Nat.le_trans h.size k.size, fun i hi hf => (k.block i (Nat.lt_of_lt_of_le hi h.size) hf).trans (h.block i hi hf)⟩
theorem Kept.mono (h : Kept F a b) (hF : ∀ k, k < a.heap.size → F k → G k) : Kept G a b := ⟨h.os, h.tape, h.output, h.size, fun k hk hg => h.block k hk fun hf => hg (hF k hk hf)⟩
theorem Kept.drew (h : Kept F a b) : Kept F a b.drew := ⟨h.os, h.tape, h.output, h.size, h.block⟩
theorem Kept.drewN (h : Kept F a b) (n : Nat) : Kept F a (b.drewN n) := ⟨h.os, h.tape, h.output, h.size, h.block⟩
theorem Kept.alloc (h : Kept F a b) (o : Obj) : Kept F a (b.alloc o) :=
  h.trans ⟨rfl, rfl, rfl, by simp, fun k hk _ => Below.heap_alloc _ _ _ hk⟩
theorem Kept.setCell (h : Kept F a b) {p : Addr} (hp : F p.block) (u : Value) : Kept F a (b.setCell p u) :=
  h.trans ⟨rfl, rfl, rfl, by simp [World.setCell], fun k _ hf => Below.heap_setCell _ _ _ _ (fun e => hf (e ▸ hp))⟩
theorem Kept.setCell_new (h : Kept F a b) {p : Addr} (hp : a.heap.size ≤ p.block) (u : Value) : Kept F a (b.setCell p u) :=
  ⟨h.os, h.tape, h.output, by simpa [World.setCell] using h.size, fun k hk hf => (Below.heap_setCell _ _ _ _ (by omega)).trans (h.block k hk hf)⟩
theorem Kept.grown (h : Kept F a b) {row : Option Nat} (hg : b.grownBy c row) (hr : ∀ k, row = some k → k < a.heap.size → F k) : Kept F a c :=
  ⟨hg.os.trans h.os, hg.tape.trans h.tape, hg.output.trans h.output, Nat.le_trans h.size hg.size, fun k hk hf => (hg.block k (Nat.lt_of_lt_of_le hk h.size) (fun e => hf (hr k e.symm hk))).trans (h.block k hk hf)⟩
theorem Kept.grow (h : Kept F a b) (q : Nat) (os : Array Obj) : Kept F a (Sort.grow (b.drewN q) os) :=
  ⟨h.os, h.tape, h.output, by rw [Sort.size_grow]; exact Nat.le_trans h.size (Nat.le_add_right _ _), fun k hk hf => (Sort.heap_grow_old _ _ (Nat.lt_of_lt_of_le hk h.size)).trans (h.block k hk hf)⟩
theorem Kept.below {B : Nat} (h : Kept F a b) (hF : ∀ k, F k → B ≤ k) (hB : B ≤ a.heap.size) : Below B a b :=
  ⟨h.os, h.tape, h.output, h.size, fun k hk => h.block k (by omega) (fun hf => by have := hF k hf; omega)⟩
theorem Kept.below' {B : Nat} (h : Kept F a b) (hF : ∀ k, k < a.heap.size → F k → B ≤ k) (hB : B ≤ a.heap.size) : Below B a b :=
  ⟨h.os, h.tape, h.output, h.size, fun k hk => h.block k (by omega) (fun hf => by have := hF k (by omega) hf; omega)⟩
theorem Kept.of_below (h : Below a.heap.size a b) : Kept F a b := ⟨h.os, h.tape, h.output, h.size, fun k hk _ => h.block k hk⟩
/-- Two steps, the second of which may also write what the first one has laid. -/
theorem Kept.andThen (h : Kept F a b) (k : Kept G b c) (hG : ∀ i, i < a.heap.size → G i → F i) : Kept F a c :=
  ⟨k.os.trans h.os, k.tape.trans h.tape, k.output.trans h.output, Nat.le_trans h.size k.size, fun i hi hf => (k.block i (Nat.lt_of_lt_of_le hi h.size) (fun hg => hf (hG i hi hg))).trans (h.block i hi hf)⟩
end

/-- A block known whole. -/
def Blk (w : World) (g : Nat) (t : TypeId) (cs : Array Value) : Prop := w.heap[g]? = some (.cells cs t (0, 0))
section
variable {w w' : World} {g : Nat} {t : TypeId} {cs : Array Value}
theorem Blk.lt (h : Blk w g t cs) : g < w.heap.size := (Array.getElem?_eq_some_iff.1 h).1
theorem Blk.cell (h : Blk w g t cs) (i : Nat) : w.cell? ⟨g, i, none⟩ = cs[i]? := cell_of_row w g i cs t (0, 0) h
theorem Blk.frozen (h : Blk w g t cs) (i : Nat) : w.frozen? ⟨g, i, none⟩ = false := by
  unfold Blk at h
  simp [World.frozen?, h]
theorem Blk.new (w : World) (t : TypeId) (cs : Array Value) : Blk (w.alloc (.cells cs t)) w.heap.size t cs := heap_alloc_new w _
theorem Blk.alloc (h : Blk w g t cs) (o : Obj) : Blk (w.alloc o) g t cs := (Below.heap_alloc w o g h.lt).trans h
theorem Blk.set_ (h : Blk w g t cs) (i : Nat) (u : Value) : Blk (w.setCell ⟨g, i, none⟩ u) g t (cs.setIfInBounds i u) := by
  unfold Blk at h ⊢
  simp [World.setCell, Array.getElem?_modify, h]
theorem Blk.far (h : Blk w g t cs) {p : Addr} (hp : g ≠ p.block) (u : Value) : Blk (w.setCell p u) g t cs := (Below.heap_setCell w p u g hp).trans h
theorem Blk.same (h : Blk w g t cs) (e : w'.heap[g]? = w.heap[g]?) : Blk w' g t cs := e.trans h
theorem Blk.kept {F : Nat → Prop} (h : Blk w g t cs) (k : Kept F w w') (hf : ¬ F g) : Blk w' g t cs := (k.block g h.lt hf).trans h
end

end Go.Proofs.YtlephnfepofbbaaGreatDoor

/-
  Plain mathematics of decimal digits: what a text of digits says, and that it says it in one way.
-/
namespace Go.Proofs.YtlephnfepofbbaaGreatDoor

theorem u8_digit (d : Nat) (h : d < 10) : (UInt8.ofNat (48 + d)).toNat = 48 + d := by
  rw [UInt8.toNat_ofNat']; omega
theorem u8_eq {a b : UInt8} (h : a.toNat = b.toNat) : a = b := UInt8.toNat_inj.1 h
theorem dec_lt {u : Nat} (h : u < 10) : Lib.decDigits u = [UInt8.ofNat (48 + u)] := by rw [Lib.decDigits, dif_pos h]
theorem dec_ge {u : Nat} (h : ¬ u < 10) : Lib.decDigits u = Lib.decDigits (u / 10) ++ [UInt8.ofNat (48 + u % 10)] := by rw [Lib.decDigits, dif_neg h]
theorem head_app {α : Type} {l : List α} (m : List α) (h : l ≠ []) : (l ++ m).head? = l.head? := by
  cases l with
  | nil => exact absurd rfl h
  | cons a l => rfl
/-- What digits add to a number. -/
def gath (acc : Nat) (l : List UInt8) : Nat := l.foldl (fun a c => a * 10 + (c.toNat - 48)) acc
def allDig (l : List UInt8) : Prop := ∀ c ∈ l, 48 ≤ c.toNat ∧ c.toNat ≤ 57
theorem gath_app (acc : Nat) (l m : List UInt8) : gath acc (l ++ m) = gath (gath acc l) m := by unfold gath; rw [List.foldl_append]
theorem dec_props : ∀ u : Nat, allDig (Lib.decDigits u) ∧ gath 0 (Lib.decDigits u) = u ∧ Lib.decDigits u ≠ [] ∧ (1 < (Lib.decDigits u).length → (Lib.decDigits u).head? ≠ some 48)
  | u => by
    by_cases h : u < 10
    · rw [dec_lt h]
      refine ⟨fun c hc => ?_, ?_, by simp, fun h1 => by simp at h1⟩
      · have : c = UInt8.ofNat (48 + u) := by simpa using hc
        rw [this, u8_digit u h]; omega
      · show 0 * 10 + ((UInt8.ofNat (48 + u)).toNat - 48) = u
        rw [u8_digit u h]; omega
    · have ih := dec_props (u / 10)
      obtain ⟨h1, h2, h3, h4⟩ := ih
      rw [dec_ge h]
      refine ⟨fun c hc => ?_, ?_, by simp, fun _ => ?_⟩
      · rcases List.mem_append.1 hc with hc | hc
        · exact h1 c hc
        · have : c = UInt8.ofNat (48 + u % 10) := by simpa using hc
          rw [this, u8_digit _ (Nat.mod_lt _ (by omega))]; omega
      · rw [gath_app, h2]
        show u / 10 * 10 + ((UInt8.ofNat (48 + u % 10)).toNat - 48) = u
        rw [u8_digit _ (Nat.mod_lt _ (by omega))]; omega
      · rw [head_app _ h3]
        by_cases h10 : u / 10 < 10
        · rw [dec_lt h10]
          intro e
          have e2 : UInt8.ofNat (48 + u / 10) = 48 := by simpa using e
          have := congrArg UInt8.toNat e2
          rw [u8_digit _ h10] at this
          have h48 : (48 : UInt8).toNat = 48 := rfl
          omega
        · refine h4 ?_
          rw [dec_ge h10]
          have := (dec_props (u / 10 / 10)).2.2.1
          have := List.length_pos_iff.2 this
          simp; omega
termination_by u => u
decreasing_by all_goals omega

theorem dec_len (u : Nat) (h : u < 18446744073709551616) : (Lib.decDigits u).length ≤ 20 := by
  rw [Lib.decDigits_length]; exact Lib.nDigits_le20 u h

theorem gath_ge : ∀ (l : List UInt8) (acc : Nat), acc ≤ gath acc l
  | [], _ => Nat.le_refl _
  | c :: r, acc => by
    show acc ≤ gath (acc * 10 + (c.toNat - 48)) r
    exact Nat.le_trans (by omega) (gath_ge r _)
theorem parseM_all : ∀ (l : List UInt8) (acc M : Nat), M < 18446744073709551616 → allDig l → gath acc l ≤ M → Lib.parseUintM M acc l = .ok (gath acc l)
  | [], acc, M, _, _, _ => rfl
  | c :: r, acc, M, hM, hd, hl => by
    have hc := hd c (List.mem_cons_self ..)
    have hg : gath (acc * 10 + (c.toNat - 48)) r ≤ M := hl
    have hge := gath_ge r (acc * 10 + (c.toNat - 48))
    unfold Lib.parseUintM
    rw [if_pos hc, if_neg (by omega), if_neg (by omega)]
    exact parseM_all r _ M hM (fun x hx => hd x (List.mem_cons_of_mem _ hx)) hg
theorem parseM_ok : ∀ (l : List UInt8) (acc M v : Nat), acc ≤ M → Lib.parseUintM M acc l = .ok v → allDig l ∧ gath acc l = v ∧ v ≤ M
  | [], acc, M, v, ha, h => by
    have : acc = v := by simpa [Lib.parseUintM] using h
    exact ⟨fun c hc => by simp at hc, this, by omega⟩
  | c :: r, acc, M, v, ha, h => by
    unfold Lib.parseUintM at h
    split at h
    · split at h
      · cases h
      · split at h
        · cases h
        · obtain ⟨h1, h2, h3⟩ := parseM_ok r _ M v (by omega) h
          refine ⟨fun x hx => ?_, h2, h3⟩
          rcases List.mem_cons.1 hx with rfl | hx
          · assumption
          · exact h1 x hx
    · cases h

/-- Digits without a leading zero are those of their number. -/
theorem dec_of (n : Nat) : ∀ l : List UInt8, l.length = n → l ≠ [] → allDig l → (1 < l.length → l.head? ≠ some 48) → Lib.decDigits (gath 0 l) = l := by
  induction n with
  | zero => intro l h hn; exact absurd (List.eq_nil_of_length_eq_zero h) hn
  | succ n ih =>
    intro l hlen hne hd hz
    obtain ⟨q, x, rfl⟩ : ∃ q x, l = q ++ [x] := ⟨l.dropLast, l.getLast hne, (List.dropLast_concat_getLast hne).symm⟩
    have hx := hd x (by simp)
    rw [gath_app]
    show Lib.decDigits (gath 0 q * 10 + (x.toNat - 48)) = _
    by_cases hq : q = []
    · subst hq
      show Lib.decDigits (0 * 10 + (x.toNat - 48)) = _
      rw [dec_lt (by omega)]
      have : UInt8.ofNat (48 + (0 * 10 + (x.toNat - 48))) = x := u8_eq (by rw [UInt8.toNat_ofNat']; omega)
      rw [this]; rfl
    · have hl1 : 1 < (q ++ [x]).length := by have := List.length_pos_iff.2 hq; simp; omega
      have hz1 := hz hl1
      rw [head_app _ hq] at hz1
      have hdq : allDig q := fun c hc => hd c (List.mem_append_left _ hc)
      have ihq := ih q (by simpa using hlen) hq hdq (fun _ => hz1)
      have hpos : 1 ≤ gath 0 q := by
        cases q with
        | nil => exact absurd rfl hq
        | cons c r =>
          have hc := hdq c (List.mem_cons_self ..)
          have hge := gath_ge r (0 * 10 + (c.toNat - 48))
          have hne : c.toNat ≠ 48 := fun e => hz1 (by
            have : c = 48 := u8_eq e
            simp [this])
          show 1 ≤ gath (0 * 10 + (c.toNat - 48)) r
          omega
      rw [dec_ge (by omega)]
      have e1 : (gath 0 q * 10 + (x.toNat - 48)) / 10 = gath 0 q := by omega
      have e2 : (gath 0 q * 10 + (x.toNat - 48)) % 10 = x.toNat - 48 := by omega
      rw [e1, e2, ihq]
      have : UInt8.ofNat (48 + (x.toNat - 48)) = x := u8_eq (by rw [UInt8.toNat_ofNat']; omega)
      rw [this]

/-- What a text of digits says, if it is a number's. -/
def numP (B : Nat) (l : List UInt8) : Option Nat := match Lib.parseUintB B l with
  | .ok n => if 1 < l.length ∧ l.head? = some 48 then none else some n
  | _ => none
theorem numP_some {B : Nat} (hB : B = 63 ∨ B = 64) {l : List UInt8} {n : Nat} (h : numP B l = some n) : l = Lib.decDigits n ∧ n < 2 ^ B := by
  have hp : 2 ^ B - 1 < 18446744073709551616 ∧ 0 < 2 ^ B := by rcases hB with rfl | rfl <;> decide
  unfold numP at h
  rcases hq : Lib.parseUintB B l with v | _ | _
  ·
    rw [hq] at h
    simp only [] at h
    split at h
    · cases h
    · rename_i hz
      have : v = n := by simpa using h
      subst this
      unfold Lib.parseUintB at hq
      split at hq
      · cases hq
      · rename_i hne
        obtain ⟨h1, h2, h3⟩ := parseM_ok l 0 _ v (Nat.zero_le _) hq
        refine ⟨?_, by omega⟩
        have := dec_of l.length l rfl hne h1 (fun hl e => hz ⟨hl, e⟩)
        rw [h2] at this
        exact this.symm
  · rw [hq] at h; cases h
  · rw [hq] at h; cases h
theorem numP_dec {B : Nat} (hB : B = 63 ∨ B = 64) {n : Nat} (h : n < 2 ^ B) : numP B (Lib.decDigits n) = some n := by
  have hp : 2 ^ B - 1 < 18446744073709551616 := by rcases hB with rfl | rfl <;> decide
  obtain ⟨h1, h2, h3, h4⟩ := dec_props n
  have e : Lib.parseUintB B (Lib.decDigits n) = .ok n := by
    unfold Lib.parseUintB
    rw [if_neg h3, parseM_all _ 0 _ hp h1 (by rw [h2]; omega), h2]
  unfold numP
  rw [e]
  simp only []
  rw [if_neg (fun ⟨a, b⟩ => h4 a b)]
end Go.Proofs.YtlephnfepofbbaaGreatDoor

/-
  Plain mathematics of steps and their lines: a step's words, what a reader makes of words, and that it reads just the words of a step that may be.
-/
namespace Go.Proofs.YtlephnfepofbbaaGreatDoor

/-! Splitting at a byte. -/
def splitB (c : UInt8) : List UInt8 → List (List UInt8)
  | [] => [[]]
  | x :: r => if x = c then [] :: splitB c r else match splitB c r with
    | h :: t => (x :: h) :: t
    | [] => [[x]]
def joinW (c : UInt8) : List (List UInt8) → List UInt8
  | [] => []
  | [w] => w
  | w :: v :: r => w ++ c :: joinW c (v :: r)
theorem split_ne (c : UInt8) : ∀ l, splitB c l ≠ []
  | [] => by simp [splitB]
  | x :: r => by
    unfold splitB
    split
    · simp
    · split <;> simp
theorem join_cons (c : UInt8) (w : List UInt8) {ws : List (List UInt8)} (h : ws ≠ []) : joinW c (w :: ws) = w ++ c :: joinW c ws := by
  cases ws with
  | nil => exact absurd rfl h
  | cons v r => rfl
theorem join_split (c : UInt8) : ∀ l, joinW c (splitB c l) = l
  | [] => rfl
  | x :: r => by
    have ih := join_split c r
    have hne := split_ne c r
    unfold splitB
    split
    · rename_i h
      rw [join_cons c _ hne, ih, h]; rfl
    · cases hs : splitB c r with
      | nil => exact absurd hs hne
      | cons h t =>
        rw [hs] at ih
        simp only []
        cases t with
        | nil => show x :: h = x :: r; rw [← ih]; rfl
        | cons v t => rw [join_cons c _ (by simp)]; rw [join_cons c _ (by simp)] at ih; rw [← ih]; rfl
theorem split_none (c : UInt8) : ∀ l, c ∉ l → splitB c l = [l]
  | [], _ => rfl
  | x :: r, h => by
    have hx : ¬ x = c := fun e => h (by simp [e])
    have hr : c ∉ r := fun e => h (List.mem_cons_of_mem _ e)
    unfold splitB
    rw [if_neg hx, split_none c r hr]
theorem split_cut (c : UInt8) : ∀ p r, c ∉ p → splitB c (p ++ c :: r) = p :: splitB c r
  | [], r, _ => by show splitB c (c :: r) = _; rw [splitB, if_pos rfl]
  | x :: p, r, h => by
    have hx : ¬ x = c := fun e => h (by simp [e])
    have hp : c ∉ p := fun e => h (List.mem_cons_of_mem _ e)
    show splitB c (x :: (p ++ c :: r)) = _
    rw [splitB, if_neg hx, split_cut c p r hp]
theorem split_join (c : UInt8) : ∀ ws : List (List UInt8), ws ≠ [] → (∀ w ∈ ws, c ∉ w) → splitB c (joinW c ws) = ws
  | [], h, _ => absurd rfl h
  | [w], _, h => split_none c w (h w (by simp))
  | w :: v :: r, _, h => by
    rw [join_cons c w (by simp), split_cut c w _ (h w (by simp)), split_join c (v :: r) (by simp) (fun x hx => h x (List.mem_cons_of_mem _ hx))]

/-! Steps. -/
structure Mo where
  op : Int
  wire : Int
  n : Int
  b : List UInt8
deriving DecidableEq
structure St where
  t : Nat
  intr : Bool
  ord : List Int
  mv : List Mo
deriving DecidableEq
instance : Inhabited Mo := ⟨⟨0, 0, 0, []⟩⟩
instance : Inhabited St := ⟨⟨0, false, [], []⟩⟩
def hasW (op : Int) : Bool := decide (1 ≤ op) && decide (op ≤ 6)
def hasN (op : Int) : Bool := decide (op = 2) || (decide (op = 6) || decide (op = 7))
def wStep : List UInt8 := [115, 116, 101, 112]
def wIntr : List UInt8 := [105, 110, 116, 114]
def wOrder : List UInt8 := [111, 114, 100, 101, 114]
def wordN : Nat → List UInt8
  | 1 => [112, 117, 116]
  | 2 => [116, 97, 107, 101]
  | 3 => [115, 104, 117, 116]
  | 4 => [99, 108, 111, 115, 101]
  | 5 => [114, 101, 115, 101, 116]
  | 6 => [99, 111, 110, 110, 101, 99, 116]
  | 7 => [114, 97, 105, 115, 101]
  | _ => []
def wordI (op : Int) : List UInt8 := wordN op.toNat
/-- May a move be? -/
def mvOk (m : Mo) : Bool := decide (1 ≤ m.op) && (decide (m.op ≤ 7) && (decide (0 ≤ m.wire) && (decide (0 ≤ m.n) && (decide (m.b.length ≤ 1000) && ((hasW m.op || decide (m.wire = 0)) && ((hasN m.op || decide (m.n = 0)) && (decide (m.op = 1) == !m.b.isEmpty)))))))
def ordOk (l : List Int) : Bool := l.all fun n => decide (0 ≤ n) && decide (n ≤ 999)
/-- May a step be? -/
def stOk (x : St) : Bool := decide (x.mv.length ≤ 50) && (decide (x.ord.length ≤ 50) && (ordOk x.ord && x.mv.all mvOk))
/-- May steps be a script's? -/
def allOk (l : List St) : Bool := decide (l.length ≤ 2000) && l.all stOk

def hexd (n : Nat) : UInt8 := if n < 10 then UInt8.ofNat (48 + n) else UInt8.ofNat (87 + n)
def hexB (l : List UInt8) : List UInt8 := l.flatMap fun b => [hexd (b.toNat / 16), hexd (b.toNat % 16)]
def decI (n : Int) : List UInt8 := Lib.decDigits n.toNat
def ordB (l : List Int) : List UInt8 := joinW 44 (l.map decI)
def moveWs (m : Mo) : List (List UInt8) := wordI m.op :: ((if hasW m.op then [decI m.wire] else []) ++ ((if hasN m.op then [decI m.n] else []) ++ (if m.op = 1 then [hexB m.b] else [])))
def headWs (x : St) : List (List UInt8) := wStep :: Lib.decDigits x.t :: ((if x.intr then [wIntr] else []) ++ (if x.ord = [] then [] else [wOrder, ordB x.ord]))
def stepWs (x : St) : List (List UInt8) := headWs x ++ x.mv.flatMap moveWs
/-- Words, a blank ahead of each. -/
def sp (ws : List (List UInt8)) : List UInt8 := ws.flatMap fun w => 32 :: w
def lineB (x : St) : List UInt8 := joinW 32 (stepWs x)
def textB (l : List St) : List UInt8 := l.flatMap fun x => lineB x ++ [10]
theorem sp_app (a b : List (List UInt8)) : sp (a ++ b) = sp a ++ sp b := by simp [sp]
theorem join_sp : ∀ (w : List UInt8) (ws : List (List UInt8)), joinW 32 (w :: ws) = w ++ sp ws
  | w, [] => by simp [joinW, sp]
  | w, v :: r => by rw [join_cons 32 w (by simp), join_sp v r]; simp [sp]
theorem line_eq (x : St) : lineB x = wStep ++ (32 :: Lib.decDigits x.t ++ ((if x.intr then 32 :: wIntr else []) ++ ((if x.ord = [] then [] else (32 :: wOrder) ++ (32 :: ordB x.ord)) ++ x.mv.flatMap fun m => sp (moveWs m)))) := by
  unfold lineB stepWs headWs
  rw [List.cons_append, join_sp, List.cons_append]
  congr 1
  have e : ∀ (l : List Mo), sp (l.flatMap moveWs) = l.flatMap fun m => sp (moveWs m) := fun l => by
    induction l with
    | nil => rfl
    | cons m l ih => rw [List.flatMap_cons, List.flatMap_cons, sp_app, ih]
  show 32 :: Lib.decDigits x.t ++ sp _ = _
  congr 1
  rw [sp_app, sp_app, e, List.append_assoc]
  congr 1
  · cases x.intr <;> simp [sp]
  · congr 1
    split <;> simp [sp]

/-! Bytes that are in words. -/
theorem hexd_ok (n : Nat) (h : n < 16) : (48 ≤ (hexd n).toNat ∧ (hexd n).toNat ≤ 57) ∨ (97 ≤ (hexd n).toNat ∧ (hexd n).toNat ≤ 102) := by
  unfold hexd
  split
  · left; rw [UInt8.toNat_ofNat']; omega
  · right; rw [UInt8.toNat_ofNat']; omega
def Black (l : List UInt8) : Prop := ∀ c ∈ l, 32 < c.toNat
theorem Black.no {l : List UInt8} (h : Black l) (c : UInt8) (hc : c.toNat ≤ 32) : c ∉ l := fun hm => by have := h c hm; omega
theorem black_dec (n : Nat) : Black (Lib.decDigits n) := fun c hc => by have := (dec_props n).1 c hc; omega
theorem black_hex : ∀ l : List UInt8, Black (hexB l)
  | [], c, h => by simp [hexB] at h
  | b :: l, c, h => by
    have hb := UInt8.toNat_lt b
    unfold hexB at h
    rw [List.flatMap_cons] at h
    rcases List.mem_append.1 h with h | h
    · have : c = hexd (b.toNat / 16) ∨ c = hexd (b.toNat % 16) := by simpa using h
      rcases this with rfl | rfl
      · have := hexd_ok (b.toNat / 16) (by omega); omega
      · have := hexd_ok (b.toNat % 16) (by omega); omega
    · exact black_hex l c h
theorem black_ord : ∀ l : List Int, Black (ordB l)
  | [], c, h => by simp [ordB, joinW] at h
  | [n], c, h => black_dec _ c h
  | n :: m :: l, c, h => by
    unfold ordB at h
    rw [List.map_cons, List.map_cons, join_cons 44 _ (by simp)] at h
    rcases List.mem_append.1 h with h | h
    · exact black_dec _ c h
    · rcases List.mem_cons.1 h with rfl | h
      · decide
      · exact black_ord (m :: l) c h
theorem black_word (op : Int) : Black (wordI op) := by
  unfold wordI wordN
  split <;> (unfold Black; decide)
theorem black_move (m : Mo) : ∀ w ∈ moveWs m, Black w := fun w hw => by
  unfold moveWs at hw
  rcases List.mem_cons.1 hw with rfl | hw
  · exact black_word _
  · rcases List.mem_append.1 hw with hw | hw
    · split at hw
      · have : w = decI m.wire := by simpa using hw
        rw [this]; exact black_dec _
      · simp at hw
    · rcases List.mem_append.1 hw with hw | hw
      · split at hw
        · have : w = decI m.n := by simpa using hw
          rw [this]; exact black_dec _
        · simp at hw
      · split at hw
        · have : w = hexB m.b := by simpa using hw
          rw [this]; exact black_hex _
        · simp at hw
theorem black_step (x : St) : ∀ w ∈ stepWs x, Black w := fun w hw => by
  unfold stepWs headWs at hw
  rcases List.mem_append.1 hw with hw | hw
  · rcases List.mem_cons.1 hw with rfl | hw
    · unfold Black wStep; decide
    rcases List.mem_cons.1 hw with rfl | hw
    · exact black_dec _
    rcases List.mem_append.1 hw with hw | hw
    · split at hw
      · have : w = wIntr := by simpa using hw
        rw [this]; unfold Black wIntr; decide
      · simp at hw
    · split at hw
      · simp at hw
      · have : w = wOrder ∨ w = ordB x.ord := by simpa using hw
        rcases this with rfl | rfl
        · unfold Black wOrder; decide
        · exact black_ord _
  · obtain ⟨m, _, hm⟩ := List.mem_flatMap.1 hw
    exact black_move m w hm
theorem split_line (x : St) : splitB 32 (lineB x) = stepWs x := by
  unfold lineB
  refine split_join 32 _ (by unfold stepWs headWs; simp) fun w hw => (black_step x w hw).no 32 (by decide)
theorem join_black : ∀ ws : List (List UInt8), (∀ w ∈ ws, Black w) → ∀ c ∈ joinW 32 ws, 32 ≤ c.toNat
  | [], _, c, h => by simp [joinW] at h
  | [w], hw, c, h => by have := hw w (by simp) c h; omega
  | w :: v :: r, hw, c, h => by
    rw [join_cons 32 w (by simp)] at h
    rcases List.mem_append.1 h with h | h
    · have := hw w (by simp) c h; omega
    · rcases List.mem_cons.1 h with rfl | h
      · decide
      · exact join_black (v :: r) (fun x hx => hw x (List.mem_cons_of_mem _ hx)) c h
/-- No line feed is in a line. -/
theorem line_nofeed (x : St) : (10 : UInt8) ∉ lineB x := fun h => by
  have := join_black (stepWs x) (black_step x) 10 h
  revert this; decide

/-! What reads a line: word by word. -/
structure Rd where
  next : Nat
  st : St
  mv : Mo
def fromR (next : Nat) (st : St) (mv : Mo) : Option Rd :=
  if next ≤ 6 ∧ hasW mv.op = true then some ⟨6, st, mv⟩
  else if next ≤ 7 ∧ hasN mv.op = true then some ⟨7, st, mv⟩
  else if next ≤ 8 ∧ mv.op = 1 then some ⟨8, st, mv⟩
  else if st.mv.length = 50 then none
  else some ⟨5, { st with mv := st.mv ++ [mv] }, mv⟩
def ordP : List (List UInt8) → List Int → Option (List Int)
  | [], acc => some acc
  | p :: ps, acc => match numP 63 p with
    | some n => if acc.length = 50 then none else ordP ps (acc ++ [(n : Int)])
    | none => none
def hexv (c : UInt8) : Option Nat := if 48 ≤ c.toNat ∧ c.toNat ≤ 57 then some (c.toNat - 48) else if 97 ≤ c.toNat ∧ c.toNat ≤ 102 then some (c.toNat - 87) else none
def unhex : List UInt8 → Option (List UInt8)
  | [] => some []
  | [_] => none
  | a :: b :: r => match hexv a, hexv b, unhex r with
    | some x, some y, some l => some (UInt8.ofNat (16 * x + y) :: l)
    | _, _, _ => none
def dataP (w : List UInt8) : Option (List UInt8) := if w.length % 2 ≠ 0 ∨ 2000 < w.length then none else unhex w
def opOf (w : List UInt8) : Option Nat := [1, 2, 3, 4, 5, 6, 7].find? fun k => decide (w = wordN k)
def partR (r : Rd) (w : List UInt8) : Option Rd :=
  if w = wIntr ∧ r.next = 3 then some ⟨4, { r.st with intr := true }, r.mv⟩
  else if w = wOrder ∧ r.next ≠ 5 then some ⟨2, r.st, r.mv⟩
  else match opOf w with
    | some k => fromR 6 r.st ⟨(k : Int), 0, 0, []⟩
    | none => none
def rdW (r : Rd) (w : List UInt8) : Option Rd :=
  if r.next = 0 then (if w = wStep then some ⟨1, r.st, r.mv⟩ else none)
  else if r.next = 1 then (match numP 64 w with
    | some n => some ⟨3, { r.st with t := n }, r.mv⟩
    | none => none)
  else if r.next = 2 then (match ordP (splitB 44 w) r.st.ord with
    | some l => some ⟨5, { r.st with ord := l }, r.mv⟩
    | none => none)
  else if r.next = 6 then (match numP 63 w with
    | some n => fromR 7 r.st { r.mv with wire := (n : Int) }
    | none => none)
  else if r.next = 7 then (match numP 63 w with
    | some n => fromR 8 r.st { r.mv with n := (n : Int) }
    | none => none)
  else if r.next = 8 then (match dataP w with
    | some b => fromR 9 r.st { r.mv with b := b }
    | none => none)
  else partR r w
def rdAll : List (List UInt8) → Rd → Option Rd
  | [], r => some r
  | w :: ws, r => match rdW r w with
    | some r' => rdAll ws r'
    | none => none
def rd0 : Rd := ⟨0, default, default⟩
/-- The step that a line is the text of. -/
def rdLine (l : List UInt8) : Option St := match rdAll (splitB 32 l) rd0 with
  | some r => if 3 ≤ r.next ∧ r.next ≤ 5 ∧ stOk r.st = true then some r.st else none
  | none => none
end Go.Proofs.YtlephnfepofbbaaGreatDoor

/-
  What a reader of lines takes is the text of a step that may be, and each such text is taken.
-/
namespace Go.Proofs.YtlephnfepofbbaaGreatDoor

/-! What is read was written so. -/
theorem p63 : (2 : Nat) ^ 63 = 9223372036854775808 := by decide
theorem p64 : (2 : Nat) ^ 64 = 18446744073709551616 := by decide
theorem word_len (k : Nat) : (wordN k).length ≤ 7 := by unfold wordN; split <;> simp
theorem opOf_some {w : List UInt8} {k : Nat} (h : opOf w = some k) : w = wordN k ∧ 1 ≤ k ∧ k ≤ 7 := by
  unfold opOf at h
  have h1 := List.find?_some h
  have h2 := List.mem_of_find?_eq_some h
  refine ⟨by simpa using h1, ?_⟩
  simp at h2; omega
theorem opOf_word : ∀ k, 1 ≤ k → k ≤ 7 → opOf (wordN k) = some k := by
  intro k h1 h2
  obtain ⟨j, rfl⟩ : ∃ j : Fin 8, k = j.val := ⟨⟨k, by omega⟩, rfl⟩
  revert h1 h2 j; decide +kernel
theorem hexv_some {c : UInt8} {x : Nat} (h : hexv c = some x) : x < 16 ∧ hexd x = c := by
  unfold hexv at h
  unfold hexd
  split at h
  · have e : c.toNat - 48 = x := by simpa using h
    refine ⟨by omega, ?_⟩
    rw [if_pos (by omega)]
    exact u8_eq (by rw [UInt8.toNat_ofNat']; omega)
  · split at h
    · have e : c.toNat - 87 = x := by simpa using h
      refine ⟨by omega, ?_⟩
      rw [if_neg (by omega)]
      exact u8_eq (by rw [UInt8.toNat_ofNat']; omega)
    · cases h
theorem hexv_hexd (x : Nat) (h : x < 16) : hexv (hexd x) = some x := by
  obtain ⟨j, rfl⟩ : ∃ j : Fin 16, x = j.val := ⟨⟨x, h⟩, rfl⟩
  revert j; decide +kernel
theorem unhex_some : ∀ (w b : List UInt8), unhex w = some b → hexB b = w
  | [], b, h => by have : b = [] := by simpa [unhex] using h.symm
                   subst this; rfl
  | [x], b, h => by cases h
  | x :: y :: r, b, h => by
    unfold unhex at h
    split at h
    · rename_i p q l hp hq hl
      have e : UInt8.ofNat (16 * p + q) :: l = b := by simpa using h
      obtain ⟨p1, p2⟩ := hexv_some hp
      obtain ⟨q1, q2⟩ := hexv_some hq
      have ih := unhex_some r l hl
      rw [← e]
      unfold hexB at ih ⊢
      rw [List.flatMap_cons, ih]
      have e3 : (UInt8.ofNat (16 * p + q)).toNat = 16 * p + q := by rw [UInt8.toNat_ofNat']; omega
      rw [e3, show (16 * p + q) / 16 = p by omega, show (16 * p + q) % 16 = q by omega, p2, q2]
      rfl
    · cases h
theorem hex_len : ∀ b : List UInt8, (hexB b).length = 2 * b.length
  | [] => rfl
  | x :: b => by
    have ih := hex_len b
    unfold hexB at ih ⊢
    rw [List.flatMap_cons, List.length_append, ih]; simp; omega
theorem unhex_hex : ∀ b : List UInt8, unhex (hexB b) = some b
  | [] => rfl
  | x :: b => by
    have ih := unhex_hex b
    have hx := UInt8.toNat_lt x
    unfold hexB at ih ⊢
    rw [List.flatMap_cons]
    show unhex (hexd (x.toNat / 16) :: hexd (x.toNat % 16) :: List.flatMap _ b) = _
    unfold unhex
    rw [hexv_hexd _ (by omega), hexv_hexd _ (by omega), ih]
    simp only []
    rw [show 16 * (x.toNat / 16) + x.toNat % 16 = x.toNat by omega]
    congr 2
    exact u8_eq (by rw [UInt8.toNat_ofNat']; omega)
theorem dataP_some {w b : List UInt8} (h : dataP w = some b) : hexB b = w ∧ b.length ≤ 1000 := by
  unfold dataP at h
  split at h
  · cases h
  · have e := unhex_some w b h
    refine ⟨e, ?_⟩
    have := hex_len b
    rw [e] at this
    omega
theorem dataP_hex (b : List UInt8) (h : b.length ≤ 1000) : dataP (hexB b) = some b := by
  unfold dataP
  rw [if_neg (by rw [hex_len]; omega), unhex_hex]
theorem ordP_some : ∀ (ps : List (List UInt8)) (acc l : List Int), ordP ps acc = some l → ∃ ns : List Int, l = acc ++ ns ∧ ps = ns.map decI ∧ ∀ n ∈ ns, 0 ≤ n ∧ n < 9223372036854775808
  | [], acc, l, h => ⟨[], by simpa [ordP] using h.symm, rfl, fun n hn => by simp at hn⟩
  | p :: ps, acc, l, h => by
    unfold ordP at h
    cases hn : numP 63 p with
    | none => rw [hn] at h; cases h
    | some n =>
      rw [hn] at h
      simp only [] at h
      split at h
      · cases h
      · obtain ⟨ns, h1, h2, h3⟩ := ordP_some ps _ l h
        obtain ⟨e, hb⟩ := numP_some (Or.inl rfl) hn
        refine ⟨(n : Int) :: ns, by rw [h1]; simp, ?_, fun x hx => ?_⟩
        · rw [List.map_cons, ← h2, e]; rfl
        · rcases List.mem_cons.1 hx with rfl | hx
          · rw [p63] at hb; omega
          · exact h3 x hx
theorem ordP_map : ∀ (ns acc : List Int), (∀ n ∈ ns, 0 ≤ n ∧ n < 9223372036854775808) → acc.length + ns.length ≤ 50 → ordP (ns.map decI) acc = some (acc ++ ns)
  | [], acc, _, _ => by simp [ordP]
  | n :: ns, acc, h, hl => by
    have hn := h n (by simp)
    have e : numP 63 (decI n) = some n.toNat := numP_dec (Or.inl rfl) (by rw [p63]; omega)
    rw [List.map_cons, ordP, e]
    simp only []
    simp only [List.length_cons] at hl
    rw [if_neg (by omega), show ((n.toNat : Nat) : Int) = n by omega, ordP_map ns _ (fun x hx => h x (List.mem_cons_of_mem _ hx)) (by simp; omega)]
    simp

/-- The words that were read. -/
def doneWs (r : Rd) : List (List UInt8) :=
  if r.next = 0 then []
  else if r.next = 1 then [wStep]
  else if r.next = 2 then stepWs r.st ++ [wOrder]
  else if r.next = 6 then stepWs r.st ++ [wordI r.mv.op]
  else if r.next = 7 then stepWs r.st ++ wordI r.mv.op :: (if hasW r.mv.op then [decI r.mv.wire] else [])
  else if r.next = 8 then stepWs r.st ++ wordI r.mv.op :: (if hasW r.mv.op then [decI r.mv.wire] else [])
  else stepWs r.st
structure RdI (r : Rd) : Prop where
  le : r.next ≤ 8
  zero : r.next ≤ 1 → r.st = default
  two : 2 ≤ r.next → r.next ≤ 4 → r.st.ord = [] ∧ r.st.mv = []
  three : r.next = 3 → r.st.intr = false
  six : r.next = 6 → hasW r.mv.op = true
  seven : r.next = 7 → hasN r.mv.op = true
  eight : r.next = 8 → r.mv.op = 1
  t : r.st.t < 18446744073709551616
  pos : ∀ m ∈ r.st.mv, (0 ≤ m.wire ∧ m.wire < 9223372036854775808) ∧ (0 ≤ m.n ∧ m.n < 9223372036854775808)
  mpos : (0 ≤ r.mv.wire ∧ r.mv.wire < 9223372036854775808) ∧ (0 ≤ r.mv.n ∧ r.mv.n < 9223372036854775808)
theorem step_mv (st : St) (m : Mo) : stepWs { st with mv := st.mv ++ [m] } = stepWs st ++ moveWs m := by
  unfold stepWs headWs
  simp
theorem hasN_one : hasN 1 = false := by decide
theorem fromR_some {next : Nat} {st : St} {mv : Mo} {r : Rd} (h : fromR next st mv = some r) :
    (r = ⟨6, st, mv⟩ ∧ next ≤ 6 ∧ hasW mv.op = true) ∨ (r = ⟨7, st, mv⟩ ∧ next ≤ 7 ∧ hasN mv.op = true ∧ ¬ (next ≤ 6 ∧ hasW mv.op = true)) ∨ (r = ⟨8, st, mv⟩ ∧ next ≤ 8 ∧ mv.op = 1 ∧ ¬ (next ≤ 6 ∧ hasW mv.op = true)) ∨
    (r = ⟨5, { st with mv := st.mv ++ [mv] }, mv⟩ ∧ st.mv.length ≠ 50 ∧ ¬ (next ≤ 6 ∧ hasW mv.op = true) ∧ ¬ (next ≤ 7 ∧ hasN mv.op = true) ∧ ¬ (next ≤ 8 ∧ mv.op = 1)) := by
  unfold fromR at h
  split at h
  · rename_i h1; exact .inl ⟨by simpa using h.symm, h1.1, h1.2⟩
  · rename_i h1
    split at h
    · rename_i h2; exact .inr (.inl ⟨by simpa using h.symm, h2.1, h2.2, h1⟩)
    · rename_i h2
      split at h
      · rename_i h3; exact .inr (.inr (.inl ⟨by simpa using h.symm, h3.1, h3.2, h1⟩))
      · rename_i h3
        split at h
        · cases h
        · rename_i h4; exact .inr (.inr (.inr ⟨by simpa using h.symm, h4, h1, h2, h3⟩))
theorem mv_bounds {st : St} {mv : Mo} (h : ∀ m ∈ st.mv, (0 ≤ m.wire ∧ m.wire < 9223372036854775808) ∧ (0 ≤ m.n ∧ m.n < 9223372036854775808)) (hm : (0 ≤ mv.wire ∧ mv.wire < 9223372036854775808) ∧ (0 ≤ mv.n ∧ mv.n < 9223372036854775808)) :
    ∀ m ∈ st.mv ++ [mv], (0 ≤ m.wire ∧ m.wire < 9223372036854775808) ∧ (0 ≤ m.n ∧ m.n < 9223372036854775808) := fun m h1 => by
  rcases List.mem_append.1 h1 with h1 | h1
  · exact h m h1
  · have : m = mv := by simpa using h1
    rw [this]; exact hm

theorem rdW_some {r r' : Rd} {w : List UInt8} (hI : RdI r) (h : rdW r w = some r') : RdI r' ∧ doneWs r' = doneWs r ++ [w] := by
  obtain ⟨next, st, mv⟩ := r
  obtain ⟨le, zero, two, three, six, seven, eight, ht, pos, mpos⟩ := hI
  simp only [] at le zero two three six seven eight ht pos mpos
  unfold rdW at h
  simp only [] at h
  by_cases h0 : next = 0
  · rw [if_pos h0] at h
    subst h0
    split at h
    · rename_i hw
      have e : r' = ⟨1, st, mv⟩ := by simpa using h.symm
      subst e
      exact ⟨⟨by simp, fun _ => zero (by omega), fun h => by simp at h, fun h => by simp at h, fun h => by simp at h, fun h => by simp at h, fun h => by simp at h, ht, pos, mpos⟩, by simp [doneWs, hw]⟩
    · cases h
  rw [if_neg h0] at h
  by_cases h1 : next = 1
  · rw [if_pos h1] at h
    subst h1
    have hz := zero (by omega)
    subst hz
    cases hn : numP 64 w with
    | none => rw [hn] at h; cases h
    | some n =>
      rw [hn] at h
      have e : r' = ⟨3, { (default : St) with t := n }, mv⟩ := by simpa using h.symm
      subst e
      obtain ⟨hw, hb⟩ := numP_some (Or.inr rfl) hn
      rw [p64] at hb
      exact ⟨⟨by simp, fun h => by simp at h, fun _ _ => ⟨rfl, rfl⟩, fun _ => rfl, fun h => by simp at h, fun h => by simp at h, fun h => by simp at h, hb, pos, mpos⟩, by simp [doneWs, hw, stepWs, headWs, default]⟩
  rw [if_neg h1] at h
  by_cases h2 : next = 2
  · rw [if_pos h2] at h
    subst h2
    obtain ⟨ho, hm⟩ := two (by omega) (by omega)
    obtain ⟨t, intr, ord, ms⟩ := st
    simp only [] at ho hm ht h
    subst ho hm
    cases hn : ordP (splitB 44 w) [] with
    | none => rw [hn] at h; cases h
    | some l =>
      rw [hn] at h
      have e : r' = ⟨5, ⟨t, intr, l, []⟩, mv⟩ := by simpa using h.symm
      subst e
      obtain ⟨ns, e1, e2, _⟩ := ordP_some _ _ _ hn
      rw [List.nil_append] at e1
      subst e1
      have hw : ordB l = w := by unfold ordB; rw [← e2, join_split]
      have hne : l ≠ [] := fun e => split_ne 44 w (by rw [e2, e]; rfl)
      exact ⟨⟨by simp, fun h => by simp at h, fun h => by simp, fun h => by simp at h, fun h => by simp at h, fun h => by simp at h, fun h => by simp at h, ht, pos, mpos⟩, by simp [doneWs, stepWs, headWs, hne, hw]⟩
  rw [if_neg h2] at h
  by_cases h6 : next = 6
  · rw [if_pos h6] at h
    subst h6
    have hw6 := six rfl
    cases hn : numP 63 w with
    | none => rw [hn] at h; cases h
    | some n =>
      rw [hn] at h
      simp only [] at h
      obtain ⟨hw, hb⟩ := numP_some (Or.inl rfl) hn
      rw [p63] at hb
      have hd : decI (n : Int) = w := by unfold decI; rw [Int.toNat_natCast, hw]
      have hmp : (0 ≤ (n : Int) ∧ (n : Int) < 9223372036854775808) ∧ (0 ≤ mv.n ∧ mv.n < 9223372036854775808) := ⟨⟨by omega, by omega⟩, mpos.2⟩
      rcases fromR_some h with ⟨rfl, h3, _⟩ | ⟨rfl, _, h4, _⟩ | ⟨rfl, _, h4, _⟩ | ⟨rfl, _, _, h4, h5⟩
      · omega
      · exact ⟨⟨by simp, fun h => by simp at h, fun h => by simp, fun h => by simp at h, fun h => by simp at h, fun _ => h4, fun h => by simp at h, ht, pos, hmp⟩, by simp [doneWs, hw6, hd]⟩
      · exact ⟨⟨by simp, fun h => by simp at h, fun h => by simp, fun h => by simp at h, fun h => by simp at h, fun h => by simp at h, fun _ => h4, ht, pos, hmp⟩, by simp [doneWs, hw6, hd]⟩
      · have hN : hasN mv.op = false := by cases hq : hasN mv.op with
          | false => rfl
          | true => exact absurd ⟨by omega, hq⟩ h4
        have hO : ¬ mv.op = 1 := fun e => h5 ⟨by omega, e⟩
        exact ⟨⟨by simp, fun h => by simp at h, fun h => by simp, fun h => by simp at h, fun h => by simp at h, fun h => by simp at h, fun h => by simp at h, ht, mv_bounds pos hmp, hmp⟩, by simp only [doneWs]; rw [step_mv]; simp [moveWs, hw6, hd, hN, hO]⟩
  rw [if_neg h6] at h
  by_cases h7 : next = 7
  · rw [if_pos h7] at h
    subst h7
    have hw7 := seven rfl
    cases hn : numP 63 w with
    | none => rw [hn] at h; cases h
    | some n =>
      rw [hn] at h
      simp only [] at h
      obtain ⟨hw, hb⟩ := numP_some (Or.inl rfl) hn
      rw [p63] at hb
      have hd : decI (n : Int) = w := by unfold decI; rw [Int.toNat_natCast, hw]
      have hO : ¬ mv.op = 1 := fun e => by rw [e, hasN_one] at hw7; cases hw7
      have hmp : (0 ≤ mv.wire ∧ mv.wire < 9223372036854775808) ∧ (0 ≤ (n : Int) ∧ (n : Int) < 9223372036854775808) := ⟨mpos.1, ⟨by omega, by omega⟩⟩
      rcases fromR_some h with ⟨rfl, h3, _⟩ | ⟨rfl, h3, _⟩ | ⟨rfl, _, h4, _⟩ | ⟨rfl, _, _, _, _⟩
      · omega
      · omega
      · exact absurd h4 hO
      · exact ⟨⟨by simp, fun h => by simp at h, fun h => by simp, fun h => by simp at h, fun h => by simp at h, fun h => by simp at h, fun h => by simp at h, ht, mv_bounds pos hmp, hmp⟩, by simp only [doneWs]; rw [step_mv]; simp [moveWs, hw7, hd, hO]⟩
  rw [if_neg h7] at h
  by_cases h8 : next = 8
  · rw [if_pos h8] at h
    subst h8
    have hO := eight rfl
    obtain ⟨op, wire, n, b0⟩ := mv
    simp only [] at hO h mpos
    subst hO
    cases hn : dataP w with
    | none => rw [hn] at h; cases h
    | some b =>
      rw [hn] at h
      simp only [] at h
      obtain ⟨hw, hb⟩ := dataP_some hn
      rcases fromR_some h with ⟨rfl, h3, _⟩ | ⟨rfl, h3, _⟩ | ⟨rfl, h3, _⟩ | ⟨rfl, _, _, _, _⟩
      · omega
      · omega
      · omega
      · exact ⟨⟨by simp, fun h => by simp at h, fun h => by simp, fun h => by simp at h, fun h => by simp at h, fun h => by simp at h, fun h => by simp at h, ht, mv_bounds pos mpos, mpos⟩, by simp only [doneWs]; rw [step_mv]; simp [moveWs, hasN_one, hw]⟩
  rw [if_neg h8] at h
  unfold partR at h
  simp only [] at h
  have hd : doneWs ⟨next, st, mv⟩ = stepWs st := by unfold doneWs; simp only []; rw [if_neg h0, if_neg h1, if_neg h2, if_neg h6, if_neg h7, if_neg h8]
  rw [hd]
  by_cases hi : w = wIntr ∧ next = 3
  · rw [if_pos hi] at h
    obtain ⟨hw, h3⟩ := hi
    subst h3
    obtain ⟨ho, hm⟩ := two (by omega) (by omega)
    have hint := three rfl
    have e : r' = ⟨4, { st with intr := true }, mv⟩ := by simpa using h.symm
    subst e
    exact ⟨⟨by simp, fun h => by simp at h, fun _ _ => ⟨ho, hm⟩, fun h => by simp at h, fun h => by simp at h, fun h => by simp at h, fun h => by simp at h, ht, pos, mpos⟩, by simp [doneWs, stepWs, headWs, ho, hm, hint, hw]⟩
  rw [if_neg hi] at h
  by_cases hor : w = wOrder ∧ next ≠ 5
  · rw [if_pos hor] at h
    obtain ⟨hw, h5⟩ := hor
    obtain ⟨ho, hm⟩ := two (by omega) (by omega)
    have e : r' = ⟨2, st, mv⟩ := by simpa using h.symm
    subst e
    exact ⟨⟨by simp, fun h => by simp at h, fun _ _ => ⟨ho, hm⟩, fun h => by simp at h, fun h => by simp at h, fun h => by simp at h, fun h => by simp at h, ht, pos, mpos⟩, by simp [doneWs, hw]⟩
  rw [if_neg hor] at h
  cases hop : opOf w with
  | none => rw [hop] at h; cases h
  | some k =>
    rw [hop] at h
    simp only [] at h
    obtain ⟨hw, hk1, hk7⟩ := opOf_some hop
    have hwi : wordI ((k : Nat) : Int) = w := by unfold wordI; rw [Int.toNat_natCast, hw]
    rcases fromR_some h with ⟨rfl, _, h4⟩ | ⟨rfl, _, h4, h5⟩ | ⟨rfl, _, h4, h5⟩ | ⟨rfl, _, h3, h4, h5⟩
    · exact ⟨⟨by simp, fun h => by simp at h, fun h => by simp, fun h => by simp at h, fun _ => h4, fun h => by simp at h, fun h => by simp at h, ht, pos, by simp⟩, by simp [doneWs, hwi]⟩
    · have hW : hasW (k : Int) = false := by cases hq : hasW (k : Int) with
        | false => rfl
        | true => exact absurd ⟨by omega, hq⟩ h5
      exact ⟨⟨by simp, fun h => by simp at h, fun h => by simp, fun h => by simp at h, fun h => by simp at h, fun _ => h4, fun h => by simp at h, ht, pos, by simp⟩, by simp [doneWs, hwi, hW]⟩
    · simp only [] at h4 h5
      rw [h4] at h5
      exact absurd ⟨by omega, by decide⟩ h5
    · exfalso
      simp only [] at h3 h4
      have : hasW (k : Int) = true ∨ hasN (k : Int) = true := by
        obtain ⟨j, rfl⟩ : ∃ j : Fin 8, k = j.val := ⟨⟨k, by omega⟩, rfl⟩
        revert hk1 hk7; clear h h3 h4 h5 hop hw hwi; revert j; decide
      rcases this with h | h
      · exact h3 ⟨by omega, h⟩
      · exact h4 ⟨by omega, h⟩
theorem rdAll_some : ∀ (ws : List (List UInt8)) (r r' : Rd), RdI r → rdAll ws r = some r' → RdI r' ∧ doneWs r' = doneWs r ++ ws
  | [], r, r', hI, h => by
    have : r = r' := by simpa [rdAll] using h
    subst this; exact ⟨hI, by simp⟩
  | w :: ws, r, r', hI, h => by
    unfold rdAll at h
    cases hq : rdW r w with
    | none => rw [hq] at h; cases h
    | some r1 =>
      rw [hq] at h
      obtain ⟨h1, h2⟩ := rdW_some hI hq
      obtain ⟨h3, h4⟩ := rdAll_some ws r1 r' h1 h
      exact ⟨h3, by rw [h4, h2]; simp⟩
/-- Numbers that a step's fields can hold. -/
def St.In (x : St) : Prop := x.t < 18446744073709551616 ∧ (∀ m ∈ x.mv, (-9223372036854775808 ≤ m.wire ∧ m.wire < 9223372036854775808) ∧ (-9223372036854775808 ≤ m.n ∧ m.n < 9223372036854775808))
theorem rdLine_some {l : List UInt8} {x : St} (h : rdLine l = some x) : lineB x = l ∧ stOk x = true ∧ x.In := by
  unfold rdLine at h
  cases hq : rdAll (splitB 32 l) rd0 with
  | none => rw [hq] at h; cases h
  | some r =>
    rw [hq] at h
    simp only [] at h
    split at h
    · rename_i hc
      obtain ⟨h3, h5, hok⟩ := hc
      have e : r.st = x := by simpa using h
      subst e
      obtain ⟨hI, hd⟩ := rdAll_some _ rd0 _ ⟨by decide, fun _ => rfl, fun h => by simp [rd0] at h, fun h => by simp [rd0] at h, fun h => by simp [rd0] at h, fun h => by simp [rd0] at h, fun h => by simp [rd0] at h, by decide, fun m hm => by simp [rd0, default] at hm, by decide⟩ hq
      have e2 : doneWs r = stepWs r.st := by
        unfold doneWs
        rw [if_neg (by omega), if_neg (by omega), if_neg (by omega), if_neg (by omega), if_neg (by omega), if_neg (by omega)]
      rw [e2] at hd
      have e3 : stepWs r.st = splitB 32 l := by rw [hd]; rfl
      exact ⟨by unfold lineB; rw [e3, join_split], hok, hI.t, fun m hm => by have := hI.pos m hm; omega⟩
    · cases h

/-! Each such text is read. -/
theorem rdAll_app : ∀ (ws vs : List (List UInt8)) (r : Rd), rdAll (ws ++ vs) r = (match rdAll ws r with
    | some r' => rdAll vs r'
    | none => none)
  | [], vs, r => rfl
  | w :: ws, vs, r => by
    rw [List.cons_append, rdAll, rdAll]
    cases rdW r w with
    | none => rfl
    | some r1 => exact rdAll_app ws vs r1
theorem mvOk_parts {m : Mo} (h : mvOk m = true) : (1 ≤ m.op ∧ m.op ≤ 7) ∧ 0 ≤ m.wire ∧ 0 ≤ m.n ∧ m.b.length ≤ 1000 ∧ (hasW m.op = false → m.wire = 0) ∧ (hasN m.op = false → m.n = 0) ∧ (¬ m.op = 1 → m.b = []) ∧ (m.op = 1 → m.b ≠ []) := by
  unfold mvOk at h
  simp only [Bool.and_eq_true, Bool.or_eq_true, decide_eq_true_eq, beq_iff_eq] at h
  obtain ⟨h1, h2, h3, h4, h5, h6, h7, h8⟩ := h
  refine ⟨⟨h1, h2⟩, h3, h4, h5, fun e => ?_, fun e => ?_, fun e => ?_, fun e => ?_⟩
  · rcases h6 with h6 | h6
    · rw [e] at h6; cases h6
    · exact h6
  · rcases h7 with h7 | h7
    · rw [e] at h7; cases h7
    · exact h7
  · have : decide (m.op = 1) = false := by simpa using e
    rw [this] at h8
    cases hb : m.b with
    | nil => rfl
    | cons a l => rw [hb] at h8; cases h8
  · have : decide (m.op = 1) = true := by simpa using e
    rw [this] at h8
    intro hb
    rw [hb] at h8; cases h8
theorem numP_I {n : Int} (h0 : 0 ≤ n) (h1 : n < 9223372036854775808) : ∃ k : Nat, n = (k : Int) ∧ numP 63 (decI n) = some k := by
  obtain ⟨k, rfl⟩ : ∃ k : Nat, n = k := ⟨n.toNat, by omega⟩
  refine ⟨k, rfl, ?_⟩
  unfold decI
  rw [Int.toNat_natCast]
  exact numP_dec (Or.inl rfl) (by rw [p63]; omega)
theorem word_ne (k : Nat) : wordN k ≠ wIntr ∧ wordN k ≠ wOrder := by
  unfold wordN
  split <;> (unfold wIntr wOrder; decide)
theorem rd_move (st : St) (m m0 : Mo) (next : Nat) (hn : 3 ≤ next ∧ next ≤ 5) (h : mvOk m = true) (hin : m.wire < 9223372036854775808 ∧ m.n < 9223372036854775808) (hl : st.mv.length < 50) :
    rdAll (moveWs m) ⟨next, st, m0⟩ = some ⟨5, { st with mv := st.mv ++ [m] }, m⟩ := by
  obtain ⟨⟨h1, h7⟩, hw, hnn, hb, h3, h4, h5, h6⟩ := mvOk_parts h
  obtain ⟨op, wire, n, b⟩ := m
  simp only [] at h1 h7 hw hnn hb h3 h4 h5 h6 hin
  obtain ⟨k, rfl⟩ : ∃ k : Nat, op = (k : Int) := ⟨op.toNat, by omega⟩
  obtain ⟨x, rfl, ex⟩ := numP_I hw hin.1
  obtain ⟨y, rfl, ey⟩ := numP_I hnn hin.2
  have eop := opOf_word k (by omega) (by omega)
  have e1 : rdW ⟨next, st, m0⟩ (wordI (k : Int)) = fromR 6 st ⟨(k : Int), 0, 0, []⟩ := by
    unfold wordI
    rw [Int.toNat_natCast]
    unfold rdW
    simp only []
    rw [if_neg (by omega), if_neg (by omega), if_neg (by omega), if_neg (by omega), if_neg (by omega), if_neg (by omega)]
    unfold partR
    rw [if_neg (fun e => (word_ne k).1 e.1), if_neg (fun e => (word_ne k).2 e.1), eop]
  have hl' : ¬ st.mv.length = 50 := by omega
  unfold moveWs
  simp only []
  rw [rdAll, e1]
  rcases Nat.lt_or_ge k 2 with hk | hk
  · -- put
    obtain rfl : k = 1 := by omega
    obtain rfl : y = 0 := by have := h4 hasN_one; omega
    have hd := dataP_hex b hb
    simp only [fromR, rdAll, rdW, ex, show hasW ((1 : Nat) : Int) = true from rfl, show hasN ((1 : Nat) : Int) = false from rfl, if_true, List.cons_append, List.nil_append]
    simp [fromR, rdAll, rdW, hd, hl', show hasN 1 = false from rfl]
  · have hO : ¬ ((k : Nat) : Int) = 1 := by omega
    obtain rfl : b = [] := h5 hO
    cases eW : hasW ((k : Nat) : Int) with
    | true =>
      cases eN : hasN ((k : Nat) : Int) with
      | true => simp [fromR, rdAll, rdW, ex, ey, hl', eW, eN, hO]
      | false =>
        obtain rfl : y = 0 := by have := h4 eN; omega
        simp [fromR, rdAll, rdW, ex, hl', eW, eN, hO]
    | false =>
      obtain rfl : x = 0 := by have := h3 eW; omega
      cases eN : hasN ((k : Nat) : Int) with
      | true => simp [fromR, rdAll, rdW, ey, hl', eW, eN, hO]
      | false =>
        exfalso
        have : k ≤ 7 := by omega
        obtain ⟨j, rfl⟩ : ∃ j : Fin 8, k = j.val := ⟨⟨k, by omega⟩, rfl⟩
        clear h3 h4 h5 h6 ex ey e1 eop hO h hin hw hnn hb
        revert hk eW eN h1 h7 this; revert j; decide
theorem rd_moves (y : St) : ∀ (ms : List Mo) (st : St) (m0 : Mo) (next : Nat), 3 ≤ next ∧ next ≤ 5 → (∀ m ∈ ms, mvOk m = true) → (∀ m ∈ ms, m.wire < 9223372036854775808 ∧ m.n < 9223372036854775808) → st.mv.length + ms.length ≤ 50 → y = { st with mv := st.mv ++ ms } →
    ∃ next' m', (3 ≤ next' ∧ next' ≤ 5) ∧ rdAll (ms.flatMap moveWs) ⟨next, st, m0⟩ = some ⟨next', y, m'⟩
  | [], st, m0, next, hn, _, _, _, hy => ⟨next, m0, hn, by rw [hy]; simp [rdAll]⟩
  | m :: ms, st, m0, next, hn, hok, hin, hl, hy => by
    simp only [List.length_cons] at hl
    obtain ⟨n', m', h1, h2⟩ := rd_moves y ms { st with mv := st.mv ++ [m] } m 5 (by omega) (fun x hx => hok x (List.mem_cons_of_mem _ hx)) (fun x hx => hin x (List.mem_cons_of_mem _ hx)) (by simp; omega) (by rw [hy]; simp)
    refine ⟨n', m', h1, ?_⟩
    rw [List.flatMap_cons, rdAll_app, rd_move st m m0 next hn (hok m (by simp)) (hin m (by simp)) (by omega)]
    exact h2
theorem stOk_parts {x : St} (h : stOk x = true) : x.mv.length ≤ 50 ∧ x.ord.length ≤ 50 ∧ (∀ n ∈ x.ord, 0 ≤ n ∧ n ≤ 999) ∧ ∀ m ∈ x.mv, mvOk m = true := by
  unfold stOk ordOk at h
  simp only [Bool.and_eq_true, decide_eq_true_eq, List.all_eq_true] at h
  exact h
theorem rdLine_line (x : St) (h : stOk x = true) (hin : x.In) : rdLine (lineB x) = some x := by
  obtain ⟨h1, h2, h3, h4⟩ := stOk_parts h
  obtain ⟨t, intr, ord, ms⟩ := x
  have ht : t < 18446744073709551616 := hin.1
  have hms := hin.2
  simp only [] at h1 h2 h3 h4 ht hms
  have e0 : rdAll (headWs ⟨t, intr, ord, ms⟩) rd0 = some ⟨if ord = [] then (if intr = true then 4 else 3) else 5, ⟨t, intr, ord, []⟩, default⟩ := by
    have e1 : numP 64 (Lib.decDigits t) = some t := numP_dec (Or.inr rfl) (by rw [p64]; exact ht)
    have eI : ∀ (st : St), rdW ⟨3, st, default⟩ wIntr = some ⟨4, { st with intr := true }, default⟩ := fun st => by simp [rdW, partR]
    have eO : ∀ (st : St) (k : Nat), k = 3 ∨ k = 4 → rdW ⟨k, st, default⟩ wOrder = some ⟨2, st, default⟩ := fun st k hk => by
      have hne : ¬ wOrder = wIntr := by decide
      rcases hk with rfl | rfl <;> simp [rdW, partR, hne]
    have eP : ord ≠ [] → ∀ i, rdW ⟨2, ⟨t, i, [], []⟩, default⟩ (ordB ord) = some ⟨5, ⟨t, i, ord, []⟩, default⟩ := fun hne i => by
      have hs : splitB 44 (ordB ord) = ord.map decI := by
        unfold ordB
        refine split_join 44 _ (by simpa using hne) fun w hw => ?_
        obtain ⟨n, _, rfl⟩ := List.mem_map.1 hw
        intro hc
        have := (dec_props n.toNat).1 44 hc
        revert this; decide
      have hp := ordP_map ord [] (fun n hn => by have := h3 n hn; omega) (by simpa using h2)
      simp [rdW, hs, hp]
    have eS : rdW rd0 wStep = some ⟨1, default, default⟩ := by simp [rdW, rd0]
    have eT : rdW ⟨1, default, default⟩ (Lib.decDigits t) = some ⟨3, ⟨t, false, [], []⟩, default⟩ := by simp only [rdW, e1]; rfl
    unfold headWs
    simp only []
    rw [rdAll, eS]
    simp only []
    rw [rdAll, eT]
    simp only []
    cases intr with
    | true =>
      rw [if_pos rfl, if_pos rfl, List.cons_append, rdAll, eI]
      simp only []
      by_cases ho : ord = []
      · rw [if_pos ho, if_pos ho, ho]; rfl
      · rw [if_neg ho, if_neg ho]
        show rdAll [wOrder, ordB ord] _ = _
        rw [rdAll, eO _ _ (Or.inr rfl)]
        simp only []
        rw [rdAll, eP ho]
        rfl
    | false =>
      by_cases ho : ord = []
      · subst ho; rfl
      · simp only [if_neg ho]
        show rdAll [wOrder, ordB ord] _ = _
        rw [rdAll, eO _ _ (Or.inl rfl)]
        simp only []
        rw [rdAll, eP ho]
        rfl
  obtain ⟨n', m', hn', e2⟩ := rd_moves ⟨t, intr, ord, ms⟩ ms ⟨t, intr, ord, []⟩ default (if ord = [] then (if intr = true then 4 else 3) else 5) (by split <;> (try split) <;> omega) h4 (fun m hm => by have := hms m hm; omega) (by simpa using h1) (by simp)
  unfold rdLine
  rw [split_line]
  unfold stepWs
  rw [rdAll_app, e0]
  simp only []
  rw [e2]
  simp only []
  rw [if_pos ⟨hn'.1, hn'.2, h⟩]
end Go.Proofs.YtlephnfepofbbaaGreatDoor

/-
  A text of steps: line by line; what is read of it was written, and what is written is read.
-/
namespace Go.Proofs.YtlephnfepofbbaaGreatDoor

/-- What reads the pieces between line feeds: the steps, or the number of the line that is wrong. -/
def parseL : List (List UInt8) → Nat → List St → Except Nat (List St)
  | [], _, acc => .ok acc
  | [p], n, acc => if p = [] then .ok acc else .error (n + 1)
  | p :: q :: ps, n, acc => match rdLine p with
    | some x => if 2000 < n + 1 then .error (n + 1) else parseL (q :: ps) (n + 1) (acc ++ [x])
    | none => .error (n + 1)
def parseS (s : List UInt8) : Except Nat (List St) := parseL (splitB 10 s) 0 []

theorem parseL_ok : ∀ (ps : List (List UInt8)) (n : Nat) (acc l : List St), ps ≠ [] → parseL ps n acc = .ok l → n ≤ 2000 → acc.length = n →
    ∃ xs, l = acc ++ xs ∧ ps = xs.map lineB ++ [[]] ∧ (∀ x ∈ xs, stOk x = true ∧ x.In) ∧ n + xs.length ≤ 2000
  | [], n, acc, l, h, _, _, _ => absurd rfl h
  | [p], n, acc, l, _, h, hn, _ => by
    unfold parseL at h
    split at h
    · rename_i hp
      have : acc = l := by simpa using h
      exact ⟨[], by simp [this], by simp [hp], fun x hx => by simp at hx, by simpa using hn⟩
    · cases h
  | p :: q :: ps, n, acc, l, _, h, hn, ha => by
    unfold parseL at h
    cases hr : rdLine p with
    | none => rw [hr] at h; cases h
    | some x =>
      rw [hr] at h
      simp only [] at h
      split at h
      · cases h
      · obtain ⟨xs, h1, h2, h3, h4⟩ := parseL_ok (q :: ps) (n + 1) _ l (by simp) h (by omega) (by simp [ha])
        obtain ⟨e1, e2, e3⟩ := rdLine_some hr
        refine ⟨x :: xs, by rw [h1]; simp, by rw [List.map_cons, e1, h2]; rfl, fun y hy => ?_, by simp; omega⟩
        rcases List.mem_cons.1 hy with rfl | hy
        · exact ⟨e2, e3⟩
        · exact h3 y hy
theorem join_lines : ∀ l : List St, joinW 10 (l.map lineB ++ [[]]) = textB l
  | [] => rfl
  | x :: l => by
    rw [List.map_cons, List.cons_append, join_cons 10 _ (by simp), join_lines l]
    unfold textB
    rw [List.flatMap_cons]; simp
theorem allOk_parts {l : List St} (h : allOk l = true) : l.length ≤ 2000 ∧ ∀ x ∈ l, stOk x = true := by
  unfold allOk at h
  simp only [Bool.and_eq_true, decide_eq_true_eq, List.all_eq_true] at h
  exact h
theorem allOk_mk {l : List St} (h : l.length ≤ 2000) (h2 : ∀ x ∈ l, stOk x = true) : allOk l = true := by
  unfold allOk
  simp only [Bool.and_eq_true, decide_eq_true_eq, List.all_eq_true]
  exact ⟨h, h2⟩
/-- What is read of a text, as text, is that text. -/
theorem parseS_ok {s : List UInt8} {l : List St} (h : parseS s = .ok l) : textB l = s ∧ allOk l = true ∧ ∀ x ∈ l, x.In := by
  obtain ⟨xs, h1, h2, h3, h4⟩ := parseL_ok _ _ _ _ (split_ne 10 s) h (by omega) rfl
  rw [List.nil_append] at h1
  subst h1
  exact ⟨by rw [← join_lines, ← h2, join_split], allOk_mk (by omega) (fun x hx => (h3 x hx).1), fun x hx => (h3 x hx).2⟩
theorem split_lines : ∀ l : List St, splitB 10 (textB l) = l.map lineB ++ [[]]
  | [] => rfl
  | x :: l => by
    unfold textB
    rw [List.flatMap_cons, List.append_assoc]
    show splitB 10 (lineB x ++ 10 :: textB l) = _
    rw [split_cut 10 _ _ (line_nofeed x), split_lines l]; rfl
theorem parseL_map : ∀ (xs : List St) (n : Nat) (acc : List St), (∀ x ∈ xs, stOk x = true ∧ x.In) → n + xs.length ≤ 2000 → parseL (xs.map lineB ++ [[]]) n acc = .ok (acc ++ xs)
  | [], n, acc, _, _ => by simp [parseL]
  | x :: xs, n, acc, h, hl => by
    have hx := h x (by simp)
    have ih := parseL_map xs (n + 1) (acc ++ [x]) (fun y hy => h y (List.mem_cons_of_mem _ hy)) (by simp at hl; omega)
    simp only [List.length_cons] at hl
    rw [List.map_cons, List.cons_append]
    obtain ⟨q, qs, hq⟩ : ∃ q qs, xs.map lineB ++ [[]] = q :: qs := by
      cases hz : xs.map lineB ++ [[]] with
      | nil => simp at hz
      | cons q qs => exact ⟨q, qs, rfl⟩
    rw [hq] at ih ⊢
    rw [parseL, rdLine_line x hx.1 hx.2]
    simp only []
    rw [if_neg (by omega), ih]
    simp
/-- Steps are read from their text as they were. -/
theorem parseS_text {l : List St} (h : allOk l = true) (hin : ∀ x ∈ l, x.In) : parseS (textB l) = .ok l := by
  obtain ⟨h1, h2⟩ := allOk_parts h
  unfold parseS
  rw [split_lines, parseL_map l 0 [] (fun x hx => ⟨h2 x hx, hin x hx⟩) (by omega)]
  simp
/-- One text, one list of steps. -/
theorem text_inj {l m : List St} (h : allOk l = true) (hi : ∀ x ∈ l, x.In) (h' : allOk m = true) (hi' : ∀ x ∈ m, x.In) (e : textB l = textB m) : l = m := by
  have h1 := parseS_text h hi
  rw [e, parseS_text h' hi'] at h1
  injection h1 with h1
  exact h1.symm
end Go.Proofs.YtlephnfepofbbaaGreatDoor

/-
  Steps in memory: bytes, numbers, moves and steps that a slice shows, wherever they lie.
-/
namespace Go.Proofs.YtlephnfepofbbaaGreatDoor
open Go.RowKit

/-- Cells that a slice shows, n things, within the blocks D. -/
def Sh (D : Nat → Prop) (W : World) (v : Value) (n : Nat) (cs : List Value) : Prop :=
  ∃ A c, v = .slice A n c ∧ n ≤ c ∧ c ≤ 9223372036854775807 ∧ (A = none → c = 0) ∧ (0 < n → ∃ g off, A = some ⟨g, off, none⟩ ∧ D g ∧ g < W.heap.size ∧ ∀ j u, cs[j]? = some u → W.cell? ⟨g, off + j, none⟩ = some u)
section
variable {D D' : Nat → Prop} {W W' : World} {v : Value} {n : Nat} {cs : List Value}
theorem Sh.same (h : Sh D W v n cs) (k : ∀ g, D g → g < W.heap.size → W'.heap[g]? = W.heap[g]?) (hs : W.heap.size ≤ W'.heap.size) : Sh D W' v n cs := by
  obtain ⟨A, c, e, h1, h2, h3, h4⟩ := h
  refine ⟨A, c, e, h1, h2, h3, fun h0 => ?_⟩
  obtain ⟨g, off, e2, hd, hg, hc⟩ := h4 h0
  exact ⟨g, off, e2, hd, Nat.lt_of_lt_of_le hg hs, fun j u hu => (World.cell?_of_block (k g hd hg)).trans (hc j u hu)⟩
theorem Sh.weak (h : Sh D W v n cs) (k : ∀ g, g < W.heap.size → D g → D' g) : Sh D' W v n cs := by
  obtain ⟨A, c, e, h1, h2, h3, h4⟩ := h
  refine ⟨A, c, e, h1, h2, h3, fun h0 => ?_⟩
  obtain ⟨g, off, e2, hd, hg, hc⟩ := h4 h0
  exact ⟨g, off, e2, k g hg hd, hg, hc⟩
theorem Sh.nil (D : Nat → Prop) (W : World) : Sh D W (.slice none 0 0) 0 [] := ⟨none, 0, rfl, Nat.le_refl _, by omega, fun _ => rfl, fun h => by omega⟩
end

/-! The four kinds. -/
def encM (p : Mo × Value) : List Value := [.int .i64 p.1.op, .int .i64 p.1.wire, .int .i64 p.1.n, p.2]
def encS (p : St × Value × Value) : List Value := [.int .u64 (p.1.t : Int), .bool p.1.intr, p.2.1, p.2.2]
def SrcB (D : Nat → Prop) (W : World) (v : Value) (b : List UInt8) : Prop := Sh D W v b.length (Lib.byteCells b)
def SrcI (D : Nat → Prop) (W : World) (v : Value) (l : List Int) : Prop := Sh D W v l.length (l.map (Value.int .i64))
def SrcM (D : Nat → Prop) (W : World) (v : Value) (ms : List Mo) : Prop := ∃ ps : List (Mo × Value), ps.map Prod.fst = ms ∧ Sh D W v ps.length (ps.flatMap encM) ∧ ∀ p ∈ ps, SrcB D W p.2 p.1.b
def StepV (D : Nat → Prop) (W : World) (ov mv : Value) (x : St) : Prop := SrcI D W ov x.ord ∧ SrcM D W mv x.mv
def SrcS (D : Nat → Prop) (W : World) (v : Value) (l : List St) : Prop := ∃ ps : List (St × Value × Value), ps.map Prod.fst = l ∧ Sh D W v ps.length (ps.flatMap encS) ∧ ∀ p ∈ ps, StepV D W p.2.1 p.2.2 p.1
/-- Numbers that the fields hold. -/
def I64 (n : Int) : Prop := -9223372036854775808 ≤ n ∧ n ≤ 9223372036854775807
def Mo.Wf (m : Mo) : Prop := I64 m.op ∧ I64 m.wire ∧ I64 m.n
def St.Wf (x : St) : Prop := x.t ≤ 18446744073709551615 ∧ (∀ n ∈ x.ord, I64 n) ∧ ∀ m ∈ x.mv, m.Wf
theorem St.Wf.in_ {x : St} (h : x.Wf) : x.In := ⟨by have := h.1; omega, fun m hm => by obtain ⟨_, h1, h2⟩ := h.2.2 m hm; unfold I64 at h1 h2; omega⟩
def Lt (N : Nat) : Nat → Prop := fun g => g < N

theorem flat4_len {α : Type} (f : α → List Value) (hf : ∀ x, (f x).length = 4) : ∀ l : List α, (l.flatMap f).length = 4 * l.length
  | [] => rfl
  | x :: l => by rw [List.flatMap_cons, List.length_append, hf, flat4_len f hf l, List.length_cons]; omega
theorem flat4_at {α : Type} (f : α → List Value) (hf : ∀ x, (f x).length = 4) : ∀ (l : List α) (k : Nat) (x : α) (j : Nat), l[k]? = some x → j < 4 → (l.flatMap f)[k * 4 + j]? = (f x)[j]?
  | [], k, x, j, h, _ => by simp at h
  | y :: l, 0, x, j, h, hj => by
    have : y = x := by simpa using h
    subst this
    rw [List.flatMap_cons, List.getElem?_append_left (by rw [hf]; omega)]; simp
  | y :: l, k + 1, x, j, h, hj => by
    rw [List.flatMap_cons, List.getElem?_append_right (by rw [hf]; omega), hf, ← flat4_at f hf l k x j (by simpa using h) hj]
    congr 1; omega

section
variable {D D' : Nat → Prop} {W W' : World} {v ov mv : Value} {b : List UInt8} {l : List Int} {ms : List Mo} {x : St} {xs : List St}
theorem SrcB.same (h : SrcB D W v b) (k : ∀ g, D g → g < W.heap.size → W'.heap[g]? = W.heap[g]?) (hs : W.heap.size ≤ W'.heap.size) : SrcB D W' v b := Sh.same h k hs
theorem SrcI.same (h : SrcI D W v l) (k : ∀ g, D g → g < W.heap.size → W'.heap[g]? = W.heap[g]?) (hs : W.heap.size ≤ W'.heap.size) : SrcI D W' v l := Sh.same h k hs
theorem SrcM.same (h : SrcM D W v ms) (k : ∀ g, D g → g < W.heap.size → W'.heap[g]? = W.heap[g]?) (hs : W.heap.size ≤ W'.heap.size) : SrcM D W' v ms := by
  obtain ⟨ps, e, h1, h2⟩ := h
  exact ⟨ps, e, h1.same k hs, fun p hp => (h2 p hp).same k hs⟩
theorem StepV.same (h : StepV D W ov mv x) (k : ∀ g, D g → g < W.heap.size → W'.heap[g]? = W.heap[g]?) (hs : W.heap.size ≤ W'.heap.size) : StepV D W' ov mv x := ⟨h.1.same k hs, h.2.same k hs⟩
theorem SrcS.same (h : SrcS D W v xs) (k : ∀ g, D g → g < W.heap.size → W'.heap[g]? = W.heap[g]?) (hs : W.heap.size ≤ W'.heap.size) : SrcS D W' v xs := by
  obtain ⟨ps, e, h1, h2⟩ := h
  exact ⟨ps, e, h1.same k hs, fun p hp => (h2 p hp).same k hs⟩
theorem SrcB.weak (h : SrcB D W v b) (k : ∀ g, g < W.heap.size → D g → D' g) : SrcB D' W v b := Sh.weak h k
theorem SrcI.weak (h : SrcI D W v l) (k : ∀ g, g < W.heap.size → D g → D' g) : SrcI D' W v l := Sh.weak h k
theorem SrcM.weak (h : SrcM D W v ms) (k : ∀ g, g < W.heap.size → D g → D' g) : SrcM D' W v ms := by
  obtain ⟨ps, e, h1, h2⟩ := h
  exact ⟨ps, e, h1.weak k, fun p hp => (h2 p hp).weak k⟩
theorem StepV.weak (h : StepV D W ov mv x) (k : ∀ g, g < W.heap.size → D g → D' g) : StepV D' W ov mv x := ⟨h.1.weak k, h.2.weak k⟩
theorem SrcS.weak (h : SrcS D W v xs) (k : ∀ g, g < W.heap.size → D g → D' g) : SrcS D' W v xs := by
  obtain ⟨ps, e, h1, h2⟩ := h
  exact ⟨ps, e, h1.weak k, fun p hp => (h2 p hp).weak k⟩
/-- What a slice's value looks like. -/
def Form (v : Value) (n : Nat) : Prop := ∃ A c, v = .slice A n c ∧ n ≤ c ∧ c ≤ 9223372036854775807 ∧ (A = none → c = 0)
theorem Sh.form {n : Nat} {cs : List Value} (h : Sh D W v n cs) : Form v n := by
  obtain ⟨A, c, e, h1, h2, h3, _⟩ := h
  exact ⟨A, c, e, h1, h2, h3⟩
theorem SrcB.form (h : SrcB D W v b) : Form v b.length := Sh.form h
theorem SrcI.form (h : SrcI D W v l) : Form v l.length := Sh.form h
theorem SrcM.form (h : SrcM D W v ms) : Form v ms.length := by
  obtain ⟨ps, e, h1, _⟩ := h
  rw [← e, List.length_map]; exact h1.form
theorem SrcS.form (h : SrcS D W v xs) : Form v xs.length := by
  obtain ⟨ps, e, h1, _⟩ := h
  rw [← e, List.length_map]; exact h1.form
theorem SrcB.at_ {A : Option Addr} {n c : Nat} (h : SrcB D W (.slice A n c) b) {k : Nat} (hk : k < b.length) : ∃ g off, A = some ⟨g, off, none⟩ ∧ D g ∧ g < W.heap.size ∧ W.cell? ⟨g, off + k, none⟩ = some (.int .u8 (b[k].toNat : Int)) := by
  obtain ⟨A', c', e, h1, h2, h3, h4⟩ := h
  cases e
  obtain ⟨g, off, e2, hd, hg, hc⟩ := h4 (by omega)
  exact ⟨g, off, e2, hd, hg, hc k _ (by simp [Lib.byteCells, List.getElem?_eq_getElem hk])⟩
theorem SrcI.at_ {A : Option Addr} {n c : Nat} (h : SrcI D W (.slice A n c) l) {k : Nat} (hk : k < l.length) : ∃ g off, A = some ⟨g, off, none⟩ ∧ D g ∧ g < W.heap.size ∧ W.cell? ⟨g, off + k, none⟩ = some (.int .i64 l[k]) := by
  obtain ⟨A', c', e, h1, h2, h3, h4⟩ := h
  cases e
  obtain ⟨g, off, e2, hd, hg, hc⟩ := h4 (by omega)
  exact ⟨g, off, e2, hd, hg, hc k _ (by simp [List.getElem?_eq_getElem hk])⟩
theorem SrcM.at_ {A : Option Addr} {n c : Nat} (h : SrcM D W (.slice A n c) ms) {k : Nat} (hk : k < ms.length) : ∃ g off dv, A = some ⟨g, off, none⟩ ∧ D g ∧ g < W.heap.size ∧
    (W.cell? ⟨g, off + k * 4, none⟩ = some (.int .i64 ms[k].op) ∧ W.cell? ⟨g, off + k * 4 + 1, none⟩ = some (.int .i64 ms[k].wire) ∧ W.cell? ⟨g, off + k * 4 + 2, none⟩ = some (.int .i64 ms[k].n) ∧ W.cell? ⟨g, off + k * 4 + 3, none⟩ = some dv) ∧ SrcB D W dv ms[k].b := by
  obtain ⟨ps, rfl, ⟨A', c', e, h1, h2, h3, h4⟩, h5⟩ := h
  cases e
  have hk' : k < ps.length := by simpa using hk
  obtain ⟨g, off, e2, hd, hg, hc⟩ := h4 (by omega)
  have hp := List.getElem?_eq_getElem hk'
  have f := fun j (hj : j < 4) => flat4_at encM (fun _ => rfl) ps k _ j hp hj
  refine ⟨g, off, (ps[k]).2, e2, hd, hg, ⟨?_, ?_, ?_, ?_⟩, ?_⟩
  · have := hc _ _ (f 0 (by omega)); simpa [encM] using this
  · have := hc _ _ (f 1 (by omega)); simpa [encM, Nat.add_assoc] using this
  · have := hc _ _ (f 2 (by omega)); simpa [encM, Nat.add_assoc] using this
  · have := hc _ _ (f 3 (by omega)); simpa [encM, Nat.add_assoc] using this
  · have := h5 _ (List.mem_of_getElem? hp); simpa using this
theorem SrcS.at_ {A : Option Addr} {n c : Nat} (h : SrcS D W (.slice A n c) xs) {k : Nat} (hk : k < xs.length) : ∃ g off ov mv, A = some ⟨g, off, none⟩ ∧ D g ∧ g < W.heap.size ∧
    (W.cell? ⟨g, off + k * 4, none⟩ = some (.int .u64 (xs[k].t : Int)) ∧ W.cell? ⟨g, off + k * 4 + 1, none⟩ = some (.bool xs[k].intr) ∧ W.cell? ⟨g, off + k * 4 + 2, none⟩ = some ov ∧ W.cell? ⟨g, off + k * 4 + 3, none⟩ = some mv) ∧ StepV D W ov mv xs[k] := by
  obtain ⟨ps, rfl, ⟨A', c', e, h1, h2, h3, h4⟩, h5⟩ := h
  cases e
  have hk' : k < ps.length := by simpa using hk
  obtain ⟨g, off, e2, hd, hg, hc⟩ := h4 (by omega)
  have hp := List.getElem?_eq_getElem hk'
  have f := fun j (hj : j < 4) => flat4_at encS (fun _ => rfl) ps k _ j hp hj
  refine ⟨g, off, (ps[k]).2.1, (ps[k]).2.2, e2, hd, hg, ⟨?_, ?_, ?_, ?_⟩, ?_⟩
  · have := hc _ _ (f 0 (by omega)); simpa [encS] using this
  · have := hc _ _ (f 1 (by omega)); simpa [encS, Nat.add_assoc] using this
  · have := hc _ _ (f 2 (by omega)); simpa [encS, Nat.add_assoc] using this
  · have := hc _ _ (f 3 (by omega)); simpa [encS, Nat.add_assoc] using this
  · have := h5 _ (List.mem_of_getElem? hp); simpa using this
end

/-! Below a bound all stays. -/
section
variable {N : Nat} {W W' : World} {v ov mv : Value} {b : List UInt8} {l : List Int} {ms : List Mo} {x : St} {xs : List St}
theorem SrcB.below (h : SrcB (Lt N) W v b) (k : Below N W W') : SrcB (Lt N) W' v b := h.same (fun g hg _ => k.block g hg) k.size
theorem SrcI.below (h : SrcI (Lt N) W v l) (k : Below N W W') : SrcI (Lt N) W' v l := h.same (fun g hg _ => k.block g hg) k.size
theorem SrcM.below (h : SrcM (Lt N) W v ms) (k : Below N W W') : SrcM (Lt N) W' v ms := h.same (fun g hg _ => k.block g hg) k.size
theorem StepV.below (h : StepV (Lt N) W ov mv x) (k : Below N W W') : StepV (Lt N) W' ov mv x := h.same (fun g hg _ => k.block g hg) k.size
theorem SrcS.below (h : SrcS (Lt N) W v xs) (k : Below N W W') : SrcS (Lt N) W' v xs := h.same (fun g hg _ => k.block g hg) k.size
end
end Go.Proofs.YtlephnfepofbbaaGreatDoor

/-
  Whether steps may be: the program's valid, Check and checkAll, the document's may, May and All.
-/
namespace Go.Proofs.YtlephnfepofbbaaGreatDoor
open Go.RowKit

/-- The table of the moves' fields, as it lies. -/
structure TabF (W : World) : Prop where
  lt : 0 < W.heap.size
  c0 : W.cell? ⟨0, 0, none⟩ = some (.int .i64 0)
  c1 : W.cell? ⟨0, 1, none⟩ = some (.int .i64 5)
  c2 : W.cell? ⟨0, 2, none⟩ = some (.int .i64 3)
  c3 : W.cell? ⟨0, 3, none⟩ = some (.int .i64 1)
  c4 : W.cell? ⟨0, 4, none⟩ = some (.int .i64 1)
  c5 : W.cell? ⟨0, 5, none⟩ = some (.int .i64 1)
  c6 : W.cell? ⟨0, 6, none⟩ = some (.int .i64 3)
  c7 : W.cell? ⟨0, 7, none⟩ = some (.int .i64 2)
theorem TabF.same {W W' : World} (h : TabF W) (e : W'.heap[0]? = W.heap[0]?) (hs : W.heap.size ≤ W'.heap.size) : TabF W' := by
  have c : ∀ i v, W.cell? ⟨0, i, none⟩ = some v → W'.cell? ⟨0, i, none⟩ = some v := fun i v hv => (World.cell?_of_block e).trans hv
  exact ⟨Nat.lt_of_lt_of_le h.lt hs, c _ _ h.c0, c _ _ h.c1, c _ _ h.c2, c _ _ h.c3, c _ _ h.c4, c _ _ h.c5, c _ _ h.c6, c _ _ h.c7⟩
theorem TabF.below {W W' : World} (h : TabF W) (b : Below W.heap.size W W') : TabF W' := h.same (b.block _ h.lt) b.size
def fldF (op : Int) : Int := if op = 1 then 5 else if op = 2 ∨ op = 6 then 3 else if op = 7 then 2 else if 3 ≤ op ∧ op ≤ 5 then 1 else 0
theorem retb {a b : Bool} (h : a = b) : Ending.returned (.bool a) = .returned (.bool b) := by rw [h]
theorem mvOk_iff (m : Mo) : mvOk m = true ↔ (1 ≤ m.op ∧ m.op ≤ 7) ∧ 0 ≤ m.wire ∧ 0 ≤ m.n ∧ m.b.length ≤ 1000 ∧ (m.op ≤ 6 ∨ m.wire = 0) ∧ ((m.op = 2 ∨ m.op = 6 ∨ m.op = 7) ∨ m.n = 0) ∧ (m.op = 1 ↔ 0 < m.b.length) := by
  obtain ⟨op, wire, n, b⟩ := m
  unfold mvOk hasW hasN
  have hb : (!b.isEmpty) = decide (0 < b.length) := by cases b <;> simp
  simp only [hb, Bool.and_eq_true, Bool.or_eq_true, decide_eq_true_eq, beq_iff_eq]
  have : (decide (op = 1) = decide (0 < b.length)) ↔ (op = 1 ↔ 0 < b.length) := decide_eq_decide
  rw [this]
  omega

set_option maxHeartbeats 4000000 in
theorem fields_any (op : Int) (w : World) (hT : TabF w) : Calls Tryz.prog 57 #[.int .i64 op] w fun e w' => e = .returned (.int .i64 (fldF op)) ∧ w = w' := by
  by_cases h0 : op < 0
  · have hf : fldF op = 0 := by unfold fldF; rw [if_neg (by omega), if_neg (by omega), if_neg (by omega), if_neg (by omega)]
    rw [hf]
    clear hf hT
    go_enter Tryz.func57, Tryz.ntmps57
    go_wp2
    go_ret
    exact ⟨rfl, rfl⟩
  by_cases h8 : 8 ≤ op
  · have hf : fldF op = 0 := by unfold fldF; rw [if_neg (by omega), if_neg (by omega), if_neg (by omega), if_neg (by omega)]
    rw [hf]
    clear hf hT
    go_enter Tryz.func57, Tryz.ntmps57
    go_wp2
    go_ret
    exact ⟨rfl, rfl⟩
  obtain ⟨lt, c0, c1, c2, c3, c4, c5, c6, c7⟩ := hT
  have hc : op = 0 ∨ op = 1 ∨ op = 2 ∨ op = 3 ∨ op = 4 ∨ op = 5 ∨ op = 6 ∨ op = 7 := by omega
  clear h0 h8
  rcases hc with rfl | rfl | rfl | rfl | rfl | rfl | rfl | rfl <;>
    (go_enter Tryz.func57, Tryz.ntmps57
     go_wp2
     go_ret
     exact ⟨rfl, rfl⟩)

theorem fld_bits (op : Int) (h : 1 ≤ op ∧ op ≤ 7) : ∃ f p q r, fldF op = f ∧ (f == 0) = false ∧ (bits .and .i64 f 1 == 0) = p ∧ (bits .and .i64 f 2 == 0) = q ∧ (bits .and .i64 f 4 == 0) = r ∧
    ((p = false ∧ q = true ∧ r = false ∧ op = 1) ∨ (p = false ∧ q = false ∧ r = true ∧ (op = 2 ∨ op = 6)) ∨ (p = false ∧ q = true ∧ r = true ∧ (op = 3 ∨ op = 4 ∨ op = 5)) ∨ (p = true ∧ q = false ∧ r = true ∧ op = 7)) := by
  have hc : op = 1 ∨ op = 2 ∨ op = 3 ∨ op = 4 ∨ op = 5 ∨ op = 6 ∨ op = 7 := by omega
  rcases hc with rfl | rfl | rfl | rfl | rfl | rfl | rfl
  · exact ⟨5, false, true, false, rfl, rfl, by kernel_rfl, by kernel_rfl, by kernel_rfl, by simp⟩
  · exact ⟨3, false, false, true, rfl, rfl, by kernel_rfl, by kernel_rfl, by kernel_rfl, by simp⟩
  · exact ⟨1, false, true, true, rfl, rfl, by kernel_rfl, by kernel_rfl, by kernel_rfl, by simp⟩
  · exact ⟨1, false, true, true, rfl, rfl, by kernel_rfl, by kernel_rfl, by kernel_rfl, by simp⟩
  · exact ⟨1, false, true, true, rfl, rfl, by kernel_rfl, by kernel_rfl, by kernel_rfl, by simp⟩
  · exact ⟨3, false, false, true, rfl, rfl, by kernel_rfl, by kernel_rfl, by kernel_rfl, by simp⟩
  · exact ⟨2, true, false, true, rfl, rfl, by kernel_rfl, by kernel_rfl, by kernel_rfl, by simp⟩

set_option maxHeartbeats 8000000 in
theorem valid_any {D : Nat → Prop} (m : Mo) (dv : Value) (w : World) (hT : TabF w) (hb : SrcB D w dv m.b) : Calls Tryz.prog 25 #[.agg #[.int .i64 m.op, .int .i64 m.wire, .int .i64 m.n, dv]] w fun e w' => e = .returned (.bool (mvOk m)) ∧ Below w.heap.size w w' := by
  obtain ⟨A, c, rfl, h1, h2, h3⟩ := hb.form
  have hF := fields_any m.op (w.alloc (.cells #[.int .i64 m.op, .int .i64 m.wire, .int .i64 m.n, .slice A m.b.length c] 25)) (hT.below ((Below.refl _ _).alloc (Nat.le_refl _) _))
  have HOK : Hid (∀ r : Bool, (r = true ↔ (1 ≤ m.op ∧ m.op ≤ 7) ∧ 0 ≤ m.wire ∧ 0 ≤ m.n ∧ m.b.length ≤ 1000 ∧ (m.op ≤ 6 ∨ m.wire = 0) ∧ ((m.op = 2 ∨ m.op = 6 ∨ m.op = 7) ∨ m.n = 0) ∧ (m.op = 1 ↔ 0 < m.b.length)) → r = mvOk m) :=
    Lib.hid fun r h => by rw [Bool.eq_iff_iff, h, mvOk_iff]
  obtain ⟨L, hL⟩ : ∃ L, m.b.length = L := ⟨_, rfl⟩
  rw [hL] at HOK hF h1 ⊢
  clear hb hL h3
  generalize mvOk m = R at HOK ⊢
  obtain ⟨op, wire, n, b⟩ := m
  simp only [] at HOK hF ⊢
  clear b
  by_cases hop : 1 ≤ op ∧ op ≤ 7
  · obtain ⟨f, p, q, r, hf, z0, z1, z2, z3, hcase⟩ := fld_bits op hop
    rw [hf] at hF
    have HF := Lib.hid hF
    have HC := Lib.hid hcase
    clear hF hT hf hop hcase
    rcases HC.out with ⟨rfl, rfl, rfl, hc⟩ | ⟨rfl, rfl, rfl, hc⟩ | ⟨rfl, rfl, rfl, hc⟩ | ⟨rfl, rfl, rfl, hc⟩ <;>
    (have HC2 := Lib.hid hc
     clear hc HC
     go_enter Tryz.func25, Tryz.ntmps25
     go_wp2_with (go_at_call 57; refine HF.out.mono ?_; rintro e w' ⟨rfl, rfl⟩)
     all_goals go_ret
     all_goals exact ⟨retb (HOK.out _ (by have := HC2.out; simp <;> omega)), (Below.refl _ _).alloc (Nat.le_refl _) _⟩)
  · have hf : fldF op = 0 := by unfold fldF; rw [if_neg (by omega), if_neg (by omega), if_neg (by omega), if_neg (by omega)]
    rw [hf] at hF
    have HF := Lib.hid hF
    have HR := Lib.hid hop
    clear hF hT hop hf
    go_enter Tryz.func25, Tryz.ntmps25
    go_wp2_with (go_at_call 57; refine HF.out.mono ?_; rintro e w' ⟨rfl, rfl⟩)
    go_ret
    exact ⟨retb (HOK.out _ (by have := HR.out; simp; omega)), (Below.refl _ _).alloc (Nat.le_refl _) _⟩
end Go.Proofs.YtlephnfepofbbaaGreatDoor

/-
  Check and checkAll.
-/
namespace Go.Proofs.YtlephnfepofbbaaGreatDoor
open Go.RowKit

def chkE (x : St) : Int := if stOk x = true then 0 else 120
def allE (l : List St) : Int := if allOk l = true then 0 else 120
theorem chkE_no {x : St} (h : ¬ (x.mv.length ≤ 50 ∧ x.ord.length ≤ 50 ∧ (∀ n ∈ x.ord, 0 ≤ n ∧ n ≤ 999) ∧ ∀ m ∈ x.mv, mvOk m = true)) : chkE x = 120 := by
  unfold chkE
  rw [if_neg (fun e => h (stOk_parts e))]
theorem stOk_mk {x : St} (h1 : x.mv.length ≤ 50) (h2 : x.ord.length ≤ 50) (h3 : ∀ n ∈ x.ord, 0 ≤ n ∧ n ≤ 999) (h4 : ∀ m ∈ x.mv, mvOk m = true) : stOk x = true := by
  unfold stOk ordOk
  simp only [Bool.and_eq_true, decide_eq_true_eq, List.all_eq_true]
  exact ⟨h1, h2, h3, h4⟩
theorem chkE_yes {x : St} (h1 : x.mv.length ≤ 50) (h2 : x.ord.length ≤ 50) (h3 : ∀ n ∈ x.ord, 0 ≤ n ∧ n ≤ 999) (h4 : ∀ m ∈ x.mv, mvOk m = true) : chkE x = 0 := by
  unfold chkE
  rw [if_pos (stOk_mk h1 h2 h3 h4)]
theorem take_all {α : Type} {p : α → Prop} {l : List α} {k : Nat} (hk : k < l.length) (h : ∀ x ∈ l.take k, p x) (hx : p l[k]) : ∀ x ∈ l.take (k + 1), p x := fun x hm => by
  rw [List.take_add_one, List.getElem?_eq_getElem hk] at hm
  rcases List.mem_append.1 hm with hm | hm
  · exact h x hm
  · have : x = l[k] := by simpa using hm
    rw [this]; exact hx
theorem reti {k : IntKind} {a b : Int} (h : a = b) : Ending.returned (.int k a) = .returned (.int k b) := by rw [h]
theorem valid_yes {D : Nat → Prop} (m : Mo) (dv : Value) (w : World) (hT : TabF w) (hb : SrcB D w dv m.b) (h : mvOk m = true) : Calls Tryz.prog 25 #[.agg #[.int .i64 m.op, .int .i64 m.wire, .int .i64 m.n, dv]] w fun e w' => e = .returned (.bool true) ∧ Below w.heap.size w w' := by
  have := valid_any m dv w hT hb; rwa [h] at this
theorem valid_no {D : Nat → Prop} (m : Mo) (dv : Value) (w : World) (hT : TabF w) (hb : SrcB D w dv m.b) (h : mvOk m = false) : Calls Tryz.prog 25 #[.agg #[.int .i64 m.op, .int .i64 m.wire, .int .i64 m.n, dv]] w fun e w' => e = .returned (.bool false) ∧ Below w.heap.size w w' := by
  have := valid_any m dv w hT hb; rwa [h] at this

set_option maxHeartbeats 8000000 in
theorem check_any (x : St) (ov mv : Value) (w : World) (hT : TabF w) (hx : StepV (Lt w.heap.size) w ov mv x) :
    Calls Tryz.prog 9 #[.agg #[.int .u64 (x.t : Int), .bool x.intr, ov, mv]] w fun e w' => e = .returned (.int .i64 (chkE x)) ∧ Below w.heap.size w w' := by
  obtain ⟨hO, hM⟩ := hx
  obtain ⟨t, intr, ord, ms⟩ := x
  obtain ⟨A, c, rfl, a1, a2, a3⟩ := hO.form
  obtain ⟨B, d, rfl, b1, b2, b3⟩ := hM.form
  have HNO : Hid (¬ (ms.length ≤ 50 ∧ ord.length ≤ 50 ∧ (∀ n ∈ ord, 0 ≤ n ∧ n ≤ 999) ∧ ∀ m ∈ ms, mvOk m = true) → chkE ⟨t, intr, ord, ms⟩ = 120) := Lib.hid (fun h => chkE_no h)
  have HYES : Hid (ms.length ≤ 50 → ord.length ≤ 50 → (∀ n ∈ ord, 0 ≤ n ∧ n ≤ 999) → (∀ m ∈ ms, mvOk m = true) → chkE ⟨t, intr, ord, ms⟩ = 0) := Lib.hid (fun h1 h2 h3 h4 => chkE_yes h1 h2 h3 h4)
  have HO := Lib.hid hO
  have HM := Lib.hid hM
  have HT := Lib.hid hT
  obtain ⟨n, hn⟩ : ∃ n, ord.length = n := ⟨_, rfl⟩
  obtain ⟨k, hk⟩ : ∃ k, ms.length = k := ⟨_, rfl⟩
  simp only [] at a1 b1 ⊢
  rw [hn] at a1 ⊢
  rw [hk] at b1 ⊢
  generalize chkE ⟨t, intr, ord, ms⟩ = R at HNO HYES ⊢
  have HN := Lib.hid hn
  have HK := Lib.hid hk
  clear hO hM hT hn hk a3 b3
  obtain ⟨W, hW⟩ : ∃ W, w.alloc (.cells #[.int .u64 (t : Int), .bool intr, .slice A n c, .slice B k d] 36) = W := ⟨_, rfl⟩
  have hBW : Below w.heap.size w W := by rw [← hW]; exact (Below.refl _ _).alloc (Nat.le_refl _) _
  have HBW := Lib.hid hBW
  have hblk : Blk W w.heap.size 36 #[.int .u64 (t : Int), .bool intr, .slice A n c, .slice B k d] := by rw [← hW]; exact Blk.new _ _ _
  have k2 := hblk.cell 2
  have k3 := hblk.cell 3
  have HBL := Lib.hid hblk
  simp at k2 k3
  have HW := Lib.hid hW
  clear hW hBW hblk
  by_cases h1 : 50 < k
  · have HR : Hid (R = 120) := Lib.hid (HNO.out fun h => by have := HK.out; omega)
    have h1' : (50 : Int) < (k : Int) := by omega
    clear h1
    go_enter Tryz.func9, Tryz.ntmps9
    go_wp2_with fail
    go_ret
    exact ⟨reti HR.out.symm, by rw [HW.out]; exact HBW.out⟩
  have h1' : ¬ (50 : Int) < (k : Int) := by omega
  by_cases h2 : 50 < n
  · have HR : Hid (R = 120) := Lib.hid (HNO.out fun h => by have := HN.out; omega)
    have h2' : (50 : Int) < (n : Int) := by omega
    clear h1 h2
    go_enter Tryz.func9, Tryz.ntmps9
    go_wp2_with fail
    go_ret
    exact ⟨reti HR.out.symm, by rw [HW.out]; exact HBW.out⟩
  have h2' : ¬ (50 : Int) < (n : Int) := by omega
  have n50 : n ≤ 50 := by omega
  have k50 : k ≤ 50 := by omega
  clear h1 h2
  go_enter Tryz.func9, Tryz.ntmps9
  go_wp2_with fail
  rw [HW.out]
  go_loop [20] (fun i => ∃ j : Nat, j ≤ n ∧ i = .int .i64 j ∧ Hid (∀ z ∈ ord.take j, 0 ≤ z ∧ z ≤ 999)) (fun i => n - (intOf i).toNat)
  case atStart => exact ⟨0, Nat.zero_le _, rfl, Lib.hid (fun z hz => by simp at hz)⟩
  case round =>
    obtain ⟨j, hj, rfl, HZ⟩ := hrel
    by_cases hlt : j < n
    · have hlt' : (j : Int) < (n : Int) := by omega
      have hjl : j < ord.length := by have := HN.out; omega
      obtain ⟨g, off, rfl, hg, hg2, hc⟩ := HO.out.at_ (k := j) hjl
      have hc := (HBW.out.cell (p := ⟨g, off + j, none⟩) hg).trans hc
      obtain ⟨z, hz⟩ : ∃ z, ord[j] = z := ⟨_, rfl⟩
      rw [hz] at hc
      have HZZ := Lib.hid hz
      clear hz hg hg2
      by_cases hz0 : z < 0
      · have HR : Hid (R = 120) := Lib.hid (HNO.out fun h => by have := h.2.2.1 z (by rw [← HZZ.out]; exact List.getElem_mem _); omega)
        go_wp2_with fail
        go_ret
        exact ⟨reti HR.out.symm, HBW.out⟩
      by_cases hz1 : 999 < z
      · have HR : Hid (R = 120) := Lib.hid (HNO.out fun h => by have := h.2.2.1 z (by rw [← HZZ.out]; exact List.getElem_mem _); omega)
        go_wp2_with fail
        go_ret
        exact ⟨reti HR.out.symm, HBW.out⟩
      have HZ2 : Hid (∀ z ∈ ord.take (j + 1), 0 ≤ z ∧ z ≤ 999) := Lib.hid (take_all hjl HZ.out (by rw [HZZ.out]; omega))
      go_wp2_with fail
      go_round
      case rel => exact ⟨j + 1, by omega, by go_num, HZ2⟩
      case measure => simp [intOf]; omega
    · obtain rfl : j = n := by omega
      have hlt' : ¬ (j : Int) < (j : Int) := by omega
      have HZ2 : Hid (∀ z ∈ ord, 0 ≤ z ∧ z ≤ 999) := Lib.hid (by have := HZ.out; rwa [List.take_of_length_le (by have := HN.out; omega)] at this)
      clear HZ hlt
      go_wp2_with fail
      go_loopw [34] (fun i wr => ∃ l : Nat, l ≤ k ∧ i = .int .i64 l ∧ Hid (∀ z ∈ ms.take l, mvOk z = true) ∧ Below w.heap.size w wr) (fun i _ => k - (intOf i).toNat)
      case atStart => exact ⟨0, Nat.zero_le _, rfl, Lib.hid (fun z hz => by simp at hz), HBW.out⟩
      case round =>
        obtain ⟨l, hl, rfl, HM1, hb⟩ := hrel
        have HB := Lib.hid hb
        by_cases hlt : l < k
        · have hlt' : (l : Int) < (k : Int) := by omega
          have hjl : l < ms.length := by have := HK.out; omega
          obtain ⟨g, off, dv, rfl, hg, hg2, ⟨q0, q1, q2, q3⟩, hS⟩ := HM.out.at_ (k := l) hjl
          have q0 := (hb.cell (p := ⟨g, off + l * 4, none⟩) hg).trans q0
          have q1 := (hb.cell (p := ⟨g, off + l * 4 + 1, none⟩) hg).trans q1
          have q2 := (hb.cell (p := ⟨g, off + l * 4 + 2, none⟩) hg).trans q2
          have q3 := (hb.cell (p := ⟨g, off + l * 4 + 3, none⟩) hg).trans q3
          obtain ⟨z, hz⟩ : ∃ z, ms[l] = z := ⟨_, rfl⟩
          rw [hz] at q0 q1 q2 hS
          obtain ⟨E, e, rfl, e1, e2, e3⟩ := hS.form
          clear e1 e2 e3
          have HZZ := Lib.hid hz
          have HS := Lib.hid hS
          clear hz hg hg2 hS hb
          cases hv : mvOk z with
          | false =>
            have HR : Hid (R = 120) := Lib.hid (HNO.out fun h => by have := h.2.2.2 z (by rw [← HZZ.out]; exact List.getElem_mem _); rw [hv] at this; cases this)
            have HV := Lib.hid hv
            clear hv
            go_wp2_with (go_at_call 25; refine (valid_no (D := Lt w.heap.size) z _ _ ?_ ?_ HV.out).mono ?_; exact (HT.out.below (HB.out.alloc HB.out.size _)); exact (HS.out.below (HB.out.alloc HB.out.size _)); rintro e w1 ⟨rfl, hb1⟩)
            go_ret
            exact ⟨reti HR.out.symm, (HB.out.alloc HB.out.size _).trans (hb1.mono (by have := HB.out.size; simp; omega))⟩
          | true =>
            have HV := Lib.hid hv
            clear hv
            have HM2 : Hid (∀ z ∈ ms.take (l + 1), mvOk z = true) := Lib.hid (take_all hjl HM1.out (by rw [HZZ.out]; exact HV.out))
            go_wp2_with (go_at_call 25; refine (valid_yes (D := Lt w.heap.size) z _ _ ?_ ?_ HV.out).mono ?_; exact (HT.out.below (HB.out.alloc HB.out.size _)); exact (HS.out.below (HB.out.alloc HB.out.size _)); rintro e w1 ⟨rfl, hb1⟩)
            go_roundw
            case rel => exact ⟨l + 1, by omega, by go_num, HM2, (HB.out.alloc HB.out.size _).trans (hb1.mono (by have := HB.out.size; simp; omega))⟩
            case measure => simp [intOf]; omega
        · obtain rfl : l = k := by omega
          have hlt' : ¬ (l : Int) < (l : Int) := by omega
          have HR : Hid (R = 0) := Lib.hid (HYES.out (by have := HK.out; omega) (by have := HN.out; omega) HZ2.out (by have := HM1.out; rwa [List.take_of_length_le (by have := HK.out; omega)] at this))
          clear hb
          go_wp2_with fail
          go_ret
          exact ⟨reti HR.out.symm, HB.out⟩

theorem mchk_yes {N : Nat} (x : St) (ov mv : Value) (w : World) (hT : TabF w) (hN : N ≤ w.heap.size) (hx : StepV (Lt N) w ov mv x) (h : stOk x = true) :
    Calls Tryz.prog 9 #[.agg #[.int .u64 (x.t : Int), .bool x.intr, ov, mv]] w fun e w' => e = .returned (.int .i64 0) ∧ Below w.heap.size w w' := by
  have := check_any x ov mv w hT (hx.weak fun g _ h => Nat.lt_of_lt_of_le h hN)
  unfold chkE at this; rwa [if_pos h] at this
theorem mchk_no {N : Nat} (x : St) (ov mv : Value) (w : World) (hT : TabF w) (hN : N ≤ w.heap.size) (hx : StepV (Lt N) w ov mv x) (h : stOk x = false) :
    Calls Tryz.prog 9 #[.agg #[.int .u64 (x.t : Int), .bool x.intr, ov, mv]] w fun e w' => e = .returned (.int .i64 120) ∧ Below w.heap.size w w' := by
  have := check_any x ov mv w hT (hx.weak fun g _ h => Nat.lt_of_lt_of_le h hN)
  unfold chkE at this; rwa [if_neg (by rw [h]; simp)] at this
theorem allE_no {l : List St} (h : ¬ (l.length ≤ 2000 ∧ ∀ x ∈ l, stOk x = true)) : allE l = 120 := by
  unfold allE
  rw [if_neg (fun e => h (allOk_parts e))]
theorem allE_yes {l : List St} (h1 : l.length ≤ 2000) (h2 : ∀ x ∈ l, stOk x = true) : allE l = 0 := by
  unfold allE
  rw [if_pos (allOk_mk h1 h2)]
/-- Slices' values in a step's cells. -/
theorem StepV.forms {D : Nat → Prop} {W : World} {ov mv : Value} {x : St} (h : StepV D W ov mv x) : ∃ A c B d, ov = .slice A x.ord.length c ∧ mv = .slice B x.mv.length d := by
  obtain ⟨A, c, e, _⟩ := h.1.form
  obtain ⟨B, d, e2, _⟩ := h.2.form
  exact ⟨A, c, B, d, e, e2⟩

set_option maxHeartbeats 8000000 in
theorem checkAll_any (l : List St) (v : Value) (w : World) (hT : TabF w) (hx : SrcS (Lt w.heap.size) w v l) :
    Calls Tryz.prog 36 #[v] w fun e w' => e = .returned (.int .i64 (allE l)) ∧ Below w.heap.size w w' := by
  obtain ⟨A, c, rfl, a1, a2, a3⟩ := hx.form
  have HNO : Hid (¬ (l.length ≤ 2000 ∧ ∀ x ∈ l, stOk x = true) → allE l = 120) := Lib.hid (fun h => allE_no h)
  have HYES : Hid (l.length ≤ 2000 → (∀ x ∈ l, stOk x = true) → allE l = 0) := Lib.hid (fun h1 h2 => allE_yes h1 h2)
  have HX := Lib.hid hx
  have HT := Lib.hid hT
  obtain ⟨n, hn⟩ : ∃ n, l.length = n := ⟨_, rfl⟩
  rw [hn] at a1 ⊢
  generalize allE l = R at HNO HYES ⊢
  have HN := Lib.hid hn
  clear hx hT hn a3
  by_cases h1 : 2000 < n
  · have HR : Hid (R = 120) := Lib.hid (HNO.out fun h => by have := HN.out; omega)
    have h1' : (2000 : Int) < (n : Int) := by omega
    clear h1
    go_enter Tryz.func36, Tryz.ntmps36
    go_wp2_with fail
    go_ret
    exact ⟨reti HR.out.symm, Below.refl _ _⟩
  have h1' : ¬ (2000 : Int) < (n : Int) := by omega
  go_enter Tryz.func36, Tryz.ntmps36
  go_wp2_with fail
  go_loopw [11] (fun i wr => ∃ j : Nat, j ≤ n ∧ i = .int .i64 j ∧ Hid (∀ z ∈ l.take j, stOk z = true) ∧ Below w.heap.size w wr) (fun i _ => n - (intOf i).toNat)
  case atStart => exact ⟨0, Nat.zero_le _, rfl, Lib.hid (fun z hz => by simp at hz), Below.refl _ _⟩
  case round =>
    obtain ⟨j, hj, rfl, HM1, hb⟩ := hrel
    have HB := Lib.hid hb
    by_cases hlt : j < n
    · have hlt' : (j : Int) < (n : Int) := by omega
      have hjl : j < l.length := by have := HN.out; omega
      obtain ⟨g, off, ov, mv, rfl, hg, hg2, ⟨q0, q1, q2, q3⟩, hS⟩ := HX.out.at_ (k := j) hjl
      have q0 := (hb.cell (p := ⟨g, off + j * 4, none⟩) hg).trans q0
      have q1 := (hb.cell (p := ⟨g, off + j * 4 + 1, none⟩) hg).trans q1
      have q2 := (hb.cell (p := ⟨g, off + j * 4 + 2, none⟩) hg).trans q2
      have q3 := (hb.cell (p := ⟨g, off + j * 4 + 3, none⟩) hg).trans q3
      obtain ⟨z, hz⟩ : ∃ z, l[j] = z := ⟨_, rfl⟩
      rw [hz] at q0 q1 hS
      obtain ⟨E, e2, F, f2, rfl, rfl⟩ := hS.forms
      have HZZ := Lib.hid hz
      have HS := Lib.hid hS
      clear hz hg hg2 hS hb
      cases hv : stOk z with
      | false =>
        have HR : Hid (R = 120) := Lib.hid (HNO.out fun h => by have := h.2 z (by rw [← HZZ.out]; exact List.getElem_mem _); rw [hv] at this; cases this)
        have HV := Lib.hid hv
        clear hv
        have HC := Lib.hid (mchk_no (N := w.heap.size) z _ _ (wr.alloc (.cells #[.int .u64 (z.t : Int), .bool z.intr, .slice E z.ord.length e2, .slice F z.mv.length f2] 36)) (HT.out.below (HB.out.alloc HB.out.size _)) (HB.out.alloc HB.out.size _).size (HS.out.below (HB.out.alloc HB.out.size _)) HV.out)
        go_wp2_with (go_at_call 9; refine HC.out.mono ?_; rintro e w1 ⟨rfl, hb1⟩)
        go_ret
        exact ⟨reti HR.out.symm, (HB.out.alloc HB.out.size _).trans (hb1.mono (by have := HB.out.size; simp; omega))⟩
      | true =>
        have HV := Lib.hid hv
        clear hv
        have HM2 : Hid (∀ z ∈ l.take (j + 1), stOk z = true) := Lib.hid (take_all hjl HM1.out (by rw [HZZ.out]; exact HV.out))
        have HC := Lib.hid (mchk_yes (N := w.heap.size) z _ _ (wr.alloc (.cells #[.int .u64 (z.t : Int), .bool z.intr, .slice E z.ord.length e2, .slice F z.mv.length f2] 36)) (HT.out.below (HB.out.alloc HB.out.size _)) (HB.out.alloc HB.out.size _).size (HS.out.below (HB.out.alloc HB.out.size _)) HV.out)
        go_wp2_with (go_at_call 9; refine HC.out.mono ?_; rintro e w1 ⟨rfl, hb1⟩)
        go_roundw
        case rel => exact ⟨j + 1, by omega, by go_num, HM2, (HB.out.alloc HB.out.size _).trans (hb1.mono (by have := HB.out.size; simp; omega))⟩
        case measure => simp [intOf]; omega
    · obtain rfl : j = n := by omega
      have hlt' : ¬ (j : Int) < (j : Int) := by omega
      have HR : Hid (R = 0) := Lib.hid (HYES.out (by have := HN.out; omega) (by have := HM1.out; rwa [List.take_of_length_le (by have := HN.out; omega)] at this))
      clear hb
      go_wp2_with fail
      go_ret
      exact ⟨reti HR.out.symm, HB.out⟩
end Go.Proofs.YtlephnfepofbbaaGreatDoor

/-
  Rows of structs of one kind, of any program: what lies in them, at any offset; append; a store of one of them.
-/
namespace Go.Proofs.YtlephnfepofbbaaGreatDoor
open Go.RowKit Go.Maps Go.ChangeMaps

/-- A kind of struct: its type, its slices' type, its cells. -/
structure RowK (P : Program) (α : Type) where
  e : TypeId
  s : TypeId
  n : Nat
  bytes : Nat
  zero : Value
  enc : α → List Value
  pos : 0 < n
  by_ : bytes ≤ 1000
  len : ∀ x, (enc x).length = n
  one : ∀ x, ∀ u ∈ enc x, u.oneCell' = true
  und : P.underlying s = some (.slice e)
  info : (P.info? e).map (fun i => (i.zero, i.size, i.bytes)) = some (some zero, n, bytes)
  zs : zero.cells.size = n

theorem row_info {o : Option TypeInfo} {z : Option Value} {s b : Nat} (h : o.map (fun i => (i.zero, i.size, i.bytes)) = some (z, s, b)) : ∃ i, o = some i ∧ i.zero = z ∧ i.size = s ∧ i.bytes = b := by
  cases o with
  | none => cases h
  | some i =>
    simp only [Option.map_some, Option.some.injEq, Prod.mk.injEq] at h
    exact ⟨i, rfl, h.1, h.2.1, h.2.2⟩

section
variable {P : Program} {α : Type} (R : RowK P α)
/-- All cells, one behind the other. -/
def RowK.all (xs : List α) : List Value := xs.flatMap R.enc
theorem RowK.all_len (xs : List α) : (R.all xs).length = xs.length * R.n := by
  unfold RowK.all
  induction xs with
  | nil => simp
  | cons x xs ih => rw [List.flatMap_cons, List.length_append, ih, R.len, List.length_cons, Nat.succ_mul, Nat.add_comm]
theorem RowK.all_append (xs ys : List α) : R.all (xs ++ ys) = R.all xs ++ R.all ys := by simp [RowK.all]
theorem RowK.all_at : ∀ (xs : List α) (i : Nat) (x : α), xs[i]? = some x → ∀ j, j < R.n → (R.all xs)[i * R.n + j]? = (R.enc x)[j]?
  | [], i, x, h, _, _ => by simp at h
  | y :: xs, 0, x, h, j, hj => by
    simp at h; subst h
    unfold RowK.all
    rw [List.flatMap_cons, List.getElem?_append_left (by rw [R.len]; omega)]
    simp
  | y :: xs, i + 1, x, h, j, hj => by
    have ih := RowK.all_at xs i x (by simpa using h) j hj
    unfold RowK.all at ih ⊢
    rw [List.flatMap_cons, List.getElem?_append_right (by rw [R.len, Nat.succ_mul]; omega), R.len, ← ih]
    congr 1
    rw [Nat.succ_mul]; omega
theorem RowK.all_one (xs : List α) : ∀ u ∈ R.all xs, u.oneCell' = true := fun u hu => by
  obtain ⟨x, _, hx⟩ := List.mem_flatMap.1 hu
  exact R.one x u hx

/-- A slice value that owns its row. -/
def RowK.own (w : World) (B : Nat) (v : Value) (xs : List α) : Prop := w.ownsRow B R.e R.n v xs.length (R.all xs)
/-- What lies at an offset of a block. -/
def RowK.lies (w : World) (g off : Nat) (xs : List α) : Prop := ∀ i x, xs[i]? = some x → ∀ j, j < R.n → w.cell? ⟨g, off + (i * R.n + j), none⟩ = (R.enc x)[j]?
/-- A slice that shows these, wherever. -/
def RowK.shows (w : World) (A : Option Addr) (xs : List α) : Prop := 0 < xs.length → ∃ g off, A = some ⟨g, off, none⟩ ∧ g < w.heap.size ∧ R.lies w g off xs
variable {R}
variable {w w' : World} {g off B : Nat} {v : Value} {A : Option Addr} {xs ys : List α}
theorem RowK.lies_same (h : R.lies w g off xs) (e : w'.heap[g]? = w.heap[g]?) : R.lies w' g off xs := fun i x hx j hj => (World.cell?_of_block e).trans (h i x hx j hj)
theorem RowK.lies_take (h : R.lies w g off xs) (k : Nat) : R.lies w g off (xs.take k) := fun i x hx j hj => by
  rw [List.getElem?_take] at hx
  split at hx
  · exact h i x hx j hj
  · cases hx
theorem RowK.lies_drop (h : R.lies w g off xs) (k : Nat) : R.lies w g (off + k * R.n) (xs.drop k) := fun i x hx j hj => by
  rw [List.getElem?_drop] at hx
  have := h (k + i) x hx j hj
  rw [Nat.add_mul] at this
  rw [show off + k * R.n + (i * R.n + j) = off + (k * R.n + i * R.n + j) by omega]
  exact this
theorem RowK.shows_same (h : R.shows w A xs) (e : ∀ g, A.map (·.block) = some g → w'.heap[g]? = w.heap[g]?) (hs : w.heap.size ≤ w'.heap.size) : R.shows w' A xs := fun h0 => by
  obtain ⟨g, off, rfl, hg, hl⟩ := h h0
  exact ⟨g, off, rfl, Nat.lt_of_lt_of_le hg hs, RowK.lies_same hl (e g rfl)⟩
theorem RowK.shows_below (h : R.shows w A xs) (hb : Below w.heap.size w w') : R.shows w' A xs := fun h0 => by
  obtain ⟨g, off, rfl, hg, hl⟩ := h h0
  exact ⟨g, off, rfl, Nat.lt_of_lt_of_le hg hb.size, RowK.lies_same hl (hb.block g hg)⟩
theorem RowK.shows_nil : R.shows w A [] := fun h => by simp at h
theorem RowK.own_nil (w : World) (B : Nat) : R.own w B (.slice none 0 0) [] := World.ownsRow_nil _ _ _ _
theorem row_own_same {base : Nat} {e : TypeId} {size n : Nat} {zs : List Value} (h : w.ownsRow base e size v n zs) (hk : ∀ k, v.ownBlock = some k → w'.heap[k]? = w.heap[k]?) : w'.ownsRow base e size v n zs := by
  refine ⟨h.1, ?_⟩
  rcases h.2 with h2 | ⟨g, cap, cur, rfl, hb, hg, rest⟩
  · exact .inl h2
  · exact .inr ⟨g, cap, cur, rfl, hb, (hk g rfl).trans hg, rest⟩
theorem RowK.own_same (h : R.own w B v xs) (hk : ∀ k, v.ownBlock = some k → w'.heap[k]? = w.heap[k]?) : R.own w' B v xs := row_own_same h hk
theorem RowK.own_lt (h : R.own w B v xs) {k : Nat} (hk : v.ownBlock = some k) : k < w.heap.size ∧ B ≤ k := by
  rcases h.2 with ⟨e, _⟩ | ⟨g, cap, cur, rfl, hb, hg, _⟩
  · rw [e] at hk; cases hk
  · have e : g = k := Option.some.inj hk
    subst e
    exact ⟨(Array.getElem?_eq_some_iff.1 hg).1, hb⟩
theorem RowK.own_below (h : R.own w B v xs) (hb : Below w.heap.size w w') : R.own w' B v xs := RowK.own_same h fun k e => hb.block k (RowK.own_lt h e).1
theorem RowK.own_kept {F : Nat → Prop} (h : R.own w B v xs) (k : Kept F w w') (ha : ∀ i, v.ownBlock = some i → ¬ F i) : R.own w' B v xs := RowK.own_same h fun i e => k.block i (RowK.own_lt h e).1 (ha i e)
theorem RowK.own_more {B' : Nat} (h : R.own w B v xs) (hB : B' ≤ B) : R.own w B' v xs := by
  refine ⟨h.1, ?_⟩
  rcases h.2 with h2 | ⟨g, cap, cur, rfl, hb, r⟩
  · exact .inl h2
  · exact .inr ⟨g, cap, cur, rfl, Nat.le_trans hB hb, r⟩
/-- What a walk reads of a row of its own. -/
theorem RowK.own_form (h : R.own w B v xs) : (v = .slice none 0 0 ∧ xs = []) ∨ ∃ g c, v = .slice (some ⟨g, 0, none⟩) xs.length c ∧ xs.length ≤ c ∧ g < w.heap.size ∧ B ≤ g ∧ R.lies w g 0 xs := by
  rcases h.2 with ⟨rfl, hn⟩ | ⟨g, cap, cur, rfl, hg, hh, hc, r⟩
  · exact .inl ⟨rfl, List.eq_nil_of_length_eq_zero (by simpa using hn)⟩
  · right
    refine ⟨g, cap, rfl, hc, (Array.getElem?_eq_some_iff.1 hh).1, hg, fun i x hx j hj => ?_⟩
    have hi : i < xs.length := (List.getElem?_eq_some_iff.1 hx).1
    have hlt : i * R.n + j < xs.length * R.n := by
      have : (i + 1) * R.n ≤ xs.length * R.n := Nat.mul_le_mul_right _ (by omega)
      rw [Nat.succ_mul] at this; omega
    rw [Nat.zero_add]
    exact (World.ownsRow.cellAt h _ hlt).trans (R.all_at xs i x hx j hj)
theorem RowK.own_shows (h : R.own w B v xs) : ∃ A c, v = .slice A xs.length c ∧ R.shows w A xs ∧ (A = none → c = 0 ∧ xs.length = 0) ∧ xs.length ≤ c := by
  rcases RowK.own_form h with ⟨rfl, rfl⟩ | ⟨g, c, rfl, hc, hg, _, hl⟩
  · exact ⟨none, 0, rfl, RowK.shows_nil, fun _ => ⟨rfl, rfl⟩, Nat.le_refl _⟩
  · exact ⟨_, c, rfl, fun _ => ⟨g, 0, rfl, hg, hl⟩, (fun e => by cases e), hc⟩
theorem RowK.own_slice (h : R.own w B v xs) : ∃ A n c, v = .slice A n c := by
  obtain ⟨A, c, e, _⟩ := RowK.own_shows h
  exact ⟨A, _, c, e⟩

/-- A new block of one of them. -/
theorem RowK.lies_new (w : World) (x : α) (t : TypeId) : R.lies (w.alloc (.cells (R.enc x).toArray t)) w.heap.size 0 [x] := fun i y hy j hj => by
  match i, hy with
  | 0, hy =>
    simp at hy; subst hy
    rw [show (0 + (0 * R.n + j)) = j by omega, cell_of_row _ _ j _ t (0, 0) (heap_alloc_new w _)]
    simp

/-- append(s, x...): s owns its row, x shows what it shows, wherever. -/
theorem RowK.append {ops : Array Oper} {rest : List Oper} {o : Oper} {a : Act} {Q : Exit → Act → World → Prop} (hgd : o.guard = none) (s x : Operand)
    (ho : o.op = .call { callee := .builtin .append, args := #[s, x], argTypes := #[R.s, R.s] })
    (B : Nat) (v : Value) (xs ys : List α) (hs : a.eval s = v) (hown : R.own w B v xs) (A : Option Addr) (n c : Nat) (hn : n = ys.length) (hx : a.eval x = .slice A n c) (hr : R.shows w A ys) (hc : A = none → c = 0 ∧ ys.length = 0) (hlen : xs.length + ys.length ≤ 100000000) (hB : B ≤ w.heap.size)
    (h : ∀ v' w', R.own w' B v' (xs ++ ys) → w.grownBy w' v.ownBlock → (v'.ownBlock = v.ownBlock ∨ v'.ownBlock = some w.heap.size) → wpList P ops Q rest (a.put o.dst v') w') : wpList P ops Q (o :: rest) a w := by
  subst hn
  obtain ⟨i0, hi, hz0, hz1, hz2⟩ := row_info R.info
  have hb := R.by_
  have hbig : (xs.length + ys.length) * R.bytes ≤ 140737488355328 := by
    have := Nat.mul_le_mul hlen hb
    omega
  cases A with
  | none =>
    obtain ⟨rfl, h0⟩ := hc rfl
    have hR : ys = [] := List.eq_nil_of_length_eq_zero h0
    subst hR
    exact wpList_append_own_none hgd s x _ ho B _ i0 R.n R.und hi v xs.length _ hs hown hx (h v w (by rw [List.append_nil]; exact hown) (World.grownBy.refl w _) (.inl rfl))
  | some ad =>
    refine wpList_append_own_at w hgd s x _ ho B _ i0 _ R.n R.bytes R.und hi hz0 hz1 hz2 R.zs R.pos v xs.length _ hs hown ad ys.length c (R.all ys) hx (R.all_len ys) (fun j u hu => ?_) (R.all_one ys) (by unfold maxLen; omega) hbig hB
      (fun v' w' h1 h2 h3 h4 => h v' w' (by unfold RowK.own; rw [List.length_append, R.all_append]; exact h1) h2 h4)
    have hj : j < ys.length * R.n := by have := (List.getElem?_eq_some_iff.1 hu).1; rw [R.all_len] at this; exact this
    have hy : 0 < ys.length := by
      rcases Nat.eq_zero_or_pos ys.length with e | e
      · rw [e] at hj; omega
      · exact e
    obtain ⟨g, off, e, _, hl⟩ := hr hy
    cases e
    have hadd : (⟨g, off, none⟩ : Addr).add j = ⟨g, off + j, none⟩ := by unfold Addr.add; split <;> simp_all
    have hp := R.pos
    have hq : j / R.n < ys.length := Nat.div_lt_of_lt_mul (by rw [Nat.mul_comm]; exact hj)
    have hm : j % R.n < R.n := Nat.mod_lt _ hp
    have hx := List.getElem?_eq_getElem hq
    have e1 := hl _ _ hx _ hm
    have e2 := R.all_at ys _ _ hx _ hm
    have ej : j / R.n * R.n + j % R.n = j := Nat.div_add_mod' j R.n
    rw [ej] at e1 e2
    rw [hadd, e1, ← e2, hu]
end

/-- append(s, x...) inside a region that draws its order: something is appended. -/
theorem RowK.step_append {P : Program} {α : Type} {R : RowK P α} {w : World} {ops : Array Oper} {o : Oper} {a : Act} {K : Act → World → Prop} {Q : Exit → Act → World → Prop} {E : Prop} (hgd : o.guard = none) (s x : Operand)
    (ho : o.op = .call { callee := .builtin .append, args := #[s, x], argTypes := #[R.s, R.s] })
    (B : Nat) (v : Value) (xs ys : List α) (hs : a.eval s = v) (hown : R.own w B v xs) (ad : Addr) (n c : Nat) (hn : n = ys.length) (hx : a.eval x = .slice (some ad) n c) (hr : R.shows w (some ad) ys) (h0 : 0 < n) (hlen : xs.length + ys.length ≤ 100000000) (hB : B ≤ w.heap.size) (H : Nat) (hH : w.heap.size = H)
    (h : ∀ g cap w', R.own w' B (.slice (some ⟨g, 0, none⟩) (xs.length + n) cap) (xs ++ ys) → w.grownBy w' v.ownBlock → (v.ownBlock = some g ∨ g = H) → g < w'.heap.size → K (a.put o.dst (.slice (some ⟨g, 0, none⟩) (xs.length + n) cap)) w') :
    if Region.wanted o (yielded ops a.tmps) = true then Oper.wp P o a w K Q else E := by
  subst hn
  obtain ⟨i0, hi, hz0, hz1, hz2⟩ := row_info R.info
  have hb := R.by_
  have hbig : (xs.length + ys.length) * R.bytes ≤ 140737488355328 := by
    have := Nat.mul_le_mul hlen hb
    omega
  obtain ⟨g, off, e, _, hl⟩ := hr h0
  cases e
  refine step_append_lies w hgd s x _ ho B _ i0 _ R.n R.bytes R.und hi hz0 hz1 hz2 R.zs R.pos v xs.length _ hs hown ⟨g, off, none⟩ ys.length c (R.all ys) hx (R.all_len ys) (fun j u hu => ?_) (R.all_one ys) h0 (by unfold maxLen; omega) hbig hB H hH
    (fun g cap w' h1 h2 h3 h4 => h g cap w' (by unfold RowK.own; rw [List.length_append, R.all_append]; exact h1) h2 h3 h4)
  have hj : j < ys.length * R.n := by have := (List.getElem?_eq_some_iff.1 hu).1; rw [R.all_len] at this; exact this
  have hadd : (⟨g, off, none⟩ : Addr).add j = ⟨g, off + j, none⟩ := by unfold Addr.add; split <;> simp_all
  have hp := R.pos
  have hq : j / R.n < ys.length := Nat.div_lt_of_lt_mul (by rw [Nat.mul_comm]; exact hj)
  have hm : j % R.n < R.n := Nat.mod_lt _ hp
  have hx := List.getElem?_eq_getElem hq
  have e1 := hl _ _ hx _ hm
  have e2 := R.all_at ys _ _ hx _ hm
  have ej : j / R.n * R.n + j % R.n = j := Nat.div_add_mod' j R.n
  rw [ej] at e1 e2
  rw [hadd, e1, ← e2, hu]

/-- Cells laid one behind the other, from a place on. -/
def setMany (zs : List Value) (off : Nat) : List Value → List Value
  | [] => zs
  | u :: us => setMany (zs.set off u) (off + 1) us
theorem setMany_mid : ∀ (us pre bs zs : List Value), bs.length = us.length → setMany (pre ++ (bs ++ zs)) pre.length us = pre ++ (us ++ zs)
  | [], pre, [], zs, _ => rfl
  | u :: us, pre, b :: bs, zs, h => by
    show setMany ((pre ++ (b :: bs ++ zs)).set pre.length u) (pre.length + 1) us = _
    rw [List.set_append_right _ _ (Nat.le_refl _), Nat.sub_self]
    show setMany (pre ++ (u :: (bs ++ zs))) (pre.length + 1) us = _
    have := setMany_mid us (pre ++ [u]) bs zs (by simpa using h)
    simpa using this
theorem RowK.all_set {P : Program} {α : Type} {R : RowK P α} {xs : List α} {j : Nat} {y : α} (hy : xs[j]? = some y) (x : α) : R.all (xs.set j x) = setMany (R.all xs) (j * R.n) (R.enc x) := by
  obtain ⟨hj, ey⟩ := List.getElem?_eq_some_iff.1 hy
  have e1 : xs = xs.take j ++ y :: xs.drop (j + 1) := by
    rw [← ey, List.getElem_cons_drop, List.take_append_drop]
  have e2 : xs.set j x = xs.take j ++ x :: xs.drop (j + 1) := List.set_eq_take_append_cons_drop.trans (if_pos hj)
  have hl : (R.all (xs.take j)).length = j * R.n := by rw [R.all_len, List.length_take, Nat.min_eq_left (Nat.le_of_lt hj)]
  rw [e2]
  conv => rhs; rw [e1]
  have c : ∀ z : α, R.all (xs.take j ++ z :: xs.drop (j + 1)) = R.all (xs.take j) ++ (R.enc z ++ R.all (xs.drop (j + 1))) := fun z => by
    rw [R.all_append]; rfl
  rw [c, c, ← hl, setMany_mid _ _ _ _ (by rw [R.len, R.len])]
/-- One cell of a row laid anew. -/
theorem row_set {w : World} {base : Nat} {e : TypeId} {size n g cap : Nat} {zs : List Value} (h : w.ownsRow base e size (.slice (some ⟨g, 0, none⟩) n cap) n zs) (i : Nat) (u : Value) :
    (w.setCell ⟨g, i, none⟩ u).ownsRow base e size (.slice (some ⟨g, 0, none⟩) n cap) n (zs.set i u) := by
  refine ⟨by rw [List.length_set]; exact h.1, ?_⟩
  rcases h.2 with ⟨e, _⟩ | ⟨g', cap', cur, e, hb, hg, h1, h2, h3, h4⟩
  · cases e
  · injection e with e1 e2 e3
    injection e1 with e1
    injection e1 with e1
    subst e1; subst e3
    have hb2 : Blk w g _ cur := hg
    refine .inr ⟨g, cap, _, rfl, hb, hb2.set_ i u, h1, h2, by simpa using h3, ?_⟩
    rw [Array.toList_setIfInBounds, List.take_set, h4]
theorem row_setMany {base : Nat} {e : TypeId} {size n g cap : Nat} : ∀ (us : List Value) {w : World} {zs : List Value} (_ : w.ownsRow base e size (.slice (some ⟨g, 0, none⟩) n cap) n zs) (i : Nat),
    ((us.foldl (fun (p : World × Nat) u => (p.1.setCell ⟨g, p.2, none⟩ u, p.2 + 1)) (w, i)).1).ownsRow base e size (.slice (some ⟨g, 0, none⟩) n cap) n (setMany zs i us)
  | [], _, _, h, _ => h
  | u :: us, _, _, h, i => row_setMany us (row_set h i u) (i + 1)
/-- One of them laid anew. -/
theorem RowK.own_set {P : Program} {α : Type} {R : RowK P α} {w : World} {B g c : Nat} {xs : List α} {j : Nat} {y : α} (h : R.own w B (.slice (some ⟨g, 0, none⟩) xs.length c) xs) (hy : xs[j]? = some y) (x : α) :
    R.own (((R.enc x).foldl (fun (p : World × Nat) u => (p.1.setCell ⟨g, p.2, none⟩ u, p.2 + 1)) (w, j * R.n)).1) B (.slice (some ⟨g, 0, none⟩) xs.length c) (xs.set j x) := by
  unfold RowK.own
  rw [List.length_set, RowK.all_set hy]
  exact row_setMany (R.enc x) h _
theorem RowK.own_frozen {P : Program} {α : Type} {R : RowK P α} {w : World} {B g c : Nat} {xs : List α} (h : R.own w B (.slice (some ⟨g, 0, none⟩) xs.length c) xs) (i : Nat) : w.frozen? ⟨g, i, none⟩ = false := World.ownsRow.frozenAt h i

/-- What s[:k] shows. -/
theorem RowK.cut_take {P : Program} {α : Type} {R : RowK P α} {w : World} {A : Option Addr} {xs : List α} (h : R.shows w A xs) (k : Nat) : R.shows w A (xs.take k) := fun h0 => by
  rw [List.length_take] at h0
  obtain ⟨g, off, rfl, hg, hl⟩ := h (by omega)
  exact ⟨g, off, rfl, hg, RowK.lies_take hl k⟩
/-- What s[k:] shows: at k = cap the old address is kept. -/
theorem RowK.cut_drop {P : Program} {α : Type} {R : RowK P α} {w : World} {g off c : Nat} {xs : List α} (hl : R.lies w g off xs) (hg : g < w.heap.size) (hc : xs.length ≤ c) (k : Nat) :
    R.shows w (if c = k then (some ⟨g, off, none⟩ : Option Addr) else some ⟨g, off + k * R.n, none⟩) (xs.drop k) := fun h0 => by
  rw [List.length_drop] at h0
  have e : c ≠ k := by omega
  rw [if_neg e]
  exact ⟨g, _, rfl, hg, RowK.lies_drop hl k⟩
end Go.Proofs.YtlephnfepofbbaaGreatDoor

/-
  A range over a function whose iterator may turn memory of its own: a contract of such an iterator, and the law of a loop over it.
-/
namespace Go.Proofs.YtlephnfepofbbaaGreatDoor
open Go.RowKit Go.Shelf

/-- The iterator g: what comes comes one by one, fewer than N before each, till all has come, or till a round says no more. Ch: how it turns memory between two rounds; Kp: what a round keeps; S: all that came, and the world behind. -/
def SeqCh {α : Type} (n : Nat) (P : Program) (g : Nat) (lb : Array Value) (encs : α → Array Value) (Kp Ch : World → World → Prop) (S : List α → World → Prop) (Sp : List α → Prop) (N : Nat) (w : World) : Prop :=
  ∀ (l : Nat) (J Jx : List α → World → Prop) (W : World), (∀ k, k < w.heap.size → W.heap[k]? = w.heap[k]?) → w.heap.size ≤ W.heap.size → (∀ s A A', J s A → Ch A A' → J s A') →
    (∀ pre x W1, J pre W1 → pre.length < N → YieldAt Fence.wide (n - 1) P l (encs x) W1 fun e W' =>
      (e = .returned (.bool true) ∧ J (pre ++ [x]) W' ∧ Kp W1 W') ∨ (e = .returned (.bool false) ∧ Jx (pre ++ [x]) W')) →
    J [] W →
    CallsIn Fence.wide n P g (#[.func (.yield l) #[] #[]] ++ lb) W fun e W' => (∃ v, e = .returned v) ∧ ((∃ xs, S xs W' ∧ J xs W') ∨ (∃ pre, Sp pre ∧ Jx pre W'))

section
variable {n : Nat} {P : Program}

/-- What the loop's record says. -/
abbrev recOf (fn : FuncId) (a : Act) (ps : Array Tmp) (assign body : Code) (D : Nat) (st : LoopState) (pe : Option Code) : Loop :=
  { state := st, pending := pe, fn, tmps := a.tmps, params := ps, assign, body, defers := D }

theorem rangeFunc_ch {α : Type} {g : Operand} {ps : Array Tmp} {assign body : Code} {Q : Exit → Act → World → Prop} {a : Act} {w : World} (h1 : 1 ≤ n)
    {gf : Nat} {lb : Array Value} (hg : a.eval g = .func (.func gf) #[] lb) (eg : ∀ args w, (callFunc gf args).run P w = .ok (.enter gf args) w)
    {encs : α → Array Value} {Kp Ch : World → World → Prop} {S : List α → World → Prop} {Sp : List α → Prop} {N : Nat} {w0 : World} (hseq : SeqCh (n - 1) P gf lb encs Kp Ch S Sp N w0) (hw0 : ∀ k, k < w0.heap.size → w.heap[k]? = w0.heap[k]?) (hz0 : w0.heap.size ≤ w.heap.size)
    (hKt : ∀ {A B C : World}, Kp A B → Kp B C → Kp A C) (hKb : ∀ (W : World) (l : Nat) (o o' : Obj), w.heap.size ≤ l → W.heap[l]? = some o → o.isCells = false → o.isWalk = false → Kp W (W.putObj l o')) (hps : ∀ x, (encs x).size = ps.size)
    (I : List α → World → Prop) (Ix : Code → List α → World → Prop) (hI : OwnFrom w.heap.size I) (hIx : ∀ c, OwnFrom w.heap.size (Ix c)) (hCh : ∀ A A' k o, Ch A A' → w.heap.size ≤ k → A.heap[k]? = some o → A'.heap[k]? = some o) (hIc : ∀ s A A', I s A → Ch A A' → I s A') (hS : ∀ xs, OwnFrom w.heap.size (fun (_ : Unit) W => S xs W)) (h0 : I [] w) (Ax : α → Act → World → Prop) (hAx : ∀ x a', OwnFrom w.heap.size (fun (_ : Unit) W => Ax x a' W))
    (hassign : ∀ (l : Nat) (pre : List α) (x : α) (W : World) (K : Act → World → Prop), I pre W → (∀ a' W', KeepsFrom w.heap.size W W' → Kp W W' → I pre W' → Ax x a' W' → K a' W') →
      assign.wpIn (Fence.wide.inRound l) (n - 1 - 1) P (Exit.then K (fun _ _ _ => False)) { tmps := (ps.zip (encs x)).foldl (fun t (p, v) => t.setIfInBounds p v) a.tmps, defers := [] } W)
    (hbody : ∀ (l : Nat) (pre : List α) (x : α) (a' : Act) (W : World), w.heap.size ≤ l → I pre W → Ax x a' W → pre.length < N → body.wpIn (Fence.wide.inRound l) (n - 1 - 1) P (ownPostG w.heap.size Kp I Ix (pre ++ [x]) W) a' W)
    (hdone : ∀ (D : Nat) (xs : List α) (W : World), w.heap.size ≤ D → S xs W → I xs W → W.heap[D]? = some (.deferred (some [])) → Q .normal { a with defers := { target := .collected D, args := #[] } :: a.defers } W)
    (hstop : ∀ (D : Nat) (c : Code) (pre : List α) (W : World), w.heap.size ≤ D → Sp pre → Ix c pre W → W.heap[D]? = some (.deferred (some [])) → c.wpIn Fence.wide n P Q { a with defers := { target := .collected D, args := #[] } :: a.defers } W) :
    (Code.rangeFunc g ps assign body).wpIn Fence.wide n P Q a w := by
  refine wpIn_rangeFunc fun fn hfn => ?_
  obtain ⟨R, hR⟩ : ∃ R, R = recOf fn a ps assign body w.heap.size := ⟨_, rfl⟩
  obtain ⟨V, hV⟩ : ∃ V, (w.alloc (.deferred (some []))).alloc (.loop (R .ready none)) = V := ⟨_, rfl⟩
  have vL : V.heap[w.heap.size + 1]? = some (.loop (R .ready none)) := by
    rw [← hV]
    have h := World.alloc_heap_new (w.alloc (.deferred (some []))) (.loop (R .ready none))
    rwa [World.size_alloc] at h
  have vD : V.heap[w.heap.size]? = some (.deferred (some [])) := by
    rw [← hV]; exact (Below.heap_alloc _ _ _ (by simp)).trans (World.alloc_heap_new w _)
  have vB : ∀ k, k < w.heap.size → V.heap[k]? = w.heap[k]? := fun k hk => by
    rw [← hV]
    exact (Below.heap_alloc _ _ _ (by simp; omega)).trans (Below.heap_alloc _ _ _ hk)
  have vZ : w.heap.size ≤ V.heap.size := by rw [← hV]; simp; omega
  have vI : I [] V := by rw [← hV]; exact hI.alloc _ (hI.alloc _ h0)
  refine ⟨w.heap.size + 1, [{ target := .collected w.heap.size, args := #[] }], V, { target := .fn (.func gf) lb, args := #[.func (.yield (w.heap.size + 1)) #[] #[]] }, V, gf,
    #[.func (.yield (w.heap.size + 1)) #[] #[]] ++ lb, V, ?enter, ?res, ?lead, ?inv, fun _ => h1, ?call⟩
  case enter => rw [← hV, hR]; exact run_enterLoop_outer _ _ _ _ _
  case res => simp only [resolve, hg]; simp [go_sem]
  case lead => intro f' _; trivial
  case inv => simp [invoke, go_sem, eg]
  case call =>
    refine (hseq (w.heap.size + 1)
      (fun pre W => I pre W ∧ W.heap[w.heap.size + 1]? = some (.loop (R .ready none)) ∧ W.heap[w.heap.size]? = some (.deferred (some [])))
      (fun pre W => ∃ c, Ix c pre W ∧ W.heap[w.heap.size + 1]? = some (.loop (R .done (some c))) ∧ W.heap[w.heap.size]? = some (.deferred (some [])))
      V (fun k hk => (vB k (Nat.lt_of_lt_of_le hk hz0)).trans (hw0 k hk)) (Nat.le_trans hz0 vZ) (fun s A A' hs hc => ⟨hIc s A A' hs.1 hc, hCh _ _ _ _ hc (by omega) hs.2.1, hCh _ _ _ _ hc (Nat.le_refl _) hs.2.2⟩) ?round ⟨vI, vL, vD⟩).mono ?behind
    case round =>
      rintro pre x W ⟨hi, hl, hd⟩ hlen
      have hy := run_yield (P := P) (args := encs x) hl (by rw [hR]; exact hps x)
      rw [hR] at hy
      refine ⟨fn, _, assign, body, hy, roundIn_of_wpIn hfn (hassign _ pre x W _ hi ?_)⟩
      clear hy
      intro a' Wa hkfa hkpa hia hax
      replace hl := hkfa.same _ _ (by omega) hl rfl
      replace hd := hkfa.same _ _ (Nat.le_refl _) hd rfl
      replace hi := hia
      clear hia
      revert hkpa hkfa
      generalize W = Wb
      intro hkfa hkpa
      obtain ⟨W, rfl⟩ : ∃ W, W = Wa := ⟨_, rfl⟩
      have hlt : w.heap.size + 1 < W.heap.size := (Array.getElem?_eq_some_iff.1 hl).1
      refine ⟨_, run_beginRound hl (by rw [hR]), ?_⟩
      obtain ⟨U, hU⟩ : ∃ U, W.putObj (w.heap.size + 1) (.loop { R .ready none with state := .busy }) = U := ⟨_, rfl⟩
      have uL : U.heap[w.heap.size + 1]? = some (.loop { R .ready none with state := .busy }) := by rw [← hU]; exact World.putObj_heap_same hlt
      have uD : U.heap[w.heap.size]? = some (.deferred (some [])) := by rw [← hU]; exact (World.putObj_heap_other (by omega)).trans hd
      have uK : Kp W U := by rw [← hU]; exact hKb _ _ _ _ (by omega) hl rfl rfl
      have uI : I pre U := by rw [← hU]; exact hI.putObj _ hi (by omega) hl rfl
      rw [hU]
      have uA : Ax x a' U := by rw [← hU]; exact (hAx x a').putObj (s := ()) _ hax (by omega) hl rfl
      refine wpIn_mono (hbody _ pre x a' U (by omega) uI uA hlen) ?_
      have over : ∀ (jump : Option Code) (X : World), KeepsFrom w.heap.size U X →
          (Instr.endRound (w.heap.size + 1) jump).run P X = .ok (.bool jump.isNone) (X.putObj (w.heap.size + 1) (.loop (R (if jump.isNone then .ready else .done) jump))) ∧
          X.heap[w.heap.size + 1]? = some (.loop { R .ready none with state := .busy }) ∧
          (X.putObj (w.heap.size + 1) (.loop (R (if jump.isNone then .ready else .done) jump))).heap[w.heap.size + 1]? = some (.loop (R (if jump.isNone then .ready else .done) jump)) ∧
          (X.putObj (w.heap.size + 1) (.loop (R (if jump.isNone then .ready else .done) jump))).heap[w.heap.size]? = some (.deferred (some [])) := fun jump X hX => by
        have xL := hX.same _ _ (by omega) uL rfl
        have he := run_endRound (P := P) jump xL
        rw [hR] at he ⊢
        exact ⟨he, by rw [hR] at xL; exact xL, World.putObj_heap_same (Array.getElem?_eq_some_iff.1 xL).1, (World.putObj_heap_other (by omega)).trans (hX.same _ _ (Nat.le_refl _) uD rfl)⟩
      have leave : ∀ (c : Code) (X : World), KeepsFrom w.heap.size U X → Ix c (pre ++ [x]) X → ∃ v W', (Instr.endRound (w.heap.size + 1) (some c)).run P X = .ok v W' ∧ v = .bool false ∧ ∃ c, Ix c (pre ++ [x]) W' ∧ W'.heap[w.heap.size + 1]? = some (.loop (R .done (some c))) ∧ W'.heap[w.heap.size]? = some (.deferred (some [])) := fun c X hX hx => by
        obtain ⟨hr, b1, b2, b3⟩ := over (some c) X hX
        exact ⟨_, _, hr, rfl, c, (hIx c).putObj _ hx (by omega) b1 rfl, b2, b3⟩
      rintro e b X hp
      cases e with
      | normal =>
        obtain ⟨hX, hk, hi⟩ := hp
        obtain ⟨hr, b1, b2, b3⟩ := over none X hX
        exact ⟨_, _, hr, .inl ⟨rfl, ⟨hI.putObj _ hi (by omega) b1 rfl, b2, b3⟩, hKt hkpa (hKt (hKt uK hk) (hKb _ _ _ _ (by omega) b1 rfl rfl))⟩⟩
      | ret => obtain ⟨v, W', h1, rfl, h2⟩ := leave _ X hp.1 hp.2; exact ⟨_, _, h1, .inr ⟨rfl, h2⟩⟩
      | exit id => obtain ⟨v, W', h1, rfl, h2⟩ := leave _ X hp.1 hp.2; exact ⟨_, _, h1, .inr ⟨rfl, h2⟩⟩
      | goto t => obtain ⟨v, W', h1, rfl, h2⟩ := leave _ X hp.1 hp.2; exact ⟨_, _, h1, .inr ⟨rfl, h2⟩⟩
      | panic ch => exact hp.elim
      | outgrown => exact hp.elim
    case behind =>
      rintro e X ⟨⟨v, rfl⟩, (⟨xs, hSx, hi, hl, hd⟩ | ⟨pre, hSp, c, hi, hl, hd⟩)⟩
      · have he := run_endLoop (P := P) hl (by rw [hR]; simp)
        rw [hR] at he
        exact ⟨none, _, he, hdone _ xs _ (Nat.le_refl _) ((hS xs).putObj (s := ()) _ hSx (by omega) hl rfl) (hI.putObj _ hi (by omega) hl rfl) ((World.putObj_heap_other (by omega)).trans hd)⟩
      · have he := run_endLoop (P := P) hl (by rw [hR]; simp)
        rw [hR] at he
        exact ⟨some c, _, he, hstop _ c pre _ (Nat.le_refl _) hSp ((hIx c).putObj _ hi (by omega) hl rfl) ((World.putObj_heap_other (by omega)).trans hd)⟩
end
end Go.Proofs.YtlephnfepofbbaaGreatDoor

/-
  A range over a function whose iterator keeps a state of its own in a variable's box: a contract of such an iterator, and the law of a loop over it.
-/
namespace Go.Proofs.YtlephnfepofbbaaGreatDoor
open Go.RowKit

/-- The iterator g, its state in the box Bs: the pieces come one by one till all have come, or till a round says no more; what the loop holds must bear what is stored in that box. -/
def SeqBox {α : Type} (n : Nat) (P : Program) (g : Nat) (lb : Array Value) (encs : α → Array Value) (Kp : World → World → Prop) (Bs : Nat) (S Sp : List α → Prop) (w : World) : Prop :=
  ∀ (l : Nat) (J Jx : List α → World → Prop) (W : World), (∀ k, k < w.heap.size → W.heap[k]? = w.heap[k]?) → (∀ s A v, J s A → J s (A.setCell ⟨Bs, 0, none⟩ v)) →
    (∀ pre x W1, J pre W1 → YieldAt Fence.wide (n - 1) P l (encs x) W1 fun e W' =>
      (e = .returned (.bool true) ∧ J (pre ++ [x]) W' ∧ Kp W1 W') ∨ (e = .returned (.bool false) ∧ Jx (pre ++ [x]) W')) →
    J [] W →
    CallsIn Fence.wide n P g (#[.func (.yield l) #[] #[]] ++ lb) W fun e W' => (∃ v, e = .returned v) ∧ ((∃ xs, S xs ∧ J xs W') ∨ (∃ pre, Sp pre ∧ Jx pre W'))

theorem heap_setCell_other (W : World) (B k : Nat) (v : Value) (o : Obj) (h : W.heap[k]? = some o) (hc : o.isCells = false) : (W.setCell ⟨B, 0, none⟩ v).heap[k]? = some o :=
  (KeepsOthers.setCell W ⟨B, 0, none⟩ v).same k o h hc

section
variable {n : Nat} {P : Program}

theorem rangeFunc_box {α : Type} {g : Operand} {ps : Array Tmp} {assign body : Code} {Q : Exit → Act → World → Prop} {a : Act} {w : World} (h1 : 1 ≤ n)
    {gf : Nat} {lb : Array Value} (hg : a.eval g = .func (.func gf) #[] lb) (eg : ∀ args w, (callFunc gf args).run P w = .ok (.enter gf args) w)
    {encs : α → Array Value} {Kp : World → World → Prop} {Bs : Nat} {S Sp : List α → Prop} (hseq : SeqBox (n - 1) P gf lb encs Kp Bs S Sp w)
    (hKt : ∀ {A B C : World}, Kp A B → Kp B C → Kp A C) (hKb : ∀ (W : World) (l : Nat) (o o' : Obj), w.heap.size ≤ l → W.heap[l]? = some o → o.isCells = false → o.isWalk = false → Kp W (W.putObj l o')) (hps : ∀ x, (encs x).size = ps.size)
    (I : List α → World → Prop) (Ix : Code → List α → World → Prop) (hI : OwnFrom w.heap.size I) (hIx : ∀ c, OwnFrom w.heap.size (Ix c)) (hIs : ∀ s A v, I s A → I s (A.setCell ⟨Bs, 0, none⟩ v)) (h0 : I [] w) (a₁ : α → Act)
    (hassign : ∀ (l : Nat) (x : α) (W : World) (K : Act → World → Prop), K (a₁ x) W →
      assign.wpIn (Fence.wide.inRound l) (n - 1 - 1) P (Exit.then K (fun _ _ _ => False)) { tmps := (ps.zip (encs x)).foldl (fun t (p, v) => t.setIfInBounds p v) a.tmps, defers := [] } W)
    (hbody : ∀ (l : Nat) (pre : List α) (x : α) (W : World), I pre W → body.wpIn (Fence.wide.inRound l) (n - 1 - 1) P (ownPostK Kp I Ix (pre ++ [x]) W) (a₁ x) W)
    (hdone : ∀ (D : Nat) (xs : List α) (W : World), w.heap.size ≤ D → S xs → I xs W → W.heap[D]? = some (.deferred (some [])) → Q .normal { a with defers := { target := .collected D, args := #[] } :: a.defers } W)
    (hstop : ∀ (D : Nat) (c : Code) (pre : List α) (W : World), w.heap.size ≤ D → Sp pre → Ix c pre W → W.heap[D]? = some (.deferred (some [])) → c.wpIn Fence.wide n P Q { a with defers := { target := .collected D, args := #[] } :: a.defers } W) :
    (Code.rangeFunc g ps assign body).wpIn Fence.wide n P Q a w := by
  refine wpIn_rangeFunc fun fn hfn => ?_
  obtain ⟨R, hR⟩ : ∃ R, R = recOf fn a ps assign body w.heap.size := ⟨_, rfl⟩
  obtain ⟨V, hV⟩ : ∃ V, (w.alloc (.deferred (some []))).alloc (.loop (R .ready none)) = V := ⟨_, rfl⟩
  have vL : V.heap[w.heap.size + 1]? = some (.loop (R .ready none)) := by
    rw [← hV]
    have h := World.alloc_heap_new (w.alloc (.deferred (some []))) (.loop (R .ready none))
    rwa [World.size_alloc] at h
  have vD : V.heap[w.heap.size]? = some (.deferred (some [])) := by
    rw [← hV]; exact (Below.heap_alloc _ _ _ (by simp)).trans (World.alloc_heap_new w _)
  have vB : ∀ k, k < w.heap.size → V.heap[k]? = w.heap[k]? := fun k hk => by
    rw [← hV]
    exact (Below.heap_alloc _ _ _ (by simp; omega)).trans (Below.heap_alloc _ _ _ hk)
  have vI : I [] V := by rw [← hV]; exact hI.alloc _ (hI.alloc _ h0)
  refine ⟨w.heap.size + 1, [{ target := .collected w.heap.size, args := #[] }], V, { target := .fn (.func gf) lb, args := #[.func (.yield (w.heap.size + 1)) #[] #[]] }, V, gf,
    #[.func (.yield (w.heap.size + 1)) #[] #[]] ++ lb, V, ?enter, ?res, ?lead, ?inv, fun _ => h1, ?call⟩
  case enter => rw [← hV, hR]; exact run_enterLoop_outer _ _ _ _ _
  case res => simp only [resolve, hg]; simp [go_sem]
  case lead => intro f' _; trivial
  case inv => simp [invoke, go_sem, eg]
  case call =>
    refine (hseq (w.heap.size + 1)
      (fun pre W => I pre W ∧ W.heap[w.heap.size + 1]? = some (.loop (R .ready none)) ∧ W.heap[w.heap.size]? = some (.deferred (some [])))
      (fun pre W => ∃ c, Ix c pre W ∧ W.heap[w.heap.size + 1]? = some (.loop (R .done (some c))) ∧ W.heap[w.heap.size]? = some (.deferred (some [])))
      V vB (fun s A v hs => ⟨hIs s A v hs.1, heap_setCell_other _ _ _ _ _ hs.2.1 rfl, heap_setCell_other _ _ _ _ _ hs.2.2 rfl⟩) ?round ⟨vI, vL, vD⟩).mono ?behind
    case round =>
      rintro pre x W ⟨hi, hl, hd⟩
      have hlt : w.heap.size + 1 < W.heap.size := (Array.getElem?_eq_some_iff.1 hl).1
      have hy := run_yield (P := P) (args := encs x) hl (by rw [hR]; exact hps x)
      rw [hR] at hy
      refine ⟨fn, _, assign, body, hy, roundIn_of_wpIn hfn (hassign _ x W _ ⟨_, run_beginRound hl (by rw [hR]), ?_⟩)⟩
      obtain ⟨U, hU⟩ : ∃ U, W.putObj (w.heap.size + 1) (.loop { R .ready none with state := .busy }) = U := ⟨_, rfl⟩
      have uL : U.heap[w.heap.size + 1]? = some (.loop { R .ready none with state := .busy }) := by rw [← hU]; exact World.putObj_heap_same hlt
      have uD : U.heap[w.heap.size]? = some (.deferred (some [])) := by rw [← hU]; exact (World.putObj_heap_other (by omega)).trans hd
      have uK : Kp W U := by rw [← hU]; exact hKb _ _ _ _ (by omega) hl rfl rfl
      have uI : I pre U := by rw [← hU]; exact hI.putObj _ hi (by omega) hl rfl
      rw [hU]
      refine wpIn_mono (hbody _ pre x U uI) ?_
      have over : ∀ (jump : Option Code) (X : World), KeepsOthers U X →
          (Instr.endRound (w.heap.size + 1) jump).run P X = .ok (.bool jump.isNone) (X.putObj (w.heap.size + 1) (.loop (R (if jump.isNone then .ready else .done) jump))) ∧
          X.heap[w.heap.size + 1]? = some (.loop { R .ready none with state := .busy }) ∧
          (X.putObj (w.heap.size + 1) (.loop (R (if jump.isNone then .ready else .done) jump))).heap[w.heap.size + 1]? = some (.loop (R (if jump.isNone then .ready else .done) jump)) ∧
          (X.putObj (w.heap.size + 1) (.loop (R (if jump.isNone then .ready else .done) jump))).heap[w.heap.size]? = some (.deferred (some [])) := fun jump X hX => by
        have xL := hX.same _ _ uL rfl
        have he := run_endRound (P := P) jump xL
        rw [hR] at he ⊢
        exact ⟨he, by rw [hR] at xL; exact xL, World.putObj_heap_same (Array.getElem?_eq_some_iff.1 xL).1, (World.putObj_heap_other (by omega)).trans (hX.same _ _ uD rfl)⟩
      have leave : ∀ (c : Code) (X : World), KeepsOthers U X → Ix c (pre ++ [x]) X → ∃ v W', (Instr.endRound (w.heap.size + 1) (some c)).run P X = .ok v W' ∧ v = .bool false ∧ ∃ c, Ix c (pre ++ [x]) W' ∧ W'.heap[w.heap.size + 1]? = some (.loop (R .done (some c))) ∧ W'.heap[w.heap.size]? = some (.deferred (some [])) := fun c X hX hx => by
        obtain ⟨hr, b1, b2, b3⟩ := over (some c) X hX
        exact ⟨_, _, hr, rfl, c, (hIx c).putObj _ hx (by omega) b1 rfl, b2, b3⟩
      rintro e b X hp
      cases e with
      | normal =>
        obtain ⟨hX, hk, hi⟩ := hp
        obtain ⟨hr, b1, b2, b3⟩ := over none X hX
        exact ⟨_, _, hr, .inl ⟨rfl, ⟨hI.putObj _ hi (by omega) b1 rfl, b2, b3⟩, hKt (hKt uK hk) (hKb _ _ _ _ (by omega) b1 rfl rfl)⟩⟩
      | ret => obtain ⟨v, W', h1, rfl, h2⟩ := leave _ X hp.1 hp.2; exact ⟨_, _, h1, .inr ⟨rfl, h2⟩⟩
      | exit id => obtain ⟨v, W', h1, rfl, h2⟩ := leave _ X hp.1 hp.2; exact ⟨_, _, h1, .inr ⟨rfl, h2⟩⟩
      | goto t => obtain ⟨v, W', h1, rfl, h2⟩ := leave _ X hp.1 hp.2; exact ⟨_, _, h1, .inr ⟨rfl, h2⟩⟩
      | panic ch => exact hp.elim
      | outgrown => exact hp.elim
    case behind =>
      rintro e X ⟨⟨v, rfl⟩, (⟨xs, hS, hi, hl, hd⟩ | ⟨pre, hSp, c, hi, hl, hd⟩)⟩
      · have he := run_endLoop (P := P) hl (by rw [hR]; simp)
        rw [hR] at he
        exact ⟨none, _, he, hdone _ xs _ (Nat.le_refl _) hS (hI.putObj _ hi (by omega) hl rfl) ((World.putObj_heap_other (by omega)).trans hd)⟩
      · have he := run_endLoop (P := P) hl (by rw [hR]; simp)
        rw [hR] at he
        exact ⟨some c, _, he, hstop _ c pre _ (Nat.le_refl _) hSp ((hIx c).putObj _ hi (by omega) hl rfl) ((World.putObj_heap_other (by omega)).trans hd)⟩
end
end Go.Proofs.YtlephnfepofbbaaGreatDoor

/-
  A range over a function whose iterator keeps a state of its own in a variable's box and draws orders: a contract of such an iterator, and the law of a loop over it.
-/
namespace Go.Proofs.YtlephnfepofbbaaGreatDoor
open Go.RowKit

/-- The iterator g, its state in the box Bs: the pieces come one by one till all have come, or till a round says no more; what the loop holds must bear what is stored in that box. -/
def SeqDr {α : Type} (n : Nat) (P : Program) (g : Nat) (lb : Array Value) (encs : α → Array Value) (Kp : World → World → Prop) (Bs : Nat) (S Sp : List α → Prop) (w : World) : Prop :=
  ∀ (l : Nat) (J Jx : List α → World → Prop) (W : World), (∀ k, k < w.heap.size → W.heap[k]? = w.heap[k]?) → (∀ s A v, J s A → J s (A.setCell ⟨Bs, 0, none⟩ v)) → (∀ s A, J s A → J s A.drew) →
    (∀ pre x W1, J pre W1 → YieldAt Fence.wide (n - 1) P l (encs x) W1 fun e W' =>
      (e = .returned (.bool true) ∧ J (pre ++ [x]) W' ∧ Kp W1 W') ∨ (e = .returned (.bool false) ∧ Jx (pre ++ [x]) W')) →
    J [] W →
    CallsIn Fence.wide n P g (#[.func (.yield l) #[] #[]] ++ lb) W fun e W' => (∃ v, e = .returned v) ∧ ((∃ xs, S xs ∧ J xs W') ∨ (∃ pre, Sp pre ∧ Jx pre W'))

section
variable {n : Nat} {P : Program}

theorem rangeFunc_dr {α : Type} {g : Operand} {ps : Array Tmp} {assign body : Code} {Q : Exit → Act → World → Prop} {a : Act} {w : World} (h1 : 1 ≤ n)
    {gf : Nat} {lb : Array Value} (hg : a.eval g = .func (.func gf) #[] lb) (eg : ∀ args w, (callFunc gf args).run P w = .ok (.enter gf args) w)
    {encs : α → Array Value} {Kp : World → World → Prop} {Bs : Nat} {S Sp : List α → Prop} (hseq : SeqDr (n - 1) P gf lb encs Kp Bs S Sp w)
    (hKt : ∀ {A B C : World}, Kp A B → Kp B C → Kp A C) (hKb : ∀ (W : World) (l : Nat) (o o' : Obj), w.heap.size ≤ l → W.heap[l]? = some o → o.isCells = false → o.isWalk = false → Kp W (W.putObj l o')) (hps : ∀ x, (encs x).size = ps.size)
    (I : List α → World → Prop) (Ix : Code → List α → World → Prop) (hI : OwnFrom w.heap.size I) (hIx : ∀ c, OwnFrom w.heap.size (Ix c)) (hIs : ∀ s A v, I s A → I s (A.setCell ⟨Bs, 0, none⟩ v)) (h0 : I [] w) (a₁ : α → Act)
    (hassign : ∀ (l : Nat) (x : α) (W : World) (K : Act → World → Prop), K (a₁ x) W →
      assign.wpIn (Fence.wide.inRound l) (n - 1 - 1) P (Exit.then K (fun _ _ _ => False)) { tmps := (ps.zip (encs x)).foldl (fun t (p, v) => t.setIfInBounds p v) a.tmps, defers := [] } W)
    (hbody : ∀ (l : Nat) (pre : List α) (x : α) (W : World), I pre W → body.wpIn (Fence.wide.inRound l) (n - 1 - 1) P (ownPostK Kp I Ix (pre ++ [x]) W) (a₁ x) W)
    (hdone : ∀ (D : Nat) (xs : List α) (W : World), w.heap.size ≤ D → S xs → I xs W → W.heap[D]? = some (.deferred (some [])) → Q .normal { a with defers := { target := .collected D, args := #[] } :: a.defers } W)
    (hstop : ∀ (D : Nat) (c : Code) (pre : List α) (W : World), w.heap.size ≤ D → Sp pre → Ix c pre W → W.heap[D]? = some (.deferred (some [])) → c.wpIn Fence.wide n P Q { a with defers := { target := .collected D, args := #[] } :: a.defers } W) :
    (Code.rangeFunc g ps assign body).wpIn Fence.wide n P Q a w := by
  refine wpIn_rangeFunc fun fn hfn => ?_
  obtain ⟨R, hR⟩ : ∃ R, R = recOf fn a ps assign body w.heap.size := ⟨_, rfl⟩
  obtain ⟨V, hV⟩ : ∃ V, (w.alloc (.deferred (some []))).alloc (.loop (R .ready none)) = V := ⟨_, rfl⟩
  have vL : V.heap[w.heap.size + 1]? = some (.loop (R .ready none)) := by
    rw [← hV]
    have h := World.alloc_heap_new (w.alloc (.deferred (some []))) (.loop (R .ready none))
    rwa [World.size_alloc] at h
  have vD : V.heap[w.heap.size]? = some (.deferred (some [])) := by
    rw [← hV]; exact (Below.heap_alloc _ _ _ (by simp)).trans (World.alloc_heap_new w _)
  have vB : ∀ k, k < w.heap.size → V.heap[k]? = w.heap[k]? := fun k hk => by
    rw [← hV]
    exact (Below.heap_alloc _ _ _ (by simp; omega)).trans (Below.heap_alloc _ _ _ hk)
  have vI : I [] V := by rw [← hV]; exact hI.alloc _ (hI.alloc _ h0)
  refine ⟨w.heap.size + 1, [{ target := .collected w.heap.size, args := #[] }], V, { target := .fn (.func gf) lb, args := #[.func (.yield (w.heap.size + 1)) #[] #[]] }, V, gf,
    #[.func (.yield (w.heap.size + 1)) #[] #[]] ++ lb, V, ?enter, ?res, ?lead, ?inv, fun _ => h1, ?call⟩
  case enter => rw [← hV, hR]; exact run_enterLoop_outer _ _ _ _ _
  case res => simp only [resolve, hg]; simp [go_sem]
  case lead => intro f' _; trivial
  case inv => simp [invoke, go_sem, eg]
  case call =>
    refine (hseq (w.heap.size + 1)
      (fun pre W => I pre W ∧ W.heap[w.heap.size + 1]? = some (.loop (R .ready none)) ∧ W.heap[w.heap.size]? = some (.deferred (some [])))
      (fun pre W => ∃ c, Ix c pre W ∧ W.heap[w.heap.size + 1]? = some (.loop (R .done (some c))) ∧ W.heap[w.heap.size]? = some (.deferred (some [])))
      V vB (fun s A v hs => ⟨hIs s A v hs.1, heap_setCell_other _ _ _ _ _ hs.2.1 rfl, heap_setCell_other _ _ _ _ _ hs.2.2 rfl⟩) (fun s A hs => ⟨hI s A A.drew none hs.1 ⟨rfl, rfl, rfl, Nat.le_refl _, fun _ _ _ => rfl⟩ (fun r e => by cases e), hs.2.1, hs.2.2⟩) ?round ⟨vI, vL, vD⟩).mono ?behind
    case round =>
      rintro pre x W ⟨hi, hl, hd⟩
      have hlt : w.heap.size + 1 < W.heap.size := (Array.getElem?_eq_some_iff.1 hl).1
      have hy := run_yield (P := P) (args := encs x) hl (by rw [hR]; exact hps x)
      rw [hR] at hy
      refine ⟨fn, _, assign, body, hy, roundIn_of_wpIn hfn (hassign _ x W _ ⟨_, run_beginRound hl (by rw [hR]), ?_⟩)⟩
      obtain ⟨U, hU⟩ : ∃ U, W.putObj (w.heap.size + 1) (.loop { R .ready none with state := .busy }) = U := ⟨_, rfl⟩
      have uL : U.heap[w.heap.size + 1]? = some (.loop { R .ready none with state := .busy }) := by rw [← hU]; exact World.putObj_heap_same hlt
      have uD : U.heap[w.heap.size]? = some (.deferred (some [])) := by rw [← hU]; exact (World.putObj_heap_other (by omega)).trans hd
      have uK : Kp W U := by rw [← hU]; exact hKb _ _ _ _ (by omega) hl rfl rfl
      have uI : I pre U := by rw [← hU]; exact hI.putObj _ hi (by omega) hl rfl
      rw [hU]
      refine wpIn_mono (hbody _ pre x U uI) ?_
      have over : ∀ (jump : Option Code) (X : World), KeepsOthers U X →
          (Instr.endRound (w.heap.size + 1) jump).run P X = .ok (.bool jump.isNone) (X.putObj (w.heap.size + 1) (.loop (R (if jump.isNone then .ready else .done) jump))) ∧
          X.heap[w.heap.size + 1]? = some (.loop { R .ready none with state := .busy }) ∧
          (X.putObj (w.heap.size + 1) (.loop (R (if jump.isNone then .ready else .done) jump))).heap[w.heap.size + 1]? = some (.loop (R (if jump.isNone then .ready else .done) jump)) ∧
          (X.putObj (w.heap.size + 1) (.loop (R (if jump.isNone then .ready else .done) jump))).heap[w.heap.size]? = some (.deferred (some [])) := fun jump X hX => by
        have xL := hX.same _ _ uL rfl
        have he := run_endRound (P := P) jump xL
        rw [hR] at he ⊢
        exact ⟨he, by rw [hR] at xL; exact xL, World.putObj_heap_same (Array.getElem?_eq_some_iff.1 xL).1, (World.putObj_heap_other (by omega)).trans (hX.same _ _ uD rfl)⟩
      have leave : ∀ (c : Code) (X : World), KeepsOthers U X → Ix c (pre ++ [x]) X → ∃ v W', (Instr.endRound (w.heap.size + 1) (some c)).run P X = .ok v W' ∧ v = .bool false ∧ ∃ c, Ix c (pre ++ [x]) W' ∧ W'.heap[w.heap.size + 1]? = some (.loop (R .done (some c))) ∧ W'.heap[w.heap.size]? = some (.deferred (some [])) := fun c X hX hx => by
        obtain ⟨hr, b1, b2, b3⟩ := over (some c) X hX
        exact ⟨_, _, hr, rfl, c, (hIx c).putObj _ hx (by omega) b1 rfl, b2, b3⟩
      rintro e b X hp
      cases e with
      | normal =>
        obtain ⟨hX, hk, hi⟩ := hp
        obtain ⟨hr, b1, b2, b3⟩ := over none X hX
        exact ⟨_, _, hr, .inl ⟨rfl, ⟨hI.putObj _ hi (by omega) b1 rfl, b2, b3⟩, hKt (hKt uK hk) (hKb _ _ _ _ (by omega) b1 rfl rfl)⟩⟩
      | ret => obtain ⟨v, W', h1, rfl, h2⟩ := leave _ X hp.1 hp.2; exact ⟨_, _, h1, .inr ⟨rfl, h2⟩⟩
      | exit id => obtain ⟨v, W', h1, rfl, h2⟩ := leave _ X hp.1 hp.2; exact ⟨_, _, h1, .inr ⟨rfl, h2⟩⟩
      | goto t => obtain ⟨v, W', h1, rfl, h2⟩ := leave _ X hp.1 hp.2; exact ⟨_, _, h1, .inr ⟨rfl, h2⟩⟩
      | panic ch => exact hp.elim
      | outgrown => exact hp.elim
    case behind =>
      rintro e X ⟨⟨v, rfl⟩, (⟨xs, hS, hi, hl, hd⟩ | ⟨pre, hSp, c, hi, hl, hd⟩)⟩
      · have he := run_endLoop (P := P) hl (by rw [hR]; simp)
        rw [hR] at he
        exact ⟨none, _, he, hdone _ xs _ (Nat.le_refl _) hS (hI.putObj _ hi (by omega) hl rfl) ((World.putObj_heap_other (by omega)).trans hd)⟩
      · have he := run_endLoop (P := P) hl (by rw [hR]; simp)
        rw [hR] at he
        exact ⟨some c, _, he, hstop _ c pre _ (Nat.le_refl _) hSp ((hIx c).putObj _ hi (by omega) hl rfl) ((World.putObj_heap_other (by omega)).trans hd)⟩
end
end Go.Proofs.YtlephnfepofbbaaGreatDoor

/-
  Whether a sleep's condition holds: none, or a function that answers.
-/
namespace Go.Proofs.YtlephnfepofbbaaGreatDoor
open Go.RowKit

theorem idle_any (w : World) : CallsD Tryz.prog 86 #[] .returning w fun e u' w' => e = .returned (.tuple #[]) ∧ u' = .returning ∧ w' = w := by
  refine callsD_of_wpS Tryz.func86 rfl fun c₀ cs hu => ?_
  apply wpS_region
  simp [wpOpsS, go_sem, recoverD, hu, Tryz.ntmps86, Exit.thenS]
  cases c₀
  simp_all [bodyPostS, results, Tryz.results86]
theorem eq_ff (W : World) (d : Nat) : (Op.equalIn (d + 1) 44 .nilFunc .nilFunc).run Tryz.prog W = .ok true W := by simp [Op.equalIn, run_underlying Tryz.underlying44]
theorem eq_fn (W : World) (d : Nat) (f : Fn) (a b : Array Value) : (Op.equalIn (d + 1) 44 (.func f a b) .nilFunc).run Tryz.prog W = .ok false W := by simp [Op.equalIn, run_underlying Tryz.underlying44]
theorem neq_nil (W : World) : (binOp .neq 44 .nilFunc .nilFunc).run Tryz.prog W = .ok (.bool false) W := by
  simp only [binOp]
  simp [Op.equal, Op.maxDepth, eq_ff W 9999]
theorem neq_fn (W : World) (f : Fn) (a b : Array Value) : (binOp .neq 44 (.func f a b) .nilFunc).run Tryz.prog W = .ok (.bool true) W := by
  simp only [binOp]
  simp [Op.equal, Op.maxDepth, eq_fn W 9999 f a b]
set_option maxRecDepth 100000 in
theorem ask_nil (w : World) : Calls Tryz.prog 42 #[.nilFunc] w fun e w' => e = .returned (.bool false) ∧ w = w' := by
  have hq := neq_nil
  go_enter_defers Tryz.func42, Tryz.ntmps42
  go_wp2
  refine leaves_cons (f := 86) (args := #[]) (by simp) (by simp [go_sem]) ?_
  refine (idle_any _).mono ?_
  rintro e u' w'' ⟨rfl, rfl, rfl⟩
  exact ⟨_, results_tmp rfl _ _ _, rfl, rfl⟩
theorem hold_true (w : World) : Calls Tryz.prog 13 #[] w fun e w' => e = .returned (.bool true) ∧ w = w' := by
  go_enter Tryz.func13, Tryz.ntmps13
  go_wp2
  go_ret
  exact ⟨rfl, rfl⟩
set_option maxRecDepth 100000 in
theorem ask_true (w : World) : Calls Tryz.prog 42 #[.func (.func 13) #[] #[]] w fun e w' => e = .returned (.bool true) ∧ w = w' := by
  have hq := fun W => neq_fn W (.func 13) #[] #[]
  go_enter_defers Tryz.func42, Tryz.ntmps42
  go_wp2_with (go_at_call 13; refine (hold_true _).mono ?_; rintro e w' ⟨rfl, rfl⟩)
  refine leaves_cons (f := 86) (args := #[]) (by simp) (by simp [go_sem]) ?_
  refine (idle_any _).mono ?_
  rintro e u' w'' ⟨rfl, rfl, rfl⟩
  exact ⟨_, results_tmp rfl _ _ _, rfl, rfl⟩
/-- The condition that a sleep asks: the answer, b, of whatever the box k holds. -/
def Ans (v : Value) (b : Bool) : Prop := ∀ w, Calls Tryz.prog 42 #[v] w fun e w' => e = .returned (.bool b) ∧ w = w'
theorem ans_nil : Ans .nilFunc false := ask_nil
theorem ans_true : Ans (.func (.func 13) #[] #[]) true := ask_true
theorem holds_any {v : Value} {b : Bool} (h : Ans v b) (k : Nat) (w : World) (hk : w.cell? ⟨k, 0, none⟩ = some v) : Calls Tryz.prog 41 #[.pointer (some ⟨k, 0, none⟩)] w fun e w' => e = .returned (.bool b) ∧ w = w' := by
  have HA := Lib.hid (h w)
  go_enter Tryz.func41, Tryz.ntmps41
  go_wp2_with (go_at_call 42; refine HA.out.mono ?_; rintro e w' ⟨rfl, rfl⟩)
  go_ret
  exact ⟨rfl, rfl⟩
end Go.Proofs.YtlephnfepofbbaaGreatDoor

/-
  Bytes in places that go round: what is laid from a number on, what is read from a number on. No program.
-/
namespace Go.Proofs.YtlephnfepofbbaaGreatDoor

theorem splice_get {α : Type} (L : List α) (off : Nat) (cs : List α) (h : off + cs.length ≤ L.length) (j : Nat) :
    (splice L off cs)[j]? = if off ≤ j ∧ j < off + cs.length then cs[j - off]? else L[j]? := by
  unfold splice
  by_cases h1 : j < off
  · rw [List.getElem?_append_left (by rw [List.length_take]; omega), List.getElem?_take, if_pos h1, if_neg (by omega)]
  · rw [List.getElem?_append_right (by rw [List.length_take]; omega), List.length_take, Nat.min_eq_left (by omega)]
    by_cases h2 : j < off + cs.length
    · rw [List.getElem?_append_left (by omega), if_pos ⟨by omega, h2⟩]
    · rw [List.getElem?_append_right (by omega), List.getElem?_drop, if_neg (by omega)]
      congr 1; omega

theorem add_mod_two (f i L : Nat) (hi : i < L) : (f + i) % L = if f % L + i < L then f % L + i else f % L + i - L := by
  have hm := Nat.mod_lt f (show L > 0 by omega)
  rw [← Nat.mod_add_mod]
  by_cases h : f % L + i < L
  · rw [if_pos h, Nat.mod_eq_of_lt h]
  · rw [if_neg h, Nat.mod_eq_sub_mod (by omega), Nat.mod_eq_of_lt (by omega)]

/-- The bytes bs lie in the places ps, number out and on. -/
def Lies (ps bs : List Int) (out : Nat) : Prop := bs.length ≤ ps.length ∧ ∀ i, i < bs.length → ps[(out + i) % ps.length]? = bs[i]?

/-- How many of n bytes from number f on stand ahead of the turn. -/
def ahd (L f n : Nat) : Nat := min n (L - f % L)
/-- The places, b laid from number f on. -/
def laidB (ps : List Int) (f : Nat) (b : List Int) : List Int :=
  splice (splice ps (f % ps.length) (b.take (ahd ps.length f b.length))) 0 (b.drop (ahd ps.length f b.length))

theorem ahd_le (L f n : Nat) : ahd L f n ≤ n := Nat.min_le_left _ _
theorem ahd_le' (L f n : Nat) : ahd L f n ≤ L - f % L := Nat.min_le_right _ _

theorem len_laid1 (ps : List Int) (f : Nat) (b : List Int) (hb : b.length ≤ ps.length) : (splice ps (f % ps.length) (b.take (ahd ps.length f b.length))).length = ps.length := by
  by_cases h0 : ps.length = 0
  · have : b = [] := List.eq_nil_of_length_eq_zero (by omega)
    have hp : ps = [] := List.eq_nil_of_length_eq_zero h0
    subst this; subst hp; simp [splice]
  · have hm := Nat.mod_lt f (show ps.length > 0 by omega)
    have := ahd_le ps.length f b.length
    have := ahd_le' ps.length f b.length
    exact length_splice _ _ _ (by rw [List.length_take]; omega)
theorem len_laid (ps : List Int) (f : Nat) (b : List Int) (hb : b.length ≤ ps.length) : (laidB ps f b).length = ps.length := by
  unfold laidB
  rw [length_splice _ _ _ (by rw [len_laid1 ps f b hb, List.length_drop]; omega), len_laid1 ps f b hb]

theorem laid_get (ps : List Int) (f : Nat) (b : List Int) (hb : b.length ≤ ps.length) (i : Nat) (hi : i < b.length) :
    (laidB ps f b)[(f + i) % ps.length]? = b[i]? := by
  have hm := Nat.mod_lt f (show ps.length > 0 by omega)
  have h1 := ahd_le ps.length f b.length
  have h2 := ahd_le' ps.length f b.length
  have h3 : ahd ps.length f b.length = min b.length (ps.length - f % ps.length) := rfl
  unfold laidB
  rw [splice_get _ _ _ (by rw [len_laid1 ps f b hb, List.length_drop]; omega), splice_get _ _ _ (by rw [List.length_take]; omega), add_mod_two f i ps.length (by omega), List.length_take, List.length_drop]
  by_cases h : f % ps.length + i < ps.length
  · rw [if_pos h, if_neg (by omega), if_pos (by omega), List.getElem?_take, if_pos (by omega)]
    congr 1; omega
  · rw [if_neg h, if_pos (by omega), List.getElem?_drop]
    congr 1; omega
theorem laid_other (ps : List Int) (f : Nat) (b : List Int) (hb : b.length ≤ ps.length) (i : Nat) (h0 : b.length ≤ i) (hi : i < ps.length) :
    (laidB ps f b)[(f + i) % ps.length]? = ps[(f + i) % ps.length]? := by
  have hm := Nat.mod_lt f (show ps.length > 0 by omega)
  have h1 := ahd_le ps.length f b.length
  have h2 := ahd_le' ps.length f b.length
  have h3 : ahd ps.length f b.length = min b.length (ps.length - f % ps.length) := rfl
  unfold laidB
  rw [splice_get _ _ _ (by rw [len_laid1 ps f b hb, List.length_drop]; omega), splice_get _ _ _ (by rw [List.length_take]; omega), add_mod_two f i ps.length (by omega), List.length_take, List.length_drop]
  by_cases h : f % ps.length + i < ps.length
  · rw [if_pos h, if_neg (by omega), if_neg (by omega)]
  · rw [if_neg h, if_neg (by omega), if_neg (by omega)]

theorem Lies.put {ps bs : List Int} {out : Nat} (h : Lies ps bs out) (b : List Int) (hb : bs.length + b.length ≤ ps.length) : Lies (laidB ps (out + bs.length) b) (bs ++ b) out := by
  have hl := len_laid ps (out + bs.length) b (by omega)
  refine ⟨by rw [hl, List.length_append]; omega, fun i hi => ?_⟩
  rw [List.length_append] at hi
  rw [hl]
  by_cases hlt : i < bs.length
  · -- not touched: it stands b.length or more behind the first new one
    rw [List.getElem?_append_left hlt, ← h.2 i hlt]
    have e : (out + i) % ps.length = (out + bs.length + (ps.length - bs.length + i)) % ps.length := by
      rw [show out + bs.length + (ps.length - bs.length + i) = out + i + ps.length by omega, Nat.add_mod_right]
    rw [e]
    exact laid_other ps _ b (by omega) _ (by omega) (by omega)
  · rw [List.getElem?_append_right (by omega), ← laid_get ps (out + bs.length) b (by omega) (i - bs.length) (by omega)]
    congr 2; omega
theorem Lies.drop {ps bs : List Int} {out : Nat} (h : Lies ps bs out) (n : Nat) (hn : n ≤ bs.length) : Lies ps (bs.drop n) (out + n) := by
  refine ⟨by rw [List.length_drop]; have := h.1; omega, fun i hi => ?_⟩
  rw [List.length_drop] at hi
  rw [List.getElem?_drop, ← h.2 (n + i) (by omega)]
  congr 2; omega
theorem Lies.none (ps : List Int) (out : Nat) : Lies ps [] out := ⟨by simp, fun i hi => by simp at hi⟩
theorem Lies.fresh (n : Nat) (bs : List Int) (out : Nat) (h : bs.length ≤ n) : Lies (laidB (List.replicate n 0) out bs) bs out := by
  have := (Lies.none (List.replicate n 0) out).put bs (by simpa using h)
  simpa using this

theorem Lies.seg1 {ps bs : List Int} {out : Nat} (h : Lies ps bs out) : (ps.drop (out % ps.length)).take (ahd ps.length out bs.length) = bs.take (ahd ps.length out bs.length) := by
  have h1 := ahd_le ps.length out bs.length
  have h2 := ahd_le' ps.length out bs.length
  have h0 := h.1
  refine List.ext_getElem? fun i => ?_
  rw [List.getElem?_take, List.getElem?_take]
  by_cases hi : i < ahd ps.length out bs.length
  · rw [if_pos hi, if_pos hi, List.getElem?_drop, ← h.2 i (by omega), add_mod_two out i ps.length (by omega), if_pos (by omega)]
  · rw [if_neg hi, if_neg hi]
theorem Lies.seg2 {ps bs : List Int} {out : Nat} (h : Lies ps bs out) : ps.take (bs.length - ahd ps.length out bs.length) = bs.drop (ahd ps.length out bs.length) := by
  have h1 := ahd_le ps.length out bs.length
  have h2 := ahd_le' ps.length out bs.length
  have h3 : ahd ps.length out bs.length = min bs.length (ps.length - out % ps.length) := rfl
  have h0 := h.1
  refine List.ext_getElem? fun i => ?_
  rw [List.getElem?_take, List.getElem?_drop]
  by_cases hi : i < bs.length - ahd ps.length out bs.length
  · have hm := Nat.mod_lt out (show ps.length > 0 by omega)
    rw [if_pos hi, ← h.2 _ (by omega), add_mod_two out _ ps.length (by omega), if_neg (by omega)]
    congr 1; omega
  · rw [if_neg hi, List.getElem?_eq_none (by omega)]
end Go.Proofs.YtlephnfepofbbaaGreatDoor

/-
  How a ring's circle lies in memory; its small calls: length, drop, segments; made.
-/
namespace Go.Proofs.YtlephnfepofbbaaGreatDoor
open Go.RowKit Go.Maps Go.ChangeMaps

def encB (zs : List Int) : List Value := zs.map (Value.int .u8)
theorem encB_length (zs : List Int) : (encB zs).length = zs.length := by simp [encB]
theorem encB_get (zs : List Int) (i : Nat) : (encB zs)[i]? = (zs[i]?).map (Value.int .u8) := by simp [encB]
theorem encB_one (zs : List Int) : ∀ v ∈ encB zs, v.oneCell' = true := fun v hv => by
  obtain ⟨z, _, rfl⟩ := List.mem_map.1 hv; rfl

/-- A row of its own that the slice v names, all of it: the bytes ps. -/
def RowB (W : World) (B : Nat) (v : Value) (ps : List Int) : Prop :=
  (v = .slice none 0 0 ∧ ps = []) ∨ ∃ g, v = .slice (some ⟨g, 0, none⟩) ps.length ps.length ∧ B ≤ g ∧ W.heap[g]? = some (.cells (encB ps).toArray 5 (0, 0))

section
variable {w w' : World} {B B' cb cap inn out : Nat} {v v' : Value} {ps bs : List Int}
theorem RowB.lt (h : RowB w B v ps) {k : Nat} (hk : v.ownBlock = some k) : k < w.heap.size ∧ B ≤ k := by
  rcases h with ⟨rfl, _⟩ | ⟨g, rfl, hB, hg⟩
  · cases hk
  · cases hk; exact ⟨(Array.getElem?_eq_some_iff.1 hg).1, hB⟩
theorem RowB.same (h : RowB w B v ps) (e : ∀ k, v.ownBlock = some k → w'.heap[k]? = w.heap[k]?) : RowB w' B v ps := by
  rcases h with h | ⟨g, rfl, hB, hg⟩
  · exact .inl h
  · exact .inr ⟨g, rfl, hB, (e g rfl).trans hg⟩
theorem RowB.mono (h : RowB w B v ps) (hB : B' ≤ B) : RowB w B' v ps := by
  rcases h with h | ⟨g, rfl, hb, hg⟩
  · exact .inl h
  · exact .inr ⟨g, rfl, Nat.le_trans hB hb, hg⟩
theorem RowB.below (h : RowB w B v ps) (hb : Below w.heap.size w w') : RowB w' B v ps := h.same fun k e => hb.block k (h.lt e).1
theorem RowB.form (h : RowB w B v ps) : ∃ A, v = .slice A ps.length ps.length ∧ (A.map (·.block) = v.ownBlock) := by
  rcases h with ⟨rfl, rfl⟩ | ⟨g, rfl, _, _⟩
  · exact ⟨none, rfl, rfl⟩
  · exact ⟨_, rfl, rfl⟩

/-- A circle: its block, its row, the bytes in it. -/
structure Cst (W : World) (B cb cap : Nat) (v : Value) (ps bs : List Int) (inn out : Nat) : Prop where
  blk : Blk W cb 190 #[.int .i64 (cap : Int), v, .int .u64 (inn : Int), .int .u64 (out : Int)]
  row : RowB W B v ps
  hB : B ≤ cb
  lies : Lies ps bs out
  le : ps.length ≤ 65536
  big : cap ≤ 65536
  fit : bs.length ≤ cap
  hin : inn = out + bs.length
  sm : inn ≤ 1000000000

/-- Its two blocks. -/
def Fr (cb : Nat) (v : Value) (k : Nat) : Prop := k = cb ∨ v.ownBlock = some k
theorem Cst.lt (h : Cst w B cb cap v ps bs inn out) {k : Nat} (hk : Fr cb v k) : k < w.heap.size ∧ B ≤ k := by
  rcases hk with rfl | hk
  · exact ⟨h.blk.lt, h.hB⟩
  · exact h.row.lt hk
theorem Cst.same (h : Cst w B cb cap v ps bs inn out) (e : ∀ k, Fr cb v k → w'.heap[k]? = w.heap[k]?) : Cst w' B cb cap v ps bs inn out :=
  ⟨h.blk.same (e cb (.inl rfl)), h.row.same (fun k hk => e k (.inr hk)), h.hB, h.lies, h.le, h.big, h.fit, h.hin, h.sm⟩
theorem Cst.kept {F : Nat → Prop} (h : Cst w B cb cap v ps bs inn out) (k : Kept F w w') (hf : ∀ i, Fr cb v i → ¬ F i) : Cst w' B cb cap v ps bs inn out :=
  h.same fun i hi => k.block i (h.lt hi).1 (hf i hi)
theorem Cst.below (h : Cst w B cb cap v ps bs inn out) (hb : Below w.heap.size w w') : Cst w' B cb cap v ps bs inn out := h.same fun k hk => hb.block k (h.lt hk).1
theorem Cst.drewN (h : Cst w B cb cap v ps bs inn out) (q : Nat) : Cst (w.drewN q) B cb cap v ps bs inn out := h.same fun _ _ => rfl
theorem Cst.ne (h : Cst w B cb cap v ps bs inn out) : v.ownBlock ≠ some cb := by
  intro e
  rcases h.row with ⟨rfl, _⟩ | ⟨g, rfl, _, hg⟩
  · cases e
  · cases e
    have hq := h.blk
    unfold Blk at hq
    rw [hg] at hq
    injection hq with hq; injection hq with _ ht; revert ht; decide

/-- What a call turned: the circle's blocks alone; its row is the old one, or a new one. -/
structure Rm (w w' : World) (cb : Nat) (v v' : Value) : Prop where
  k : Kept (Fr cb v) w w'
  o : v'.ownBlock = v.ownBlock ∨ ∀ i, v'.ownBlock = some i → w.heap.size ≤ i
end

theorem made_yes (w : World) (r c : Nat) (c0 : w.cell? ⟨r, 0, none⟩ = some (.pointer (some ⟨c, 0, none⟩))) : Calls Tryz.prog 134 #[.pointer (some ⟨r, 0, none⟩)] w fun e w' => e = .returned (.bool true) ∧ w = w' := by
  go_enter Tryz.func134, Tryz.ntmps134
  go_wp2
  go_ret
  exact ⟨rfl, rfl⟩
theorem made_nil (w : World) : Calls Tryz.prog 134 #[.pointer none] w fun e w' => e = .returned (.bool false) ∧ w = w' := by
  go_enter Tryz.func134, Tryz.ntmps134
  go_wp2
  go_ret
  exact ⟨rfl, rfl⟩

set_option maxHeartbeats 1000000 in
theorem length_any {w : World} {B cb cap inn out : Nat} {v : Value} {ps bs : List Int} (h : Cst w B cb cap v ps bs inn out) :
    Calls Tryz.prog 135 #[.pointer (some ⟨cb, 0, none⟩)] w fun e w' => e = .returned (.int .i64 (bs.length : Int)) ∧ ∃ n, w' = w.drewN n := by
  have c2 := h.blk.cell 2
  have c3 := h.blk.cell 3
  simp at c2 c3
  have l1 := h.blk.lt
  have hi := h.hin
  have hs := h.sm
  have e1 : IntKind.u64.wrap ((inn : Int) - (out : Int)) = ((bs.length : Nat) : Int) := by
    rw [IntWalk.u64_in _ (by omega)]; omega
  have e2 : IntKind.i64.wrap ((bs.length : Nat) : Int) = ((bs.length : Nat) : Int) := IntWalk.i64_in _ (by omega)
  clear h hi hs
  go_enter Tryz.func135, Tryz.ntmps135
  go_wp2_with fail
  go_quiet (fail)
  go_wp2
  go_ret
  exact ⟨rfl, _, rfl⟩

theorem drop_any {w : World} {B cb cap inn out : Nat} {v : Value} {ps bs : List Int} (h : Cst w B cb cap v ps bs inn out) (n : Nat) (hn : n ≤ bs.length) :
    Calls Tryz.prog 131 #[.pointer (some ⟨cb, 0, none⟩), .int .i64 (n : Int)] w fun e w' => e = .returned (.tuple #[]) ∧ Cst w' B cb cap v ps (bs.drop n) inn (out + n) ∧ Rm w w' cb v v := by
  have c3 := h.blk.cell 3
  simp at c3
  have hf := h.blk.frozen 3
  have l1 := h.blk.lt
  have hi := h.hin
  have hs := h.sm
  have e1 : IntKind.u64.wrap (n : Int) = (n : Int) := IntWalk.u64_in _ (by omega)
  have e2 : IntKind.u64.wrap ((out : Int) + (n : Int)) = ((out + n : Nat) : Int) := by rw [IntWalk.u64_in _ (by omega)]; omega
  have HE := Lib.hid (show Cst (w.setCell ⟨cb, 3, none⟩ (.int .u64 ((out + n : Nat) : Int))) B cb cap v ps (bs.drop n) inn (out + n) ∧ Rm w (w.setCell ⟨cb, 3, none⟩ (.int .u64 ((out + n : Nat) : Int))) cb v v from
    ⟨⟨by have := h.blk.set_ 3 (.int .u64 ((out + n : Nat) : Int)); simpa using this, h.row.same (fun k e => Below.heap_setCell _ _ _ _ (fun e' => h.ne (by rw [e, e']))), h.hB, h.lies.drop n hn, h.le, h.big, by rw [List.length_drop]; have := h.fit; omega, by rw [List.length_drop]; omega, hs⟩, ⟨(Kept.refl _ w).setCell (.inl rfl) _, .inl rfl⟩⟩)
  have b0 : (0 : Int) ≤ (n : Int) := by omega
  have b1 : (n : Int) ≤ 1000000000 := by omega
  have b2 : (0 : Int) ≤ (out : Int) := by omega
  have b3 : (out : Int) + (n : Int) ≤ 1000000000 := by omega
  clear h hi hs hn
  go_enter Tryz.func131, Tryz.ntmps131
  go_wp2
  go_end0
  exact ⟨rfl, HE.out⟩

theorem segments_any (w : World) (cb f n : Nat) :
    Calls Tryz.prog 159 #[.pointer (some ⟨cb, 0, none⟩), .int .u64 (f : Int), .int .i64 (n : Int)] w fun e w' =>
      e = .returned (.func (.func 169) #[] #[.pointer (some ⟨w.heap.size + 2, 0, none⟩), .pointer (some ⟨w.heap.size + 1, 0, none⟩), .pointer (some ⟨w.heap.size, 0, none⟩)]) ∧
      w' = ((w.alloc (.cells #[.pointer (some ⟨cb, 0, none⟩)] 166)).alloc (.cells #[.int .u64 (f : Int)] 33)).alloc (.cells #[.int .i64 (n : Int)] 3) := by
  go_enter Tryz.func159, Tryz.ntmps159
  go_wp2
  go_ret
  exact ⟨rfl, rfl⟩
end Go.Proofs.YtlephnfepofbbaaGreatDoor

/-
  circle.segments: the pieces of so many places, one, or two where they go round; at none places nothing.
-/
namespace Go.Proofs.YtlephnfepofbbaaGreatDoor
open Go.RowKit Go.Maps Go.ChangeMaps Go.Shelf

attribute [local go_sem] Oper.semAt_some

/-- A piece of L places: where it starts, and how many they are. -/
def Pc (L : Nat) : Type := { x : Nat × Nat // x.1 + x.2 ≤ L }
def Pc.off {L : Nat} (x : Pc L) : Nat := x.1.1
def Pc.len {L : Nat} (x : Pc L) : Nat := x.1.2
theorem Pc.le {L : Nat} (x : Pc L) : x.off + x.len ≤ L := x.2
def pcMk {L : Nat} (o n : Nat) (h : o + n ≤ L) : Pc L := ⟨(o, n), h⟩
def encP (g : Nat) {L : Nat} (x : Pc L) : Array Value := #[.slice (some ⟨g, x.off, none⟩) x.len (L - x.off)]

/-- The pieces of k places from number f on. -/
def pieces (L f k : Nat) (h : k ≤ L) : List (Pc L) :=
  if h0 : k = 0 then [] else
    have hm : f % L < L := Nat.mod_lt f (by omega)
    pcMk (f % L) (ahd L f k) (by have := ahd_le' L f k; omega) :: (if ahd L f k < k then [pcMk 0 (k - ahd L f k) (by omega)] else [])
theorem pieces_none (L f k : Nat) (h : k ≤ L) (h0 : k = 0) : pieces L f k h = [] := by unfold pieces; rw [dif_pos h0]
theorem pieces_one (L f k : Nat) (h : k ≤ L) (h0 : 0 < k) (h1 : ¬ ahd L f k < k) (x : Pc L) (hx : x.off = f % L) (hy : x.len = ahd L f k) : pieces L f k h = [] ++ [x] := by
  unfold pieces; rw [dif_neg (by omega), if_neg h1]
  obtain ⟨⟨a, b⟩, hab⟩ := x
  simp only [Pc.off, Pc.len] at hx hy
  subst hx; subst hy; rfl
theorem pieces_two (L f k : Nat) (h : k ≤ L) (h0 : 0 < k) (h1 : ahd L f k < k) (x y : Pc L) (hx : x.off = f % L) (hx' : x.len = ahd L f k) (hy : y.off = 0) (hy' : y.len = k - ahd L f k) : pieces L f k h = ([] ++ [x]) ++ [y] := by
  unfold pieces; rw [dif_neg (by omega), if_pos h1]
  obtain ⟨⟨a, b⟩, hab⟩ := x
  obtain ⟨⟨c, d⟩, hcd⟩ := y
  simp only [Pc.off, Pc.len] at hx hx' hy hy'
  subst hx; subst hx'; subst hy; subst hy'; rfl

/-- What the iterator reads. -/
structure SegAt (W : World) (bN bF bC cb g L f k : Nat) (cap inn out : Value) : Prop where
  n : Boxed W bN 3 (.int .i64 (k : Int))
  f : Boxed W bF 33 (.int .u64 (f : Int))
  c : Boxed W bC 166 (.pointer (some ⟨cb, 0, none⟩))
  blk : Blk W cb 190 #[cap, .slice (some ⟨g, 0, none⟩) L L, inn, out]
theorem SegAt.same {W W' : World} {bN bF bC cb g L f k : Nat} {cap inn out : Value} (h : SegAt W bN bF bC cb g L f k cap inn out) (e : ∀ i, (i = bN ∨ i = bF ∨ i = bC ∨ i = cb) → i < W.heap.size → W'.heap[i]? = W.heap[i]?) : SegAt W' bN bF bC cb g L f k cap inn out :=
  ⟨(e _ (.inl rfl) h.n.lt).trans h.n, (e _ (.inr (.inl rfl)) h.f.lt).trans h.f, (e _ (.inr (.inr (.inl rfl))) h.c.lt).trans h.c, h.blk.same (e _ (.inr (.inr (.inr rfl))) h.blk.lt)⟩

/-- Behind the last round. -/
def SegFin {L : Nat} (J Jx : List (Pc L) → World → Prop) (xs : List (Pc L)) (b : Bool) (W : World) : Prop := match b with | true => J xs W | false => Jx xs W

set_option maxRecDepth 100000 in
set_option maxHeartbeats 4000000 in
theorem segs_in (n : Nat) (hn : 1 ≤ n) (l bN bF bC cb g L f k : Nat) (cap inn out : Value) (hL : L ≤ 65536) (hk : k ≤ L) (hk0 : 0 < k) (hf : f ≤ 1000000000)
    (Kp : World → World → Prop) (hKp : ∀ X Y i, Kp X Y → (i = bN ∨ i = bF ∨ i = bC ∨ i = cb) → i < X.heap.size → Y.heap[i]? = X.heap[i]?) (J Jx : List (Pc L) → World → Prop)
    (hJ : ∀ s X Y, J s X → Kept (fun _ => False) X Y → J s Y)
    (hY : ∀ pre (x : Pc L) W, J pre W → pre.length < 2 → YieldAt Fence.wide (n - 1) Tryz.prog l (encP g x) W fun e W' =>
      (e = .returned (.bool true) ∧ J (pre ++ [x]) W' ∧ Kp W W') ∨ (e = .returned (.bool false) ∧ Jx (pre ++ [x]) W'))
    (W : World) (hs : SegAt W bN bF bC cb g L f k cap inn out) (h0 : J [] W) :
    CallsIn Fence.wide n Tryz.prog 169 #[.func (.yield l) #[] #[], .pointer (some ⟨bN, 0, none⟩), .pointer (some ⟨bF, 0, none⟩), .pointer (some ⟨bC, 0, none⟩)] W fun e W' => (∃ v, e = .returned v) ∧
      ((∃ ys, ys = pieces L f k hk ∧ J ys W') ∨ (∃ pre, (∃ r, pre ++ r = pieces L f k hk) ∧ Jx pre W')) := by
  have cN := hs.n.cell
  have cF := hs.f.cell
  have cC := hs.c.cell
  have c1 := hs.blk.cell 1
  simp at c1
  have lc := hs.blk.lt
  have hm : f % L < L := Nat.mod_lt f (by omega)
  obtain ⟨s, hs0⟩ : ∃ s, s = f % L := ⟨_, rfl⟩
  obtain ⟨m, hm0⟩ : ∃ m, m = ahd L f k := ⟨_, rfl⟩
  have hm1 : m = min k (L - s) := by rw [hm0, hs0]; rfl
  have hsl : s < L := by omega
  have e1 : IntKind.u64.wrap (L : Int) = (L : Int) := IntWalk.u64_in _ (by omega)
  have e2 : (f : Int).tmod (L : Int) = (s : Int) := by rw [hs0]; rfl
  have e3 : IntKind.i64.wrap (s : Int) = (s : Int) := IntWalk.i64_in _ (by omega)
  have e4 : IntKind.u64.wrap (s : Int) = (s : Int) := IntWalk.u64_in _ (by omega)
  have HS := Lib.hid (And.intro hs (And.intro h0 (And.intro hs0 (And.intro hm0 hm1))))
  clear hs h0 hs0 hm0 hm1 hm
  have b0 : (0 : Int) < (k : Int) := by omega
  have b1 : ((k : Int) == 0) = false := by simp; omega
  refine callsIn_of_wp Tryz.func169 rfl trivial ?_ rfl
  simp only [Tryz.ntmps169, List.size_toArray, List.length_cons, List.length_nil, Nat.reduceAdd, Nat.reduceSub, Array.replicate_succ, Array.replicate_zero, List.push_toArray, List.append_toArray, List.nil_append, List.cons_append]
  have HY := Lib.hid (fun q (x : Pc L) => hY [] x (W.drewN q) (hJ _ _ _ HS.out.2.1 ((Kept.refl _ W).drewN q)) (by simp))
  have HJ := Lib.hid (fun q => hJ _ _ _ HS.out.2.1 ((Kept.refl _ W).drewN q))
  have HJ2 := Lib.hid hJ
  have HY2 := Lib.hid hY
  clear hJ hY
  gi_wp2_with fail
  refine wpIn_wide.2 ?_
  go_quiet (fail)
  obtain ⟨q1, rfl⟩ : ∃ q1 : Nat, q1 = nq := ⟨_, rfl⟩
  have e5 : IntKind.i64.wrap ((s : Int) + (k : Int)) = (s : Int) + (k : Int) := IntWalk.i64_in _ (by omega)
  have b2 : (0 : Int) ≤ (s : Int) := by omega
  have b3 : (s : Int) < (L : Int) := by omega
  have b4 : (L : Int) ≤ 65536 := by omega
  by_cases hw : (s : Int) + (k : Int) ≤ (L : Int)
  · have hw' : min ((s : Int) + (k : Int)) (L : Int) = (s : Int) + (k : Int) := by omega
    gi_wp2_with fail
    refine wpIn_wide.2 ?_
    go_quiet (fail)
    obtain ⟨q2, rfl⟩ : ∃ q2 : Nat, q2 = nq := ⟨_, rfl⟩
    obtain ⟨fn, tmps, assign, body, hy, hR⟩ := HY.out (q1 + q2) (pcMk s k (by omega))
    simp only [encP, pcMk, Pc.off, Pc.len] at hy
    gi_wp2_with fail
    have hP : pieces L f k hk = [] ++ [pcMk s k (by omega)] := by
      obtain ⟨_, _, h3, h4, h5⟩ := HS.out
      exact pieces_one L f k hk hk0 (by omega) _ h3 (by show k = _; omega)
    have HP := Lib.hid hP
    clear hP hy
    refine hR.mono ?_
    rintro e W3 (⟨rfl, hJ3, hk3⟩ | ⟨rfl, hJx3⟩)
    · have s3 := (HS.out.1.same (W' := W.drewN (q1 + q2)) (fun _ _ _ => rfl)).same (fun i hi hl => hKp _ _ i hk3 hi hl)
      have d1 := s3.n.cell
      have HJ3 := Lib.hid hJ3
      have hd : decide ((s : Int) + (k : Int) < (s : Int) + (k : Int)) = false := by simp
      clear s3 hJ3 hk3 cN cF cC c1 hR hKp
      gi_wp2
      go_end0
      exact ⟨⟨_, rfl⟩, .inl ⟨_, HP.out.symm, HJ3.out⟩⟩
    · clear cN cF cC c1 hR hKp
      gi_wp2
      go_end0
      exact ⟨⟨_, rfl⟩, .inr ⟨_, ⟨[], by rw [HP.out]; simp⟩, hJx3⟩⟩
  · have hw' : min ((s : Int) + (k : Int)) (L : Int) = (L : Int) := by omega
    have hw2 : (L : Int) < (s : Int) + (k : Int) := by omega
    clear hw
    gi_wp2_with fail
    refine wpIn_wide.2 ?_
    go_quiet (fail)
    obtain ⟨q2, rfl⟩ : ∃ q2 : Nat, q2 = nq := ⟨_, rfl⟩
    obtain ⟨fn, tmps, assign, body, hy, hR⟩ := HY.out (q1 + q2) (pcMk s (L - s) (by omega))
    simp only [encP, pcMk, Pc.off, Pc.len] at hy
    gi_wp2_with fail
    clear hy
    refine hR.mono ?_
    rintro e W3 (⟨rfl, hJ3, hk3⟩ | ⟨rfl, hJx3⟩)
    · have s3 := (HS.out.1.same (W' := W.drewN (q1 + q2)) (fun _ _ _ => rfl)).same (fun i hi hl => hKp _ _ i hk3 hi hl)
      have d1 := s3.n.cell
      have d2 := s3.f.cell
      have d3 := s3.c.cell
      have d4 := s3.blk.cell 1
      simp at d4
      have l4 := s3.blk.lt
      have hd : decide ((L : Int) < (s : Int) + (k : Int)) = true := by simpa using hw2
      obtain ⟨t, ht⟩ : ∃ t, t = k - (L - s) := ⟨_, rfl⟩
      have htl : 0 + t ≤ L := by omega
      have HP := Lib.hid (show pieces L f k hk = ([] ++ [pcMk s (L - s) (by omega)]) ++ [pcMk 0 t htl] by
        obtain ⟨_, _, h3, h4, h5⟩ := HS.out
        exact pieces_two L f k hk hk0 (by omega) _ _ h3 (by show L - s = _; omega) rfl (by show t = _; omega))
      obtain ⟨fn2, tmps2, assign2, body2, hy2, hR2⟩ := HY2.out ([] ++ [pcMk s (L - s) (by omega)]) (pcMk 0 t htl) W3.drew (HJ2.out _ _ _ hJ3 ((Kept.refl _ W3).drewN 1)) (by simp)
      simp only [encP, pcMk, Pc.off, Pc.len, Nat.sub_zero] at hy2
      have hR3 : RoundIn Fence.wide (n - 1) Tryz.prog l fn2 tmps2 assign2 body2 W3.drew fun e W' => ∃ b : Bool, e = .returned (.bool b) ∧ SegFin J Jx ([] ++ [pcMk s (L - s) (by omega)] ++ [pcMk 0 t htl]) b W' := by
        refine hR2.mono ?_
        rintro e W4 (⟨rfl, h1, _⟩ | ⟨rfl, h1⟩)
        · exact ⟨true, rfl, h1⟩
        · exact ⟨false, rfl, h1⟩
      clear hR2
      have e6 : ((s : Int) + (k : Int) - (L : Int)) = (t : Int) := by omega
      have e7 : IntKind.i64.wrap (t : Int) = (t : Int) := IntWalk.i64_in _ (by omega)
      have b5 : (0 : Int) ≤ (t : Int) := by omega
      have b6 : (t : Int) ≤ (L : Int) := by omega
      have b7 : t ≤ L := by omega
      have b8 : 0 < L := by omega
      have b9 : (0 : Int) < (L : Int) := by omega
      have HJ3 := Lib.hid hJ3
      have HT := Lib.hid ht
      clear s3 hJ3 hk3 cN cF cC c1 hR hKp ht
      gi_wp2_with fail
      have hmx : Tryz.prog.follows .mixedOrders = true := by kernel_rfl
      gi_region_with_o (refine hR3.mono ?_; rintro e W4 ⟨b, rfl, hF⟩)
      all_goals (
        go_end0
        refine ⟨⟨_, rfl⟩, ?_⟩
        cases b with
        | true => exact .inl ⟨_, HP.out.symm, hF⟩
        | false => exact .inr ⟨_, ⟨[], by rw [HP.out, List.append_nil]⟩, hF⟩)
    · clear cN cF cC c1 hR hKp
      gi_wp2
      go_end0
      have HP := Lib.hid (show pieces L f k hk = ([] ++ [pcMk s (L - s) (by omega)]) ++ [pcMk 0 (k - (L - s)) (by omega)] by
        obtain ⟨_, _, h3, h4, h5⟩ := HS.out
        exact pieces_two L f k hk hk0 (by omega) _ _ h3 (by show L - s = _; omega) rfl (by show k - (L - s) = _; omega))
      exact ⟨⟨_, rfl⟩, .inr ⟨_, ⟨_, HP.out.symm⟩, hJx3⟩⟩

set_option maxRecDepth 100000 in
set_option maxHeartbeats 1000000 in
theorem segs_none_in (n : Nat) (hn : 1 ≤ n) (l bN bF bC L f : Nat) (J Jx : List (Pc L) → World → Prop) (W : World) (hs : Boxed W bN 3 (.int .i64 0)) (h0 : J [] W) :
    CallsIn Fence.wide n Tryz.prog 169 #[.func (.yield l) #[] #[], .pointer (some ⟨bN, 0, none⟩), .pointer (some ⟨bF, 0, none⟩), .pointer (some ⟨bC, 0, none⟩)] W fun e W' => (∃ v, e = .returned v) ∧
      ((∃ ys, ys = pieces L f 0 (Nat.zero_le _) ∧ J ys W') ∨ (∃ pre, (∃ r, pre ++ r = pieces L f 0 (Nat.zero_le _)) ∧ Jx pre W')) := by
  have cN := hs.cell
  have HJ := Lib.hid h0
  clear h0 hs
  refine callsIn_of_wp Tryz.func169 rfl trivial ?_ rfl
  simp only [Tryz.ntmps169, List.size_toArray, List.length_cons, List.length_nil, Nat.reduceAdd, Nat.reduceSub, Array.replicate_succ, Array.replicate_zero, List.push_toArray, List.append_toArray, List.nil_append, List.cons_append]
  gi_wp2
  refine bodyPost_ret (results_none rfl _ _ _) rfl ?_
  exact ⟨⟨_, rfl⟩, .inl ⟨_, (pieces_none _ _ _ _ rfl).symm, HJ.out⟩⟩

/-- The iterator, as a range wants it. -/
theorem segs_ch (n : Nat) (hn : 1 ≤ n) (bN bF bC cb g L f k : Nat) (cap inn out : Value) (hL : L ≤ 65536) (hk : k ≤ L) (hk0 : 0 < k) (hf : f ≤ 1000000000)
    (Kp : World → World → Prop) (hKp : ∀ X Y i, Kp X Y → (i = bN ∨ i = bF ∨ i = bC ∨ i = cb) → i < X.heap.size → Y.heap[i]? = X.heap[i]?) (w : World) (hs : SegAt w bN bF bC cb g L f k cap inn out) :
    SeqCh n Tryz.prog 169 #[.pointer (some ⟨bN, 0, none⟩), .pointer (some ⟨bF, 0, none⟩), .pointer (some ⟨bC, 0, none⟩)] (fun x : Pc L => encP g x) Kp (Kept (fun _ => False))
      (fun xs _ => xs = pieces L f k hk) (fun pre => ∃ r, pre ++ r = pieces L f k hk) 2 w := fun l J Jx W hW hz hJ hY h0 =>
  segs_in n hn l bN bF bC cb g L f k cap inn out hL hk hk0 hf Kp hKp J Jx hJ hY W (hs.same fun i hi hl => hW i hl) h0
theorem segs_none_ch (n : Nat) (hn : 1 ≤ n) (bN bF bC L f : Nat) (g : Nat) (Kp : World → World → Prop) (w : World) (hs : Boxed w bN 3 (.int .i64 0)) :
    SeqCh n Tryz.prog 169 #[.pointer (some ⟨bN, 0, none⟩), .pointer (some ⟨bF, 0, none⟩), .pointer (some ⟨bC, 0, none⟩)] (fun x : Pc L => encP g x) Kp (Kept (fun _ => False))
      (fun xs _ => xs = pieces L f 0 (Nat.zero_le _)) (fun pre => ∃ r, pre ++ r = pieces L f 0 (Nat.zero_le _)) 0 w := fun l J Jx W hW hz hJ hY h0 =>
  segs_none_in n hn l bN bF bC L f J Jx W ((hW _ hs.lt).trans hs) h0
end Go.Proofs.YtlephnfepofbbaaGreatDoor

/-
  What laying, and gathering, piece by piece comes to. No program.
-/
namespace Go.Proofs.YtlephnfepofbbaaGreatDoor

theorem splice_nil {α : Type} (L : List α) (off : Nat) : splice L off [] = L := by simp [splice]
theorem laidB_nil (ps : List Int) (f : Nat) : laidB ps f [] = ps := by unfold laidB; simp [splice_nil]

/-- A round of laying: the places, and what is left to lay. -/
def wstep {L : Nat} (s : List Int × List Int) (x : Pc L) : List Int × List Int :=
  (splice s.1 x.off (s.2.take (min x.len s.2.length)), s.2.drop (min x.len s.2.length))
def wfold {L : Nat} (ps zs : List Int) (xs : List (Pc L)) : List Int × List Int := xs.foldl wstep (ps, zs)
theorem wfold_snoc {L : Nat} (ps zs : List Int) (xs : List (Pc L)) (x : Pc L) : wfold ps zs (xs ++ [x]) = wstep (wfold ps zs xs) x := by simp [wfold]
theorem wstep_len {L : Nat} (s : List Int × List Int) (x : Pc L) (h : s.1.length = L) : (wstep s x).1.length = L := by
  have := x.le
  unfold wstep
  rw [length_splice _ _ _ (by rw [List.length_take]; omega), h]
theorem wstep_rest {L : Nat} (s : List Int × List Int) (x : Pc L) : (wstep s x).2.length ≤ s.2.length := by unfold wstep; simp
theorem wfold_len {L : Nat} (ps zs : List Int) (h : ps.length = L) : ∀ xs : List (Pc L), (wfold ps zs xs).1.length = L ∧ (wfold ps zs xs).2.length ≤ zs.length := by
  have : ∀ (xs : List (Pc L)) (s : List Int × List Int), s.1.length = L → (xs.foldl wstep s).1.length = L ∧ (xs.foldl wstep s).2.length ≤ s.2.length := by
    intro xs
    induction xs with
    | nil => intro s hs; exact ⟨hs, Nat.le_refl _⟩
    | cons x xs ih => intro s hs; obtain ⟨a, b⟩ := ih _ (wstep_len s x hs); exact ⟨a, Nat.le_trans b (wstep_rest s x)⟩
  exact fun xs => this xs (ps, zs) h
theorem wfold_pieces (ps zs : List Int) (f : Nat) (h : zs.length ≤ ps.length) : wfold ps zs (pieces ps.length f zs.length h) = (laidB ps f zs, []) := by
  by_cases h0 : zs.length = 0
  · have : zs = [] := List.eq_nil_of_length_eq_zero h0
    rw [pieces_none _ _ _ _ h0]; subst this; rw [laidB_nil]; rfl
  · have hm : f % ps.length < ps.length := Nat.mod_lt f (by omega)
    have h1 := ahd_le ps.length f zs.length
    have h2 := ahd_le' ps.length f zs.length
    unfold laidB
    generalize hm : ahd ps.length f zs.length = m at *
    have w1 : ∀ x : Pc ps.length, x.off = f % ps.length → x.len = m → wfold ps zs ([] ++ [x]) = (splice ps (f % ps.length) (zs.take m), zs.drop m) := fun x e1 e2 => by
      rw [wfold_snoc]
      show wstep (ps, zs) x = _
      unfold wstep
      rw [e1, e2]
      simp only []
      rw [Nat.min_eq_left h1]
    by_cases hl : m < zs.length
    · rw [pieces_two ps.length f zs.length h (by omega) (by rw [hm]; exact hl) (pcMk (f % ps.length) m (by omega)) (pcMk 0 (zs.length - m) (by omega)) rfl (by rw [hm]; rfl) rfl (by rw [hm]; rfl)]
      rw [wfold_snoc, w1 _ rfl rfl]
      unfold wstep
      simp only [pcMk, Pc.off, Pc.len, List.length_drop, Nat.min_self]
      have t1 : (zs.drop m).take (zs.length - m) = zs.drop m := List.take_of_length_le (by rw [List.length_drop]; exact Nat.le_refl _)
      have t2 : (zs.drop m).drop (zs.length - m) = [] := List.drop_of_length_le (by rw [List.length_drop]; exact Nat.le_refl _)
      rw [t1, t2]
    · rw [pieces_one ps.length f zs.length h (by omega) (by rw [hm]; exact hl) (pcMk (f % ps.length) m (by omega)) rfl (by rw [hm]; rfl)]
      rw [w1 _ rfl rfl, show m = zs.length by omega, List.drop_length, splice_nil]

/-- A round of gathering. -/
def fstep (n : Nat) (ps : List Int) {L : Nat} (acc : List Int) (x : Pc L) : List Int := acc ++ (ps.drop x.off).take (min x.len (n - acc.length))
def ffold (n : Nat) (ps : List Int) {L : Nat} (xs : List (Pc L)) : List Int := xs.foldl (fstep n ps) []
theorem ffold_snoc (n : Nat) (ps : List Int) {L : Nat} (xs : List (Pc L)) (x : Pc L) : ffold n ps (xs ++ [x]) = fstep n ps (ffold n ps xs) x := by simp [ffold]
theorem fstep_len (n : Nat) (ps : List Int) {L : Nat} (acc : List Int) (x : Pc L) (hL : ps.length = L) (h : acc.length ≤ n) : (fstep n ps acc x).length = acc.length + min x.len (n - acc.length) ∧ (fstep n ps acc x).length ≤ n := by
  have := x.le
  unfold fstep
  rw [List.length_append, List.length_take, List.length_drop]
  omega
theorem ffold_len (n : Nat) (ps : List Int) {L : Nat} (hL : ps.length = L) (xs : List (Pc L)) : (ffold n ps xs).length ≤ n := by
  have : ∀ (xs : List (Pc L)) (s : List Int), s.length ≤ n → (xs.foldl (fstep n ps) s).length ≤ n := by
    intro xs
    induction xs with
    | nil => intro s hs; exact hs
    | cons x xs ih => intro s hs; exact ih _ (fstep_len n ps s x hL hs).2
  exact this xs [] (Nat.zero_le _)

theorem ffold_pieces {ps bs : List Int} {out : Nat} (h : Lies ps bs out) (n : Nat) (hn : n ≤ bs.length) :
    ffold n ps (pieces ps.length out bs.length h.1) = bs.take n ∧
    ∀ pre r, pre ++ r = pieces ps.length out bs.length h.1 → (ffold n ps pre).length = n → ffold n ps pre = bs.take n := by
  have s1 := h.seg1
  have s2 := h.seg2
  have h1 := ahd_le ps.length out bs.length
  have h2 := ahd_le' ps.length out bs.length
  have hb := h.1
  generalize hm : ahd ps.length out bs.length = m at *
  have nil : ffold n ps ([] : List (Pc ps.length)) = [] := rfl
  have pre0 : ∀ {acc : List Int} {j : Nat}, acc = bs.take j → acc.length = n → acc = bs.take n := fun {acc j} e hl => by
    rw [e, List.length_take] at hl
    rw [e]
    by_cases hj : j ≤ bs.length
    · rw [show j = n by omega]
    · rw [List.take_of_length_le (by omega), List.take_of_length_le (by omega)]
  by_cases h0 : bs.length = 0
  · have hp := pieces_none ps.length out bs.length h.1 h0
    have n0 : n = 0 := by omega
    subst n0
    rw [hp]
    refine ⟨by simp [nil], fun pre r e hl => ?_⟩
    have := List.eq_nil_of_length_eq_zero hl
    rw [this]; simp
  · have one : ∀ x : Pc ps.length, x.off = out % ps.length → x.len = m → ffold n ps ([] ++ [x]) = bs.take (min m n) := fun x e1 e2 => by
      rw [ffold_snoc, nil]
      unfold fstep
      rw [e1, e2, List.length_nil, Nat.sub_zero, List.nil_append]
      have e3 : (ps.drop (out % ps.length)).take (min m n) = ((ps.drop (out % ps.length)).take m).take (min m n) := by rw [List.take_take, Nat.min_eq_left (Nat.min_le_left _ _)]
      rw [e3, s1, List.take_take, Nat.min_eq_left (Nat.min_le_left _ _)]
    have hmod : out % ps.length < ps.length := Nat.mod_lt out (by omega)
    by_cases hl : m < bs.length
    · have two : ∀ x y : Pc ps.length, x.off = out % ps.length → x.len = m → y.off = 0 → y.len = bs.length - m → ffold n ps (([] ++ [x]) ++ [y]) = bs.take n := fun x y e1 e2 e3 e4 => by
        rw [ffold_snoc, one x e1 e2]
        unfold fstep
        rw [e3, e4, List.length_take, List.drop_zero]
        by_cases hnm : n ≤ m
        · rw [show min (bs.length - m) (n - min (min m n) bs.length) = 0 by omega, List.take_zero, List.append_nil, show min m n = n by omega]
        · rw [show min (bs.length - m) (n - min (min m n) bs.length) = n - m by omega, show min m n = m by omega]
          have e5 : ps.take (n - m) = (ps.take (bs.length - m)).take (n - m) := by rw [List.take_take, Nat.min_eq_left (by omega)]
          rw [e5, s2]
          conv => rhs; rw [show n = m + (n - m) by omega, List.take_add]
      have hp := pieces_two ps.length out bs.length h.1 (by omega) (by rw [hm]; exact hl) (pcMk (out % ps.length) m (by omega)) (pcMk 0 (bs.length - m) (by omega)) rfl (by rw [hm]; rfl) rfl (by rw [hm]; rfl)
      refine ⟨by rw [hp]; exact two _ _ rfl rfl rfl rfl, fun pre r e hlen => ?_⟩
      rw [hp] at e
      match pre, e with
      | [], _ => exact pre0 (j := 0) (by simp [nil]) hlen
      | [x], e =>
        simp at e
        obtain ⟨rfl, _⟩ := e
        exact pre0 (one _ rfl rfl) hlen
      | [x, y], e =>
        simp at e
        obtain ⟨rfl, rfl, _⟩ := e
        exact two _ _ rfl rfl rfl rfl
      | x :: y :: z :: t, e => simp at e
    · have hp := pieces_one ps.length out bs.length h.1 (by omega) (by rw [hm]; exact hl) (pcMk (out % ps.length) m (by omega)) rfl (by rw [hm]; rfl)
      have o1 := one (pcMk (out % ps.length) m (by omega)) rfl rfl
      rw [show min m n = n by omega] at o1
      refine ⟨by rw [hp]; exact o1, fun pre r e hlen => ?_⟩
      rw [hp] at e
      match pre, e with
      | [], _ => exact pre0 (j := 0) (by simp [nil]) hlen
      | [x], e =>
        simp at e
        obtain ⟨rfl, _⟩ := e
        exact o1
      | x :: y :: t, e => simp at e
end Go.Proofs.YtlephnfepofbbaaGreatDoor

/-
  A range over a function whose loop holds what lies below a bound: no block that the loop itself lays touches it.
-/
namespace Go.Proofs.YtlephnfepofbbaaGreatDoor
open Go.RowKit Go.Shelf Go.Maps Go.ChangeMaps

/-- Below N all lies as it lay. -/
structure SameTo (N : Nat) (W W' : World) : Prop where
  os : W'.os = W.os
  tape : W'.tape = W.tape
  output : W'.output = W.output
  size : N ≤ W'.heap.size
  block : ∀ k, k < N → W'.heap[k]? = W.heap[k]?
/-- What speaks of blocks below N alone. -/
def Low {β : Type} (N : Nat) (I : β → World → Prop) : Prop := ∀ s W, I s W → N ≤ W.heap.size ∧ ∀ W', SameTo N W W' → I s W'
/-- What a round keeps for the iterator: the blocks below N that Pr names. -/
structure KpL (N : Nat) (Pr : Nat → Prop) (X Y : World) : Prop where
  size : X.heap.size ≤ Y.heap.size
  block : ∀ k, k < N → Pr k → Y.heap[k]? = X.heap[k]?

section
variable {N : Nat} {W W' : World}
theorem SameTo.grown {row : Option Nat} (hN : N ≤ W.heap.size) (h : W.grownBy W' row) (hr : ∀ k, row = some k → N ≤ k) : SameTo N W W' :=
  ⟨h.os, h.tape, h.output, Nat.le_trans hN h.size, fun k hk => h.block k (by omega) (fun e => by have := hr k e.symm; omega)⟩
theorem SameTo.kept {F : Nat → Prop} (hN : N ≤ W.heap.size) (h : Kept F W W') (hF : ∀ k, F k → N ≤ k) : SameTo N W W' :=
  ⟨h.os, h.tape, h.output, Nat.le_trans hN h.size, fun k hk => h.block k (by omega) (fun e => by have := hF k e; omega)⟩
theorem Kept.sameTo {F : Nat → Prop} {a : World} (h : Kept F a W) (k : SameTo N W W') (hN : a.heap.size ≤ N) : Kept F a W' :=
  ⟨k.os.trans h.os, k.tape.trans h.tape, k.output.trans h.output, Nat.le_trans hN k.size, fun i hi hf => (k.block i (by omega)).trans (h.block i hi hf)⟩
end

/-- A piece of code that ends by itself, as R says. -/
def onlyN (R : Act → World → Prop) : Exit → Act → World → Prop
  | .normal, a, w => R a w
  | _, _, _ => False

/-- How the body of a round may be left. -/
def lowPost {α : Type} (N : Nat) (Pr : Nat → Prop) (I : List α → World → Prop) (Ix : Code → List α → World → Prop) (xs : List α) (W : World) : Exit → Act → World → Prop
  | .normal, _, W' => KeepsFrom N W W' ∧ KpL N Pr W W' ∧ I xs W'
  | .ret, _, W' => KeepsFrom N W W' ∧ Ix .ret xs W'
  | .exit id, _, W' => KeepsFrom N W W' ∧ Ix (.exit id) xs W'
  | .goto t, _, W' => KeepsFrom N W W' ∧ Ix (.goto t) xs W'
  | .panic _, _, _ => False
  | .outgrown, _, _ => False

theorem rangeFunc_low {n : Nat} {P : Program} {α : Type} {g : Operand} {ps : Array Tmp} {assign body : Code} {Q : Exit → Act → World → Prop} {a : Act} {w : World} (h1 : 1 ≤ n)
    {gf : Nat} {lb : Array Value} (hg : a.eval g = .func (.func gf) #[] lb) (eg : ∀ args w, (callFunc gf args).run P w = .ok (.enter gf args) w)
    (encs : α → Array Value) (Pr : Nat → Prop) {S Sp : List α → Prop} {M : Nat} (hseq : SeqCh (n - 1) P gf lb encs (KpL w.heap.size Pr) (Kept (fun _ => False)) (fun xs _ => S xs) Sp M w)
    (hps : ∀ x, (encs x).size = ps.size)
    (I : List α → World → Prop) (Ix : Code → List α → World → Prop) (hI : Low w.heap.size I) (hIx : ∀ c, Low w.heap.size (Ix c)) (h0 : I [] w) (a₁ : α → Act)
    (hassign : ∀ (l : Nat) (x : α) (W : World) (K : Act → World → Prop), K (a₁ x) W →
      assign.wpIn (Fence.wide.inRound l) (n - 1 - 1) P (Exit.then K (fun _ _ _ => False)) { tmps := (ps.zip (encs x)).foldl (fun t (p, v) => t.setIfInBounds p v) a.tmps, defers := [] } W)
    (hbody : ∀ (l : Nat) (pre : List α) (x : α) (W : World), I pre W → pre.length < M → body.wpIn (Fence.wide.inRound l) (n - 1 - 1) P (lowPost w.heap.size Pr I Ix (pre ++ [x]) W) (a₁ x) W)
    (hdone : ∀ (D : Nat) (xs : List α) (W : World), w.heap.size ≤ D → S xs → I xs W → W.heap[D]? = some (.deferred (some [])) → Q .normal { a with defers := { target := .collected D, args := #[] } :: a.defers } W)
    (hstop : ∀ (D : Nat) (c : Code) (pre : List α) (W : World), w.heap.size ≤ D → Sp pre → Ix c pre W → W.heap[D]? = some (.deferred (some [])) → c.wpIn Fence.wide n P Q { a with defers := { target := .collected D, args := #[] } :: a.defers } W) :
    (Code.rangeFunc g ps assign body).wpIn Fence.wide n P Q a w := by
  have own : ∀ {β : Type} {I : β → World → Prop}, Low w.heap.size I → OwnFrom w.heap.size I := fun h s X Y row hs hg hr =>
    (h s X hs).2 Y (SameTo.grown (h s X hs).1 hg fun k e => (hr k e).1)
  refine rangeFunc_ch h1 hg eg hseq (fun _ _ => rfl) (Nat.le_refl _)
    (fun p q => ⟨Nat.le_trans p.size q.size, fun k hk hp => (q.block k hk hp).trans (p.block k hk hp)⟩)
    (fun X l o o' hl _ _ _ => ⟨by simp [World.putObj], fun k hk _ => World.putObj_heap_other (by omega)⟩) hps
    I Ix (own hI) (fun c => own (hIx c))
    (fun X Y k o h _ ho => (h.block k (Array.getElem?_eq_some_iff.1 ho).1 (fun e => e)).trans ho)
    (fun s X Y hs h => (hI s X hs).2 Y (SameTo.kept (hI s X hs).1 h fun _ e => e.elim))
    (fun _ _ _ _ _ hs _ _ => hs) h0 (fun x a' _ => a' = a₁ x) (fun _ _ _ _ _ _ hs _ _ => hs)
    (fun l pre x W K hi hK => hassign l x W K (hK _ _ (KeepsFrom.refl _ _) ⟨Nat.le_refl _, fun _ _ _ => rfl⟩ hi rfl)) ?_ (fun D xs W hD hS hi hd => hdone D xs W hD hS hi hd) hstop
  rintro l pre x a' W hl hi rfl hM
  refine wpIn_mono (hbody l pre x W hi hM) ?_
  intro e b X h
  cases e <;> exact h
end Go.Proofs.YtlephnfepofbbaaGreatDoor

/-
  circle.write: bytes laid into the places from a number on.
-/
namespace Go.Proofs.YtlephnfepofbbaaGreatDoor
open Go.RowKit Go.Shelf Go.Maps Go.ChangeMaps

attribute [local go_sem] Oper.semAt_some

theorem infoB : (Tryz.prog.info? 5).map (·.size) = some 1 := by kernel_rfl
theorem add_plain (b o j : Nat) : (⟨b, o, none⟩ : Addr).add j = ⟨b, o + j, none⟩ := by unfold Addr.add; split <;> simp_all

/-- copy into a row that is known whole. -/
theorem copy_into (W : World) (g off len cap : Nat) (A : Option Addr) (n c : Nat) (ps cs : List Int) (hg : W.heap[g]? = some (.cells (encB ps).toArray 5 (0, 0))) (hfit : off + len ≤ ps.length) (hlen : cs.length = min len n)
    (hsrc : 0 < cs.length → ∃ b o, A = some ⟨b, o, none⟩ ∧ ∀ j z, cs[j]? = some z → W.cell? ⟨b, o + j, none⟩ = some (.int .u8 z)) :
    ∃ W2, (∀ ty, (Builtin.copy_ #[23, 23] ty #[.slice (some ⟨g, off, none⟩) len cap, .slice A n c]).run Tryz.prog W = .ok (.int .i64 (cs.length : Int)) W2) ∧
      W2.heap[g]? = some (.cells (encB (splice ps off cs)).toArray 5 (0, 0)) ∧ Kept (fun k => k = g) W W2 ∧ W2.heap.size = W.heap.size ∧ W2.drawn = W.drawn := by
  by_cases h0 : cs.length = 0
  · obtain rfl : cs = [] := List.eq_nil_of_length_eq_zero h0
    refine ⟨W, fun ty => ?_, by rw [splice_nil]; exact hg, Kept.refl _ _, rfl, rfl⟩
    have := run_copy_none (P := Tryz.prog) W 23 23 ty 5 (some ⟨g, off, none⟩) A len cap n c Tryz.underlying23 infoB (by show min n len = 0; simp at hlen; omega)
    exact this
  · obtain ⟨b, o, rfl, hc⟩ := hsrc (by omega)
    have hlt : g < W.heap.size := (Array.getElem?_eq_some_iff.1 hg).1
    refine ⟨W.setRow g ((encB ps).toArray.toList.take off ++ encB cs ++ (encB ps).toArray.toList.drop (off + (encB cs).length)).toArray, fun ty => ?_, ?_, ⟨rfl, rfl, rfl, by simp [World.setRow], fun k _ hk => setRow_other W g k _ hk⟩, by simp [World.setRow], rfl⟩
    · have := run_copy_row (P := Tryz.prog) W 23 23 ty 5 g off len cap ⟨b, o, none⟩ n c (encB ps).toArray 5 (encB cs) Tryz.underlying23 infoB hg (by rw [encB_length, hlen]; exact Nat.min_comm _ _) (fun j v hj => by
        rw [encB_get] at hj
        cases hz : cs[j]? with
        | none => rw [hz] at hj; cases hj
        | some z => rw [hz] at hj; cases hj; rw [add_plain]; exact hc j z hz) (by rw [encB_length]; simp [encB_length]; omega) (encB_one cs)
      rw [this]; simp [goInt, encB_length]
    · rw [setRow_heap W g _ _ 5 _ hg]
      congr 3
      simp [splice, encB]

/-- What is left of a slice behind a cut. -/
theorem cut_run (b o n c m : Nat) (A : Option Addr) (h1 : m ≤ n) (h2 : n ≤ c) (hc : c ≤ 9223372036854775807) (hA : A = none → c = 0) (hs : 0 < n → A = some ⟨b, o, none⟩) (hsp : ∀ a, A = some a → a.spot = none) :
    ∃ A', (∀ W, (Instr.slice 23 (.slice A n c) (some (.int .i64 (m : Int))) none none).run Tryz.prog W = .ok (.slice A' (n - m) (c - m)) W) ∧ (A' = none → c - m = 0) ∧ (0 < n - m → A' = some ⟨b, o + m, none⟩) ∧ (∀ a, A' = some a → a.spot = none) ∧ (m = 0 → A' = A) := by
  have b0 : (0 : Int) ≤ (m : Int) := by omega
  have b1 : (m : Int) ≤ (n : Int) := by omega
  have b2 : (m : Int) ≤ (c : Int) := by omega
  have b3 : (n : Int) ≤ (c : Int) := by omega
  cases A with
  | none =>
    obtain rfl : c = 0 := hA rfl
    obtain rfl : n = 0 := by omega
    obtain rfl : m = 0 := by omega
    exact ⟨none, fun W => (by go_simp), fun _ => rfl, fun h => (by omega), (fun a h => by cases h), fun _ => rfl⟩
  | some a =>
    obtain ⟨ab, ao, sp⟩ := a
    obtain rfl : sp = none := hsp _ rfl
    refine ⟨if c = m then some ⟨ab, ao, none⟩ else some ⟨ab, ao + m, none⟩, fun W => (by go_simp), (fun h => by split at h <;> (cases h)), fun h => ?_, (fun a h => by split at h <;> (cases h; rfl)), (fun h => by subst h; split <;> rfl)⟩
    have e := hs (by omega)
    rw [if_neg (by omega)]
    cases e; rfl

/-- What lies between two rounds of laying. -/
def WrI (w0 : World) (N g bB b o c : Nat) (ps zs : List Int) {L : Nat} (pre : List (Pc L)) (W : World) : Prop :=
  N ≤ W.heap.size ∧ W.heap[g]? = some (.cells (encB (wfold ps zs pre).1).toArray 5 (0, 0)) ∧ Kept (fun k => k = g) w0 W ∧
  ∃ d A', d ≤ zs.length ∧ (wfold ps zs pre).2 = zs.drop d ∧ Boxed W bB 23 (.slice A' (zs.length - d) (c - d)) ∧ (A' = none → c - d = 0) ∧ (0 < zs.length - d → A' = some ⟨b, o + d, none⟩) ∧ (∀ a, A' = some a → a.spot = none)
theorem WrI.low (w0 : World) (N g bB b o c : Nat) (ps zs : List Int) (L : Nat) (hg : g < N) (hb : bB < N) (h0 : w0.heap.size ≤ N) : Low N (WrI w0 N g bB b o c ps zs (L := L)) := by
  rintro pre W ⟨h1, h2, h3, d, A', h4, h5, h6, h7, h8, h9⟩
  exact ⟨h1, fun W' s => ⟨s.size, (s.block g hg).trans h2, h3.sameTo s h0, d, A', h4, h5, (s.block bB hb).trans h6, h7, h8, h9⟩⟩

set_option maxRecDepth 100000 in
set_option maxHeartbeats 4000000 in
theorem write_any (w : World) (cb g f : Nat) (cap inn out : Value) (ps zs : List Int) (A : Option Addr) (b o c : Nat)
    (hblk : Blk w cb 190 #[cap, .slice (some ⟨g, 0, none⟩) ps.length ps.length, inn, out]) (hrow : w.heap[g]? = some (.cells (encB ps).toArray 5 (0, 0)))
    (hL : ps.length ≤ 65536) (hz : zs.length ≤ ps.length) (h0 : 0 < zs.length) (hf : f ≤ 1000000000) (hc : zs.length ≤ c) (hcm : c ≤ 9223372036854775807)
    (hA : A = some ⟨b, o, none⟩) (hbg : b ≠ g) (hbl : b < w.heap.size) (hsrc : ∀ i z, zs[i]? = some z → w.cell? ⟨b, o + i, none⟩ = some (.int .u8 z)) :
    Calls Tryz.prog 151 #[.pointer (some ⟨cb, 0, none⟩), .int .u64 (f : Int), .slice A zs.length c] w fun e w' =>
      e = .returned (.tuple #[]) ∧ w'.heap[g]? = some (.cells (encB (laidB ps f zs)).toArray 5 (0, 0)) ∧ Kept (fun k => k = g) w w' := by
  refine (callsIn_wide (n := 4)).1 ?_
  subst hA
  have hgl : g < w.heap.size := (Array.getElem?_eq_some_iff.1 hrow).1
  have hcl := hblk.lt
  have hcg : cb ≠ g := fun e => by
    subst e; unfold Blk at hblk; rw [hrow] at hblk; injection hblk with h1; injection h1 with _ ht; revert ht; decide
  obtain ⟨Y, hY⟩ : ∃ Y, (((w.alloc (.cells #[.slice (some ⟨b, o, none⟩) zs.length c] 23)).alloc (.cells #[.pointer (some ⟨cb, 0, none⟩)] 166)).alloc (.cells #[.int .u64 (f : Int)] 33)).alloc (.cells #[.int .i64 (zs.length : Int)] 3) = Y := ⟨_, rfl⟩
  have hkY : Kept (fun _ => False) w Y := by rw [← hY]; exact ((((Kept.refl _ w).alloc _).alloc _).alloc _).alloc _
  have hYz : Y.heap.size = w.heap.size + 1 + 1 + 1 + 1 := by rw [← hY]; simp
  have bb : Boxed Y w.heap.size 23 (.slice (some ⟨b, o, none⟩) zs.length c) := by rw [← hY]; exact (((Boxed.new w _ _).alloc _).alloc _).alloc _
  have hseg : SegAt Y (w.heap.size + 1 + 2) (w.heap.size + 1 + 1) (w.heap.size + 1) cb g ps.length f zs.length cap inn out := by
    rw [← hY]
    have x1 := ((Boxed.new (w.alloc (.cells #[.slice (some ⟨b, o, none⟩) zs.length c] 23)) 166 (.pointer (some ⟨cb, 0, none⟩))).alloc (.cells #[.int .u64 (f : Int)] 33)).alloc (.cells #[.int .i64 (zs.length : Int)] 3)
    have x2 := (Boxed.new ((w.alloc (.cells #[.slice (some ⟨b, o, none⟩) zs.length c] 23)).alloc (.cells #[.pointer (some ⟨cb, 0, none⟩)] 166)) 33 (.int .u64 (f : Int))).alloc (.cells #[.int .i64 (zs.length : Int)] 3)
    have x3 := Boxed.new (((w.alloc (.cells #[.slice (some ⟨b, o, none⟩) zs.length c] 23)).alloc (.cells #[.pointer (some ⟨cb, 0, none⟩)] 166)).alloc (.cells #[.int .u64 (f : Int)] 33)) 3 (.int .i64 (zs.length : Int))
    simp only [World.size_alloc] at x1 x2 x3
    exact ⟨x3, x2, x1, (((hblk.alloc _).alloc _).alloc _).alloc _⟩
  have hI0 : WrI w Y.heap.size g w.heap.size b o c ps zs (L := ps.length) [] Y :=
    ⟨Nat.le_refl _, (hkY.block g hgl (fun e => e)).trans hrow, hkY.mono (fun _ _ e => e.elim), 0, some ⟨b, o, none⟩, Nat.zero_le _, rfl, by simpa using bb, (fun e => by cases e), (fun _ => rfl), (fun a e => by cases e; rfl)⟩
  have HW := Lib.hid (And.intro hsrc (And.intro hrow hblk))
  have HY := Lib.hid hY
  clear hY hsrc hrow hblk
  refine callsIn_of_wp_marks Tryz.func151 rfl trivial ?_ rfl
  simp only [Tryz.ntmps151, List.size_toArray, List.length_cons, List.length_nil, Nat.reduceAdd, Nat.reduceSub, Array.replicate_succ, Array.replicate_zero, List.push_toArray, List.append_toArray, List.nil_append, List.cons_append]
  gi_wp2_with (refine ⟨trivial, ?_⟩; gi_at_call 159; refine (callsIn_wide.2 (segments_any _ cb f zs.length)).mono ?_; rintro e w' ⟨rfl, rfl⟩)
  rw [HY.out]
  refine rangeFunc_low (n := 4) (by omega) (gf := 169) (lb := #[.pointer (some ⟨w.heap.size + 1 + 2, 0, none⟩), .pointer (some ⟨w.heap.size + 1 + 1, 0, none⟩), .pointer (some ⟨w.heap.size + 1, 0, none⟩)]) rfl (enters_of Tryz.func169 (by kernel_rfl) rfl)
    (fun x : Pc ps.length => #[.slice (some ⟨g, x.off, none⟩) x.len (ps.length - x.off)]) (fun i => i = w.heap.size + 1 + 2 ∨ i = w.heap.size + 1 + 1 ∨ i = w.heap.size + 1 ∨ i = cb)
    (segs_ch 3 (by omega) _ _ _ _ _ _ _ _ _ _ _ hL hz h0 hf _ (fun X Z i hk hi hl => hk.block i (by rcases hi with e | e | e | e <;> omega) hi) Y hseg) (fun _ => rfl)
    (WrI w Y.heap.size g w.heap.size b o c ps zs) (fun _ _ _ => False) (WrI.low _ _ _ _ _ _ _ _ _ _ (by omega) (by omega) (by omega)) (fun _ _ _ h => h.elim) hI0 ?act ?assign ?body ?done ?stop
  case assign =>
    intro l x W K hK
    gi_wp2
    exact hK
  case body =>
    rintro l pre x W ⟨i1, i2, i3, d, A', i4, i5, i6, i7, i8, i9⟩ hlt
    have hxl := x.le
    have hwl := (wfold_len ps zs (L := ps.length) rfl pre).1
    have hnl : (zs.drop d).length = zs.length - d := by rw [List.length_drop]
    have hms : (wfold ps zs pre).2.length = zs.length - d := by rw [i5, hnl]
    obtain ⟨m, hm⟩ : ∃ m, m = min x.len (zs.length - d) := ⟨_, rfl⟩
    have hcs : ((zs.drop d).take m).length = m := by rw [List.length_take, hnl]; omega
    obtain ⟨W2, hcp, r1, r2, r3, r4⟩ := copy_into W.drew g x.off x.len (ps.length - x.off) A' (zs.length - d) (c - d) (wfold ps zs pre).1 ((zs.drop d).take m) i2 (by omega) (by rw [hcs, hm]) (fun hpos => ⟨b, o + d, i8 (by omega), fun j z hj => by
      rw [List.getElem?_take] at hj
      split at hj
      · rw [List.getElem?_drop] at hj
        have := HW.out.1 _ _ hj
        rw [show o + d + j = o + (d + j) by omega]
        exact (World.cell?_of_block (a := ⟨b, _, none⟩) (i3.block b hbl hbg)).trans this
      · cases hj⟩)
    rw [hcs] at hcp
    obtain ⟨A2, hcut, t1, t2, t3, -⟩ := cut_run b (o + d) (zs.length - d) (c - d) m A' (by omega) (by omega) (by omega) i7 i8 i9
    have c1 := i6.cell
    have f1 := i6.frozen
    have bx2 : Boxed W2 w.heap.size 23 (.slice A' (zs.length - d) (c - d)) := (r2.block w.heap.size i6.lt (by omega)).trans i6
    have c2 := bx2.cell
    have f2 := bx2.frozen
    have l2 := bx2.lt
    have hcpi := hcp 3
    have HE := Lib.hid (show lowPost Y.heap.size (fun i => i = w.heap.size + 1 + 2 ∨ i = w.heap.size + 1 + 1 ∨ i = w.heap.size + 1 ∨ i = cb) (WrI w Y.heap.size g w.heap.size b o c ps zs) (fun _ _ _ => False) (pre ++ [x]) W .normal { tmps := #[], defers := [] } (W2.setCell ⟨w.heap.size, 0, none⟩ (.slice A2 (zs.length - d - m) (c - d - m))) from by
      refine ⟨⟨by simp only [World.setCell, Array.size_modify, r3]; exact Nat.le_refl _, fun k o' hk hko ho => ?_⟩, ⟨by simp only [World.setCell, Array.size_modify, r3]; exact Nat.le_refl _, fun k hk hp => ?_⟩, ⟨by simp only [World.setCell, Array.size_modify, r3]; exact i1, ?_, ?_, d + m, A2, by omega, ?_, ?_, ?_, ?_, t3⟩⟩
      · exact (Below.heap_setCell _ _ _ _ (show k ≠ w.heap.size by omega)).trans ((r2.block k (Array.getElem?_eq_some_iff.1 hko).1 (by omega)).trans hko)
      · exact (Below.heap_setCell _ _ _ _ (show k ≠ w.heap.size by omega)).trans (r2.block k (Nat.lt_of_lt_of_le hk i1) (by omega))
      · rw [wfold_snoc]
        unfold wstep
        simp only []
        rw [i5, hnl, ← hm]
        exact (Below.heap_setCell _ _ _ _ (show g ≠ w.heap.size by omega)).trans r1
      · exact (i3.trans (Kept.refl _ W).drew |>.trans r2).setCell_new (Nat.le_refl _) _
      · rw [wfold_snoc]
        unfold wstep
        simp only []
        rw [i5, hnl, ← hm, List.drop_drop]
      · rw [← Nat.sub_sub, ← Nat.sub_sub]; exact bx2.set _
      · rw [← Nat.sub_sub]; exact t1
      · rw [← Nat.sub_sub, ← Nat.add_assoc]; exact t2)
    have hmx : Tryz.prog.follows .mixedOrders = true := by kernel_rfl
    clear hcp r1 r2 r3 r4 i1 i2 i3 i5 i6 i7 i8 i9 hxl hwl hnl hms hm hcs t1 t2 t3 bx2
    gi_wp2_with fail
    gi_region_with_o (fail)
    all_goals exact HE.out
  case done =>
    rintro D xs W hD rfl ⟨i1, i2, i3, _⟩ hK
    rw [wfold_pieces ps zs f hz] at i2
    refine ⟨by simp, .inl ⟨_, _, rfl, run_takeDeferred hK, ?_⟩⟩
    exact ⟨_, results_none rfl _ _ _, rfl, (World.putObj_heap_other (by omega)).trans i2, i3.os, i3.tape, i3.output, by simpa [World.putObj] using i3.size, fun k hk hf => (World.putObj_heap_other (by omega)).trans (i3.block k hk hf)⟩
  case stop =>
    rintro D c pre W _ _ h _
    exact h.elim
set_option maxRecDepth 100000 in
set_option maxHeartbeats 4000000 in
theorem write_none (w : World) (cb f : Nat) (A : Option Addr) (c : Nat) :
    Calls Tryz.prog 151 #[.pointer (some ⟨cb, 0, none⟩), .int .u64 (f : Int), .slice A 0 c] w fun e w' => e = .returned (.tuple #[]) ∧ Kept (fun _ => False) w w' := by
  refine (callsIn_wide (n := 4)).1 ?_
  obtain ⟨Y, hY⟩ : ∃ Y, (((w.alloc (.cells #[.slice A 0 c] 23)).alloc (.cells #[.pointer (some ⟨cb, 0, none⟩)] 166)).alloc (.cells #[.int .u64 (f : Int)] 33)).alloc (.cells #[.int .i64 (0 : Int)] 3) = Y := ⟨_, rfl⟩
  have hkY : Kept (fun _ => False) w Y := by rw [← hY]; exact ((((Kept.refl _ w).alloc _).alloc _).alloc _).alloc _
  have hYz : Y.heap.size = w.heap.size + 1 + 1 + 1 + 1 := by rw [← hY]; simp
  have hseg : Boxed Y (w.heap.size + 1 + 2) 3 (.int .i64 0) := by
    rw [← hY]
    have x3 := Boxed.new (((w.alloc (.cells #[.slice A 0 c] 23)).alloc (.cells #[.pointer (some ⟨cb, 0, none⟩)] 166)).alloc (.cells #[.int .u64 (f : Int)] 33)) 3 (.int .i64 (0 : Int))
    simp only [World.size_alloc] at x3
    exact x3
  have HY := Lib.hid hY
  clear hY
  refine callsIn_of_wp_marks Tryz.func151 rfl trivial ?_ rfl
  simp only [Tryz.ntmps151, List.size_toArray, List.length_cons, List.length_nil, Nat.reduceAdd, Nat.reduceSub, Array.replicate_succ, Array.replicate_zero, List.push_toArray, List.append_toArray, List.nil_append, List.cons_append]
  gi_wp2_with (refine ⟨trivial, ?_⟩; gi_at_call 159; refine (callsIn_wide.2 (segments_any _ cb f 0)).mono ?_; rintro e w' ⟨rfl, rfl⟩)
  rw [HY.out]
  refine rangeFunc_low (n := 4) (by omega) (gf := 169) (lb := #[.pointer (some ⟨w.heap.size + 1 + 2, 0, none⟩), .pointer (some ⟨w.heap.size + 1 + 1, 0, none⟩), .pointer (some ⟨w.heap.size + 1, 0, none⟩)]) rfl (enters_of Tryz.func169 (by kernel_rfl) rfl)
    (fun x : Pc 0 => #[.slice (some ⟨0, x.off, none⟩) x.len (0 - x.off)]) (fun i => i = w.heap.size + 1 + 2)
    (segs_none_ch 3 (by omega) _ _ _ 0 f 0 _ Y hseg) (fun _ => rfl)
    (fun _ W => Y.heap.size ≤ W.heap.size ∧ Kept (fun _ => False) w W) (fun _ _ _ => False) (fun pre W h => ⟨h.1, fun W' s => ⟨s.size, h.2.sameTo s (by omega)⟩⟩) (fun _ _ _ h => h.elim) ⟨Nat.le_refl _, hkY⟩ ?act ?assign ?body ?done ?stop
  case assign =>
    intro l x W K hK
    gi_wp2
    exact hK
  case body => exact fun _ pre _ _ _ h => by omega
  case done =>
    rintro D xs W hD _ ⟨i1, i3⟩ hK
    refine ⟨by simp, .inl ⟨_, _, rfl, run_takeDeferred hK, ?_⟩⟩
    exact ⟨_, results_none rfl _ _ _, rfl, i3.os, i3.tape, i3.output, by simpa [World.putObj] using i3.size, fun k hk hf => (World.putObj_heap_other (by omega)).trans (i3.block k hk hf)⟩
  case stop =>
    rintro D c pre W _ _ h _
    exact h.elim
end Go.Proofs.YtlephnfepofbbaaGreatDoor

/-
  circle.first: the first n bytes, in a new row.
-/
namespace Go.Proofs.YtlephnfepofbbaaGreatDoor
open Go.RowKit Go.Shelf Go.Maps Go.ChangeMaps

attribute [local go_sem] Oper.semAt_some

theorem splice_buf (acc cs : List Int) (k : Nat) (h : cs.length ≤ k) : splice (acc ++ List.replicate k 0) acc.length cs = (acc ++ cs) ++ List.replicate (k - cs.length) 0 := by
  unfold splice
  rw [List.take_left, show acc.length + cs.length = acc.length + cs.length from rfl, List.drop_append, List.drop_of_length_le (by omega), List.nil_append, List.append_assoc]
  congr 2
  rw [List.drop_replicate]
  congr 1; omega

theorem made_run (n : Nat) (hn : n ≤ 65536) (w : World) : (Instr.makeSlice 23 (.int .i64 (n : Int)) (.int .i64 (n : Int))).run Tryz.prog w = .ok (.slice (some ⟨w.heap.size, 0, none⟩) n n) (w.alloc (.cells (encB (List.replicate n 0)).toArray 5)) := by
  obtain ⟨i, hi, h1, h2, h3⟩ := info_parts (show (Tryz.prog.info? 5).map (fun i => (i.zero, i.size, i.bytes)) = some (some (.int .u8 0), 1, 1) by kernel_rfl)
  have := run_make (P := Tryz.prog) w 23 5 i (.int .u8 0) Tryz.underlying23 hi h1 .i64 .i64 (n : Int) (n : Int) (by omega) (Int.le_refl _) (by rw [h3]; omega) (by omega)
  rw [this, h2]
  have e : madeCells (Value.cells (.int .u8 0)) ((n : Int).toNat * 1) = (encB (List.replicate n 0)).toArray := by
    apply Array.toList_inj.1
    refine List.ext_getElem? fun j => ?_
    simp [madeCells, encB, Value.cells]
    by_cases hj : j < n
    · simp [hj, Array.getElem?_range, List.getElem?_replicate, Nat.mod_one]
    · simp [hj, List.getElem?_replicate]
  rw [e]
  simp

/-- What lies between two rounds of gathering. -/
structure FiI (w0 : World) (N gb bN bB bD n : Nat) (ps : List Int) {L : Nat} (pre : List (Pc L)) (W : World) : Prop where
  size : N ≤ W.heap.size
  row : W.heap[gb]? = some (.cells (encB (ffold n ps pre ++ List.replicate (n - (ffold n ps pre).length) 0)).toArray 5 (0, 0))
  k : Kept (fun _ => False) w0 W
  hn : Boxed W bN 3 (.int .i64 (n : Int))
  hb : Boxed W bB 23 (.slice (some ⟨gb, 0, none⟩) n n)
  hd : Boxed W bD 3 (.int .i64 ((ffold n ps pre).length : Int))
theorem FiI.low (w0 : World) (N gb bN bB bD n : Nat) (ps : List Int) (L : Nat) (hg : gb < N) (h1 : bN < N) (h2 : bB < N) (h3 : bD < N) (h0 : w0.heap.size ≤ N) : Low N (FiI w0 N gb bN bB bD n ps (L := L)) :=
  fun _ _ h => ⟨h.size, fun _ s => ⟨s.size, (s.block gb hg).trans h.row, h.k.sameTo s h0, (s.block bN h1).trans h.hn, (s.block bB h2).trans h.hb, (s.block bD h3).trans h.hd⟩⟩

theorem first_end {w0 W : World} {N gb bN bB bD n L D : Nat} {ps bs : List Int} {pre : List (Pc L)} (h : FiI w0 N gb bN bB bD n ps pre W) (hf : ffold n ps pre = bs.take n) (hn : n ≤ bs.length) (hD : N ≤ D) (hg : gb < N := by omega) (h0 : w0.heap.size ≤ N := by omega) (o : Obj) :
    (W.putObj D o).heap[gb]? = some (.cells (encB (bs.take n)).toArray 5 (0, 0)) ∧ Kept (fun _ => False) w0 (W.putObj D o) := by
  have hl : (bs.take n).length = n := by rw [List.length_take]; omega
  refine ⟨?_, h.k.os, h.k.tape, h.k.output, by simpa [World.putObj] using h.k.size, fun k hk hf => (World.putObj_heap_other (by omega)).trans (h.k.block k hk hf)⟩
  have := h.row
  rw [hf, hl, Nat.sub_self, List.replicate_zero, List.append_nil] at this
  exact (World.putObj_heap_other (by omega)).trans this

set_option maxRecDepth 100000 in
set_option maxHeartbeats 4000000 in
theorem first_any {w : World} {B cb cap inn out : Nat} {v : Value} {ps bs : List Int} (h : Cst w B cb cap v ps bs inn out) (n : Nat) (hn : n ≤ bs.length) (h0 : 0 < bs.length) :
    Calls Tryz.prog 149 #[.pointer (some ⟨cb, 0, none⟩), .int .i64 (n : Int)] w fun e w' =>
      ∃ gb, e = .returned (.slice (some ⟨gb, 0, none⟩) n n) ∧ w.heap.size ≤ gb ∧ w'.heap[gb]? = some (.cells (encB (bs.take n)).toArray 5 (0, 0)) ∧ Kept (fun _ => False) w w' := by
  refine (callsIn_wide (n := 4)).1 ?_
  have hL := h.lies.1
  have hcap := h.le
  have hbig := h.big
  have hsm := h.sm
  have hin := h.hin
  obtain ⟨g, rfl, hBg, hgr⟩ : ∃ g, v = .slice (some ⟨g, 0, none⟩) ps.length ps.length ∧ B ≤ g ∧ w.heap[g]? = some (.cells (encB ps).toArray 5 (0, 0)) := by
    rcases h.row with ⟨_, e⟩ | h
    · rw [e] at hL; simp at hL; rw [hL] at h0; simp at h0
    · exact h
  have hgl : g < w.heap.size := (Array.getElem?_eq_some_iff.1 hgr).1
  obtain ⟨Z, hZ⟩ : ∃ Z, (((w.alloc (.cells #[.int .i64 (n : Int)] 3)).alloc (.cells (encB (List.replicate n 0)).toArray 5)).alloc (.cells #[.slice (some ⟨w.heap.size + 1, 0, none⟩) n n] 23)).alloc (.cells #[.int .i64 0] 3) = Z := ⟨_, rfl⟩
  have hmk := made_run n (by omega)
  have c3 := h.blk.cell 3
  simp at c3
  have hcl := h.blk.lt
  have HW := Lib.hid (And.intro h hgr)
  have HZ := Lib.hid hZ
  clear h hgr hZ
  refine callsIn_of_wp_marks Tryz.func149 rfl trivial ?_ rfl
  simp only [Tryz.ntmps149, List.size_toArray, List.length_cons, List.length_nil, Nat.reduceAdd, Nat.reduceSub, Array.replicate_succ, Array.replicate_zero, List.push_toArray, List.append_toArray, List.nil_append, List.cons_append]
  gi_wp2
  refine wpIn_wide.2 (wp_scope_straight ((wpIn_wide (n := 4)).1 ?_))
  gi_wp2
  rw [HZ.out]
  refine wpIn_label ?_
  have hkZ : Kept (fun _ => False) w Z := by rw [← HZ.out]; exact ((((Kept.refl _ w).alloc _).alloc _).alloc _).alloc _
  have hZz : Z.heap.size = w.heap.size + 1 + 1 + 1 + 1 := by rw [← HZ.out]; simp
  have hCZ : Cst Z B cb cap (.slice (some ⟨g, 0, none⟩) ps.length ps.length) ps bs inn out := HW.out.1.kept hkZ (fun _ _ e => e)
  have d3 := hCZ.blk.cell 3
  simp at d3
  have dl := hCZ.blk.lt
  have HL := Lib.hid (length_any (hCZ.drewN 1))
  have HC := Lib.hid (And.intro hkZ hCZ)
  clear hCZ hkZ c3
  gi_wp2_with fail
  have hmx : Tryz.prog.follows .mixedOrders = true := by kernel_rfl
  refine wpIn_mono (Q := onlyN fun a' w' => a' = { tmps := #[.pointer (some ⟨cb, 0, none⟩), .int .i64 (n : Int), undef, .pointer (some ⟨w.heap.size, 0, none⟩), .slice none 0 0, .pointer (some ⟨w.heap.size + 1 + 1, 0, none⟩), .pointer (some ⟨w.heap.size + 1 + 1 + 1, 0, none⟩), undef, .int .i64 (n : Int), .slice (some ⟨w.heap.size + 1, 0, none⟩) n n, .pointer (some ⟨cb, 0, none⟩), .pointer (some ⟨cb, 0, none⟩), .pointer (some ⟨cb, 0, none⟩), .pointer (some ⟨cb, 3, none⟩), .int .u64 (out : Int), .pointer (some ⟨cb, 0, none⟩), .int .i64 (bs.length : Int), .func (.func 169) #[] #[.pointer (some ⟨w.heap.size + 1 + 1 + 1 + 1 + 2, 0, none⟩), .pointer (some ⟨w.heap.size + 1 + 1 + 1 + 1 + 1, 0, none⟩), .pointer (some ⟨w.heap.size + 1 + 1 + 1 + 1, 0, none⟩)], undef, undef, undef, undef, undef, undef, undef, undef, undef, undef, undef, undef], defers := [] } ∧
    ∃ n1, w' = (((Z.drewN n1).alloc (.cells #[.pointer (some ⟨cb, 0, none⟩)] 166)).alloc (.cells #[.int .u64 (out : Int)] 33)).alloc (.cells #[.int .i64 (bs.length : Int)] 3)) ?region ?rest
  case region =>
    gi_region_with_o (first
      | (refine ⟨trivial, ?_⟩; gi_at_call 135; refine (callsIn_wide.2 HL.out).mono ?_; rintro e w' ⟨rfl, n1, rfl⟩)
      | (refine ⟨trivial, ?_⟩; gi_at_call 159; refine (callsIn_wide.2 (segments_any _ cb out bs.length)).mono ?_; rintro e w' ⟨rfl, rfl⟩))
    all_goals exact ⟨rfl, _, rfl⟩
  case rest =>
    rintro e a' w' hR
    cases e with
    | ret => exact hR.elim
    | exit _ => exact hR.elim
    | goto _ => exact hR.elim
    | panic _ => exact hR.elim
    | outgrown => exact hR.elim
    | normal =>
      obtain ⟨rfl, n1, rfl⟩ := hR
      gi_wp2
      obtain ⟨V, hV⟩ : ∃ V, (((Z.drewN n1).alloc (.cells #[.pointer (some ⟨cb, 0, none⟩)] 166)).alloc (.cells #[.int .u64 (out : Int)] 33)).alloc (.cells #[.int .i64 (bs.length : Int)] 3) = V := ⟨_, rfl⟩
      have hkV : Kept (fun _ => False) Z V := by rw [← hV]; exact ((((Kept.refl _ Z).drewN n1).alloc _).alloc _).alloc _
      have hVz : V.heap.size = w.heap.size + 1 + 1 + 1 + 1 + 1 + 1 + 1 := by rw [← hV]; simp [hZz]
      have z1 : Boxed Z w.heap.size 3 (.int .i64 (n : Int)) := by rw [← HZ.out]; exact (((Boxed.new w _ _).alloc _).alloc _).alloc _
      have z2 : Blk Z (w.heap.size + 1) 5 (encB (List.replicate n 0)).toArray := by
        rw [← HZ.out]
        have := ((Blk.new (w.alloc (.cells #[.int .i64 (n : Int)] 3)) 5 (encB (List.replicate n 0)).toArray).alloc (.cells #[.slice (some ⟨w.heap.size + 1, 0, none⟩) n n] 23)).alloc (.cells #[.int .i64 0] 3)
        simp only [World.size_alloc] at this
        exact this
      have z3 : Boxed Z (w.heap.size + 1 + 1) 23 (.slice (some ⟨w.heap.size + 1, 0, none⟩) n n) := by
        rw [← HZ.out]
        have := (Boxed.new ((w.alloc (.cells #[.int .i64 (n : Int)] 3)).alloc (.cells (encB (List.replicate n 0)).toArray 5)) 23 (.slice (some ⟨w.heap.size + 1, 0, none⟩) n n)).alloc (.cells #[.int .i64 0] 3)
        simp only [World.size_alloc] at this
        exact this
      have z4 : Boxed Z (w.heap.size + 1 + 1 + 1) 3 (.int .i64 0) := by
        rw [← HZ.out]
        have := Boxed.new (((w.alloc (.cells #[.int .i64 (n : Int)] 3)).alloc (.cells (encB (List.replicate n 0)).toArray 5)).alloc (.cells #[.slice (some ⟨w.heap.size + 1, 0, none⟩) n n] 23)) 3 (.int .i64 0)
        simp only [World.size_alloc] at this
        exact this
      have up : ∀ {k : Nat} {o : Obj}, Z.heap[k]? = some o → V.heap[k]? = some o := fun {k o} e => (hkV.block k (Array.getElem?_eq_some_iff.1 e).1 (fun e => e)).trans e
      have hI0 : FiI w V.heap.size (w.heap.size + 1) w.heap.size (w.heap.size + 1 + 1) (w.heap.size + 1 + 1 + 1) n ps (L := ps.length) [] V :=
        ⟨Nat.le_refl _, by have := up z2; simpa [ffold] using this, HC.out.1.trans hkV, up z1, up z3, up z4⟩
      have hseg : SegAt V (w.heap.size + 1 + 1 + 1 + 1 + 2) (w.heap.size + 1 + 1 + 1 + 1 + 1) (w.heap.size + 1 + 1 + 1 + 1) cb g ps.length out bs.length (.int .i64 (cap : Int)) (.int .u64 (inn : Int)) (.int .u64 (out : Int)) := by
        rw [← hV]
        have x1 := ((Boxed.new (Z.drewN n1) 166 (.pointer (some ⟨cb, 0, none⟩))).alloc (.cells #[.int .u64 (out : Int)] 33)).alloc (.cells #[.int .i64 (bs.length : Int)] 3)
        have x2 := (Boxed.new ((Z.drewN n1).alloc (.cells #[.pointer (some ⟨cb, 0, none⟩)] 166)) 33 (.int .u64 (out : Int))).alloc (.cells #[.int .i64 (bs.length : Int)] 3)
        have x3 := Boxed.new (((Z.drewN n1).alloc (.cells #[.pointer (some ⟨cb, 0, none⟩)] 166)).alloc (.cells #[.int .u64 (out : Int)] 33)) 3 (.int .i64 (bs.length : Int))
        simp only [World.size_alloc, show (Z.drewN n1).heap.size = Z.heap.size from rfl, hZz] at x1 x2 x3
        exact ⟨x3, x2, x1, (((HC.out.2.drewN n1).blk.alloc _).alloc _).alloc _⟩
      have hrowV : Kept (fun _ => False) w V := HC.out.1.trans hkV
      have HV := Lib.hid hV
      clear hV up z1 z2 z3 z4 d3
      rw [HV.out]
      have hcg : cb < w.heap.size := hcl
      refine rangeFunc_low (n := 4) (by omega) (gf := 169) (lb := #[.pointer (some ⟨w.heap.size + 1 + 1 + 1 + 1 + 2, 0, none⟩), .pointer (some ⟨w.heap.size + 1 + 1 + 1 + 1 + 1, 0, none⟩), .pointer (some ⟨w.heap.size + 1 + 1 + 1 + 1, 0, none⟩)]) rfl (enters_of Tryz.func169 (by kernel_rfl) rfl)
        (fun x : Pc ps.length => #[.slice (some ⟨g, x.off, none⟩) x.len (ps.length - x.off)]) (fun i => i = w.heap.size + 1 + 1 + 1 + 1 + 2 ∨ i = w.heap.size + 1 + 1 + 1 + 1 + 1 ∨ i = w.heap.size + 1 + 1 + 1 + 1 ∨ i = cb)
        (segs_ch 3 (by omega) _ _ _ _ _ _ _ _ _ _ _ (by omega) hL h0 (by omega) _ (fun X Y i hk hi hl => hk.block i (by rcases hi with e | e | e | e <;> omega) hi) V hseg) (fun _ => rfl)
        (fun pre W => FiI w V.heap.size (w.heap.size + 1) w.heap.size (w.heap.size + 1 + 1) (w.heap.size + 1 + 1 + 1) n ps pre W ∧ ((ffold n ps pre).length < n ∨ (ffold n ps pre).length = 0))
        (fun c pre W => c = .exit 0 ∧ FiI w V.heap.size (w.heap.size + 1) w.heap.size (w.heap.size + 1 + 1) (w.heap.size + 1 + 1 + 1) n ps pre W ∧ (ffold n ps pre).length = n)
        (fun pre W h => ⟨h.1.size, fun W' s => ⟨((FiI.low _ _ _ _ _ _ _ _ _ (by omega) (by omega) (by omega) (by omega) (by omega)) pre W h.1).2 W' s, h.2⟩⟩)
        (fun c pre W h => ⟨h.2.1.size, fun W' s => ⟨h.1, ((FiI.low _ _ _ _ _ _ _ _ _ (by omega) (by omega) (by omega) (by omega) (by omega)) pre W h.2.1).2 W' s, h.2.2⟩⟩) ⟨hI0, .inr rfl⟩ ?act ?assign ?body ?done ?stop
      case assign =>
        intro l x W K hK
        gi_wp2
        exact hK
      case body =>
        rintro l pre x W ⟨⟨i1, i2, i3, i4, i5, i6⟩, i7⟩ hlt
        have hxl := x.le
        have hal := ffold_len n ps (L := ps.length) rfl pre
        obtain ⟨acc, hacc⟩ : ∃ acc, acc = ffold n ps pre := ⟨_, rfl⟩
        rw [← hacc] at i2 i6 i7 hal
        obtain ⟨k, hk⟩ : ∃ k, k = acc.length := ⟨_, rfl⟩
        rw [← hk] at i2 i6 i7 hal
        obtain ⟨m, hm⟩ : ∃ m, m = min x.len (n - k) := ⟨_, rfl⟩
        have hle : k + m ≤ n := by omega
        have hcs : ((ps.drop x.off).take m).length = m := by rw [List.length_take, List.length_drop]; omega
        have hst : ffold n ps (pre ++ [x]) = acc ++ (ps.drop x.off).take m := by
          rw [ffold_snoc, ← hacc]; unfold fstep; rw [← hk, ← hm]
        have hstl : (ffold n ps (pre ++ [x])).length = k + m := by rw [hst, List.length_append, hcs, hk]
        obtain ⟨A2, hcut, t1, t2, t3, t4⟩ := cut_run (w.heap.size + 1) 0 n n k (some ⟨w.heap.size + 1, 0, none⟩) hal (Nat.le_refl _) (by omega) (fun e => by cases e) (fun _ => rfl) (fun a e => by cases e; rfl)
        have hA2 : A2 = some ⟨w.heap.size + 1, k, none⟩ := by
          rcases i7 with h | h
          · have := t2 (by omega); simpa using this
          · rw [t4 h, h]
        subst hA2
        have hbl : (acc ++ List.replicate (n - k) 0).length = n := by simp; omega
        obtain ⟨W2, hcp, r1, r2, r3, r4⟩ := copy_into W.drew (w.heap.size + 1) k (n - k) (n - k) (some ⟨g, x.off, none⟩) x.len (ps.length - x.off) (acc ++ List.replicate (n - k) 0) ((ps.drop x.off).take m) i2 (by omega) (by rw [hcs, hm, Nat.min_comm]) (fun hpos => ⟨g, x.off, rfl, fun j z hj => by
          rw [List.getElem?_take] at hj
          split at hj
          · rw [List.getElem?_drop] at hj
            have hb : Blk W.drew g 5 (encB ps).toArray := (i3.block g hgl (fun e => e)).trans HW.out.2
            rw [hb.cell]
            simp [encB, hj]
          · cases hj⟩)
        rw [hcs] at hcp
        have hsb := splice_buf acc ((ps.drop x.off).take m) (n - k) (by rw [hcs]; omega)
        rw [← hk, hcs, ← hst] at hsb
        have c1 := i6.cell
        have b1 := i5.cell
        have bd2 : Boxed W2 (w.heap.size + 1 + 1 + 1) 3 (.int .i64 (k : Int)) := (r2.block _ i6.lt (by omega)).trans i6
        have bb2 : Boxed W2 (w.heap.size + 1 + 1) 23 (.slice (some ⟨w.heap.size + 1, 0, none⟩) n n) := (r2.block _ i5.lt (by omega)).trans i5
        have bn2 : Boxed W2 w.heap.size 3 (.int .i64 (n : Int)) := (r2.block _ i4.lt (by omega)).trans i4
        have c2 := bd2.cell
        have f2 := bd2.frozen
        have l2 := bd2.lt
        have hcpi := hcp 3
        have e5 : IntKind.i64.wrap ((k : Int) + (m : Int)) = ((k + m : Nat) : Int) := by rw [IntWalk.i64_in _ (by omega)]; omega
        have x3 : FiI w V.heap.size (w.heap.size + 1) w.heap.size (w.heap.size + 1 + 1) (w.heap.size + 1 + 1 + 1) n ps (pre ++ [x]) (W2.setCell ⟨w.heap.size + 1 + 1 + 1, 0, none⟩ (.int .i64 ((k + m : Nat) : Int))) := by
          refine ⟨by simp only [World.setCell, Array.size_modify, r3]; exact i1, ?_, ?_, ?_, ?_, ?_⟩
          · rw [hstl, show n - (k + m) = n - k - m by omega, ← hsb]
            exact (Below.heap_setCell _ _ _ _ (by simp)).trans r1
          · exact Kept.setCell_new ((i3.trans (Kept.refl _ W).drew).andThen r2 (fun i hi e => by omega)) (by simp; omega) _
          · exact (Below.heap_setCell _ _ _ _ (by show w.heap.size ≠ w.heap.size + 1 + 1 + 1; omega)).trans bn2
          · exact (Below.heap_setCell _ _ _ _ (by show w.heap.size + 1 + 1 ≠ w.heap.size + 1 + 1 + 1; omega)).trans bb2
          · rw [hstl]; exact bd2.set _
        have hkf : KeepsFrom V.heap.size W (W2.setCell ⟨w.heap.size + 1 + 1 + 1, 0, none⟩ (.int .i64 ((k + m : Nat) : Int))) ∧ KpL V.heap.size (fun i => i = w.heap.size + 1 + 1 + 1 + 1 + 2 ∨ i = w.heap.size + 1 + 1 + 1 + 1 + 1 ∨ i = w.heap.size + 1 + 1 + 1 + 1 ∨ i = cb) W (W2.setCell ⟨w.heap.size + 1 + 1 + 1, 0, none⟩ (.int .i64 ((k + m : Nat) : Int))) := by
          refine ⟨⟨by simp only [World.setCell, Array.size_modify, r3]; exact Nat.le_refl _, fun q o' hq hqo ho => ?_⟩, ⟨by simp only [World.setCell, Array.size_modify, r3]; exact Nat.le_refl _, fun q hq hp => ?_⟩⟩
          · exact (Below.heap_setCell _ _ _ _ (show q ≠ w.heap.size + 1 + 1 + 1 by omega)).trans ((r2.block q (Array.getElem?_eq_some_iff.1 hqo).1 (by omega)).trans hqo)
          · exact (Below.heap_setCell _ _ _ _ (show q ≠ w.heap.size + 1 + 1 + 1 by omega)).trans (r2.block q (Nat.lt_of_lt_of_le hq i1) (by omega))
        obtain ⟨W3, hW3⟩ : ∃ W3, W2.setCell ⟨w.heap.size + 1 + 1 + 1, 0, none⟩ (.int .i64 ((k + m : Nat) : Int)) = W3 := ⟨_, rfl⟩
        rw [hW3] at x3 hkf
        have g1 := x3.hd.cell
        rw [hstl] at g1
        have g2 := x3.hn.cell
        have HX := Lib.hid (And.intro x3 (And.intro hkf hstl))
        have hmx : Tryz.prog.follows .mixedOrders = true := by kernel_rfl
        have HG := Lib.hid (And.intro g1 g2)
        have H3 := Lib.hid hW3
        clear hcp r1 r2 r3 r4 i1 i2 i3 i4 i5 i6 hst hsb hbl hm hcs t1 t2 t3 t4 bd2 bb2 bn2 x3 hkf hstl hk hacc g1 g2 hW3
        gi_wp2_with fail
        refine wpIn_mono (Q := onlyN fun a' w' => (∃ t7 t17 t18 t19 t20 t21 t22 t23 t24 t25, a' = { tmps := #[.pointer (some ⟨cb, 0, none⟩), .int .i64 (n : Int), undef, .pointer (some ⟨w.heap.size, 0, none⟩), .slice none 0 0, .pointer (some ⟨w.heap.size + 1 + 1, 0, none⟩), .pointer (some ⟨w.heap.size + 1 + 1 + 1, 0, none⟩), t7, .int .i64 (n : Int), .slice (some ⟨w.heap.size + 1, 0, none⟩) n n, .pointer (some ⟨cb, 0, none⟩), .pointer (some ⟨cb, 0, none⟩), .pointer (some ⟨cb, 0, none⟩), .pointer (some ⟨cb, 3, none⟩), .int .u64 (out : Int), .pointer (some ⟨cb, 0, none⟩), .int .i64 (bs.length : Int), t17, t18, t19, t20, t21, t22, t23, t24, t25, undef, undef, undef, undef], defers := [] }) ∧ w' = W3) ?region ?rest
        case region =>
          gi_region_with_o (fail)
          all_goals exact ⟨⟨_, _, _, _, _, _, _, _, _, _, rfl⟩, H3.out⟩
        case rest =>
          rintro e a' w' hR
          cases e with
          | ret => exact hR.elim
          | exit _ => exact hR.elim
          | goto _ => exact hR.elim
          | panic _ => exact hR.elim
          | outgrown => exact hR.elim
          | normal =>
            obtain ⟨⟨t7, t17, t18, t19, t20, t21, t22, t23, t24, t25, rfl⟩, rfl⟩ := hR
            obtain ⟨g1, g2⟩ := HG.out
            clear c1 b1 c2 f2 hcpi hcut
            by_cases hbr : k + m = n
            · have hq : (((k + m : Nat) : Int) == (n : Int)) = true := by simp; omega
              have HB := Lib.hid hbr
              clear hbr
              gi_wp2
              exact ⟨HX.out.2.1.1, rfl, HX.out.1, HX.out.2.2.trans HB.out⟩
            · have hq : (((k + m : Nat) : Int) == (n : Int)) = false := by simp; omega
              gi_wp2
              exact ⟨HX.out.2.1.1, HX.out.2.1.2, HX.out.1, .inl (by rw [HX.out.2.2]; omega)⟩
      case done =>
        rintro D xs W hD hxs ⟨h, _⟩ hK
        have hf := (ffold_pieces HW.out.1.lies n hn).1
        rw [← hxs] at hf
        have hb := h.hb.cell
        have HE := Lib.hid (first_end h hf hn hD (by omega) (by omega))
        clear h hf
        gi_wp2
        rw [Exit.noGoto_ret]
        refine ⟨by simp, .inl ⟨_, _, rfl, run_takeDeferred hK, ?_⟩⟩
        exact ⟨_, results_tmp rfl _ _ _, _, rfl, by omega, HE.out _⟩
      case stop =>
        rintro D c pre W hD ⟨r, hr⟩ ⟨rfl, h, h2⟩ hK
        have hf := (ffold_pieces HW.out.1.lies n hn).2 pre r hr h2
        have hb := h.hb.cell
        have HE := Lib.hid (first_end h hf hn hD (by omega) (by omega))
        clear h hf h2
        gi_wp2
        rw [Exit.noGoto_ret]
        refine ⟨by simp, .inl ⟨_, _, rfl, run_takeDeferred hK, ?_⟩⟩
        exact ⟨_, results_tmp rfl _ _ _, _, rfl, by omega, HE.out _⟩
set_option maxRecDepth 100000 in
set_option maxHeartbeats 4000000 in
theorem first_none {w : World} {B cb cap inn out : Nat} {v : Value} {ps : List Int} (h : Cst w B cb cap v ps [] inn out) :
    Calls Tryz.prog 149 #[.pointer (some ⟨cb, 0, none⟩), .int .i64 0] w fun e w' =>
      ∃ gb, e = .returned (.slice (some ⟨gb, 0, none⟩) 0 0) ∧ w.heap.size ≤ gb ∧ Kept (fun _ => False) w w' := by
  refine (callsIn_wide (n := 4)).1 ?_
  have hsm := h.sm
  have hin := h.hin
  obtain ⟨Z, hZ⟩ : ∃ Z, (((w.alloc (.cells #[.int .i64 0] 3)).alloc (.cells #[] 5)).alloc (.cells #[.slice (some ⟨w.heap.size + 1, 0, none⟩) 0 0] 23)).alloc (.cells #[.int .i64 0] 3) = Z := ⟨_, rfl⟩
  have hmk : ∀ w : World, (Instr.makeSlice 23 (.int .i64 0) (.int .i64 0)).run Tryz.prog w = .ok (.slice (some ⟨w.heap.size, 0, none⟩) 0 0) (w.alloc (.cells #[] 5)) := made_run 0 (by omega)
  have c3 := h.blk.cell 3
  simp at c3
  have hcl := h.blk.lt
  have HW := Lib.hid h
  have HZ := Lib.hid hZ
  clear h hZ
  refine callsIn_of_wp_marks Tryz.func149 rfl trivial ?_ rfl
  simp only [Tryz.ntmps149, List.size_toArray, List.length_cons, List.length_nil, Nat.reduceAdd, Nat.reduceSub, Array.replicate_succ, Array.replicate_zero, List.push_toArray, List.append_toArray, List.nil_append, List.cons_append]
  gi_wp2
  refine wpIn_wide.2 (wp_scope_straight ((wpIn_wide (n := 4)).1 ?_))
  gi_wp2
  rw [HZ.out]
  refine wpIn_label ?_
  have hkZ : Kept (fun _ => False) w Z := by rw [← HZ.out]; exact ((((Kept.refl _ w).alloc _).alloc _).alloc _).alloc _
  have hZz : Z.heap.size = w.heap.size + 1 + 1 + 1 + 1 := by rw [← HZ.out]; simp
  have hCZ : Cst Z B cb cap v ps [] inn out := HW.out.kept hkZ (fun _ _ e => e)
  have d3 := hCZ.blk.cell 3
  simp at d3
  have dl := hCZ.blk.lt
  have HL := Lib.hid (length_any (hCZ.drewN 1))
  have HC := Lib.hid (And.intro hkZ hCZ)
  clear hCZ hkZ c3
  gi_wp2_with fail
  have hmx : Tryz.prog.follows .mixedOrders = true := by kernel_rfl
  refine wpIn_mono (Q := onlyN fun a' w' => a' = { tmps := #[.pointer (some ⟨cb, 0, none⟩), .int .i64 0, undef, .pointer (some ⟨w.heap.size, 0, none⟩), .slice none 0 0, .pointer (some ⟨w.heap.size + 1 + 1, 0, none⟩), .pointer (some ⟨w.heap.size + 1 + 1 + 1, 0, none⟩), undef, .int .i64 0, .slice (some ⟨w.heap.size + 1, 0, none⟩) 0 0, .pointer (some ⟨cb, 0, none⟩), .pointer (some ⟨cb, 0, none⟩), .pointer (some ⟨cb, 0, none⟩), .pointer (some ⟨cb, 3, none⟩), .int .u64 (out : Int), .pointer (some ⟨cb, 0, none⟩), .int .i64 0, .func (.func 169) #[] #[.pointer (some ⟨w.heap.size + 1 + 1 + 1 + 1 + 2, 0, none⟩), .pointer (some ⟨w.heap.size + 1 + 1 + 1 + 1 + 1, 0, none⟩), .pointer (some ⟨w.heap.size + 1 + 1 + 1 + 1, 0, none⟩)], undef, undef, undef, undef, undef, undef, undef, undef, undef, undef, undef, undef], defers := [] } ∧
    ∃ n1, w' = (((Z.drewN n1).alloc (.cells #[.pointer (some ⟨cb, 0, none⟩)] 166)).alloc (.cells #[.int .u64 (out : Int)] 33)).alloc (.cells #[.int .i64 0] 3)) ?region ?rest
  case region =>
    gi_region_with_o (first
      | (refine ⟨trivial, ?_⟩; gi_at_call 135; refine (callsIn_wide.2 HL.out).mono ?_; rintro e w' ⟨rfl, n1, rfl⟩)
      | (refine ⟨trivial, ?_⟩; gi_at_call 159; refine (callsIn_wide.2 (segments_any _ cb out 0)).mono ?_; rintro e w' ⟨rfl, rfl⟩))
    all_goals exact ⟨rfl, _, rfl⟩
  case rest =>
    rintro e a' w' hR
    cases e with
    | ret => exact hR.elim
    | exit _ => exact hR.elim
    | goto _ => exact hR.elim
    | panic _ => exact hR.elim
    | outgrown => exact hR.elim
    | normal =>
      obtain ⟨rfl, n1, rfl⟩ := hR
      gi_wp2
      obtain ⟨V, hV⟩ : ∃ V, (((Z.drewN n1).alloc (.cells #[.pointer (some ⟨cb, 0, none⟩)] 166)).alloc (.cells #[.int .u64 (out : Int)] 33)).alloc (.cells #[.int .i64 0] 3) = V := ⟨_, rfl⟩
      have hkV : Kept (fun _ => False) Z V := by rw [← hV]; exact ((((Kept.refl _ Z).drewN n1).alloc _).alloc _).alloc _
      have hVz : V.heap.size = w.heap.size + 1 + 1 + 1 + 1 + 1 + 1 + 1 := by rw [← hV]; simp [hZz]
      have z3 : Boxed Z (w.heap.size + 1 + 1) 23 (.slice (some ⟨w.heap.size + 1, 0, none⟩) 0 0) := by
        rw [← HZ.out]
        have := (Boxed.new ((w.alloc (.cells #[.int .i64 0] 3)).alloc (.cells #[] 5)) 23 (.slice (some ⟨w.heap.size + 1, 0, none⟩) 0 0)).alloc (.cells #[.int .i64 0] 3)
        simp only [World.size_alloc] at this
        exact this
      have hseg : Boxed V (w.heap.size + 1 + 1 + 1 + 1 + 2) 3 (.int .i64 0) := by
        rw [← hV]
        have x3 := Boxed.new (((Z.drewN n1).alloc (.cells #[.pointer (some ⟨cb, 0, none⟩)] 166)).alloc (.cells #[.int .u64 (out : Int)] 33)) 3 (.int .i64 0)
        simp only [World.size_alloc, show (Z.drewN n1).heap.size = Z.heap.size from rfl, hZz] at x3
        exact x3
      have hI0 : V.heap.size ≤ V.heap.size ∧ Kept (fun _ => False) w V ∧ Boxed V (w.heap.size + 1 + 1) 23 (.slice (some ⟨w.heap.size + 1, 0, none⟩) 0 0) :=
        ⟨Nat.le_refl _, HC.out.1.trans hkV, (hkV.block _ z3.lt (fun e => e)).trans z3⟩
      have HV := Lib.hid hV
      clear hV z3 d3
      rw [HV.out]
      refine rangeFunc_low (n := 4) (by omega) (gf := 169) (lb := #[.pointer (some ⟨w.heap.size + 1 + 1 + 1 + 1 + 2, 0, none⟩), .pointer (some ⟨w.heap.size + 1 + 1 + 1 + 1 + 1, 0, none⟩), .pointer (some ⟨w.heap.size + 1 + 1 + 1 + 1, 0, none⟩)]) rfl (enters_of Tryz.func169 (by kernel_rfl) rfl)
        (fun x : Pc 0 => #[.slice (some ⟨0, x.off, none⟩) x.len (0 - x.off)]) (fun i => i = w.heap.size + 1 + 1 + 1 + 1 + 2)
        (segs_none_ch 3 (by omega) _ _ _ 0 out 0 _ V hseg) (fun _ => rfl)
        (fun _ W => V.heap.size ≤ W.heap.size ∧ Kept (fun _ => False) w W ∧ Boxed W (w.heap.size + 1 + 1) 23 (.slice (some ⟨w.heap.size + 1, 0, none⟩) 0 0)) (fun _ _ _ => False)
        (fun pre W h => ⟨h.1, fun W' s => ⟨s.size, h.2.1.sameTo s (by omega), (s.block _ (by omega)).trans h.2.2⟩⟩) (fun _ _ _ h => h.elim) hI0 ?act ?assign ?body ?done ?stop
      case assign =>
        intro l x W K hK
        gi_wp2
        exact hK
      case body => exact fun _ pre _ _ _ h => by omega
      case done =>
        rintro D xs W hD hxs ⟨_, h, hb'⟩ hK
        have hb := hb'.cell
        have HE := Lib.hid (fun o => show Kept (fun _ => False) w (W.putObj D o) from ⟨h.os, h.tape, h.output, by simpa [World.putObj] using h.size, fun k hk hf => (World.putObj_heap_other (by omega)).trans (h.block k hk hf)⟩)
        clear h hb'
        gi_wp2
        rw [Exit.noGoto_ret]
        refine ⟨by simp, .inl ⟨_, _, rfl, run_takeDeferred hK, ?_⟩⟩
        exact ⟨_, results_tmp rfl _ _ _, _, rfl, by omega, HE.out _⟩
      case stop =>
        rintro D c pre W _ _ h _
        exact h.elim

end Go.Proofs.YtlephnfepofbbaaGreatDoor

/-
  circle.lay, resize and put.
-/
namespace Go.Proofs.YtlephnfepofbbaaGreatDoor
open Go.RowKit Go.Shelf Go.Maps Go.ChangeMaps

theorem encB_rep (n : Nat) : (List.replicate n (0 : Int)).length = n := List.length_replicate

set_option maxRecDepth 100000 in
set_option maxHeartbeats 4000000 in
theorem lay_any {w : World} {B cb cap inn out : Nat} {v : Value} {ps bs : List Int} (h : Cst w B cb cap v ps bs inn out) (hBw : B ≤ w.heap.size) (k : Nat) (hk : bs.length ≤ k) (hk2 : k ≤ 65536) :
    Calls Tryz.prog 150 #[.pointer (some ⟨cb, 0, none⟩), .int .i64 (k : Int)] w fun e w' =>
      e = .returned (.tuple #[]) ∧ ∃ g', Cst w' B cb cap (.slice (some ⟨g', 0, none⟩) k k) (laidB (List.replicate k 0) out bs) bs inn out ∧ w.heap.size ≤ g' ∧ Kept (fun i => i = cb) w w' := by
  have hL := Lib.hid (length_any h)
  have hcl := h.blk.lt
  have hsm := h.sm
  have hin := h.hin
  have hmk := made_run k hk2
  have HF : Hid (∀ q, Calls Tryz.prog 149 #[.pointer (some ⟨cb, 0, none⟩), .int .i64 (bs.length : Int)] (w.drewN q) fun e w' =>
      ∃ gb, e = .returned (.slice (some ⟨gb, 0, none⟩) bs.length bs.length) ∧ w.heap.size ≤ gb ∧ (0 < bs.length → w'.heap[gb]? = some (.cells (encB bs).toArray 5 (0, 0))) ∧ Kept (fun _ => False) w w') := by
    refine Lib.hid fun q => ?_
    have hk0 : Kept (fun _ => False) w (w.drewN q) := (Kept.refl _ w).drewN q
    by_cases h0 : 0 < bs.length
    · refine (first_any (h.drewN q) bs.length (Nat.le_refl _) h0).mono ?_
      rintro e w' ⟨gb, rfl, h1, h2, h3⟩
      rw [List.take_length] at h2
      exact ⟨gb, rfl, h1, fun _ => h2, hk0.trans h3⟩
    · obtain rfl : bs = [] := List.eq_nil_of_length_eq_zero (by omega)
      refine (first_none (h.drewN q)).mono ?_
      rintro e w' ⟨gb, rfl, h1, h3⟩
      exact ⟨gb, rfl, h1, fun h => by simp at h, hk0.trans h3⟩
  have HC := Lib.hid h
  clear h
  go_enter Tryz.func150, Tryz.ntmps150
  go_wp2_with (go_at_call 135; refine hL.out.mono ?_; rintro e w' ⟨rfl, q, rfl⟩)
  refine (HF.out q).mono ?_
  rintro e w1 ⟨gb, rfl, hgb, hrow, hk1⟩
  have hC1 := HC.out.kept hk1 (fun _ _ e => e)
  have c1 := hC1.blk.cell 1
  have c3 := hC1.blk.cell 3
  simp at c1 c3
  have f1 := hC1.blk.frozen 1
  have l1 := hC1.blk.lt
  have hnr : ∀ i, v.ownBlock = some i → i < w.heap.size := fun i e => (HC.out.row.lt e).1
  obtain ⟨W2, hW2⟩ : ∃ W2, (w1.setCell ⟨cb, 1, none⟩ (.slice (some ⟨w1.heap.size, 0, none⟩) k k)).alloc (.cells (encB (List.replicate k 0)).toArray 5) = W2 := ⟨_, rfl⟩
  have hs2 : (w1.setCell ⟨cb, 1, none⟩ (.slice (some ⟨w1.heap.size, 0, none⟩) k k)).heap.size = w1.heap.size := by simp [World.setCell]
  have b2 : Blk W2 cb 190 #[.int .i64 (cap : Int), .slice (some ⟨w1.heap.size, 0, none⟩) k k, .int .u64 (inn : Int), .int .u64 (out : Int)] := by
    rw [← hW2]
    have := (hC1.blk.set_ 1 (.slice (some ⟨w1.heap.size, 0, none⟩) k k)).alloc (.cells (encB (List.replicate k 0)).toArray 5)
    simpa using this
  have r2 : W2.heap[w1.heap.size]? = some (.cells (encB (List.replicate k 0)).toArray 5 (0, 0)) := by
    rw [← hW2]
    have := heap_alloc_new (w1.setCell ⟨cb, 1, none⟩ (.slice (some ⟨w1.heap.size, 0, none⟩) k k)) (.cells (encB (List.replicate k 0)).toArray 5)
    rwa [hs2] at this
  have hk2' : Kept (fun i => i = cb) w1 W2 := by rw [← hW2]; exact ((Kept.refl (fun i => i = cb) w1).setCell (p := ⟨cb, 1, none⟩) rfl _).alloc _
  have hz2 : W2.heap.size = w1.heap.size + 1 := by rw [← hW2]; simp [World.setCell]
  have HWR : Hid (Calls Tryz.prog 151 #[.pointer (some ⟨cb, 0, none⟩), .int .u64 (out : Int), .slice (some ⟨gb, 0, none⟩) bs.length bs.length] W2 fun e w' =>
      e = .returned (.tuple #[]) ∧ w'.heap[w1.heap.size]? = some (.cells (encB (laidB (List.replicate k 0) out bs)).toArray 5 (0, 0)) ∧ Kept (fun i => i = w1.heap.size) W2 w') := by
    refine Lib.hid ?_
    by_cases h0 : 0 < bs.length
    · have hgl : gb < w1.heap.size := (Array.getElem?_eq_some_iff.1 (hrow h0)).1
      refine write_any W2 cb w1.heap.size out _ _ _ (List.replicate k 0) bs _ gb 0 bs.length (by rw [List.length_replicate]; exact b2) r2 (by rw [List.length_replicate]; exact hk2) (by rw [List.length_replicate]; exact hk) h0 (by omega) (Nat.le_refl _) (by omega) rfl (by omega) (by omega) (fun i z hz => ?_)
      have hb : Blk W2 gb 5 (encB bs).toArray := (hk2'.block gb hgl (by omega)).trans (hrow h0)
      rw [hb.cell]
      simp [encB, hz]
    · obtain rfl : bs = [] := List.eq_nil_of_length_eq_zero (by omega)
      refine (write_none W2 cb out (some ⟨gb, 0, none⟩) 0).mono ?_
      rintro e w' ⟨rfl, hk'⟩
      exact ⟨rfl, by rw [laidB_nil]; exact (hk'.block _ (by omega) (fun e => e)).trans r2, hk'.mono fun _ _ e => e.elim⟩
  have HW2 := Lib.hid hW2
  have H1 := Lib.hid (And.intro hgb (And.intro hrow (And.intro hk1 (And.intro hC1 (And.intro b2 (And.intro hk2' hnr))))))
  clear hgb hrow hk1 hC1 hW2 b2 r2 hk2' hs2 hnr
  go_wp2_with fail
  rw [HW2.out]
  refine HWR.out.mono ?_
  rintro e w3 ⟨rfl, r3, k3⟩
  obtain ⟨hgb, hrow, hk1, hC1, b2, hk2', hnr⟩ := H1.out
  have HE := Lib.hid (show Cst w3 B cb cap (.slice (some ⟨w1.heap.size, 0, none⟩) k k) (laidB (List.replicate k 0) out bs) bs inn out ∧ Kept (fun i => i = cb) w w3 from by
    have hll : (laidB (List.replicate k 0) out bs).length = k := by rw [len_laid _ _ _ (by rw [List.length_replicate]; exact hk), List.length_replicate]
    refine ⟨⟨b2.kept k3 (by omega), .inr ⟨w1.heap.size, by rw [hll], Nat.le_trans hBw hk1.size, r3⟩, HC.out.hB, Lies.fresh k bs out hk, by rw [hll]; exact hk2, HC.out.big, HC.out.fit, hin, hsm⟩, ?_⟩
    exact ((hk1.mono fun _ _ e => e.elim).trans hk2').andThen k3 (fun i hi e => by have := hk1.size; omega))
  have hz1 := hk1.size
  clear hgb hrow hk1 hC1 b2 hk2' hnr r3 k3
  go_wp2_with fail
  go_end0
  exact ⟨rfl, _, HE.out.1, hz1, HE.out.2⟩

end Go.Proofs.YtlephnfepofbbaaGreatDoor

/-
  circle.put.
-/
namespace Go.Proofs.YtlephnfepofbbaaGreatDoor
open Go.RowKit Go.Shelf Go.Maps Go.ChangeMaps

/-- A region whose operations but the last only read: walked in the text's order, then the last. -/
theorem wp_still_tail {P : Program} {id : Nat} {Q : Exit → Act → World → Prop} {a : Act} {w : World} {l : List Oper} (n : Nat) (hm : P.follows .mixedOrders = true) (hB : Region.lexTailB .any l.toArray n = true)
    (h : wpStill P l.toArray w.drew (fun a' => wpList P l.toArray Q (l.drop n) a' w.drew) (l.take n) a) : (Code.region id l.toArray true).wp P Q a w := wp_region_still_tail n hm hB h

/-- What the walk holds behind the places are wide enough: a circle with a row, in w1; what was turned since w. -/
def PutAt (w w1 : World) (B cb cap inn out : Nat) (v : Value) (bs : List Int) (m : Nat) (g L : Nat) (ps1 : List Int) : Prop :=
  Cst w1 B cb cap (.slice (some ⟨g, 0, none⟩) L L) ps1 bs inn out ∧ ps1.length = L ∧ bs.length + m ≤ L ∧ Kept (Fr cb v) w w1 ∧ (v.ownBlock = some g ∨ w.heap.size ≤ g)

section
variable {w w1 : World} {B cb cap inn out : Nat} {v : Value} {bs : List Int} {zs : List Int} {g L : Nat} {ps1 : List Int} {b o c : Nat}
theorem putAt_write (h : PutAt w w1 B cb cap inn out v bs zs.length g L ps1) (hz : inn + zs.length ≤ 1000000000) (hcap : bs.length + zs.length ≤ cap) (h0 : 0 < zs.length) (hc : zs.length ≤ c) (hcm : c ≤ 9223372036854775807)
    (hbf : ¬ Fr cb v b) (hbl : b < w.heap.size) (hsrc : ∀ i z, zs[i]? = some z → w.cell? ⟨b, o + i, none⟩ = some (.int .u8 z)) :
    Calls Tryz.prog 151 #[.pointer (some ⟨cb, 0, none⟩), .int .u64 (inn : Int), .slice (some ⟨b, o, none⟩) zs.length c] w1 fun e w' => e = .returned (.tuple #[]) ∧
      Blk w' cb 190 #[.int .i64 (cap : Int), .slice (some ⟨g, 0, none⟩) L L, .int .u64 (inn : Int), .int .u64 (out : Int)] ∧
      (Blk w' cb 190 #[.int .i64 (cap : Int), .slice (some ⟨g, 0, none⟩) L L, .int .u64 (inn : Int), .int .u64 (out : Int)] →
        ∃ ps', Cst (w'.setCell ⟨cb, 2, none⟩ (.int .u64 ((inn + zs.length : Nat) : Int))) B cb cap (.slice (some ⟨g, 0, none⟩) L L) ps' (bs ++ zs) (inn + zs.length) out ∧ Rm w (w'.setCell ⟨cb, 2, none⟩ (.int .u64 ((inn + zs.length : Nat) : Int))) cb v (.slice (some ⟨g, 0, none⟩) L L)) := by
  obtain ⟨hC, rfl, hL, hk, hg⟩ := h
  have hrow : w1.heap[g]? = some (.cells (encB ps1).toArray 5 (0, 0)) ∧ B ≤ g := by
    rcases hC.row with ⟨e, _⟩ | ⟨g', e, hB, hr⟩
    · cases e
    · cases e; exact ⟨hr, hB⟩
  have hgl : g < w1.heap.size := (Array.getElem?_eq_some_iff.1 hrow.1).1
  have hbg : b ≠ g := fun e => by
    rcases hg with h | h
    · exact hbf (.inr (by rw [e]; exact h))
    · omega
  have hcg : cb ≠ g := fun e => hC.ne (by rw [e]; rfl)
  have hsm := hC.sm
  have hin := hC.hin
  refine (write_any w1 cb g inn _ _ _ ps1 zs _ b o c hC.blk hrow.1 hC.le (by omega) h0 (by omega) hc hcm rfl hbg (by have := hk.size; omega) (fun i z hz => (World.cell?_of_block (a := ⟨b, _, none⟩) (hk.block b hbl hbf)).trans (hsrc i z hz))).mono ?_
  rintro e w' ⟨rfl, hr, hk2⟩
  refine ⟨rfl, hC.blk.kept hk2 hcg, fun hb => ⟨laidB ps1 inn zs, ⟨by have := hb.set_ 2 (.int .u64 ((inn + zs.length : Nat) : Int)); simpa using this, .inr ⟨g, by rw [len_laid _ _ _ (by omega)], hrow.2, (Below.heap_setCell _ _ _ _ (Ne.symm hcg)).trans hr⟩, hC.hB, ?_, by rw [len_laid _ _ _ (by omega)]; exact hC.le, hC.big, by rw [List.length_append]; exact hcap, by rw [List.length_append]; omega, hz⟩, ⟨Kept.setCell (hk.andThen hk2 (fun i hi e => by
      rcases hg with h | h
      · exact .inr (by rw [e]; exact h)
      · omega)) (.inl rfl) _, ?_⟩⟩⟩
  · have := hC.lies.put zs hL
    rwa [← hin] at this
  · rcases hg with h | h
    · exact .inl h.symm
    · exact .inr fun i e => by cases e; exact h
end

set_option maxRecDepth 100000 in
set_option maxHeartbeats 4000000 in
theorem cput_any {w : World} {B cb cap inn out : Nat} {v : Value} {ps bs : List Int} (h : Cst w B cb cap v ps bs inn out) (hBw : B ≤ w.heap.size) (zs : List Int) (b o c : Nat)
    (hz : inn + zs.length ≤ 1000000000) (hcap : bs.length + zs.length ≤ cap) (h0 : 0 < zs.length) (hc : zs.length ≤ c) (hcm : c ≤ 9223372036854775807)
    (hbf : ¬ Fr cb v b) (hbl : b < w.heap.size) (hsrc : ∀ i z, zs[i]? = some z → w.cell? ⟨b, o + i, none⟩ = some (.int .u8 z)) :
    Calls Tryz.prog 130 #[.pointer (some ⟨cb, 0, none⟩), .slice (some ⟨b, o, none⟩) zs.length c] w fun e w' =>
      e = .returned (.tuple #[]) ∧ ∃ v' ps', Cst w' B cb cap v' ps' (bs ++ zs) (inn + zs.length) out ∧ Rm w w' cb v v' := by
  obtain ⟨A, hv, hAv⟩ := h.row.form
  have c1 := h.blk.cell 1
  have c0 := h.blk.cell 0
  simp at c0 c1
  rw [hv] at c1
  have l0 := h.blk.lt
  have hle := h.le
  have hbig := h.big
  have hfit := h.fit
  have HL := Lib.hid (length_any h)
  have e1 : IntKind.i64.wrap ((bs.length : Int) + (zs.length : Int)) = (bs.length : Int) + (zs.length : Int) := IntWalk.i64_in _ (by omega)
  have e2 : IntKind.u64.wrap (zs.length : Int) = (zs.length : Int) := IntWalk.u64_in _ (by omega)
  have e3 : IntKind.u64.wrap ((inn : Int) + (zs.length : Int)) = ((inn + zs.length : Nat) : Int) := by rw [IntWalk.u64_in _ (by omega)]; omega
  have b0 : (0 : Int) ≤ (bs.length : Int) := by omega
  have b1 : (bs.length : Int) ≤ 65536 := by omega
  have b2 : (zs.length : Int) ≤ 65536 := by omega
  have b3 : (0 : Int) < (zs.length : Int) := by omega
  have b4 : (inn : Int) + (zs.length : Int) ≤ 1000000000 := by omega
  by_cases hlt : ps.length < bs.length + zs.length
  · obtain ⟨k, hk⟩ : ∃ k, k = min (max (bs.length + zs.length) (2 * ps.length)) cap := ⟨_, rfl⟩
    have hd : decide ((ps.length : Int) < (bs.length : Int) + (zs.length : Int)) = true := by simp; omega
    have e4 : IntKind.i64.wrap (2 * (ps.length : Int)) = 2 * (ps.length : Int) := IntWalk.i64_in _ (by omega)
    obtain ⟨M, hM⟩ : ∃ M, M = max (bs.length + zs.length) (2 * ps.length) := ⟨_, rfl⟩
    have e5 : (if (bs.length : Int) + (zs.length : Int) < 2 * (ps.length : Int) then 2 * (ps.length : Int) else (bs.length : Int) + (zs.length : Int)) = (M : Int) := by split <;> omega
    have e7 : (if cap < M then (cap : Int) else (M : Int)) = (k : Int) := by split <;> omega
    have hkb : bs.length + zs.length ≤ k := by omega
    have hkc : k ≤ 65536 := by omega
    have HY := Lib.hid (fun q => lay_any (h.drewN q) hBw k (by omega) hkc)
    have HC := Lib.hid h
    have HH := Lib.hid hv
    clear h hv hAv hk hlt hM
    go_enter Tryz.func130, Tryz.ntmps130
    go_wp2_with (go_at_call 135; refine HL.out.mono ?_; rintro e w' ⟨rfl, q, rfl⟩)
    refine wp_still_tail 14 (by kernel_rfl) (by kernel_rfl) ?_
    simp only [List.take_succ_cons, List.take_zero, List.drop_succ_cons, List.drop_zero]
    repeat still_step
    refine wpStill_nil ?_
    go_wp2_with fail
    refine (HY.out (q + 1)).mono ?_
    rintro e w2 ⟨rfl, g', hC2, hg2, hk2⟩
    have HP := Lib.hid (show PutAt w w2 B cb cap inn out v bs zs.length g' k (laidB (List.replicate k 0) out bs) from ⟨hC2, by rw [len_laid _ _ _ (by rw [List.length_replicate]; omega), List.length_replicate], hkb, ((Kept.refl (Fr cb v) w).drewN (q + 1)).trans (hk2.mono fun i _ e => .inl e), .inr hg2⟩)
    clear hC2 hg2 hk2
    have hC1 := HP.out.1
    have d2 := hC1.blk.cell 2
    simp at d2
    have dl := hC1.blk.lt
    have HWr := Lib.hid (putAt_write HP.out hz hcap h0 hc hcm hbf hbl hsrc)
    clear hC1
    go_wp2_with fail
    refine HWr.out.mono ?_
    rintro e w3 ⟨rfl, hb3, hE⟩
    have HE := Lib.hid (hE hb3)
    have g2 := hb3.cell 2
    simp at g2
    have gf := hb3.frozen 2
    have gl := hb3.lt
    clear hE hb3
    go_wp2_with fail
    go_end0
    obtain ⟨ps', x1, x2⟩ := HE.out
    exact ⟨rfl, _, _, x1, x2⟩
  · have hd : decide ((ps.length : Int) < (bs.length : Int) + (zs.length : Int)) = false := by simp; omega
    obtain ⟨g, hg⟩ : ∃ g, v = .slice (some ⟨g, 0, none⟩) ps.length ps.length := by
      rcases h.row with ⟨_, e⟩ | ⟨g, e, _⟩
      · rw [e] at hlt; simp at hlt; have : zs.length = 0 := by rw [hlt.2]; rfl
        omega
      · exact ⟨g, e⟩
    have HP' := Lib.hid (fun q => show PutAt w (w.drewN q) B cb cap inn out v bs zs.length g ps.length ps from ⟨by rw [← hg]; exact h.drewN q, rfl, by omega, (Kept.refl _ w).drewN q, .inl (by rw [hg]; rfl)⟩)
    have HC := Lib.hid h
    clear h hv hAv hlt hg
    go_enter Tryz.func130, Tryz.ntmps130
    go_wp2_with (go_at_call 135; refine HL.out.mono ?_; rintro e w' ⟨rfl, q, rfl⟩; have HP := Lib.hid (HP'.out q); have HWr := Lib.hid (putAt_write HP.out hz hcap h0 hc hcm hbf hbl hsrc); have d2 := HP.out.1.blk.cell 2; have dl := HP.out.1.blk.lt; simp at d2)
    refine HWr.out.mono ?_
    rintro e w3 ⟨rfl, hb3, hE⟩
    have HE := Lib.hid (hE hb3)
    have g2 := hb3.cell 2
    simp at g2
    have gf := hb3.frozen 2
    have gl := hb3.lt
    clear hE hb3
    go_wp2_with fail
    go_end0
    obtain ⟨ps', x1, x2⟩ := HE.out
    exact ⟨rfl, _, _, x1, x2⟩
end Go.Proofs.YtlephnfepofbbaaGreatDoor

/-
  A ring in memory, and the contracts of its calls.
-/
namespace Go.Proofs.YtlephnfepofbbaaGreatDoor
open Go.RowKit Go.Shelf Go.Maps Go.ChangeMaps

/-- A ring: its own block names a circle; F: all its blocks. -/
def Rg (W : World) (B r : Nat) (F : Nat → Prop) (cap : Nat) (bs : List Int) (inn out : Nat) : Prop :=
  ∃ cb v ps, Blk W r 168 #[.pointer (some ⟨cb, 0, none⟩)] ∧ B ≤ r ∧ B ≤ W.heap.size ∧ Cst W B cb cap v ps bs inn out ∧ ∀ k, F k ↔ (k = r ∨ Fr cb v k)
/-- What a call turned: the ring's blocks alone; those that it has behind the call it had, or they are new. -/
structure Mv (W W' : World) (F F' : Nat → Prop) : Prop where
  k : Kept F W W'
  o : ∀ i, F' i → F i ∨ W.heap.size ≤ i

section
variable {w w' w'' : World} {B r cap inn out : Nat} {F F' F'' : Nat → Prop} {bs : List Int}
theorem Rg.lt (h : Rg w B r F cap bs inn out) {k : Nat} (hk : F k) : k < w.heap.size ∧ B ≤ k := by
  obtain ⟨cb, v, ps, h1, h2, h3, h4, h5⟩ := h
  rcases (h5 k).1 hk with rfl | e
  · exact ⟨h1.lt, h2⟩
  · exact h4.lt e
theorem Rg.same (h : Rg w B r F cap bs inn out) (e : ∀ k, F k → w'.heap[k]? = w.heap[k]?) (hs : B ≤ w'.heap.size) : Rg w' B r F cap bs inn out := by
  obtain ⟨cb, v, ps, h1, h2, h3, h4, h5⟩ := h
  exact ⟨cb, v, ps, h1.same (e r ((h5 r).2 (.inl rfl))), h2, hs, h4.same (fun k hk => e k ((h5 k).2 (.inr hk))), h5⟩
theorem Rg.base (h : Rg w B r F cap bs inn out) : B ≤ w.heap.size := by obtain ⟨_, _, _, _, _, h3, _, _⟩ := h; exact h3
theorem Rg.kept {G : Nat → Prop} (h : Rg w B r F cap bs inn out) (k : Kept G w w') (hf : ∀ i, F i → ¬ G i) : Rg w' B r F cap bs inn out :=
  h.same (fun i hi => k.block i (h.lt hi).1 (hf i hi)) (Nat.le_trans h.base k.size)
theorem Rg.below (h : Rg w B r F cap bs inn out) (hb : Below w.heap.size w w') : Rg w' B r F cap bs inn out := h.same (fun i hi => hb.block i (h.lt hi).1) (Nat.le_trans h.base hb.size)
theorem Rg.drewN (h : Rg w B r F cap bs inn out) (q : Nat) : Rg (w.drewN q) B r F cap bs inn out := h.same (fun _ _ => rfl) h.base
theorem Rg.alloc (h : Rg w B r F cap bs inn out) (o : Obj) : Rg (w.alloc o) B r F cap bs inn out := h.kept ((Kept.refl (fun _ => False) w).alloc o) (fun _ _ e => e)
theorem Rg.facts (h : Rg w B r F cap bs inn out) : bs.length ≤ cap ∧ cap ≤ 65536 ∧ inn = out + bs.length ∧ inn ≤ 1000000000 ∧ F r := by
  obtain ⟨cb, v, ps, _, _, _, h4, h5⟩ := h
  exact ⟨h4.fit, h4.big, h4.hin, h4.sm, (h5 r).2 (.inl rfl)⟩
theorem Mv.below {B0 : Nat} (h : Mv w w' F F') (hF : ∀ k, F k → B0 ≤ k) (hB : B0 ≤ w.heap.size) : Below B0 w w' := h.k.below hF hB
theorem Mv.trans (h : Mv w w' F F') (k : Mv w' w'' F' F'') : Mv w w'' F F'' :=
  ⟨h.k.andThen k.k (fun i hi e => by rcases h.o i e with h | h; exact h; omega), fun i e => by
    rcases k.o i e with e | e
    · exact h.o i e
    · exact .inr (Nat.le_trans h.k.size e)⟩
theorem Mv.of_kept (h : Kept (fun _ => False) w w') : Mv w w' F F := ⟨h.mono fun _ _ e => e.elim, fun _ e => .inl e⟩
/-- Another ring's blocks, apart from this one's, lie as they lay, and stay apart. -/
theorem Rg.apart {r2 cap2 inn2 out2 : Nat} {G : Nat → Prop} {bs2 : List Int} (h : Rg w B r2 G cap2 bs2 inn2 out2) (m : Mv w w' F F') (ha : ∀ i, G i → ¬ F i) : Rg w' B r2 G cap2 bs2 inn2 out2 ∧ ∀ i, G i → ¬ F' i :=
  ⟨h.kept m.k ha, fun i hg hf => by rcases m.o i hf with e | e; exact ha i hg e; have := (h.lt hg).1; omega⟩
end

theorem new_no (w : World) (k : Int) (h : k < 0 ∨ 65536 < k) (h2 : -9223372036854775808 ≤ k ∧ k ≤ 9223372036854775807) : Calls Tryz.prog 142 #[.int .i64 k] w fun e w' => e = .returned (.tuple #[.pointer none, .int .i64 2]) ∧ w = w' := by
  rcases h with h | h
  · go_enter Tryz.func142, Tryz.ntmps142
    go_wp2
    go_ret2
    exact ⟨rfl, rfl⟩
  · have h0 : 0 ≤ k := by omega
    go_enter Tryz.func142, Tryz.ntmps142
    go_wp2
    go_ret2
    exact ⟨rfl, rfl⟩

theorem new_yes (w : World) (k : Nat) (h : k ≤ 65536) : Calls Tryz.prog 142 #[.int .i64 (k : Int)] w fun e w' => ∃ r F, e = .returned (.tuple #[.pointer (some ⟨r, 0, none⟩), .int .i64 0]) ∧ Rg w' w.heap.size r F k [] 0 0 ∧ Below w.heap.size w w' ∧ r < w'.heap.size := by
  have h0 : (0 : Int) ≤ (k : Int) := by omega
  have h1 : (k : Int) ≤ 65536 := by omega
  go_enter Tryz.func142, Tryz.ntmps142
  go_wp2
  go_ret2
  refine ⟨_, (fun i => i = w.heap.size + 1 ∨ Fr w.heap.size (.slice none 0 0) i), rfl, ⟨w.heap.size, .slice none 0 0, [], ?_, by omega, by simp; omega, ⟨?_, .inl ⟨rfl, rfl⟩, Nat.le_refl _, Lies.none _ _, by simp, h, by simp, by simp, by simp⟩, fun i => Iff.rfl⟩, ((Below.refl _ w).alloc (Nat.le_refl _) _).alloc (by simp) _, by simp⟩
  · have := Blk.new (w.alloc (.cells #[.int .i64 (k : Int), .slice none 0 0, .int .u64 0, .int .u64 0] 190)) 168 #[.pointer (some ⟨w.heap.size, 0, none⟩)]
    simpa using this
  · have := (Blk.new w 190 #[.int .i64 (k : Int), .slice none 0 0, .int .u64 0, .int .u64 0]).alloc (.cells #[.pointer (some ⟨w.heap.size, 0, none⟩)] 168)
    simpa using this

section
variable {w : World} {B r cap inn out : Nat} {F : Nat → Prop} {bs : List Int}
theorem len_any (h : Rg w B r F cap bs inn out) : Calls Tryz.prog 108 #[.pointer (some ⟨r, 0, none⟩)] w fun e w' => e = .returned (.int .i64 (bs.length : Int)) ∧ ∃ n, w' = w.drewN n := by
  obtain ⟨cb, v, ps, h1, h2, h3, h4, h5⟩ := h
  have c0 := h1.cell 0
  simp at c0
  have hM := Lib.hid (made_yes w r cb c0)
  have hL := Lib.hid (length_any h4)
  clear h1 h4 h5
  go_enter Tryz.func108, Tryz.ntmps108
  go_wp2_with (first
    | (go_at_call 134; refine hM.out.mono ?_; rintro e w' ⟨rfl, rfl⟩)
    | (go_at_call 135; refine hL.out.mono ?_; rintro e w' ⟨rfl, q, rfl⟩))
  go_ret
  exact ⟨rfl, _, rfl⟩
theorem len_nil (w : World) : Calls Tryz.prog 108 #[.pointer none] w fun e w' => e = .returned (.int .i64 0) ∧ w = w' := by
  go_enter Tryz.func108, Tryz.ntmps108
  go_wp2_with (go_at_call 134; refine (made_nil w).mono ?_; rintro e w' ⟨rfl, rfl⟩)
  go_ret
  exact ⟨rfl, rfl⟩
theorem room_nil (w : World) : Calls Tryz.prog 129 #[.pointer none] w fun e w' => e = .returned (.int .i64 0) ∧ w = w' := by
  go_enter Tryz.func129, Tryz.ntmps129
  go_wp2_with (go_at_call 134; refine (made_nil w).mono ?_; rintro e w' ⟨rfl, rfl⟩)
  go_ret
  exact ⟨rfl, rfl⟩
theorem put_nil (w : World) (A : Option Addr) (n c : Nat) : Calls Tryz.prog 102 #[.pointer none, .slice A n c] w fun e w' => e = .returned (.int .i64 0) ∧ w = w' := by
  have e1 : (if n = 0 then (n : Int) else 0) = 0 := by split <;> omega
  have h0 : (0 : Int) ≤ (n : Int) := by omega
  go_enter Tryz.func102, Tryz.ntmps102
  go_wp2_with (go_at_call 129; refine (room_nil w).mono ?_; rintro e w' ⟨rfl, rfl⟩)
  all_goals (go_ret; exact ⟨by first | rfl | simp_all, rfl⟩)
set_option maxHeartbeats 1000000 in
theorem room_any (h : Rg w B r F cap bs inn out) : Calls Tryz.prog 129 #[.pointer (some ⟨r, 0, none⟩)] w fun e w' => e = .returned (.int .i64 ((cap - bs.length : Nat) : Int)) ∧ ∃ n, w' = w.drewN n := by
  have hf := h.facts
  obtain ⟨cb, v, ps, h1, h2, h3, h4, h5⟩ := h
  have c0 := h1.cell 0
  simp at c0
  have d0 := h4.blk.cell 0
  simp at d0
  have l1 := h1.lt
  have l2 := h4.blk.lt
  have hM := Lib.hid (made_yes w r cb c0)
  have hL := Lib.hid (fun q => length_any (h4.drewN q))
  have e1 : IntKind.i64.wrap ((cap : Int) - (bs.length : Int)) = ((cap - bs.length : Nat) : Int) := by rw [IntWalk.i64_in _ (by omega)]; omega
  clear h1 h4 h5 hf
  go_enter Tryz.func129, Tryz.ntmps129
  go_wp2_with (go_at_call 134; refine hM.out.mono ?_; rintro e w' ⟨rfl, rfl⟩)
  go_quiet ((go_at_call 135; exact Calls.quiet_of (hL.out _)))
  go_wp2
  go_ret
  exact ⟨rfl, _, rfl⟩
end
end Go.Proofs.YtlephnfepofbbaaGreatDoor

/-
  Look, Take, Put, Grow and Clear of a ring.
-/
namespace Go.Proofs.YtlephnfepofbbaaGreatDoor
open Go.RowKit Go.Shelf Go.Maps Go.ChangeMaps

/-- A slice of bytes that may be read: v names zs, apart from the blocks of F. -/
def Src (W : World) (F : Nat → Prop) (v : Value) (zs : List Int) : Prop :=
  ∃ A c, v = .slice A zs.length c ∧ zs.length ≤ c ∧ c ≤ 9223372036854775807 ∧ (0 < zs.length → ∃ b o, A = some ⟨b, o, none⟩ ∧ b < W.heap.size ∧ ¬ F b ∧ ∀ i z, zs[i]? = some z → W.cell? ⟨b, o + i, none⟩ = some (.int .u8 z))

section
variable {w w' : World} {B r cb cap cap' inn out inn' out' : Nat} {F : Nat → Prop} {bs bs' ps ps' : List Int} {v v' : Value}
theorem rg_sep (h1 : Blk w r 168 #[.pointer (some ⟨cb, 0, none⟩)]) (h4 : Cst w B cb cap v ps bs inn out) : ¬ Fr cb v r := by
  unfold Blk at h1
  rintro (e | e)
  · subst e
    have hq := h4.blk
    unfold Blk at hq
    rw [h1] at hq
    injection hq with hq; injection hq with _ ht; revert ht; decide
  · rcases h4.row with ⟨rfl, _⟩ | ⟨g, rfl, _, hg⟩
    · cases e
    · cases e
      rw [h1] at hg
      injection hg with hq; injection hq with _ ht; revert ht; decide
theorem rg_turn (h1 : Blk w r 168 #[.pointer (some ⟨cb, 0, none⟩)]) (h2 : B ≤ r) (h3 : B ≤ w.heap.size) (h4 : Cst w B cb cap v ps bs inn out) (h5 : ∀ k, F k ↔ (k = r ∨ Fr cb v k))
    (h6 : Cst w' B cb cap' v' ps' bs' inn' out') (m : Rm w w' cb v v') : ∃ F', Rg w' B r F' cap' bs' inn' out' ∧ Mv w w' F F' := by
  refine ⟨fun k => k = r ∨ Fr cb v' k, ⟨cb, v', ps', h1.kept m.k (rg_sep h1 h4), h2, Nat.le_trans h3 m.k.size, h6, fun _ => Iff.rfl⟩, ⟨m.k.mono fun k _ e => (h5 k).2 (.inr e), fun i hi => ?_⟩⟩
  rcases hi with rfl | rfl | e
  · exact .inl ((h5 _).2 (.inl rfl))
  · exact .inl ((h5 _).2 (.inr (.inl rfl)))
  · rcases m.o with ho | ho
    · exact .inl ((h5 _).2 (.inr (.inr (ho ▸ e))))
    · exact .inr (ho i e)
theorem rg_stay (h1 : Blk w r 168 #[.pointer (some ⟨cb, 0, none⟩)]) (h2 : B ≤ r) (h3 : B ≤ w.heap.size) (h4 : Cst w B cb cap v ps bs inn out) (h5 : ∀ k, F k ↔ (k = r ∨ Fr cb v k))
    (h6 : Cst w' B cb cap' v ps' bs' inn' out') (m : Rm w w' cb v v) : Rg w' B r F cap' bs' inn' out' ∧ Kept F w w' :=
  ⟨⟨cb, v, ps', h1.kept m.k (rg_sep h1 h4), h2, Nat.le_trans h3 m.k.size, h6, h5⟩, m.k.mono fun k _ e => (h5 k).2 (.inr e)⟩
end

section
variable {w : World} {B r cap inn out : Nat} {F : Nat → Prop} {bs : List Int}
set_option maxHeartbeats 1000000 in
theorem look_any (h : Rg w B r F cap bs inn out) (n : Int) (hn : -9223372036854775808 ≤ n ∧ n ≤ 9223372036854775807) : Calls Tryz.prog 127 #[.pointer (some ⟨r, 0, none⟩), .int .i64 n] w fun e w' =>
    ∃ v, e = .returned v ∧ RowB w' w.heap.size v (bs.take n.toNat) ∧ Kept (fun _ => False) w w' := by
  have HL := Lib.hid (len_any h)
  obtain ⟨cb, v, ps, h1, h2, h3, h4, h5⟩ := h
  have hfit := h4.fit
  have hbig := h4.big
  have c0 := h1.cell 0
  simp at c0
  have l1 := h1.lt
  by_cases hk : 1 ≤ n ∧ 1 ≤ bs.length
  · obtain ⟨k, hkk⟩ : ∃ k, k = min n.toNat bs.length := ⟨_, rfl⟩
    have e1 : (if (bs.length : Int) < n then (bs.length : Int) else n) = (k : Int) := by split <;> omega
    have b1 : ¬ (k : Int) < 1 := by omega
    have ht : bs.take n.toNat = bs.take k := by
      by_cases hx : n.toNat ≤ bs.length
      · rw [show k = n.toNat by omega]
      · rw [show k = bs.length by omega, List.take_of_length_le (by omega), List.take_of_length_le (by omega)]
    have HF := Lib.hid (fun q => first_any (h4.drewN q) k (by omega) (by omega))
    have HT := Lib.hid ht
    have hkl : k ≤ bs.length := by omega
    clear h1 h4 h5 hkk hk ht
    go_enter Tryz.func127, Tryz.ntmps127
    go_wp2_with (go_at_call 108; refine HL.out.mono ?_; rintro e w' ⟨rfl, q, rfl⟩)
    refine (HF.out q).mono ?_
    rintro e w2 ⟨gb, rfl, g1, g2, g3⟩
    have HE := Lib.hid (show RowB w2 w.heap.size (.slice (some ⟨gb, 0, none⟩) k k) (bs.take n.toNat) ∧ Kept (fun _ => False) w w2 from ⟨.inr ⟨gb, by rw [HT.out, List.length_take, Nat.min_eq_left hkl], g1, by rw [HT.out]; exact g2⟩, ((Kept.refl _ w).drewN q).trans g3⟩)
    clear g1 g2 g3
    go_wp2_with fail
    go_ret
    exact ⟨_, rfl, HE.out⟩
  · obtain ⟨k, hkk⟩ : ∃ k : Int, k = min n (bs.length : Int) := ⟨_, rfl⟩
    have e1 : (if (bs.length : Int) < n then (bs.length : Int) else n) = k := by split <;> omega
    have b1 : k < 1 := by omega
    have ht : bs.take n.toNat = [] := by
      by_cases hx : n < 1
      · rw [show n.toNat = 0 by omega]; rfl
      · rw [List.eq_nil_of_length_eq_zero (show bs.length = 0 by omega)]; simp
    have HT := Lib.hid ht
    clear h1 h4 h5 hkk hk ht
    go_enter Tryz.func127, Tryz.ntmps127
    go_wp2_with (go_at_call 108; refine HL.out.mono ?_; rintro e w' ⟨rfl, q, rfl⟩)
    go_ret
    exact ⟨_, rfl, .inl ⟨rfl, HT.out⟩, (Kept.refl _ w).drewN q⟩

set_option maxHeartbeats 1000000 in
theorem take_any (h : Rg w B r F cap bs inn out) (n : Int) (hn : -9223372036854775808 ≤ n ∧ n ≤ 9223372036854775807) : Calls Tryz.prog 104 #[.pointer (some ⟨r, 0, none⟩), .int .i64 n] w fun e w' =>
    ∃ v, e = .returned v ∧ RowB w' w.heap.size v (bs.take n.toNat) ∧ Rg w' B r F cap (bs.drop n.toNat) inn (out + (bs.take n.toNat).length) ∧ Kept F w w' := by
  have HL := Lib.hid (look_any h n hn)
  have HR := Lib.hid h
  have hlen : (bs.take n.toNat).length ≤ bs.length := by rw [List.length_take]; omega
  clear h
  go_enter Tryz.func104, Tryz.ntmps104
  go_wp2_with fail
  refine HL.out.mono ?_
  rintro e w1 ⟨v, rfl, hrow, hk⟩
  have hR1 := HR.out.kept hk (fun _ _ e => e)
  obtain ⟨A, hv, hAv⟩ := hrow.form
  by_cases h0 : 0 < (bs.take n.toNat).length
  · obtain ⟨cb, u, ps, h1, h2, h3, h4, h5⟩ := id hR1
    have c0 := h1.cell 0
    simp at c0
    have l1 := h1.lt
    have hd0 := drop_any h4 (bs.take n.toNat).length hlen
    have HC := Lib.hid h4
    have HD := Lib.hid hd0
    have hdr : bs.drop (bs.take n.toNat).length = bs.drop n.toNat := by
      rw [List.length_take]
      by_cases hx : n.toNat ≤ bs.length
      · rw [Nat.min_eq_left hx]
      · rw [Nat.min_eq_right (by omega), List.drop_of_length_le (by omega), List.drop_of_length_le (by omega)]
    have HF := Lib.hid (And.intro hrow (And.intro hk (And.intro h1 (And.intro h2 (And.intro h3 (And.intro h5 (And.intro hdr hv)))))))
    have b1 : decide ((0 : Int) < ((bs.take n.toNat).length : Int)) = true := by simp; simpa using h0
    have b2 : decide (0 < (bs.take n.toNat).length) = true := by simpa using h0
    obtain ⟨L, hL⟩ : ∃ L, L = (bs.take n.toNat).length := ⟨_, rfl⟩
    rw [← hL] at hv HD b1 b2
    have HLn := Lib.hid hL
    have HV := Lib.hid hv
    subst hv
    clear hrow hk h1 h2 h3 h4 h5 hd0 hdr hR1 h0 hL hlen
    go_wp2_with fail
    refine HD.out.mono ?_
    rintro e w2 ⟨rfl, h6, h7⟩
    obtain ⟨hrow, hk, h1, h2, h3, h5, hdr, hv⟩ := HF.out
    have HE := Lib.hid (show RowB w2 w.heap.size (.slice A L L) (bs.take n.toNat) ∧ Rg w2 B r F cap (bs.drop n.toNat) inn (out + (bs.take n.toNat).length) ∧ Kept F w w2 from by
      rw [HLn.out, hdr] at h6
      obtain ⟨x1, x2⟩ := rg_stay h1 h2 h3 (HC.out) h5 h6 h7
      refine ⟨hrow.same (fun k e => h7.k.block k (hrow.lt e).1 (fun e2 => ?_)), x1, (hk.mono fun _ _ e => e.elim).trans x2⟩
      have := (HR.out.lt ((h5 k).2 (.inr e2))).1
      have := (hrow.lt e).2
      omega)
    have HV2 := Lib.hid hv
    clear hrow hk h1 h2 h3 h5 hdr hv h6 h7
    go_wp2_with fail
    go_ret
    exact ⟨_, rfl, HE.out⟩
  · have hz : (bs.take n.toNat).length = 0 := by omega
    have he : bs.take n.toNat = [] := List.eq_nil_of_length_eq_zero hz
    have hdr : bs.drop n.toNat = bs := by
      rw [List.length_take] at hz
      by_cases hx : n.toNat = 0
      · rw [hx]; rfl
      · rw [List.eq_nil_of_length_eq_zero (show bs.length = 0 by omega)]; simp
    have HE := Lib.hid (show RowB w1 w.heap.size v (bs.take n.toNat) ∧ Rg w1 B r F cap (bs.drop n.toNat) inn (out + (bs.take n.toNat).length) ∧ Kept F w w1 from by
      rw [hz, hdr]; exact ⟨hrow, hR1, hk.mono fun _ _ e => e.elim⟩)
    rw [hz] at hv
    subst hv
    clear hrow hk hR1 hz he hdr h0 hlen
    go_wp2_with fail
    go_ret
    exact ⟨_, rfl, HE.out⟩

set_option maxHeartbeats 1000000 in
theorem clear_any (h : Rg w B r F cap bs inn out) : Calls Tryz.prog 106 #[.pointer (some ⟨r, 0, none⟩)] w fun e w' =>
    e = .returned (.int .i64 (bs.length : Int)) ∧ Rg w' B r F cap [] inn (out + bs.length) ∧ Kept F w w' := by
  have HL := Lib.hid (len_any h)
  obtain ⟨cb, u, ps, h1, h2, h3, h4, h5⟩ := id h
  have c0 := h1.cell 0
  simp at c0
  have l1 := h1.lt
  by_cases h0 : 0 < bs.length
  · have HD := Lib.hid (fun q => drop_any (h4.drewN q) bs.length (Nat.le_refl _))
    have b1 : decide (0 < bs.length) = true := by simpa using h0
    have b2 : decide ((0 : Int) < (bs.length : Int)) = true := by simpa using h0
    have HC := Lib.hid (fun q => And.intro (show Blk (w.drewN q) r 168 #[.pointer (some ⟨cb, 0, none⟩)] from h1) (And.intro h2 (And.intro h3 (And.intro (h4.drewN q) h5))))
    clear h h1 h2 h3 h4 h5 h0
    go_enter Tryz.func106, Tryz.ntmps106
    go_wp2_with (go_at_call 108; refine HL.out.mono ?_; rintro e w' ⟨rfl, q, rfl⟩)
    refine (HD.out q).mono ?_
    rintro e w2 ⟨rfl, h6, h7⟩
    have HE := Lib.hid (show Rg w2 B r F cap [] inn (out + bs.length) ∧ Kept F w w2 from by
      obtain ⟨h1, h2, h3, h4, h5⟩ := HC.out q
      rw [List.drop_length] at h6
      obtain ⟨x1, x2⟩ := rg_stay h1 h2 h3 h4 h5 h6 h7
      exact ⟨x1, ((Kept.refl F w).drewN q).trans x2⟩)
    clear h6 h7
    go_wp2_with fail
    go_ret
    exact ⟨rfl, HE.out⟩
  · obtain rfl : bs = [] := List.eq_nil_of_length_eq_zero (by omega)
    have HE := Lib.hid (fun q => show Rg (w.drewN q) B r F cap [] inn (out + 0) ∧ Kept F w (w.drewN q) from ⟨h.drewN q, (Kept.refl F w).drewN q⟩)
    clear h h1 h2 h3 h4 h5 h0
    go_enter Tryz.func106, Tryz.ntmps106
    go_wp2_with (go_at_call 108; refine HL.out.mono ?_; rintro e w' ⟨rfl, q, rfl⟩)
    go_ret
    exact ⟨rfl, HE.out q⟩

set_option maxRecDepth 100000 in
set_option maxHeartbeats 1000000 in
theorem put_any (h : Rg w B r F cap bs inn out) (v : Value) (zs : List Int) (hs : Src w F v zs) (hin : inn + min zs.length (cap - bs.length) ≤ 1000000000) : Calls Tryz.prog 102 #[.pointer (some ⟨r, 0, none⟩), v] w fun e w' =>
    e = .returned (.int .i64 ((min zs.length (cap - bs.length) : Nat) : Int)) ∧ ∃ F', Rg w' B r F' cap (bs ++ zs.take (min zs.length (cap - bs.length))) (inn + min zs.length (cap - bs.length)) out ∧ Mv w w' F F' := by
  have HL := Lib.hid (room_any h)
  have hf := h.facts
  obtain ⟨A, c, rfl, hc1, hc2, hsrc⟩ := hs
  obtain ⟨cb, u, ps, h1, h2, h3, h4, h5⟩ := id h
  have c0 := h1.cell 0
  simp at c0
  have l1 := h1.lt
  obtain ⟨R, hR⟩ : ∃ R, R = cap - bs.length := ⟨_, rfl⟩
  rw [← hR] at HL hin ⊢
  obtain ⟨m, hm⟩ : ∃ m, m = min zs.length R := ⟨_, rfl⟩
  rw [← hm] at hin ⊢
  have e1 : (if R < zs.length then (R : Int) else (zs.length : Int)) = (m : Int) := by split <;> omega
  by_cases h0 : 0 < m
  · obtain ⟨b, o, rfl, hbl, hbf, hcell⟩ := hsrc (by omega)
    have hlm : (zs.take m).length = m := by rw [List.length_take]; omega
    have HP := Lib.hid (fun q => show Calls Tryz.prog 130 #[.pointer (some ⟨cb, 0, none⟩), .slice (some ⟨b, o, none⟩) m c] (w.drewN q) _ from hlm ▸ cput_any (h4.drewN q) h3 (zs.take m) b o c (by omega) (by omega) (by omega) (by omega) hc2 (fun e => hbf ((h5 b).2 (.inr e))) hbl (fun i z hz => by
      rw [List.getElem?_take] at hz
      split at hz
      · exact hcell i z hz
      · cases hz))
    have b0 : (0 : Int) < (m : Int) := by omega
    have b1 : (m : Int) ≤ (c : Int) := by omega
    have b2 : m ≤ c := by omega
    have b3 : (c : Int) ≤ 9223372036854775807 := by omega
    have b4 : decide ((0 : Int) < (m : Int)) = true := by simpa using h0
    have HC := Lib.hid (fun q => And.intro (show Blk (w.drewN q) r 168 #[.pointer (some ⟨cb, 0, none⟩)] from h1) (And.intro h2 (And.intro h3 (And.intro (h4.drewN q) h5))))
    clear h h1 h2 h3 h4 h5 hf hR hm h0 hsrc hcell hlm
    go_enter Tryz.func102, Tryz.ntmps102
    go_wp2_with (go_at_call 129; refine HL.out.mono ?_; rintro e w' ⟨rfl, q, rfl⟩)
    refine wp_still_tail 7 (by kernel_rfl) (by kernel_rfl) ?_
    simp only [List.take_succ_cons, List.take_zero, List.drop_succ_cons, List.drop_zero]
    repeat still_step
    refine wpStill_nil ?_
    go_wp2_with fail
    refine (HP.out (q + 1)).mono ?_
    rintro e w2 ⟨rfl, v', ps', h6, h7⟩
    have HE := Lib.hid (show ∃ F', Rg w2 B r F' cap (bs ++ zs.take m) (inn + m) out ∧ Mv w w2 F F' from by
      obtain ⟨h1, h2, h3, h4, h5⟩ := HC.out (q + 1)
      obtain ⟨F', x1, x2⟩ := rg_turn h1 h2 h3 h4 h5 h6 h7
      exact ⟨F', x1, ((Kept.refl F w).drewN (q + 1)).trans x2.k, x2.o⟩)
    clear h6 h7
    go_wp2_with fail
    go_ret
    exact ⟨rfl, HE.out⟩
  · have hm0 : m = 0 := by omega
    have b4 : decide ((0 : Int) < (m : Int)) = false := by simpa using hm0
    have HE := Lib.hid (fun q => show ∃ F', Rg (w.drewN q) B r F' cap (bs ++ zs.take m) (inn + m) out ∧ Mv w (w.drewN q) F F' from ⟨F, by rw [hm0, List.take_zero, List.append_nil]; exact h.drewN q, ((Kept.refl F w).drewN q), fun _ e => .inl e⟩)
    have b0 : (m : Int) ≤ 0 := by omega
    clear h h1 h2 h3 h4 h5 hf hR hm h0 hsrc hm0
    go_enter Tryz.func102, Tryz.ntmps102
    go_wp2_with (go_at_call 129; refine HL.out.mono ?_; rintro e w' ⟨rfl, q, rfl⟩)
    go_ret
    exact ⟨rfl, HE.out q⟩
end
end Go.Proofs.YtlephnfepofbbaaGreatDoor

/-
  For the laws over rings: results as strings, constants as bytes, calls at closed numbers.
-/
namespace Go.Proofs.YtlephnfepofbbaaGreatDoor
open Go.RowKit Go.Shelf Go.Maps Go.ChangeMaps

section
variable {w w' : World} {B r cap inn out : Nat} {F F' : Nat → Prop} {bs xs : List Int} {v : Value}
theorem RowB.mv (h : RowB w B v xs) (ha : ∀ k, v.ownBlock = some k → ¬ F k) (m : Mv w w' F F') : RowB w' B v xs ∧ ∀ k, v.ownBlock = some k → ¬ F' k :=
  ⟨h.same fun k e => m.k.block k (h.lt e).1 (ha k e), fun k e hf => by
    rcases m.o k hf with h2 | h2
    · exact ha k e h2
    · have := (h.lt e).1; omega⟩
theorem RowB.kept {G : Nat → Prop} (h : RowB w B v xs) (k : Kept G w w') (ha : ∀ i, v.ownBlock = some i → ¬ G i) : RowB w' B v xs := h.same fun i e => k.block i (h.lt e).1 (ha i e)
theorem RowB.fresh {w0 : World} (h : RowB w w0.heap.size v xs) (hr : Rg w0 B r F cap bs inn out) : ∀ k, v.ownBlock = some k → ¬ F k := fun k e hf => by
  have := (h.lt e).2; have := (hr.lt hf).1; omega
theorem rowB_str (h : RowB w B v xs) : (convert 23 9 v).run Tryz.prog w = .ok (.string (strOfNums xs)) w := by
  rcases h with ⟨rfl, rfl⟩ | ⟨g, rfl, _, hg⟩
  · exact run_convert_bytes_nil w 23 5 Tryz.underlying23 Tryz.underlying5 0 0 9 Tryz.underlying9
  · refine run_convert_bytes_arg w 23 5 Tryz.underlying23 Tryz.underlying5 g 0 xs.length xs.length xs rfl (fun i hi => ?_) 9 Tryz.underlying9
    have hb : Blk w g 5 (encB xs).toArray := hg
    rw [Nat.zero_add, hb.cell]
    simp [encB, List.getElem?_eq_getElem hi, List.getD]
theorem RowB.src (h : RowB w B v xs) (ha : ∀ k, v.ownBlock = some k → ¬ F k) (hl : xs.length ≤ 9223372036854775807) : Src w F v xs := by
  rcases h with ⟨rfl, rfl⟩ | ⟨g, rfl, _, hg⟩
  · exact ⟨none, 0, rfl, Nat.le_refl _, by omega, fun h => by simp at h⟩
  · refine ⟨_, _, rfl, Nat.le_refl _, hl, fun _ => ⟨g, 0, rfl, (Array.getElem?_eq_some_iff.1 hg).1, ha g rfl, fun i z hz => ?_⟩⟩
    have hb : Blk w g 5 (encB xs).toArray := hg
    rw [Nat.zero_add, hb.cell]
    simp [encB, hz]
theorem src_const (w : World) (hF : ∀ k, F k → k < w.heap.size) (zs : List Int) (mk : Nat × Nat) (hl : zs.length ≤ 9223372036854775807) : Src (w.alloc (.cells (encB zs).toArray 5 mk)) F (.slice (some ⟨w.heap.size, 0, none⟩) zs.length zs.length) zs :=
  ⟨_, _, rfl, Nat.le_refl _, hl, fun _ => ⟨w.heap.size, 0, rfl, by simp, fun hf => by have := hF _ hf; omega, fun i z hz => by
    have hb : (w.alloc (.cells (encB zs).toArray 5 mk)).heap[w.heap.size]? = some (.cells (encB zs).toArray 5 mk) := World.alloc_heap_new w _
    rw [Nat.zero_add, cell_of_row _ _ _ _ _ _ hb]
    simp [encB, hz]⟩⟩
theorem put_num (h : Rg w B r F cap bs inn out) (v : Value) (zs : List Int) (hs : Src w F v zs) (hin : inn + min zs.length (cap - bs.length) ≤ 1000000000) {z : Int} {bs' : List Int} {inn' : Nat} (hz : ((min zs.length (cap - bs.length) : Nat) : Int) = z)
    (hb : bs ++ zs.take (min zs.length (cap - bs.length)) = bs') (hi : inn + min zs.length (cap - bs.length) = inn') : Calls Tryz.prog 102 #[.pointer (some ⟨r, 0, none⟩), v] w fun e w' =>
    e = .returned (.int .i64 z) ∧ ∃ F', Rg w' B r F' cap bs' inn' out ∧ Mv w w' F F' := by
  subst hz; subst hb; subst hi; exact put_any h v zs hs hin
theorem take_num (h : Rg w B r F cap bs inn out) (n : Int) (hn : -9223372036854775808 ≤ n ∧ n ≤ 9223372036854775807) {xs bs' : List Int} {out' : Nat} (h1 : bs.take n.toNat = xs) (h2 : bs.drop n.toNat = bs') (h3 : out + xs.length = out') : Calls Tryz.prog 104 #[.pointer (some ⟨r, 0, none⟩), .int .i64 n] w fun e w' =>
    ∃ v, e = .returned v ∧ RowB w' w.heap.size v xs ∧ Rg w' B r F cap bs' inn out' ∧ Kept F w w' := by
  subst h1; subst h2; subst h3; exact take_any h n hn
theorem look_num (h : Rg w B r F cap bs inn out) (n : Int) (hn : -9223372036854775808 ≤ n ∧ n ≤ 9223372036854775807) {xs : List Int} (h1 : bs.take n.toNat = xs) : Calls Tryz.prog 127 #[.pointer (some ⟨r, 0, none⟩), .int .i64 n] w fun e w' =>
    ∃ v, e = .returned v ∧ RowB w' w.heap.size v xs ∧ Kept (fun _ => False) w w' := by
  subst h1; exact look_any h n hn
end

/-- The block of a constant's bytes. -/
abbrev conB (zs : List Int) : Obj := .cells (encB zs).toArray 5 (zs.length, zs.length + 1)

section
variable {w w1 w2 : World} {B r cap inn out : Nat} {F F' : Nat → Prop} {bs xs : List Int} {v : Value}
theorem put_const (h : Rg w1 B r F cap bs inn out) (zs : List Int) (hl : zs.length ≤ 9223372036854775807) (hin : inn + min zs.length (cap - bs.length) ≤ 1000000000) {z : Int} {bs' : List Int} {inn' : Nat} (hz : ((min zs.length (cap - bs.length) : Nat) : Int) = z)
    (hb : bs ++ zs.take (min zs.length (cap - bs.length)) = bs') (hi : inn + min zs.length (cap - bs.length) = inn') : Calls Tryz.prog 102 #[.pointer (some ⟨r, 0, none⟩), .slice (some ⟨w1.heap.size, 0, none⟩) zs.length zs.length] (w1.alloc (conB zs)) fun e w' =>
    e = .returned (.int .i64 z) ∧ ∃ F', Rg w' B r F' cap bs' inn' out ∧ Mv w1 w' F F' := by
  refine (put_num (h.alloc (conB zs)) _ zs (src_const w1 (fun k e => (h.lt e).1) zs (zs.length, zs.length + 1) hl) hin hz hb hi).mono ?_
  rintro e w' ⟨rfl, F', h1, h2⟩
  exact ⟨rfl, F', h1, (Mv.of_kept ((Kept.refl _ w1).alloc _)).trans h2⟩
theorem law_step (h : Rg w1 B r F cap bs inn out) (hb : Below B w w1) (m : Mv w1 w2 F F') : Below B w w2 := hb.trans (m.below (fun _ e => (h.lt e).2) h.base)
theorem law_keep (h : Rg w1 B r F cap bs inn out) (hb : Below B w w1) (m : Kept F w1 w2) : Below B w w2 := hb.trans (m.below (fun _ e => (h.lt e).2) h.base)
theorem law_quiet {G : Nat → Prop} (hb : Below B w w1) (hB : B ≤ w1.heap.size) (m : Kept G w1 w2) (hG : ∀ k, ¬ G k) : Below B w w2 := hb.trans (m.below (fun k e => (hG k e).elim) hB)
end

end Go.Proofs.YtlephnfepofbbaaGreatDoor
