/-
  Bytes that a call writes into a row of its own; the words of a step.
-/
import Derived.Test.YtlephnfepofbbaaGreatDoorMtBase
import Derived.Test.YtlephnfepofbbaaGreatDoorMvShelf
import Derived.Lib.AppendStr
import Derived.Lib.AppendIntMem
import Derived.Deep.AppendLies
import Derived.Laws.IdiomStrings
import Derived.Lib.OthersKept
import Derived.Lib.OwnKind
import Derived.IntWalk
namespace Go.Proofs.YtlephnfepofbbaaGreatDoor
open Go.RowKit

/-- The table of the moves' words, as it lies. -/
structure TabW (W : World) : Prop where
  c1 : W.cell? ⟨1, 1, none⟩ = some (.string ⟨#[112, 117, 116]⟩)
  c2 : W.cell? ⟨1, 2, none⟩ = some (.string ⟨#[116, 97, 107, 101]⟩)
  c3 : W.cell? ⟨1, 3, none⟩ = some (.string ⟨#[115, 104, 117, 116]⟩)
  c4 : W.cell? ⟨1, 4, none⟩ = some (.string ⟨#[99, 108, 111, 115, 101]⟩)
  c5 : W.cell? ⟨1, 5, none⟩ = some (.string ⟨#[114, 101, 115, 101, 116]⟩)
  c6 : W.cell? ⟨1, 6, none⟩ = some (.string ⟨#[99, 111, 110, 110, 101, 99, 116]⟩)
  c7 : W.cell? ⟨1, 7, none⟩ = some (.string ⟨#[114, 97, 105, 115, 101]⟩)
  c0 : W.cell? ⟨1, 0, none⟩ = some (.string ⟨#[]⟩)
theorem TabW.same {W W' : World} (h : TabW W) (e : W'.heap[1]? = W.heap[1]?) : TabW W' := by
  have c : ∀ i v, W.cell? ⟨1, i, none⟩ = some v → W'.cell? ⟨1, i, none⟩ = some v := fun i v hv => (World.cell?_of_block e).trans hv
  exact ⟨c _ _ h.c1, c _ _ h.c2, c _ _ h.c3, c _ _ h.c4, c _ _ h.c5, c _ _ h.c6, c _ _ h.c7, c _ _ h.c0⟩
def Errs (w : World) : Prop := (∃ ev, w.cell? ⟨9, 0, none⟩ = some ev ∧ (ev = .nilIface ∨ ∃ te pe, ev = .iface te pe)) ∧ (∃ ev, w.cell? ⟨10, 0, none⟩ = some ev ∧ (ev = .nilIface ∨ ∃ te pe, ev = .iface te pe))
/-- What the program reads of its package-level variables, all below N; the errors, if E. -/
structure EnvP (E : Prop) (N : Nat) (W : World) : Prop where
  le : N ≤ W.heap.size
  gF : 0 < N
  gW : 1 < N
  gS : E → 9 < N
  gR : E → 10 < N
  f : TabF W
  w : TabW W
  e : E → Errs W
  p : Lib.TabBelow Tryz.prog N W "internal/strconv.uint64pow10" .u64 Lib.pow10Tab
abbrev Env : Nat → World → Prop := EnvP True
theorem EnvP.below {E : Prop} {N : Nat} {W W' : World} (h : EnvP E N W) (b : Below N W W') : EnvP E N W' where
  le := Nat.le_trans h.le b.size
  gF := h.gF
  gW := h.gW
  gS := h.gS
  gR := h.gR
  f := h.f.same (b.block _ h.gF) b.size
  w := h.w.same (b.block _ h.gW)
  e := fun he => by
    obtain ⟨⟨a, h1, h2⟩, ⟨c, h3, h4⟩⟩ := h.e he
    exact ⟨⟨a, (b.cell (p := ⟨_, 0, none⟩) (h.gS he)).trans h1, h2⟩, ⟨c, (b.cell (p := ⟨_, 0, none⟩) (h.gR he)).trans h3, h4⟩⟩
  p := h.p.on b
theorem EnvP.more {E : Prop} {N N' : Nat} {W : World} (h : EnvP E N W) (hN : N ≤ N') (hs : N' ≤ W.heap.size) : EnvP E N' W :=
  ⟨hs, Nat.lt_of_lt_of_le h.gF hN, Nat.lt_of_lt_of_le h.gW hN, fun he => Nat.lt_of_lt_of_le (h.gS he) hN, fun he => Nat.lt_of_lt_of_le (h.gR he) hN, h.f, h.w, h.e, fun w' hb => h.p w' (hb.mono hN)⟩

/-- A row of bytes of the call's own. -/
def OwB (B : Nat) (W : World) (v : Value) (bs : List UInt8) : Prop := W.ownsRow B 5 1 v bs.length (Lib.byteCells bs)
theorem infoBy : (Tryz.prog.info? 5).map (fun i => (i.zero, i.size, i.bytes)) = some (some (.int .u8 0), 1, 1) := by kernel_rfl
theorem info_of {o : Option TypeInfo} {z : Option Value} {s b : Nat} (h : o.map (fun i => (i.zero, i.size, i.bytes)) = some (z, s, b)) : ∃ i, o = some i ∧ i.zero = z ∧ i.size = s ∧ i.bytes = b := by
  cases o with
  | none => cases h
  | some i =>
    simp only [Option.map_some, Option.some.injEq, Prod.mk.injEq] at h
    exact ⟨i, rfl, h.1, h.2.1, h.2.2⟩
theorem OwB.nil (B : Nat) (W : World) : OwB B W (.slice none 0 0) [] := World.ownsRow_nil _ _ _ _
theorem OwB.same {B : Nat} {W W' : World} {v : Value} {bs : List UInt8} (h : OwB B W v bs) (k : ∀ g, v.ownBlock = some g → g < W.heap.size → W'.heap[g]? = W.heap[g]?) : OwB B W' v bs := by
  refine ⟨h.1, ?_⟩
  rcases h.2 with h2 | ⟨g, cap, cur, rfl, hb, hg, r⟩
  · exact .inl h2
  · exact .inr ⟨g, cap, cur, rfl, hb, (k g rfl (Array.getElem?_eq_some_iff.1 hg).1).trans hg, r⟩
theorem OwB.below {B : Nat} {W W' : World} {v : Value} {bs : List UInt8} (h : OwB B W v bs) (b : Below W.heap.size W W') : OwB B W' v bs := h.same fun g _ hg => b.block g hg
theorem OwB.form {B : Nat} {W : World} {v : Value} {bs : List UInt8} (h : OwB B W v bs) : ∃ A c, v = .slice A bs.length c ∧ bs.length ≤ c ∧ c ≤ 9223372036854775807 := by
  rcases h.2 with ⟨rfl, hn⟩ | ⟨g, cap, cur, rfl, hb, hg, hc, hm, r⟩
  · exact ⟨none, 0, by rw [hn], by omega, by omega⟩
  · exact ⟨_, cap, rfl, hc, by unfold maxLen at hm; omega⟩
/-- All below B stays, and all that is no row of bytes. -/
structure Frb (B : Nat) (w w' : World) : Prop where
  b : Below B w w'
  o : Lib.OthersKept 5 none w w'
section
variable {B : Nat} {w w' w'' : World}
theorem Frb.refl (B : Nat) (w : World) : Frb B w w := ⟨Below.refl _ _, Lib.OthersKept.refl _ _ _⟩
theorem Frb.trans (h : Frb B w w') (k : Frb B w' w'') : Frb B w w'' := ⟨h.b.trans k.b, h.o.trans k.o⟩
theorem Frb.alloc (h : Frb B w w') (hB : B ≤ w'.heap.size) (o : Obj) : Frb B w (w'.alloc o) := ⟨h.b.alloc hB _, h.o.alloc o⟩
theorem Frb.of (h : Below w.heap.size w w') (hB : B ≤ w.heap.size) : Frb B w w' := ⟨h.mono hB, (Lib.OthersKept.refl _ _ w).below h⟩
theorem Frb.blk (h : Frb B w w') {g : Nat} {t : TypeId} {cs : Array Value} (k : Blk w g t cs) (ht : t ≠ 5) : Blk w' g t cs :=
  h.o g _ k (by simp) (fun c fz e => ht (by injection e))
end
section
variable {W : World} {ops : Array Oper} {rest : List Oper} {o : Oper} {a : Act} {Q : Exit → Act → World → Prop}
theorem own_grown {B : Nat} {v : Value} {bs : List UInt8} {w' : World} (hown : OwB B W v bs) (hB : B ≤ W.heap.size) (hg : W.grownBy w' v.ownBlock) : Frb B W w' :=
  ⟨(Below.refl B W).grown hg hB (fun k hk => (World.ownsRow.lt hown k hk).1), (Lib.OthersKept.refl _ _ _).grown hg (Lib.ownsRow_kind hown)⟩
/-- append(s, t...), t a text. -/
theorem app_str (hgd : o.guard = none) (sl x : Operand) (ho : o.op = .call { callee := .builtin .append, args := #[sl, x], argTypes := #[23, 9] })
    (B : Nat) (v : Value) (bs : List UInt8) (hs : a.eval sl = v) (hown : OwB B W v bs) (s : ByteArray) (hx : a.eval x = .string s) (hl : bs.length + s.size ≤ 70368744177664) (hB : B ≤ W.heap.size)
    (h : ∀ v' w', OwB B w' v' (bs ++ s.data.toList) → Frb B W w' → wpList Tryz.prog ops Q rest (a.put o.dst v') w') : wpList Tryz.prog ops Q (o :: rest) a W := by
  obtain ⟨i0, hi, hz0, hz1, hz2⟩ := info_of infoBy
  refine Lib.wpList_append_own_string W hgd sl x _ _ ho B 5 i0 Tryz.underlying23 Tryz.underlying9 hi hz0 hz1 hz2 v bs.length (Lib.byteCells bs) hs hown s hx (by unfold maxLen; omega) (by omega) hB
    (fun v' w' h1 h2 _ => h v' w' ?_ (own_grown hown hB h2))
  unfold OwB
  have e : s.size = s.data.toList.length := Lib.size_eq s
  rw [List.length_append, ← e]
  have e2 : Lib.byteCells (bs ++ s.data.toList) = Lib.byteCells bs ++ Lib.strCells s := by simp [Lib.byteCells, Lib.strCells]
  rw [e2]; exact h1
/-- append(s, t...), t a slice of bytes. -/
theorem app_row (hgd : o.guard = none) (sl x : Operand) (ho : o.op = .call { callee := .builtin .append, args := #[sl, x], argTypes := #[23, 23] })
    (B : Nat) (v : Value) (bs ts : List UInt8) (hs : a.eval sl = v) (hown : OwB B W v bs) (ad : Addr) (c n : Nat) (hx : a.eval x = .slice (some ad) n c) (hn : n = ts.length) (hc : ∀ j (hj : j < ts.length), W.cell? (ad.add j) = some (.int .u8 (ts[j].toNat : Int)))
    (hl : bs.length + ts.length ≤ 70368744177664) (hB : B ≤ W.heap.size)
    (h : ∀ v' w', OwB B w' v' (bs ++ ts) → Frb B W w' → wpList Tryz.prog ops Q rest (a.put o.dst v') w') : wpList Tryz.prog ops Q (o :: rest) a W := by
  subst hn
  obtain ⟨i0, hi, hz0, hz1, hz2⟩ := info_of infoBy
  refine wpList_append_own W hgd sl x _ ho B 5 i0 (.int .u8 0) 1 1 Tryz.underlying23 hi hz0 hz1 hz2 rfl (by decide) v bs.length (Lib.byteCells bs) hs hown ad ts.length c (Lib.byteCells ts) hx (by rw [Lib.byteCells_length, Nat.mul_one]) (fun j u hu => ?_) (fun u hu => ?_) (by unfold maxLen; omega) (by omega) hB
    (fun v' w' h1 h2 _ => h v' w' ?_ (own_grown hown hB h2))
  · have hj : j < ts.length := by have := (List.getElem?_eq_some_iff.1 hu).1; rwa [Lib.byteCells_length] at this
    rw [hc j hj, ← hu]; simp [Lib.byteCells, hj]
  · simp only [Lib.byteCells, List.mem_map] at hu
    obtain ⟨b, _, rfl⟩ := hu; rfl
  · unfold OwB
    have e2 : Lib.byteCells (bs ++ ts) = Lib.byteCells bs ++ Lib.byteCells ts := by simp [Lib.byteCells]
    rw [List.length_append, e2]; exact h1
/-- append(s, b), b a byte of a new block. -/
theorem app_one (hgd : o.guard = none) (sl x : Operand) (ho : o.op = .call { callee := .builtin .append, args := #[sl, x], argTypes := #[23, 23] })
    (B : Nat) (v : Value) (bs : List UInt8) (hs : a.eval sl = v) (hown : OwB B W v bs) (b : UInt8) (g : Nat) (hx : a.eval x = .slice (some ⟨g, 0, none⟩) 1 1) (hc : W.cell? ⟨g, 0, none⟩ = some (.int .u8 (b.toNat : Int)))
    (hl : bs.length + 1 ≤ 70368744177664) (hB : B ≤ W.heap.size)
    (h : ∀ v' w', OwB B w' v' (bs ++ [b]) → Frb B W w' → wpList Tryz.prog ops Q rest (a.put o.dst v') w') : wpList Tryz.prog ops Q (o :: rest) a W :=
  app_row hgd sl x ho B v bs [b] hs hown ⟨g, 0, none⟩ 1 1 hx rfl (fun j hj => by
    obtain rfl : j = 0 := by simp at hj; omega
    exact hc) hl hB h
end
/-- What is written behind what was there. -/
def AppP (B : Nat) (w : World) (bs t : List UInt8) (e : Ending) (w' : World) : Prop := ∃ v', e = .returned v' ∧ OwB B w' v' (bs ++ t) ∧ Frb B w w'
theorem alloc_old {w : World} {g : Nat} (o : Obj) (h : g < w.heap.size) : (w.alloc o).heap[g]? = w.heap[g]? := Below.heap_alloc _ _ _ h
theorem OwB.alloc {B : Nat} {W : World} {v : Value} {bs : List UInt8} (h : OwB B W v bs) (o : Obj) : OwB B (W.alloc o) v bs := h.same fun g _ hg => alloc_old o hg

theorem appendWord_any (B : Nat) (v : Value) (bs : List UInt8) (s : ByteArray) (w : World) (hown : OwB B w v bs) (hB : B ≤ w.heap.size) (hl : bs.length + s.size + 1 ≤ 70368744177664) :
    Calls Tryz.prog 88 #[v, .string s] w (AppP B w bs (32 :: s.data.toList)) := by
  have HO := Lib.hid (hown.alloc (.cells #[.int .u8 32] 5))
  have HL := Lib.hid hl
  clear hown hl
  go_enter Tryz.func88, Tryz.ntmps88
  go_wp2_with (first
    | (at_builtin; refine app_one rfl _ _ rfl B v bs rfl HO.out 32 w.heap.size rfl (cell_of_row _ _ 0 _ _ (0, 0) (heap_alloc_new w _)) (by have := HL.out; omega) (by simp; omega) ?_; intro v1 w1 h1 hb1; have H1 := Lib.hid h1; have HB1 := Lib.hid hb1; clear h1 hb1)
    | (at_builtin; refine app_str rfl _ _ rfl B v1 _ rfl H1.out s rfl (by have := HL.out; simp; omega) (Nat.le_trans (by simp; omega) HB1.out.b.size) ?_; intro v2 w2 h2 hb2; have H2 := Lib.hid h2; have HB2 := Lib.hid hb2; clear h2 hb2))
  go_ret
  exact ⟨v2, rfl, by have := H2.out; simpa using this, ((Frb.refl _ _).alloc hB _).trans (HB1.out.trans HB2.out)⟩
end Go.Proofs.YtlephnfepofbbaaGreatDoor
