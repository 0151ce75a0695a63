/-
  Rows of strings; a row of strings in a box that a range over a function fills.
-/
import Derived.Test.YtlephnfepofbbaaGreatDoorMtWire
import Derived.Test.YtlephnfepofbbaaGreatDoorMtBase
import Derived.Maps.AppendAt
namespace Go.Proofs.YtlephnfepofbbaaGreatDoor
open Go.RowKit Go.Shelf Go.Maps Go.ChangeMaps
variable {E : Prop}

def RS : RowK Tryz.prog ByteArray where
  e := 9
  s := 56
  n := 1
  bytes := 16
  zero := .string ⟨#[]⟩
  enc := fun s => [.string s]
  pos := by decide
  by_ := by decide
  len := fun _ => rfl
  one := fun x u hu => by
    simp at hu
    subst hu; rfl
  und := Tryz.underlying56
  info := by kernel_rfl
  zs := by decide
/-- While an image is laid: the box of the kept block, the row's box, the iterator's two boxes. -/
structure ImJ (w : World) (kb lb ba bb : Nat) (xs : List ByteArray) (W : World) : Prop where
  k : Boxed W w.heap.size 59 (.pointer (some ⟨kb, 0, none⟩))
  l : ∃ v, Boxed W lb 56 v ∧ RS.own W w.heap.size v xs
  a : Boxed W ba 59 (.pointer (some ⟨kb, 0, none⟩))
  b : Boxed W bb 4 (.bool true)
  bel : Below w.heap.size w W
  hl : w.heap.size ≤ lb
theorem ImJ.chR {w X Y : World} {kb lb ba bb N : Nat} {xs : List ByteArray} (h : ImJ w kb lb ba bb xs X) (k : ChR N X Y) (hN : w.heap.size ≤ N) : ImJ w kb lb ba bb xs Y := by
  obtain ⟨v, h1, h2⟩ := h.l
  exact ⟨boxed_chR h.k k, ⟨v, boxed_chR h1 k, RowK.own_chR h2 k⟩, boxed_chR h.a k, boxed_chR h.b k, below_chR h.bel k hN, h.hl⟩
/-- A row's block is none of a box. -/
theorem RS.nebox {W : World} {B : Nat} {v : Value} {xs : List ByteArray} (h : RS.own W B v xs) {b : Nat} {t : TypeId} {u : Value} (hb : Boxed W b t u) (ht : t ≠ 9) : v.ownBlock ≠ some b := fun e => by
  obtain ⟨c, fz, hk⟩ := Lib.ownsRow_kind h b e
  have hb' : W.heap[b]? = some (.cells #[u] t (0, 0)) := hb
  rw [hb'] at hk
  injection hk with hk
  injection hk with _ hk _
  exact ht hk
/-- One more. -/
theorem ImJ.step {w W U w1 : World} {kb lb ba bb : Nat} {xs : List ByteArray} {v v' : Value} {s : ByteArray} {o : Obj} (h : ImJ w kb lb ba bb xs W) (hv : Boxed W lb 56 v) (hrow : RS.own W w.heap.size v xs) (hU : Below W.heap.size W U) (hg : (U.alloc o).grownBy w1 v.ownBlock) (ho : RS.own w1 w.heap.size v' (xs ++ [s])) (hne : lb ≠ w.heap.size ∧ lb ≠ ba ∧ lb ≠ bb) :
    ImJ w kb lb ba bb (xs ++ [s]) (w1.setCell ⟨lb, 0, none⟩ v') ∧ ∀ k, k < W.heap.size → k ≠ lb → v.ownBlock ≠ some k → (w1.setCell ⟨lb, 0, none⟩ v').heap[k]? = W.heap[k]? := by
  have hs1 : W.heap.size ≤ (U.alloc o).heap.size := by have := hU.size; simp; omega
  have s1 : ∀ k, k < W.heap.size → v.ownBlock ≠ some k → w1.heap[k]? = W.heap[k]? := fun k hk hn => (hg.block k (Nat.lt_of_lt_of_le hk hs1) (fun e => hn e.symm)).trans ((Below.heap_alloc U o k (Nat.lt_of_lt_of_le hk hU.size)).trans (hU.block k hk))
  have same : ∀ k, k < W.heap.size → k ≠ lb → v.ownBlock ≠ some k → (w1.setCell ⟨lb, 0, none⟩ v').heap[k]? = W.heap[k]? := fun k hk hkb hn => (Below.heap_setCell _ _ _ _ hkb).trans (s1 k hk hn)
  have l1 : Boxed w1 lb 56 v := (s1 lb hv.lt (RS.nebox hrow hv (by decide))).trans hv
  have hbl : Below w.heap.size w w1 := by
    have h1 := (h.bel.trans (hU.mono h.bel.size))
    have h2 : Below w.heap.size w (U.alloc o) := h1.alloc h1.size o
    exact h2.grown hg h2.size (fun k e => (RowK.own_lt hrow e).2)
  refine ⟨⟨(same _ h.k.lt (Ne.symm hne.1) (RS.nebox hrow h.k (by decide))).trans h.k, ⟨v', boxed_set l1 v', RowK.own_same ho fun k e => Below.heap_setCell _ _ _ _ (fun e2 => RS.nebox ho l1 (by decide) (by rw [e]; exact congrArg some e2))⟩, (same _ h.a.lt (Ne.symm hne.2.1) (RS.nebox hrow h.a (by decide))).trans h.a, (same _ h.b.lt (Ne.symm hne.2.2) (RS.nebox hrow h.b (by decide))).trans h.b, hbl.setCell h.hl v', h.hl⟩, same⟩
theorem RowK.app_run {P : Program} {α : Type} {R : RowK P α} {w : World} (B : Nat) (v : Value) (xs ys : List α) (hown : R.own w B v xs) (ad : Addr) (n c : Nat) (hn : n = ys.length) (hnews : ∀ j u, (R.all ys)[j]? = some u → w.cell? (ad.add j) = some u) (h0 : 0 < n) (hlen : xs.length + ys.length ≤ 100000000) (hB : B ≤ w.heap.size) (ty : TypeId) :
    ∃ g cap w', (Builtin.append_ #[R.s, R.s] ty #[v, .slice (some ad) n c]).run P w = .ok (.slice (some ⟨g, 0, none⟩) (xs.length + n) cap) w' ∧ R.own w' B (.slice (some ⟨g, 0, none⟩) (xs.length + n) cap) (xs ++ ys) ∧ w.grownBy w' v.ownBlock ∧ (v.ownBlock = some g ∨ g = w.heap.size) := by
  subst hn
  obtain ⟨i0, hi, hz0, hz1, hz2⟩ := row_info R.info
  have hb := R.by_
  have hbig : (xs.length + ys.length) * R.bytes ≤ 140737488355328 := by
    have := Nat.mul_le_mul hlen hb
    omega
  obtain ⟨v', w', h1, h2, h3, h4, h5⟩ := run_append_own_at w B R.s ty R.e i0 _ R.n R.bytes R.und hi hz0 hz1 hz2 R.zs R.pos v xs.length _ hown ad ys.length c (R.all ys) (R.all_len ys) hnews (R.all_one ys) (by unfold maxLen; omega) hbig hB
  rcases h2.2 with ⟨e, h6⟩ | ⟨g, cap, cur, e, hg, r⟩
  · exact absurd h6 (by omega)
  · subst e
    refine ⟨g, cap, w', h1, by unfold RowK.own; rw [List.length_append, R.all_append]; exact h2, h3, ?_⟩
    rcases h5 with h5 | h5
    · exact .inl h5.symm
    · exact .inr (Option.some.inj h5)
theorem app_cell (w : World) (s : ByteArray) : ∀ j u, (RS.all [s])[j]? = some u → (w.alloc (.cells #[.string s] 9)).cell? ((⟨w.heap.size, 0, none⟩ : Addr).add j) = some u := fun j u hu => by
  have hj : j = 0 := by
    have := (List.getElem?_eq_some_iff.1 hu).1
    simp [RowK.all, RS] at this; omega
  subst hj
  have : u = .string s := by simpa [RowK.all, RS] using hu.symm
  subst this
  exact cell_of_row _ _ 0 _ _ (0, 0) (heap_alloc_new w _)
/-- append of a string that was made. -/
theorem ImJ.app {w W U : World} {kb lb ba bb : Nat} {xs : List ByteArray} {v : Value} (h : ImJ w kb lb ba bb xs W) (hrow : RS.own W w.heap.size v xs) (hB : Below W.heap.size W U) (s : ByteArray) (hl : xs.length ≤ 10) :
    ∃ gg cap w6, (Builtin.append_ #[56, 56] 56 #[v, .slice (some ⟨U.heap.size, 0, none⟩) 1 1]).run Tryz.prog (U.alloc (.cells #[.string s] 9)) = .ok (.slice (some ⟨gg, 0, none⟩) (xs.length + 1) cap) w6 ∧ RS.own w6 w.heap.size (.slice (some ⟨gg, 0, none⟩) (xs.length + 1) cap) (xs ++ [s]) ∧ (U.alloc (.cells #[.string s] 9)).grownBy w6 v.ownBlock ∧ ∀ k, k < W.heap.size → v.ownBlock ≠ some k → w6.heap[k]? = W.heap[k]? := by
  have hs := hB.size
  have hs2 := h.bel.size
  obtain ⟨gg, cap, w6, h1, h2, h3, _⟩ := RowK.app_run (R := RS) (w := U.alloc (.cells #[.string s] 9)) w.heap.size v xs [s] (RowK.own_same hrow fun j e => (Below.heap_alloc U _ j (Nat.lt_of_lt_of_le (RowK.own_lt hrow e).1 hs)).trans (hB.block j (RowK.own_lt hrow e).1)) ⟨U.heap.size, 0, none⟩ 1 1 rfl (app_cell U s) (by omega) (by simp; omega) (by simp; omega) 56
  exact ⟨gg, cap, w6, h1, h2, h3, fun k hk hn => (h3.block k (by simp; omega) (fun e => hn e.symm)).trans ((Below.heap_alloc U _ k (Nat.lt_of_lt_of_le hk hs)).trans (hB.block k hk))⟩
/-- What a round of an image leaves. -/
theorem ImJ.post {w W U w6 : World} {kb lb ba bb N gg n cap : Nat} {xs : List ByteArray} {v : Value} {s : ByteArray} {Pr : Nat → Prop} (h : ImJ w kb lb ba bb xs W) (hv : Boxed W lb 56 v) (hrow : RS.own W w.heap.size v xs) (hB : Below W.heap.size W U) (hg : (U.alloc (.cells #[.string s] 9)).grownBy w6 v.ownBlock) (ho : RS.own w6 w.heap.size (.slice (some ⟨gg, 0, none⟩) n cap) (xs ++ [s])) (hne : lb ≠ w.heap.size ∧ lb ≠ ba ∧ lb ≠ bb) (hlb : lb < N) (hPr : ∀ k, Pr k → k < w.heap.size ∨ k = ba ∨ k = bb) :
    KeepsFrom N W (w6.setCell ⟨lb, 0, none⟩ (.slice (some ⟨gg, 0, none⟩) n cap)) ∧ KpO TCe N Pr W (w6.setCell ⟨lb, 0, none⟩ (.slice (some ⟨gg, 0, none⟩) n cap)) ∧ ImJ w kb lb ba bb (xs ++ [s]) (w6.setCell ⟨lb, 0, none⟩ (.slice (some ⟨gg, 0, none⟩) n cap)) ∧ ∀ k o, N ≤ k → W.heap[k]? = some o → o.isCells = false → (w6.setCell ⟨lb, 0, none⟩ (.slice (some ⟨gg, 0, none⟩) n cap)).heap[k]? = some o := by
  obtain ⟨k1, k2⟩ := h.step hv hrow hB hg ho hne
  have sz : W.heap.size ≤ (w6.setCell ⟨lb, 0, none⟩ (.slice (some ⟨gg, 0, none⟩) n cap)).heap.size := by
    have h1 := hg.size
    have h2 := hB.size
    simp [World.setCell] at h1 ⊢; omega
  have cells : ∀ k o, v.ownBlock = some k → W.heap[k]? = some o → TCe o := fun k o e hk => by
    obtain ⟨c, fz, hk2⟩ := Lib.ownsRow_kind hrow k e
    rw [hk2] at hk; cases hk; rfl
  have keep : ∀ k o, N ≤ k → W.heap[k]? = some o → ¬ TCe o → (w6.setCell ⟨lb, 0, none⟩ (.slice (some ⟨gg, 0, none⟩) n cap)).heap[k]? = some o := fun k o hk ho hc => (k2 k (Array.getElem?_eq_some_iff.1 ho).1 (by omega) (fun e => hc (cells k o e ho))).trans ho
  refine ⟨⟨sz, fun k o hk ho hc => keep k o hk ho (fun e => by unfold TCe at e; rw [hc] at e; cases e)⟩, ⟨sz, fun k hk hl hp => k2 k hl (fun e => ?_) (fun e => ?_), fun k o hk ho hc => keep k o (by omega) ho hc⟩, k1, fun k o hk ho hc => keep k o hk ho (fun e => by unfold TCe at e; rw [hc] at e; cases e)⟩
  · subst e
    rcases hPr _ hp with e | e | e
    · have := h.hl; omega
    · exact hne.2.1 e
    · exact hne.2.2 e
  · rcases hPr _ hp with e2 | e2 | e2
    · have := (RowK.own_lt hrow e).2; omega
    · subst e2; exact RS.nebox hrow h.a (by decide) e
    · subst e2; exact RS.nebox hrow h.b (by decide) e
def nowS (n : Nat) : ByteArray := (⟨#[110, 111, 119, 32]⟩ : ByteArray) ++ ⟨(Lib.decDigits n).toArray⟩
def fdS : ByteArray := ((⟨#[102, 100]⟩ : ByteArray) ++ numS 0) ++ placeS 0
def wrS (x : Wi) : ByteArray := ((⟨#[119, 105, 114, 101]⟩ : ByteArray) ++ numS 0) ++ wireT x
def imgL (now : Nat) (x : Wi) : List ByteArray := [nowS now, fdS, wrS x]
end Go.Proofs.YtlephnfepofbbaaGreatDoor
