/-
  WorldBytes: a wire that nobody shut or closed; what is sent, and got.
-/
import Derived.Test.YtjejpgognfadoaaWdEnds
namespace Go.Proofs.Ytjejpgognfadoaa
open Go.RowKit Go.Shelf Go.Maps Go.ChangeMaps

/-- A wire whose ends are open. -/
structure Nm (cap o : Nat) (x : Wi) : Prop where
  can : ∀ k, (x.e k).can = true
  sh : ∀ k, (x.e k).shut = false
  is0 : (x.e false).is = 1
  is1 : (x.e true).is = o
  rs : x.reset = false
  cp : x.cap = cap
  wt : x.wait = []
section
variable {cap o : Nat} {x : Wi}
theorem Nm.upd (h : Nm cap o x) (k : Bool) (p : En) (h1 : p.can = true) (h2 : p.shut = false) (h3 : p.is = (x.e k).is) : Nm cap o (x.set k p) := by
  refine ⟨fun j => ?_, fun j => ?_, ?_, ?_, h.rs, h.cp, h.wt⟩
  · rw [Wi.set_e]; split
    · exact h1
    · exact h.can j
  · rw [Wi.set_e]; split
    · exact h2
    · exact h.sh j
  · rw [Wi.set_e]; split
    · rename_i e; rw [h3, ← e]; exact h.is0
    · exact h.is0
  · rw [Wi.set_e]; split
    · rename_i e; rw [h3, ← e]; exact h.is1
    · exact h.is1
theorem rdRise_bs (x : Wi) (k j : Bool) : ((x.rdRise k).e j).bs = (x.e j).bs := by
  unfold Wi.rdRise; split
  · rw [Wi.set_e]; split
    · rename_i e; subst e; rfl
    · rfl
  · rfl
theorem wrRise_bs (x : Wi) (k j : Bool) : ((x.wrRise k).e j).bs = (x.e j).bs := by
  unfold Wi.wrRise; split
  · rw [Wi.set_e]; split
    · rename_i e; subst e; rfl
    · rfl
  · rfl
theorem Nm.rdRise (h : Nm cap o x) (k : Bool) : Nm cap o (x.rdRise k) := by
  unfold Wi.rdRise; split
  · exact h.upd k _ (h.can k) (h.sh k) rfl
  · exact h
theorem Nm.wrRise (h : Nm cap o x) (k : Bool) : Nm cap o (x.wrRise k) := by
  unfold Wi.wrRise; split
  · exact h.upd k _ (h.can k) (h.sh k) rfl
  · exact h
theorem fill_bs (x : Wi) (k j : Bool) (zs : List Int) : ((x.fill k zs).e j).bs = if j = k then (x.e k).bs ++ zs.take (x.room k zs.length) else (x.e j).bs := by
  unfold Wi.fill
  have : ((x.put k zs).e j).bs = if j = k then (x.e k).bs ++ zs.take (x.room k zs.length) else (x.e j).bs := by
    unfold Wi.put; rw [Wi.set_e]; split <;> rfl
  split
  · rw [rdRise_bs]; exact this
  · exact this
theorem drain_bs (x : Wi) (k j : Bool) (n : Nat) : ((x.drain k n).e j).bs = if j = k then (x.e k).bs.drop n else (x.e j).bs := by
  unfold Wi.drain
  have : ((x.cut k n).e j).bs = if j = k then (x.e k).bs.drop n else (x.e j).bs := by
    unfold Wi.cut; rw [Wi.set_e]; split <;> rfl
  split
  · rw [wrRise_bs]; exact this
  · exact this
theorem Nm.fill (h : Nm cap o x) (k : Bool) (zs : List Int) : Nm cap o (x.fill k zs) := by
  have hp : Nm cap o (x.put k zs) := h.upd k _ (h.can k) (h.sh k) rfl
  unfold Wi.fill; split
  · exact hp.rdRise k
  · exact hp
theorem Nm.drain (h : Nm cap o x) (k : Bool) (n : Nat) : Nm cap o (x.drain k n) := by
  have hp : Nm cap o (x.cut k n) := h.upd k _ (h.can k) (h.sh k) rfl
  unfold Wi.drain; split
  · exact hp.wrRise _
  · exact hp
theorem Nm.nr (h : Nm cap o x) (ho : o ≠ 3) (k : Bool) : x.noReader k = false := by
  unfold Wi.noReader
  cases k
  · simp [h.is1, ho]
  · simp [h.is0]
theorem Nm.nw (h : Nm cap o x) (ho : o ≠ 3) (k : Bool) : x.noWriter k = false := by
  unfold Wi.noWriter
  rw [h.sh]
  cases k
  · simp [h.is1, ho]
  · simp [h.is0]
/-- So many bytes come in: behind what is there, in that ring alone; never more than fit. -/
def Came (cap o : Nat) (x : Wi) (k : Bool) (zs : List Int) (m : Nat) (y : Wi) : Prop := Nm cap o y ∧ m ≤ zs.length ∧ (y.e k).bs = (x.e k).bs ++ zs.take m ∧ (y.e (!k)).bs = (x.e (!k)).bs ∧ ((x.e k).bs.length ≤ cap → (y.e k).bs.length ≤ cap)
/-- These bytes go out: they stood ahead. -/
def Went (cap o : Nat) (x : Wi) (k : Bool) (ds : List Int) (y : Wi) : Prop := Nm cap o y ∧ (x.e k).bs = ds ++ (y.e k).bs ∧ (y.e (!k)).bs = (x.e (!k)).bs
theorem Nm.came (h : Nm cap o x) (k : Bool) (zs : List Int) : Came cap o x k zs (x.room k zs.length) (x.fill k zs) :=
  ⟨h.fill k zs, Nat.min_le_left _ _, by rw [fill_bs, if_pos rfl], by rw [fill_bs, if_neg (by cases k <;> decide)], fun hl => by
    rw [fill_bs, if_pos rfl, List.length_append, List.length_take]
    unfold Wi.room
    rw [h.cp]
    omega⟩
theorem Nm.same (h : Nm cap o x) (k : Bool) (zs : List Int) : Came cap o x k zs 0 x := ⟨h, Nat.zero_le _, by simp, rfl, id⟩
theorem Nm.went (h : Nm cap o x) (k : Bool) (n : Nat) : Went cap o x k ((x.e k).bs.take n) (x.drain k n) :=
  ⟨h.drain k n, by rw [drain_bs, if_pos rfl, List.take_append_drop], by rw [drain_bs, if_neg (by cases k <;> decide)]⟩
theorem Nm.stay (h : Nm cap o x) (k : Bool) : Went cap o x k [] x := ⟨h, rfl, rfl⟩
theorem Nm.write (h : Nm cap o x) (ho : o ≠ 3) (k : Bool) (zs : List Int) : ∃ (m : Nat) (e : Int) (y : Wi), x.write k zs = ((m : Int), e, y) ∧ Came cap o x (!k) zs m y := by
  unfold Wi.write
  rw [if_neg (by rw [h.can]; decide), if_neg (by rw [h.rs]; decide), if_neg (by rw [h.sh, h.nr ho]; decide)]
  split
  · exact ⟨0, 113, x, rfl, h.same _ _⟩
  · exact ⟨_, 0, _, rfl, h.came _ _⟩
theorem Nm.putO (h : Nm cap o x) (zs : List Int) : ∃ (m : Nat) (e : Int) (y : Wi), x.putO zs = ((m : Int), e, y) ∧ Came cap o x false zs m y := by
  unfold Wi.putO
  rw [if_neg (by rw [h.rs]; decide), if_neg (by rw [h.sh, show x.noReader true = false from by unfold Wi.noReader; simp [h.is0]]; decide)]
  exact ⟨_, 0, _, rfl, h.came _ _⟩
theorem Nm.read (h : Nm cap o x) (k : Bool) (n : Int) (ho : o ≠ 3) : ∃ (ds : List Int) (en : Bool) (e : Int) (y : Wi), x.read k n = (ds, en, e, y) ∧ Went cap o x k ds y := by
  unfold Wi.read
  rw [if_neg (by rw [h.can]; decide)]
  split
  · exact ⟨_, _, _, _, rfl, h.stay k⟩
  rw [if_neg (by rw [h.rs]; decide)]
  split
  · exact ⟨_, _, _, _, rfl, h.went k _⟩
  · rw [if_neg (by rw [h.nw ho]; decide)]
    exact ⟨_, _, _, _, rfl, h.stay k⟩
theorem Nm.takeO (h : Nm cap o x) (n : Int) : ∃ (ds : List Int) (e : Int) (y : Wi), x.takeO n = (ds, e, y) ∧ Went cap o x true ds y := by
  unfold Wi.takeO
  split
  · exact ⟨_, _, _, rfl, h.stay true⟩
  rw [if_neg (by rw [h.rs]; decide)]
  exact ⟨_, _, _, rfl, h.went true _⟩
end

/-- A world with a pair, and an outer wire. -/
def S2 (x y : Wi) : Ws := ⟨0, [x, y], fun f => if f = 2 then some (1, false) else if f = 1 then some (0, true) else if f = 0 then some (0, false) else none, T.new, none⟩
def S1p (x : Wi) : Ws := ⟨0, [x], fun f => if f = 1 then some (0, true) else if f = 0 then some (0, false) else none, T.new, none⟩
theorem S1p_pair (n : Nat) : bSt Ws.new (Wi.new n 2) 0 1 2 = S1p (((Wi.new n 2).mark false 1).mark true 1) := rfl
theorem S2_outer (x : Wi) (n : Nat) : ((S1p x).addW (outW n)).opened (S1p x).ws.length false 2 = S2 x ((outW n).mark false 1) := rfl
theorem S1p_frees (x : Wi) : (S1p x).frees[0]? = some 2 := by
  show ((List.range 96).filter fun i => (((fun f => if f = 1 then some (0, true) else if f = 0 then some (0, false) else none) : Nat → Option (Nat × Bool)) i).isSome == false)[0]? = some 2
  decide
theorem frees_new1 : Ws.new.frees[1]? = some 1 := by decide
theorem S2_set0 (x y z : Wi) : (S2 x y).setW 0 z = S2 z y := rfl
theorem S2_set1 (x y z : Wi) : (S2 x y).setW 1 z = S2 x z := rfl
theorem S2_out (x y : Wi) (h : (y.e true).is = 2) : (S2 x y).outer 1 = some y := Ws.outer_of (i := 1) (show (S2 x y).ws[1]? = some y from rfl) h
theorem Nm.pair (n : Nat) : Nm n 1 (((Wi.new n 2).mark false 1).mark true 1) := ⟨fun k => by cases k <;> rfl, fun k => by cases k <;> rfl, rfl, rfl, rfl, rfl, rfl⟩
theorem Nm.out (n : Nat) : Nm n 2 ((outW n).mark false 1) := ⟨fun k => by cases k <;> rfl, fun k => by cases k <;> rfl, rfl, rfl, rfl, rfl, rfl⟩

/-- The ring between what is sent and what is got. -/
def ringOf (x y : Wi) : Nat → List Int
  | 0 => (x.e true).bs
  | 1 => (x.e false).bs
  | 2 => (y.e true).bs
  | _ => (y.e false).bs
def updL (s : Nat → List Int) (j : Nat) (v : List Int) : Nat → List Int := fun i => if i = j then v else s i
def strs4 (s : Nat → List Int) : Array Value := #[.string (strOfNums (s 0)), .string (strOfNums (s 1)), .string (strOfNums (s 2)), .string (strOfNums (s 3))]
theorem strs4_upd (s : Nat → List Int) {j : Nat} (hj : j < 4) (v : List Int) : (strs4 s).setIfInBounds j (.string (strOfNums v)) = strs4 (updL s j v) := by
  match j, hj with
  | 0, _ => rfl
  | 1, _ => rfl
  | 2, _ => rfl
  | 3, _ => rfl
theorem strs4_at (s : Nat → List Int) {j : Nat} (hj : j < 4) : (strs4 s)[j]? = some (.string (strOfNums (s j))) := by
  match j, hj with
  | 0, _ => rfl
  | 1, _ => rfl
  | 2, _ => rfl
  | 3, _ => rfl
/-- What was sent is what was got, and what the rings hold. -/
structure Flow (cap M : Nat) (x y : Wi) (s g : Nat → List Int) : Prop where
  nx : Nm cap 1 x
  ny : Nm cap 2 y
  r : ∀ j, j < 4 → s j = g j ++ ringOf x y j
  rl : ∀ j, j < 4 → (ringOf x y j).length ≤ cap
  len : ∀ j, j < 4 → (s j).length ≤ M
section
variable {cap M : Nat} {x y x' y' : Wi} {s g : Nat → List Int}
theorem Flow.sent (h : Flow cap M x y s g) (hx : Nm cap 1 x') (hy : Nm cap 2 y') {j : Nat} (hj : j < 4) (ds : List Int) (hd : ds.length ≤ 300) (h1 : ringOf x' y' j = ringOf x y j ++ ds) (h2 : (ringOf x y j).length ≤ cap → (ringOf x' y' j).length ≤ cap) (h3 : ∀ i, i < 4 → i ≠ j → ringOf x' y' i = ringOf x y i) :
    Flow cap (M + 300) x' y' (updL s j (s j ++ ds)) g := by
  refine ⟨hx, hy, fun i hi => ?_, fun i hi => ?_, fun i hi => ?_⟩
  · unfold updL
    split
    · rename_i e; subst e; rw [h1, h.r _ hj, List.append_assoc]
    · rename_i e; rw [h3 i hi e]; exact h.r i hi
  · by_cases e : i = j
    · subst e; exact h2 (h.rl _ hi)
    · rw [h3 i hi e]; exact h.rl i hi
  · unfold updL
    have := h.len i hi
    split
    · rename_i e; subst e; rw [List.length_append]; omega
    · omega
theorem Flow.got (h : Flow cap M x y s g) (hx : Nm cap 1 x') (hy : Nm cap 2 y') {j : Nat} (hj : j < 4) (ds : List Int) (h1 : ringOf x y j = ds ++ ringOf x' y' j) (h3 : ∀ i, i < 4 → i ≠ j → ringOf x' y' i = ringOf x y i) :
    Flow cap M x' y' s (updL g j (g j ++ ds)) := by
  refine ⟨hx, hy, fun i hi => ?_, fun i hi => ?_, h.len⟩
  · unfold updL
    split
    · rename_i e; subst e; rw [h.r _ hj, h1, List.append_assoc]
    · rename_i e; rw [h3 i hi e]; exact h.r i hi
  · by_cases e : i = j
    · subst e; have := h.rl _ hi; rw [h1, List.length_append] at this; omega
    · rw [h3 i hi e]; exact h.rl i hi
theorem Flow.more {M' : Nat} (h : Flow cap M x y s g) (hM : M ≤ M') : Flow cap M' x y s g := ⟨h.nx, h.ny, h.r, h.rl, fun j hj => Nat.le_trans (h.len j hj) hM⟩
theorem Flow.gl (h : Flow cap M x y s g) {j : Nat} (hj : j < 4) : (g j).length ≤ M := by have := h.len j hj; rw [h.r j hj, List.length_append] at this; omega
/-- A wire of the pair turned; the outer wire turned. -/
theorem ring_x {k : Bool} {j : Nat} (e : j = if k then 0 else 1) (y : Wi) (x : Wi) : ringOf x y j = (x.e k).bs := by subst e; cases k <;> rfl
theorem ring_y {k : Bool} {j : Nat} (e : j = if k then 2 else 3) (y : Wi) (x : Wi) : ringOf x y j = (y.e k).bs := by subst e; cases k <;> rfl
theorem ring_x' {k : Bool} {j : Nat} (e : j = if k then 0 else 1) (hn : (x'.e (!k)).bs = (x.e (!k)).bs) (y : Wi) : ∀ i, i < 4 → i ≠ j → ringOf x' y i = ringOf x y i := by
  subst e
  intro i hi hne
  match i, hi with
  | 0, _ => cases k with
    | true => exact absurd rfl hne
    | false => exact hn
  | 1, _ => cases k with
    | true => exact hn
    | false => exact absurd rfl hne
  | 2, _ => rfl
  | 3, _ => rfl
theorem ring_y' {k : Bool} {j : Nat} (e : j = if k then 2 else 3) (hn : (y'.e (!k)).bs = (y.e (!k)).bs) (x : Wi) : ∀ i, i < 4 → i ≠ j → ringOf x y' i = ringOf x y i := by
  subst e
  intro i hi hne
  match i, hi with
  | 0, _ => rfl
  | 1, _ => rfl
  | 2, _ => cases k with
    | true => exact absurd rfl hne
    | false => exact hn
  | 3, _ => cases k with
    | true => exact hn
    | false => exact absurd rfl hne
theorem Flow.sentX (h : Flow cap M x y s g) {k : Bool} {zs : List Int} {m : Nat} (hc : Came cap 1 x k zs m x') (hz : zs.length ≤ 300) {j : Nat} (hj : j < 4) (e : j = if k then 0 else 1) : Flow cap (M + 300) x' y (updL s j (s j ++ zs.take m)) g := by
  obtain ⟨c1, c2, c3, c4, c5⟩ := hc
  exact h.sent c1 h.ny hj _ (by rw [List.length_take]; omega) (by rw [ring_x e, ring_x e]; exact c3) (by rw [ring_x e, ring_x e]; exact c5) (ring_x' e c4 y)
theorem Flow.sentY (h : Flow cap M x y s g) {k : Bool} {zs : List Int} {m : Nat} (hc : Came cap 2 y k zs m y') (hz : zs.length ≤ 300) {j : Nat} (hj : j < 4) (e : j = if k then 2 else 3) : Flow cap (M + 300) x y' (updL s j (s j ++ zs.take m)) g := by
  obtain ⟨c1, c2, c3, c4, c5⟩ := hc
  exact h.sent h.nx c1 hj _ (by rw [List.length_take]; omega) (by rw [ring_y e, ring_y e]; exact c3) (by rw [ring_y e, ring_y e]; exact c5) (ring_y' e c4 x)
theorem Flow.gotX (h : Flow cap M x y s g) {k : Bool} {ds : List Int} (hc : Went cap 1 x k ds x') {j : Nat} (hj : j < 4) (e : j = if k then 0 else 1) : Flow cap M x' y s (updL g j (g j ++ ds)) := by
  obtain ⟨c1, c2, c3⟩ := hc
  exact h.got c1 h.ny hj _ (by rw [ring_x e, ring_x e]; exact c2) (ring_x' e c3 y)
theorem Flow.gotY (h : Flow cap M x y s g) {k : Bool} {ds : List Int} (hc : Went cap 2 y k ds y') {j : Nat} (hj : j < 4) (e : j = if k then 2 else 3) : Flow cap M x y' s (updL g j (g j ++ ds)) := by
  obtain ⟨c1, c2, c3⟩ := hc
  exact h.got h.nx c1 hj _ (by rw [ring_y e, ring_y e]; exact c2) (ring_y' e c3 x)
/-- The first of two is its bytes' front. -/
theorem strs_front (a b : List Int) : (strOfNums (a ++ b)).extract 0 (strOfNums a).size = strOfNums a := by
  rw [← strs_append]
  exact ByteArray.extract_append_eq_left rfl
end

/-- The law's state: the world, and the two blocks of strings. -/
structure BySt (w : World) (p b1 b2 cap N M : Nat) (x y : Wi) (s g : Nat → List Int) (wr : World) : Prop where
  od : Od w.heap.size w p (S2 x y) N (fun b => b = b1 ∨ b = b2) wr
  h1 : w.heap.size ≤ b1
  h2 : w.heap.size ≤ b2
  ne : b1 ≠ b2
  sb : Blk wr b1 30 (strs4 s)
  gb : Blk wr b2 30 (strs4 g)
  fl : Flow cap M x y s g
section
variable {w wr w' : World} {p b1 b2 cap N M : Nat} {x y x' y' : Wi} {s g : Nat → List Int}
theorem BySt.kept {N' : Nat} (h : BySt w p b1 b2 cap N M x y s g wr) (O : Od w.heap.size w p (S2 x' y') N' (fun b => b = b1 ∨ b = b2) w') (e1 : w'.heap[b1]? = wr.heap[b1]?) (e2 : w'.heap[b2]? = wr.heap[b2]?) {M' : Nat} {s' g' : Nat → List Int} (hf : Flow cap M' x' y' s' g') (hs : s' = s) (hg : g' = g) : BySt w p b1 b2 cap N' M' x' y' s' g' w' := by
  subst hs hg
  exact ⟨O, h.h1, h.h2, h.ne, h.sb.same e1, h.gb.same e2, hf⟩
end
end Go.Proofs.Ytjejpgognfadoaa
