/-
  The reference's queues: how many priorities, and one slice of items in the order in which they came; where a number is; a cut.
-/
import Derived.Test.YtlkmmbondelheaaCmRow
import Derived.Test.YtlkmmbondelheaaPrKeep
namespace Go.Proofs.Ytlkmmbondelheaa
open Go.RowKit Go.Maps Go.ChangeMaps Go.Shelf

/-- The reference's items. -/
def RI : RowK Try.prog It where
  e := 48
  s := 27
  n := 4
  bytes := 32
  zero := .agg #[.int .i64 0, .int .i64 0, .int .i64 0, .int .i64 0]
  enc := fun x => [.int .i64 x.id, .int .i64 x.fl, .int .i64 x.ct, .int .i64 (x.pr : Int)]
  pos := by decide
  by_ := by decide
  len := fun _ => rfl
  one := fun x u hu => by
    simp at hu
    rcases hu with rfl | rfl | rfl | rfl <;> rfl
  und := Try.underlying27
  info := by kernel_rfl
  zs := rfl
theorem ri_cells {w : World} {g off : Nat} {L : List It} (h : RI.lies w g off L) {i : Nat} {x : It} (hx : L[i]? = some x) :
    w.cell? ⟨g, off + i * 4, none⟩ = some (.int .i64 x.id) ∧ w.cell? ⟨g, off + i * 4 + 1, none⟩ = some (.int .i64 x.fl) ∧ w.cell? ⟨g, off + i * 4 + 2, none⟩ = some (.int .i64 x.ct) ∧ w.cell? ⟨g, off + i * 4 + 3, none⟩ = some (.int .i64 (x.pr : Int)) :=
  ⟨h i x hx 0 (by decide), h i x hx 1 (by decide), h i x hx 2 (by decide), h i x hx 3 (by decide)⟩
theorem ri_cells0 {w : World} {g : Nat} {L : List It} (h : RI.lies w g 0 L) {i : Nat} {x : It} (hx : L[i]? = some x) :
    w.cell? ⟨g, i * 4, none⟩ = some (.int .i64 x.id) ∧ w.cell? ⟨g, i * 4 + 1, none⟩ = some (.int .i64 x.fl) ∧ w.cell? ⟨g, i * 4 + 2, none⟩ = some (.int .i64 x.ct) ∧ w.cell? ⟨g, i * 4 + 3, none⟩ = some (.int .i64 (x.pr : Int)) := by
  have := ri_cells h hx
  simpa using this

/-- What a call turns: the queues' own block, and the row is the old one or a new one. -/
def RM (w w' : World) (r : Nat) (v v' : Value) : Prop := Kept (fun k => k = r ∨ v.ownBlock = some k) w w' ∧ (v' = v ∨ ∀ k, v'.ownBlock = some k → v.ownBlock = some k ∨ w.heap.size ≤ k)
theorem RM.of_below {a b : World} {r : Nat} {v : Value} (h : Below a.heap.size a b) : RM a b r v v := ⟨Kept.of_below h, .inl rfl⟩
theorem RM.own {a b : World} {r : Nat} {v v' : Value} (h : RM a b r v v') {k : Nat} (hk : v'.ownBlock = some k) : v.ownBlock = some k ∨ a.heap.size ≤ k := by
  rcases h.2 with rfl | e
  · exact .inl hk
  · exact e k hk
theorem RM.trans {a b c : World} {r : Nat} {v v' v'' : Value} (h : RM a b r v v') (k : RM b c r v' v'') : RM a c r v v'' := by
  refine ⟨h.1.andThen k.1 (fun i hi e => ?_), .inr fun i hi => ?_⟩
  · rcases e with e | e
    · exact .inl e
    · rcases h.own e with e2 | e2
      · exact .inr e2
      · omega
  · rcases k.own hi with e | e
    · exact h.own e
    · exact .inr (Nat.le_trans h.1.size e)

/-- The reference's queues. -/
structure Rf (w : World) (B r many : Nat) (v : Value) (L : List It) : Prop where
  blk : Blk w r 29 #[.int .i64 (many : Int), v]
  row : RI.own w B v L
  ne : v.ownBlock ≠ some r
  hB : B ≤ r
section
variable {w w' : World} {B r many : Nat} {v : Value} {L : List It}
theorem Rf.same (R : Rf w B r many v L) (e : ∀ k, (k = r ∨ v.ownBlock = some k) → w'.heap[k]? = w.heap[k]?) : Rf w' B r many v L :=
  ⟨R.blk.same (e r (.inl rfl)), RowK.own_same R.row fun k h => e k (.inr h), R.ne, R.hB⟩
theorem Rf.lt (R : Rf w B r many v L) {k : Nat} (h : k = r ∨ v.ownBlock = some k) : k < w.heap.size ∧ B ≤ k := by
  rcases h with rfl | h
  · exact ⟨R.blk.lt, R.hB⟩
  · exact RowK.own_lt R.row h
theorem Rf.kept (R : Rf w B r many v L) {F : Nat → Prop} (k : Kept F w w') (hf : ∀ i, (i = r ∨ v.ownBlock = some i) → ¬ F i) : Rf w' B r many v L :=
  R.same fun i h => k.block i (R.lt h).1 (hf i h)
theorem Rf.below (R : Rf w B r many v L) (hb : Below w.heap.size w w') : Rf w' B r many v L := R.same fun i h => hb.block i (R.lt h).1
theorem Rf.drew (R : Rf w B r many v L) : Rf w.drew B r many v L := R.same fun _ _ => rfl
theorem Rf.alloc (R : Rf w B r many v L) (o : Obj) : Rf (w.alloc o) B r many v L := R.below ((Below.refl _ w).alloc (Nat.le_refl _) _)
/-- Laid anew. -/
theorem Rf.store {w3 : World} {u : Value} {L' : List It} (R : Rf w B r many v L) (hb : Below w.heap.size w w3) (O : RI.own w3 w.heap.size u L') : Rf (w3.setCell ⟨r, 1, none⟩ u) B r many u L' ∧ RM w (w3.setCell ⟨r, 1, none⟩ u) r v u := by
  have hr := R.blk.lt
  have hne : u.ownBlock ≠ some r := fun e => by have := (RowK.own_lt O e).2; omega
  have b3 : Blk w3 r 29 #[.int .i64 (many : Int), v] := R.blk.same (hb.block r hr)
  have k : Kept (fun k => k = r ∨ v.ownBlock = some k) w (w3.setCell ⟨r, 1, none⟩ u) := Kept.setCell (Kept.of_below hb) (p := ⟨r, 1, none⟩) (.inl rfl) u
  exact ⟨⟨by simpa using b3.set_ 1 u, RowK.own_more (RowK.own_same O (fun i e => Below.heap_setCell _ _ _ _ (fun (e2 : i = r) => hne (by rw [← e2]; exact e)))) (Nat.le_trans R.hB (Nat.le_of_lt hr)), hne, R.hB⟩, k, .inr fun i e => .inr (RowK.own_lt O e).2⟩
/-- Laid anew behind an append to its own row. -/
theorem Rf.grown {w3 : World} {u : Value} {L' : List It} (R : Rf w B r many v L) (hg : w.grownBy w3 v.ownBlock) (hu : u.ownBlock = v.ownBlock ∨ u.ownBlock = some w.heap.size) (O : RI.own w3 B u L') : Rf (w3.setCell ⟨r, 1, none⟩ u) B r many u L' ∧ RM w (w3.setCell ⟨r, 1, none⟩ u) r v u := by
  have hr := R.blk.lt
  have hk : Kept (fun k => k = r ∨ v.ownBlock = some k) w w3 := (Kept.refl _ w).grown hg (fun k e _ => .inr e)
  have hne : u.ownBlock ≠ some r := fun e => by
    rcases hu with h | h
    · exact R.ne (h ▸ e)
    · rw [h] at e; cases e; exact absurd hr (Nat.lt_irrefl _)
  have b3 : Blk w3 r 29 #[.int .i64 (many : Int), v] := R.blk.same (hg.block r hr (fun e => R.ne e.symm))
  have k : Kept (fun k => k = r ∨ v.ownBlock = some k) w (w3.setCell ⟨r, 1, none⟩ u) := hk.setCell (p := ⟨r, 1, none⟩) (.inl rfl) u
  refine ⟨⟨by simpa using b3.set_ 1 u, RowK.own_same O (fun i e => Below.heap_setCell _ _ _ _ (fun (e2 : i = r) => hne (by rw [← e2]; exact e))), hne, R.hB⟩, k, .inr fun i e => ?_⟩
  rcases hu with h | h
  · exact .inl (h ▸ e)
  · rw [h] at e; cases e; exact .inr (Nat.le_refl _)
end

/-- Where a number is. -/
theorem rfind_some {w : World} {B r many : Nat} {v : Value} {L : List It} (R : Rf w B r many v L) (hlen : L.length ≤ 1000) (hu : (L.map (·.id)).Nodup) {j : Nat} {x : It} (hx : L[j]? = some x) : Calls Try.prog 33 #[.pointer (some ⟨r, 0, none⟩), .int .i64 x.id] w fun e w' => e = .returned (.int .i64 (j : Int)) ∧ w = w' := by
  have hjl := (List.getElem?_eq_some_iff.1 hx).1
  rcases RowK.own_form R.row with ⟨_, rfl⟩ | ⟨g, c, rfl, hc, hg, _, hl⟩
  · simp at hjl
  have c1 := R.blk.cell 1
  have rl := R.blk.lt
  simp at c1
  have HR := Lib.hid (And.intro hl (And.intro hu hx))
  clear hl hx hu R
  go_enter Try.func33, Try.ntmps33
  go_wp2_with fail
  go_loop [5] (fun i => ∃ k : Nat, i = .int .i64 (k : Int) ∧ k ≤ j) (fun i => L.length - (intOf i).toNat)
  case atStart => exact ⟨0, rfl, Nat.zero_le _⟩
  case round =>
    obtain ⟨k, rfl, hk⟩ := hrel
    have b0 : (0 : Int) ≤ (k : Int) := by omega
    have b1 : (k : Int) < (L.length : Int) := by omega
    have hy := List.getElem?_eq_getElem (l := L) (i := k) (by omega)
    obtain ⟨y, ey⟩ : ∃ y, y = L[k]'(by omega) := ⟨_, rfl⟩
    rw [← ey] at hy
    obtain ⟨y0, y1, y2, y3⟩ := ri_cells0 HR.out.1 hy
    by_cases hkj : k = j
    · subst hkj
      have e : y = x := by have := HR.out.2.2; rw [this] at hy; cases hy; rfl
      have ee : (y.id == x.id) = true := by rw [e]; simp
      rw [e] at y0
      clear hy ey y1 y2 y3 e ee
      go_wp2_with fail
      go_ret
      exact ⟨rfl, rfl⟩
    · have ne : (y.id == x.id) = false := by
        have h1 := HR.out.2.1
        have h2 : (L.map (·.id))[k]? = some y.id := by rw [List.getElem?_map, hy]; rfl
        have h3 : (L.map (·.id))[j]? = some x.id := by rw [List.getElem?_map, HR.out.2.2]; rfl
        simp only [beq_eq_false_iff_ne]
        intro e
        rw [e, ← h3] at h2
        exact hkj ((List.getElem?_inj (by simpa using (by omega : k < L.length)) h1).1 h2)
      have hkl : k < j := by omega
      clear hy ey y1 y2 y3 hkj
      go_wp2_with fail
      go_round
      case rel => exact ⟨k + 1, by go_num, by omega⟩
      case measure => simp [intOf]; omega
theorem rfind_no {w : World} {B r many : Nat} {v : Value} {L : List It} (R : Rf w B r many v L) (hlen : L.length ≤ 1000) {id : Int} (hid : hasI L id = false) : Calls Try.prog 33 #[.pointer (some ⟨r, 0, none⟩), .int .i64 id] w fun e w' => e = .returned (.int .i64 (-1)) ∧ w = w' := by
  obtain ⟨A, c, hv, hs, -⟩ := RowK.own_shows R.row
  have hf := RowK.own_form R.row
  subst hv
  have c1 := R.blk.cell 1
  have rl := R.blk.lt
  simp at c1
  have HR := Lib.hid (And.intro hf hid)
  clear hs hid R hf
  go_enter Try.func33, Try.ntmps33
  go_wp2_with fail
  go_loop [5] (fun i => ∃ k : Nat, i = .int .i64 (k : Int) ∧ k ≤ L.length) (fun i => L.length - (intOf i).toNat)
  case atStart => exact ⟨0, rfl, Nat.zero_le _⟩
  case round =>
    obtain ⟨k, rfl, hk⟩ := hrel
    by_cases hlt : k < L.length
    · rcases HR.out.1 with ⟨_, rfl⟩ | ⟨g, c', e, hc, hg, _, hl⟩
      · simp at hlt
      injection e with e1 e2 e3
      subst e1
      have b0 : (0 : Int) ≤ (k : Int) := by omega
      have b1 : (k : Int) < (L.length : Int) := by omega
      have hy := List.getElem?_eq_getElem hlt
      obtain ⟨y, ey⟩ : ∃ y, y = L[k] := ⟨_, rfl⟩
      rw [← ey] at hy
      obtain ⟨y0, y1, y2, y3⟩ := ri_cells0 hl hy
      have ne : (y.id == id) = false := by simpa using hasI_false.1 HR.out.2 y (List.mem_of_getElem? hy)
      clear hy ey y1 y2 y3 hl e2 e3
      go_wp2_with fail
      go_round
      case rel => exact ⟨k + 1, by go_num, by omega⟩
      case measure => simp [intOf]; omega
    · obtain rfl : k = L.length := by omega
      go_wp2_with fail
      go_ret
      exact ⟨rfl, rfl⟩

theorem rnew_yes (w : World) (many : Nat) (h1 : 1 ≤ many) (h8 : many ≤ 8) : Calls Try.prog 9 #[.int .i64 (many : Int)] w fun e w' =>
    e = .returned (.tuple #[.agg #[.int .i64 (many : Int), .slice none 0 0], .int .i64 0]) ∧ Below w.heap.size w w' := by
  have b1 : (1 : Int) ≤ (many : Int) := by omega
  have b2 : (many : Int) ≤ 8 := by omega
  go_enter Try.func9, Try.ntmps9
  go_wp2_with fail
  exact bodyPost_ret (v := .tuple #[.agg #[.int .i64 (many : Int), .slice none 0 0], .int .i64 0]) (by simp [results, Try.results9, go_sem]) rfl ⟨rfl, (Below.refl _ _).alloc (Nat.le_refl _) _⟩
theorem rnew_no (w : World) (many : Int) (h : many < 1 ∨ 8 < many) : Calls Try.prog 9 #[.int .i64 many] w fun e w' =>
    e = .returned (.tuple #[.agg #[.int .i64 0, .slice none 0 0], .int .i64 2]) ∧ Below w.heap.size w w' := by
  by_cases h1 : many < 1
  · clear h
    go_enter Try.func9, Try.ntmps9
    go_wp2_with fail
    exact bodyPost_ret (v := .tuple #[.agg #[.int .i64 0, .slice none 0 0], .int .i64 2]) (by simp [results, Try.results9, go_sem]) rfl ⟨rfl, (Below.refl _ _).alloc (Nat.le_refl _) _⟩
  · have h2 : 8 < many := by omega
    clear h
    go_enter Try.func9, Try.ntmps9
    go_wp2_with fail
    exact bodyPost_ret (v := .tuple #[.agg #[.int .i64 0, .slice none 0 0], .int .i64 2]) (by simp [results, Try.results9, go_sem]) rfl ⟨rfl, (Below.refl _ _).alloc (Nat.le_refl _) _⟩
end Go.Proofs.Ytlkmmbondelheaa
