/-
  A line's reader, in memory: its rows as a step's; what stands between two words.
-/
import Derived.Test.YtlephnfepofbbaaGreatDoorMvOrdM
namespace Go.Proofs.YtlephnfepofbbaaGreatDoor
open Go.RowKit Go.Shelf Go.Maps Go.ChangeMaps

theorem sh_own {W : World} {B : Nat} {e : TypeId} {size : Nat} {v : Value} {n : Nat} {zs : List Value} (h : W.ownsRow B e size v n zs) : Sh (Lt W.heap.size) W v n zs := by
  have h0 := h
  rcases h.2 with ⟨rfl, hn⟩ | ⟨g, cap, cur, rfl, hb, hg, hc, hm, hs, ht⟩
  · exact ⟨none, 0, by rw [hn], by omega, by omega, fun _ => rfl, fun h => by omega⟩
  · have hlt := (Array.getElem?_eq_some_iff.1 hg).1
    refine ⟨_, cap, rfl, hc, by unfold maxLen at hm; omega, (fun e => by cases e), fun _ => ⟨g, 0, rfl, hlt, hlt, fun j u hu => ?_⟩⟩
    have hj : j < n * size := by
      have := (List.getElem?_eq_some_iff.1 hu).1
      rw [h0.1] at this; exact this
    rw [Nat.zero_add, World.ownsRow.cellAt h0 _ hj, hu]
theorem ri_all (l : List Int) : RIn.all l = l.map (Value.int .i64) := by
  unfold RowK.all
  induction l with
  | nil => rfl
  | cons z l ih => rw [List.flatMap_cons, ih]; rfl
theorem rm_all (ps : List Ms) : RM.all ps = (ps.map fun p => (p.m, p.v)).flatMap encM := by
  unfold RowK.all
  induction ps with
  | nil => rfl
  | cons p ps ih => rw [List.flatMap_cons, ih]; rfl
theorem Rws.step {N : Nat} {ov mvv dv : Value} {x : St} {b : List UInt8} {W : World} (h : Rws N ov mvv dv x.ord x.mv b W) : StepV (Lt W.heap.size) W ov mvv x := by
  obtain ⟨h1, ⟨ps, e, h2, h3⟩, _⟩ := h
  refine ⟨?_, ps.map fun p => (p.m, p.v), ?_, ?_, fun q hq => ?_⟩
  · have := sh_own h1
    rw [ri_all] at this; exact this
  · rw [← e, List.map_map]; rfl
  · have := sh_own h2
    rw [rm_all] at this
    rw [List.length_map]; exact this
  · obtain ⟨p, hp, rfl⟩ := List.mem_map.1 hq
    exact sh_own (h3 p hp)

/-- A reader's lists are short. -/
def LenI (r : Rd) : Prop := r.st.ord.length ≤ 50 ∧ r.st.mv.length ≤ 50
theorem ordP_len : ∀ (ps : List (List UInt8)) (acc l : List Int), ordP ps acc = some l → acc.length ≤ 50 → l.length ≤ 50
  | [], acc, l, h, ha => by
    have : acc = l := by simpa [ordP] using h
    rw [← this]; exact ha
  | p :: ps, acc, l, h, ha => by
    unfold ordP at h
    split at h
    · split at h
      · cases h
      · exact ordP_len ps _ l h (by simp; omega)
    · cases h
theorem fromR_len {next : Nat} {st : St} {mv : Mo} {r : Rd} (h : fromR next st mv = some r) (h1 : st.ord.length ≤ 50) (h2 : st.mv.length ≤ 50) : LenI r := by
  unfold fromR at h
  split at h
  · cases h; exact ⟨h1, h2⟩
  · split at h
    · cases h; exact ⟨h1, h2⟩
    · split at h
      · cases h; exact ⟨h1, h2⟩
      · split at h
        · cases h
        · cases h; exact ⟨h1, by simp; omega⟩
theorem rdW_len {r r' : Rd} {w : List UInt8} (hL : LenI r) (h : rdW r w = some r') : LenI r' := by
  obtain ⟨h1, h2⟩ := hL
  unfold rdW at h
  split at h
  · split at h
    · cases h; exact ⟨h1, h2⟩
    · cases h
  · split at h
    · split at h
      · cases h; exact ⟨h1, h2⟩
      · cases h
    · split at h
      · split at h
        · rename_i l hl
          cases h; exact ⟨ordP_len _ _ _ hl h1, h2⟩
        · cases h
      · split at h
        · split at h
          · exact fromR_len h h1 h2
          · cases h
        · split at h
          · split at h
            · exact fromR_len h h1 h2
            · cases h
          · split at h
            · split at h
              · exact fromR_len h h1 h2
              · cases h
            · unfold partR at h
              split at h
              · cases h; exact ⟨h1, h2⟩
              · split at h
                · cases h; exact ⟨h1, h2⟩
                · split at h
                  · exact fromR_len h h1 h2
                  · cases h
theorem rdAll_snoc {l : List (List UInt8)} {x : List UInt8} {r : Rd} (h : ∀ rest, rdAll (l ++ rest) rd0 = rdAll rest r) (rest : List (List UInt8)) : rdAll ((l ++ [x]) ++ rest) rd0 = (match rdW r x with | some r' => rdAll rest r' | none => none) := by
  rw [List.append_assoc, h]; rfl

/-- Between two words: the reader's block g, the result's h. -/
def LnI (N g h : Nat) (w : World) (pre : List Piece) (W : World) : Prop :=
  ((∃ r, (∀ rest, rdAll (lstOf pre ++ rest) rd0 = rdAll rest r) ∧ RdI r ∧ LenI r ∧ Rdm N g r.next r.st r.mv W) ∨ ((∀ rest, rdAll (lstOf pre ++ rest) rd0 = none) ∧ ∃ cs, Blk W g 127 cs ∧ cs.size = 9 ∧ cs[0]? = some (.int .i64 9))) ∧
  Blk W h 36 #[.int .u64 0, .bool false, .slice none 0 0, .slice none 0 0] ∧ Below g w W
theorem Rws.put {N : Nat} {ov mvv dv : Value} {ord : List Int} {ms : List Mo} {b : List UInt8} {W W' : World} (h : Rws N ov mvv dv ord ms b W) {row : Option Nat} (hg : W.grownBy W' row) (hr : ∀ r, row = some r → ∃ o : Obj, W.heap[r]? = some o ∧ o.isCells = false) : Rws N ov mvv dv ord ms b W' :=
  ((h.toD (D := fun _ => True) (fun _ _ _ => trivial)).put hg hr).toR
theorem rdm_put {N g nx : Nat} {st : St} {mv : Mo} {W W' : World} (h : Rdm N g nx st mv W) {row : Option Nat} (hg : W.grownBy W' row) (hr : ∀ r, row = some r → ∃ o : Obj, W.heap[r]? = some o ∧ o.isCells = false) : Rdm N g nx st mv W' := by
  obtain ⟨ov, mvv, dv, h1, h2⟩ := h
  exact ⟨ov, mvv, dv, blk_put h1 hg hr, h2.put hg hr⟩
theorem lnI_own (N g h H : Nat) (w : World) (hg0 : g ≤ w.heap.size) (hw : w.heap.size ≤ H) : OwnFrom H (LnI N g h w) := fun s A B row hs hg hr => by
  obtain ⟨h1, h2, h3⟩ := hs
  have hr2 := fun r e => (hr r e).2
  refine ⟨?_, blk_put h2 hg hr2, h3.grown hg (Nat.le_trans hg0 h3.size) (fun k e => Nat.le_trans (Nat.le_trans hg0 hw) (hr k e).1)⟩
  rcases h1 with ⟨r, a, b, c, d⟩ | ⟨a, cs, b, c, d⟩
  · exact .inl ⟨r, a, b, c, rdm_put d hg hr2⟩
  · exact .inr ⟨a, cs, blk_put b hg hr2, c, d⟩
theorem Rdm.set {N g nx : Nat} {st : St} {mv : Mo} {W : World} (h : Rdm N g nx st mv W) (hg : g < N) (nx' : Nat) : Rdm N g nx' st mv (W.setCell ⟨g, 0, none⟩ (.int .i64 (nx' : Int))) := by
  obtain ⟨ov, mvv, dv, h1, h2⟩ := h
  exact ⟨ov, mvv, dv, by simpa using h1.set_ 0 (.int .i64 (nx' : Int)), h2.set hg _ _⟩
theorem Rdm.far {N g nx q : Nat} {st : St} {mv : Mo} {W : World} (h : Rdm N g nx st mv W) (hq : q < N) (hg : g ≠ q) (i : Nat) (v : Value) : Rdm N g nx st mv (W.setCell ⟨q, i, none⟩ v) := by
  obtain ⟨ov, mvv, dv, h1, h2⟩ := h
  exact ⟨ov, mvv, dv, h1.far (by exact hg) v, h2.set hq _ _⟩
/-- Where the loop has been left. -/
def LnX (N g h : Nat) (w : World) (c : Code) (pre : List Piece) (W : World) : Prop :=
  c = .exit 0 ∧ (∀ rest, rdAll (lstOf pre ++ rest) rd0 = none) ∧ (∃ cs, Blk W g 127 cs ∧ cs.size = 9 ∧ cs[0]? = some (.int .i64 9)) ∧
  Blk W h 36 #[.int .u64 0, .bool false, .slice none 0 0, .slice none 0 0] ∧ Below g w W
theorem lnX_own (N g h H : Nat) (w : World) (hg0 : g ≤ w.heap.size) (hw : w.heap.size ≤ H) (c : Code) : OwnFrom H (LnX N g h w c) := fun s A B row hs hg hr => by
  obtain ⟨h0, h1, ⟨cs, b, c', d⟩, h2, h3⟩ := hs
  have hr2 := fun r e => (hr r e).2
  exact ⟨h0, h1, ⟨cs, blk_put b hg hr2, c', d⟩, blk_put h2 hg hr2, h3.grown hg (Nat.le_trans hg0 h3.size) (fun k e => Nat.le_trans (Nat.le_trans hg0 hw) (hr k e).1)⟩
theorem Fs.kp3 {N g : Nat} {A B : World} (h : Fs N g A B) {B1 B2 B3 : Nat} (h1 : B1 < N ∧ B1 ≠ g) (h2 : B2 < N ∧ B2 ≠ g) (h3 : B3 < N ∧ B3 ≠ g) : Kp3 B1 B2 B3 A B := fun k hk o ho => by
  have hlt := (Array.getElem?_eq_some_iff.1 ho).1
  have : k < N ∧ k ≠ g := by rcases hk with rfl | rfl | rfl <;> assumption
  rw [h.at_ this.1 this.2 hlt]; exact ho
/-- A word that has been read. -/
theorem ln_some {N g h nx B1 B2 B3 : Nat} {w W w1 : World} {pre : List Piece} {x : Piece} {r r' : Rd} (hg : g < N) (hh : h < N ∧ h ≠ g) (h1 : B1 < N ∧ B1 ≠ g) (h2 : B2 < N ∧ B2 ≠ g) (h3 : B3 < N ∧ B3 ≠ g)
    (hr : ∀ rest, rdAll (lstOf pre ++ rest) rd0 = rdAll rest r) (hI : RdI r) (hL : LenI r) (ho : rdW r x.1.data.toList = some r')
    (hb : Blk W h 36 #[.int .u64 0, .bool false, .slice none 0 0, .slice none 0 0]) (hF : Below g w W) (hgw : g ≤ w.heap.size) (hgN : g ≤ N) (f : Fs N g W w1) (hm : Rdm N g nx r'.st r'.mv w1) :
    KeepsOthers W (w1.setCell ⟨g, 0, none⟩ (.int .i64 (r'.next : Int))) ∧ Kp3 B1 B2 B3 W (w1.setCell ⟨g, 0, none⟩ (.int .i64 (r'.next : Int))) ∧ LnI N g h w (pre ++ [x]) (w1.setCell ⟨g, 0, none⟩ (.int .i64 (r'.next : Int))) := by
  have f2 := f.trans (Fs.set (N := N) (g := g) w1 0 (.int .i64 (r'.next : Int)))
  refine ⟨f2.o, f2.kp3 h1 h2 h3, .inl ⟨r', fun rest => ?_, (rdW_some hI ho).1, rdW_len hL ho, hm.set hg _⟩, hb.same (f2.at_ hh.1 hh.2 hb.lt), hF.trans (f2.below hgN (Nat.le_trans hgw hF.size))⟩
  rw [lstOf_snoc, rdAll_snoc hr, ho]
/-- A word that is wrong. -/
theorem ln_none {N g h B1 B2 B3 : Nat} {w W w1 : World} {pre : List Piece} {x : Piece} {r : Rd} (hh : h < N ∧ h ≠ g) (h1 : B1 < N ∧ B1 ≠ g) (h2 : B2 < N ∧ B2 ≠ g) (h3 : B3 < N ∧ B3 ≠ g)
    (hr : ∀ rest, rdAll (lstOf pre ++ rest) rd0 = rdAll rest r) (ho : rdW r x.1.data.toList = none)
    (hb : Blk W h 36 #[.int .u64 0, .bool false, .slice none 0 0, .slice none 0 0]) (hF : Below g w W) (hgw : g ≤ w.heap.size) (hgN : g ≤ N) (f : Fs N g W w1) (hm : Rdx g w1) :
    KeepsOthers W (w1.setCell ⟨g, 0, none⟩ (.int .i64 9)) ∧ Kp3 B1 B2 B3 W (w1.setCell ⟨g, 0, none⟩ (.int .i64 9)) ∧ LnI N g h w (pre ++ [x]) (w1.setCell ⟨g, 0, none⟩ (.int .i64 9)) := by
  have f2 := f.trans (Fs.set (N := N) (g := g) w1 0 (.int .i64 9))
  obtain ⟨cs, c1, c2⟩ := hm
  refine ⟨f2.o, f2.kp3 h1 h2 h3, .inr ⟨fun rest => ?_, _, c1.set_ 0 (.int .i64 9), by simp [c2], by simp [c2]⟩, hb.same (f2.at_ hh.1 hh.2 hb.lt), hF.trans (f2.below hgN (Nat.le_trans hgw hF.size))⟩
  rw [lstOf_snoc, rdAll_snoc hr, ho]
theorem Rws.more {N B : Nat} {ov mvv dv : Value} {ord : List Int} {ms : List Mo} {b : List UInt8} {W : World} (h : Rws N ov mvv dv ord ms b W) (hB : B ≤ N) : Rws B ov mvv (.slice none 0 0) ord ms [] W := by
  obtain ⟨h1, ⟨ps, e, h2, h3⟩, _⟩ := h
  exact ⟨RowK.own_more h1 hB, ⟨ps, e, RowK.own_more h2 hB, fun p hp => row_own_more (h3 p hp) hB⟩, OwB.nil _ _⟩
end Go.Proofs.YtlephnfepofbbaaGreatDoor
