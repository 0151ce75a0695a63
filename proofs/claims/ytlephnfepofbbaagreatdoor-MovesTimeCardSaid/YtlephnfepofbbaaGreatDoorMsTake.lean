/-
  A script's first step is taken.
-/
import Derived.Test.YtlephnfepofbbaaGreatDoorMsPass
import Derived.Handy
namespace Go.Proofs.YtlephnfepofbbaaGreatDoor
open Go.RowKit Go.Shelf Go.Maps Go.ChangeMaps

theorem cut1_steps (g off n c : Nat) (h : n + 1 ≤ c) (hc : c ≤ 9223372036854775807) : ∃ A', (∀ W, (Instr.slice 37 (.slice (some ⟨g, off, none⟩) (n + 1) c) (some (.int .i64 1)) none none).run Tryz.prog W = .ok (.slice A' n (c - 1)) W) ∧ (0 < n → A' = some ⟨g, off + 4, none⟩) ∧ A' ≠ none := by
  by_cases h1 : c = 1
  · subst h1
    obtain rfl : n = 0 := by omega
    refine ⟨some ⟨g, off, none⟩, fun W => ?_, fun h => by omega, by simp⟩
    go_simp
  · refine ⟨some ⟨g, off + 4, none⟩, fun W => ?_, fun _ => rfl, by simp⟩
    have a1 : (1 : Int) ≤ (n : Int) + 1 := by omega
    have a2 : ((n : Int) + 1) ≤ (c : Int) := by omega
    have a3 : ¬ c = 1 := h1
    have a4 : ¬ (c : Int) = 1 := by omega
    go_simp
/-- What a take leaves. -/
theorem Sk.took {D : Nat → Prop} {kb : Nat} {W W' : World} {r : List St} {ord : List Int} {g off c : Nat} {cs : Array Value} {A A' : Option Addr} {a : Nat} {mvv : Value} {ms : List Mo} {ps : List Ss} (h4 : D kb) (h5 : D g) (hne : kb ≠ g) (hk : Kept (fun j => j = g ∨ j = kb) W W') (hl : ∀ b, D b → b < W.heap.size)
    (k1 : Blk W kb 86 cs) {cs0 : Array Value} (k2 : Blk W g 36 cs0) (e1 : Blk W' kb 86 #[.slice A' r.length (c - 1), .slice A ord.length a]) {cs' : Array Value} (e2 : Blk W' g 36 cs') (e3 : RT.lies W' g (off + 4) ps)
    (h2 : r.length + 1 ≤ c) (h3 : c ≤ 9223372036854775807) (hA : 0 < r.length → A' = some ⟨g, off + 4, none⟩) (hA0 : A' ≠ none) (h7 : ps.map Ss.x = r)
    (h8 : RwsD 0 D (.slice A ord.length a) mvv (.slice none 0 0) ord ms [] W) (h10 : ∀ p ∈ ps, RwsD 0 D p.o p.m (.slice none 0 0) p.x.ord p.x.mv [] W) : Sk D kb W' r ord := by
  have keep : ∀ i t cs fz, D i → Kd t → W.heap[i]? = some (.cells cs t fz) → W'.heap[i]? = W.heap[i]? := fun i t cs fz hi ht hc => hk.block i (hl i hi) (fun e => by
    rcases e with rfl | rfl
    · exact notKd.1 (kind_ne k2 hc ▸ ht)
    · exact notKd.2 (kind_ne k1 hc ▸ ht))
  have hlen : ps.length = r.length := by rw [← h7, List.length_map]
  have h8' := h8.keep keep
  exact ⟨_, _, ps, e1, h4, ⟨⟨A', c - 1, by rw [hlen], by omega, by omega, fun e => absurd e hA0, fun h0 => ⟨g, off + 4, cs', hA (by omega), h5, e2, e3⟩⟩, fun p hp => (h10 p hp).keep keep⟩, h7, h8'.ord, h8'.od⟩
/-- The world when a step's cells were read and cleared. -/
def tkW (w : World) (kb g off c : Nat) (A' A : Option Addr) (r n a : Nat) : World := (((((w.setCell ⟨g, off, none⟩ (.int .u64 0)).setCell ⟨g, off + 1, none⟩ (.bool false)).setCell ⟨g, off + 2, none⟩ (.slice none 0 0)).setCell ⟨g, off + 3, none⟩ (.slice none 0 0)).setCell ⟨kb, 0, none⟩ (.slice A' r (c - 1))).setCell ⟨kb, 1, none⟩ (.slice A n a)
theorem take_world {B0 : Nat} {W0 : World} {p : Nat} {S : Ws} {N : Nat} {D D2 : Nat → Prop} {kb g off c a : Nat} {w : World} {x : St} {r : List St} {ov : Value} {A A' : Option Addr} {B : Option Addr} {b : Nat} {cs : Array Value} {ps : List Ss} (ho : Od B0 W0 p S N D2 w) (hD : ∀ b, D b → D2 b) (hB : ∀ b, D b → B0 ≤ b)
    (hb : Blk w kb 86 #[.slice (some ⟨g, off, none⟩) (r.length + 1) c, ov]) (q1 : r.length + 1 ≤ c) (q2 : c ≤ 9223372036854775807) (q3 : D kb) (q4 : D g) (q5 : Blk w g 36 cs) (q6 : ps.map Ss.x = r)
    (q7 : RwsD 0 D (.slice A x.ord.length a) (.slice B x.mv.length b) (.slice none 0 0) x.ord x.mv [] w) (q8 : RT.lies w g (off + 4) ps) (q9 : ∀ p ∈ ps, RwsD 0 D p.o p.m (.slice none 0 0) p.x.ord p.x.mv [] w) (hne : ¬ kb = g) (hA1 : 0 < r.length → A' = some ⟨g, off + 4, none⟩) (hA2 : A' ≠ none) :
    Od B0 W0 p S N D2 (tkW w kb g off c A' A r.length x.ord.length a) ∧ Sk D kb (tkW w kb g off c A' A r.length x.ord.length a) r x.ord ∧ RwsD 0 D (.slice A x.ord.length a) (.slice B x.mv.length b) (.slice none 0 0) x.ord x.mv [] (tkW w kb g off c A' A r.length x.ord.length a) ∧ ∀ b, D2 b → ¬ D b → (tkW w kb g off c A' A r.length x.ord.length a).heap[b]? = w.heap[b]? := by
  have hk : Kept (fun j => j = g ∨ j = kb) w (tkW w kb g off c A' A r.length x.ord.length a) := ((((((Kept.refl (fun j => j = g ∨ j = kb) w).setCell (p := ⟨g, off, none⟩) (Or.inl rfl) _).setCell (p := ⟨g, off + 1, none⟩) (Or.inl rfl) _).setCell (p := ⟨g, off + 2, none⟩) (Or.inl rfl) _).setCell (p := ⟨g, off + 3, none⟩) (Or.inl rfl) _).setCell (p := ⟨kb, 0, none⟩) (Or.inr rfl) _).setCell (p := ⟨kb, 1, none⟩) (Or.inr rfl) _
  have hlt : ∀ b, D b → b < w.heap.size := fun b h => ho.lt (hD b h)
  have hne' : g ≠ kb := fun e => hne e.symm
  have e1 : Blk (tkW w kb g off c A' A r.length x.ord.length a) kb 86 #[.slice A' r.length (c - 1), .slice A x.ord.length a] := by
    simpa [tkW] using ((((((hb.far (p := ⟨g, off, none⟩) hne (.int .u64 0)).far (p := ⟨g, off + 1, none⟩) hne (.bool false)).far (p := ⟨g, off + 2, none⟩) hne (.slice none 0 0)).far (p := ⟨g, off + 3, none⟩) hne (.slice none 0 0)).set_ 0 (.slice A' r.length (c - 1))).set_ 1 (.slice A x.ord.length a))
  have e2 : ∃ cs', Blk (tkW w kb g off c A' A r.length x.ord.length a) g 36 cs' := ⟨_, ((((((q5.set_ off _).set_ (off + 1) _).set_ (off + 2) _).set_ (off + 3) _).far (p := ⟨kb, 0, none⟩) hne' _).far (p := ⟨kb, 1, none⟩) hne' _)⟩
  obtain ⟨cs', e2⟩ := e2
  have e3 : RT.lies (tkW w kb g off c A' A r.length x.ord.length a) g (off + 4) ps := by
    have hh : ∀ (X : World) (u v : Value), ((X.setCell ⟨kb, 0, none⟩ u).setCell ⟨kb, 1, none⟩ v).heap[g]? = X.heap[g]? := fun X u v => (Below.heap_setCell _ _ _ _ hne').trans (Below.heap_setCell _ _ _ _ hne')
    have h1 := lies_wrote (i := off) q8 (by omega) (.int .u64 0)
    have h2 := lies_wrote (i := off + 1) h1 (by omega) (.bool false)
    have h3 := lies_wrote (i := off + 2) h2 (by omega) (.slice none 0 0)
    have h4 := lies_wrote (i := off + 3) h3 (by omega) (.slice none 0 0)
    exact RowK.lies_same h4 (hh _ _ _)
  refine ⟨ho.wrote hk (fun j hj => ?_), Sk.took q3 q4 hne hk hlt hb q5 e1 e2 e3 q1 q2 hA1 hA2 q6 q7 q9, q7.keep fun i t cs fz hi ht hc => hk.block i (hlt i hi) (fun e => ?_), fun i hi hn => hk.block i (ho.lt hi) (fun e => ?_)⟩
  · rcases hj with rfl | rfl
    · exact ⟨hD _ q4, hB _ q4⟩
    · exact ⟨hD _ q3, hB _ q3⟩
  · rcases e with rfl | rfl
    · exact notKd.1 (kind_ne q5 hc ▸ ht)
    · exact notKd.2 (kind_ne hb hc ▸ ht)
  · rcases e with rfl | rfl
    · exact hn q4
    · exact hn q3
set_option maxRecDepth 100000 in
set_option maxHeartbeats 8000000 in
theorem take0_any {B0 : Nat} {W0 : World} {p : Nat} {S : Ws} {N : Nat} {D D2 : Nat → Prop} {kb : Nat} {w : World} {x : St} {r : List St} {o : List Int} (h : Sk D kb w (x :: r) o) (ho : Od B0 W0 p S N D2 w) (hD : ∀ b, D b → D2 b) (hB : ∀ b, D b → B0 ≤ b) (hm : x.mv = []) (wv : Value) :
    Calls Tryz.prog 83 #[.pointer (some ⟨kb, 0, none⟩), wv] w fun e w' => e = .returned (.bool x.intr) ∧ Od B0 W0 p S N D2 w' ∧ Sk D kb w' r x.ord ∧ ∀ b, D2 b → ¬ D b → w'.heap[b]? = w.heap[b]? := by
  obtain ⟨g, off, c, cs, ov, A, B, a, b, ps, hb, q1, q2, q3, q4, q5, q6, ⟨k0, k1, k2, k3⟩, q7, q8, q9, q10, q11⟩ := Sk.head h
  obtain ⟨A', hrun, hA1, hA2⟩ := cut1_steps g off r.length c q1 q2
  rw [hm, List.length_nil] at k3
  have c0 : w.cell? ⟨kb, 0, none⟩ = some (.slice (some ⟨g, off, none⟩) (r.length + 1) c) := hb.cell 0
  have c1 : w.cell? ⟨kb, 1, none⟩ = some ov := hb.cell 1
  have f0 := hb.frozen 0
  have f1 := hb.frozen 1
  have l0 := hb.lt
  have g0 := q5.frozen off
  have g1 := q5.frozen (off + 1)
  have g2 := q5.frozen (off + 2)
  have g3 := q5.frozen (off + 3)
  have l1 := q5.lt
  have hne : ¬ kb = g := fun e => by
    subst e
    have := kind_ne hb (show w.heap[kb]? = some (.cells cs 36 (0, 0)) from q5)
    revert this; decide
  have hne2 : ¬ g = kb := fun e => hne e.symm
  have hr : (0 : Int) < (r.length : Int) + 1 := by omega
  have HH := Lib.hid (take_world ho hD hB hb q1 q2 q3 q4 q5 q6 q7 q8 q9 hne hA1 hA2)
  clear h ho hb q5 q7 q8 q9 q10 q11 hA1
  go_enter Tryz.func83, Tryz.ntmps83
  go_wp2_with fail
  go_rounds 1
  go_ret
  obtain ⟨h1, h2, _, h3⟩ := HH.out
  exact ⟨rfl, (h1.below ((Below.refl _ _).alloc (Nat.le_refl _) _) : Od _ _ _ _ _ _ ((tkW w kb g off c A' A r.length x.ord.length a).alloc _)), h2.same fun j hj => by
    have := h1.lt (hD j hj)
    exact ((Below.refl _ _).alloc (Nat.le_refl _) _).block j this, fun j hj hn => (((Below.refl _ _).alloc (Nat.le_refl _) _).block j (h1.lt hj)).trans (h3 j hj hn)⟩
end Go.Proofs.YtlephnfepofbbaaGreatDoor
