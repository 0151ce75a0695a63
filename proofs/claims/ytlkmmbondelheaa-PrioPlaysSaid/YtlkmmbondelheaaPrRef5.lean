/-
  The reference's Batch; the law's comparison of two rows.
-/
import Derived.Test.YtlkmmbondelheaaPrRef4
import Derived.Deep.QuietTactic
import Derived.BigQuiet
namespace Go.Proofs.Ytlkmmbondelheaa
open Go.RowKit Go.Maps Go.ChangeMaps Go.Shelf

theorem ofZ_batch (L : List It) : ofZ L (leastI L) = batchL L := by
  unfold leastI batchL
  cases h : leastL L with
  | none =>
    unfold ofZ
    rw [List.filter_eq_nil_iff]
    intro x _
    simp
  | some p => exact ofZ_nat L p

/-- While Batch cuts. -/
structure BaR (w : World) (B r many : Nat) (v : Value) (L : List It) (u : Value) (k : Nat) (v1 : Value) (wr : World) : Prop where
  R : Rf wr B r many v1 (cutAll L ((batchL L).take k))
  M : RM w wr r v v1
  O : RI.own wr w.heap.size u (batchL L)
  ap : ∀ i, u.ownBlock = some i → ¬ (i = r ∨ v1.ownBlock = some i)
theorem BaR.next {w wr w3 : World} {B r many k : Nat} {v v1 v2 u : Value} {L : List It} (h : BaR w B r many v L u k v1 wr) {y : It} (hy : (batchL L)[k]? = some y) (R : Rf w3 B r many v2 (cutL (cutAll L ((batchL L).take k)) y.id)) (M : RM wr w3 r v1 v2) :
    BaR w B r many v L u (k + 1) v2 w3 := by
  refine ⟨by rw [take_snoc hy, cutAll_snoc]; exact R, h.M.trans M, RowK.own_same h.O (fun i e => M.1.block i (RowK.own_lt h.O e).1 (h.ap i e)), fun i e e2 => ?_⟩
  rcases e2 with e2 | e2
  · exact h.ap i e (.inl e2)
  · rcases M.own e2 with e3 | e3
    · exact h.ap i e (.inr e3)
    · have := (RowK.own_lt h.O e).1; omega

set_option maxHeartbeats 2000000 in
set_option maxRecDepth 100000 in
theorem rbatch_any {w : World} {B r many : Nat} {v : Value} {L : List It} (R : Rf w B r many v L) (hlen : L.length ≤ 1000) (hu : (L.map (·.id)).Nodup) :
    Calls Try.prog 18 #[.pointer (some ⟨r, 0, none⟩)] w fun e w' => ∃ A c v', e = .returned (.slice A (batchL L).length c) ∧ BaR w B r many v L (.slice A (batchL L).length c) (batchL L).length v' w' := by
  have HLe := Lib.hid (rleast_any R hlen)
  have HLi := Lib.hid (rlist_any R hlen (leastI L))
  have HR := Lib.hid (And.intro R hu)
  clear R hu
  go_enter Try.func18, Try.ntmps18
  go_wp2_with fail
  refine HLe.out.mono ?_
  rintro e w1 ⟨rfl, rfl⟩
  go_wp2_with fail
  refine HLi.out.mono ?_
  rintro e w2 ⟨u, rfl, O, hb⟩
  rw [ofZ_batch] at O
  obtain ⟨A, c, hv, -, -⟩ := RowK.own_shows O
  obtain ⟨n, en⟩ : ∃ n, n = (batchL L).length := ⟨_, rfl⟩
  rw [← en] at hv
  subst hv
  have h0 : BaR w B r many v L (.slice A n c) 0 v w2 := ⟨HR.out.1.below hb, RM.of_below hb, O, fun i e e2 => by
    have h1 := (RowK.own_lt O e).2
    rcases e2 with e2 | e2
    · have := HR.out.1.blk.lt; omega
    · have := (HR.out.1.lt (.inr e2)).1; omega⟩
  have H0 := Lib.hid h0
  have EN := Lib.hid en
  have n1 : (n : Int) ≤ 1000 := by have : (batchL L).length ≤ L.length := by unfold batchL; split; simp; exact List.length_filter_le _ _
                                   omega
  clear O hb h0 en
  go_wp2_with fail
  go_loopw [5] (fun i wr => ∃ (k : Nat) (v1 : Value), i = .int .i64 (k : Int) ∧ k ≤ n ∧ BaR w B r many v L (.slice A n c) k v1 wr) (fun i _ => n - (intOf i).toNat)
  case atStart => exact ⟨0, v, rfl, Nat.zero_le _, H0.out⟩
  case round =>
    obtain ⟨k, v1, rfl, hk, hB⟩ := hrel
    by_cases hlt : k < n
    · obtain ⟨y, hy⟩ : ∃ y, (batchL L)[k]? = some y := ⟨_, List.getElem?_eq_getElem (by have := EN.out; omega)⟩
      rcases RowK.own_form hB.O with ⟨e, _⟩ | ⟨g, c', e, hc, hg, _, hl⟩
      · injection e with e1 e2; omega
      injection e with e1 e2 e3
      subst e1
      obtain ⟨y0, y1, y2, y3⟩ := ri_cells0 hl hy
      have b0 : (0 : Int) ≤ (k : Int) := by omega
      have b1 : (k : Int) < (n : Int) := by omega
      have hsub : (cutAll L ((batchL L).take k)).Sublist L := by rw [cutAll_eq]; exact List.filter_sublist
      have HC := Lib.hid (rcut_any hB.R (Nat.le_trans hsub.length_le hlen) (HR.out.2.sublist (hsub.map _)) y.id)
      have HBB := Lib.hid (And.intro hB hy)
      clear hB hy e2 e3 hl hsub y1 y2 y3
      go_wp2_with fail
      refine HC.out.mono ?_
      rintro e w3 ⟨rfl, v2, R2, M2⟩
      have HN := Lib.hid (HBB.out.1.next HBB.out.2 R2 M2)
      clear R2 M2 y0
      go_wp2_with fail
      go_roundw
      case rel => exact ⟨k + 1, v2, by go_num, by omega, HN.out⟩
      case measure => simp [intOf]; omega
    · obtain rfl : k = n := by omega
      have HBB := Lib.hid hB
      clear hB
      go_wp2_with fail
      go_ret
      refine ⟨A, c, v1, ?_, ?_⟩
      · rw [← EN.out]; rfl
      · rw [← EN.out]; exact HBB.out

/-- A slice of the queues' own items. -/
def ShowI (w : World) (A : Option Addr) (P : List It) : Prop := 0 < P.length → ∃ g, A = some ⟨g, 0, none⟩ ∧ g < w.heap.size ∧
    ∀ i x, P[i]? = some x → w.cell? ⟨g, i * 3, none⟩ = some (.int .i64 x.id) ∧ w.cell? ⟨g, i * 3 + 1, none⟩ = some (.int .i64 x.fl) ∧ w.cell? ⟨g, i * 3 + 2, none⟩ = some (.int .i64 x.ct)
theorem OwnI.showI {w : World} {B : Nat} {v : Value} {P : List It} (h : OwnI w B v P) : ∃ A c, v = .slice A P.length c ∧ ShowI w A P := by
  obtain ⟨A, c, e, hf⟩ := h.form
  exact ⟨A, c, e, fun h0 => by obtain ⟨g, e1, hg, _, hc⟩ := hf h0; exact ⟨g, e1, hg, hc⟩⟩
theorem ShowI.same {w w' : World} {A : Option Addr} {P : List It} (h : ShowI w A P) (e : ∀ g, A.map (·.block) = some g → w'.heap[g]? = w.heap[g]?) (hs : w.heap.size ≤ w'.heap.size) : ShowI w' A P := fun h0 => by
  obtain ⟨g, rfl, hg, hc⟩ := h h0
  refine ⟨g, rfl, Nat.lt_of_lt_of_le hg hs, fun i x hx => ?_⟩
  obtain ⟨a0, a1, a2⟩ := hc i x hx
  exact ⟨(World.cell?_of_block (e g rfl)).trans a0, (World.cell?_of_block (e g rfl)).trans a1, (World.cell?_of_block (e g rfl)).trans a2⟩
theorem ShowI.below {w w' : World} {A : Option Addr} {P : List It} (h : ShowI w A P) (hb : Below w.heap.size w w') : ShowI w' A P := fun h0 => by
  obtain ⟨g, rfl, hg, hc⟩ := h h0
  refine ⟨g, rfl, Nat.lt_of_lt_of_le hg hb.size, fun i x hx => ?_⟩
  obtain ⟨a0, a1, a2⟩ := hc i x hx
  exact ⟨(World.cell?_of_block (hb.block g hg)).trans a0, (World.cell?_of_block (hb.block g hg)).trans a1, (World.cell?_of_block (hb.block g hg)).trans a2⟩

set_option maxHeartbeats 2000000 in
set_option maxRecDepth 100000 in
theorem same_yes (w : World) (A1 A2 : Option Addr) (c1 c2 : Nat) (P : List It) (hlen : P.length ≤ 100000) (h1 : ShowI w A1 P) (h2 : RI.shows w A2 P) :
    Calls Try.prog 17 #[.slice A1 P.length c1, .slice A2 P.length c2] w fun e w' => e = .returned (.bool true) ∧ ∃ j, w' = w.drewN j := by
  have HR := Lib.hid (And.intro h1 h2)
  clear h1 h2
  go_enter Try.func17, Try.ntmps17
  go_wp2_with fail
  go_loopw [5] (fun i wr => ∃ k : Nat, i = .int .i64 (k : Int) ∧ k ≤ P.length ∧ ∃ j, wr = w.drewN j) (fun i _ => P.length - (intOf i).toNat)
  case atStart => exact ⟨0, rfl, Nat.zero_le _, 0, rfl⟩
  case round =>
    obtain ⟨k, rfl, hk, j, rfl⟩ := hrel
    by_cases hlt : k < P.length
    · obtain ⟨g1, rfl, gl1, r1⟩ := HR.out.1 (by omega)
      obtain ⟨g2, off, rfl, gl2, r2⟩ := HR.out.2 (by omega)
      obtain ⟨y, hy⟩ : ∃ y, P[k]? = some y := ⟨_, List.getElem?_eq_getElem hlt⟩
      obtain ⟨p0, p1, p2⟩ := r1 k y hy
      obtain ⟨q0, q1, q2, q3⟩ := ri_cells r2 hy
      have b0 : (0 : Int) ≤ (k : Int) := by omega
      have b1 : (k : Int) < (P.length : Int) := by omega
      clear r1 r2 hy
      go_wp2_with fail
      go_quiet (fail)
      go_wp2_with fail
      go_roundw
      case rel => exact ⟨k + 1, by go_num, by omega, _, rfl⟩
      case measure => simp [intOf]; omega
    · obtain rfl : k = P.length := by omega
      go_wp2_with fail
      go_ret
      exact ⟨rfl, j, rfl⟩
end Go.Proofs.Ytlkmmbondelheaa
