/-
  Chunks: the lengths of the pieces.
-/
import Derived.Test.YtkhkhjkacibocaaChCopied
import Derived.Test.YtkhkhjkacibocaaCmRow
import Derived.OwnWalkIn
namespace Go.Proofs.Ytkhkhjkacibocaa
open Go.RowKit Go.Maps Go.ChangeMaps Go.Shelf

attribute [local go_sem] Oper.semAt_some

def RN : RowK Try.prog Int where
  e := 3
  s := 45
  n := 1
  bytes := 8
  zero := .int .i64 0
  enc := fun z => [.int .i64 z]
  pos := by decide
  by_ := by decide
  len := fun _ => rfl
  one := fun x u hu => by
    simp at hu
    subst hu; rfl
  und := Try.underlying45
  info := by kernel_rfl
  zs := by decide
def lens (ps : List Pc) : List Int := ps.map fun p => (p.bs.length : Int)
/-- Between two pieces. -/
structure CkI (w : World) (b N : Nat) (ps : List Pc) (W : World) : Prop where
  ex : ∃ v, Boxed W b 45 v ∧ RN.own W N v (lens ps)
  bel : Below w.heap.size w W
section
variable {w : World} {B c b N : Nat} {t : TypeId} {L : List Lk} {ps : List Pc} {X Y : World} {v : Value} {xs : List Int}
theorem own_chR (h : RN.own X N v xs) {M : Nat} (k : ChR M X Y) : RN.own Y N v xs := RowK.own_same h fun j e => by
  rcases h.2 with ⟨e2, _⟩ | ⟨g, cap, cur, rfl, hb, hg, _⟩
  · rw [e2] at e; cases e
  · cases e
    exact (k.cells _ _ hg rfl).trans hg.symm
theorem CkI.chR (h : CkI w b N ps X) {M : Nat} (k : ChR M X Y) (hM : w.heap.size ≤ M) : CkI w b N ps Y := by
  obtain ⟨v, h1, h2⟩ := h.ex
  exact ⟨⟨v, boxed_chR h1 k, own_chR h2 k⟩, below_chR h.bel k hM⟩

theorem CkI.step {o : Obj} {v' : Value} {w1 W : World} {pre : List Pc} {p : Pc} {Pr : Nat → Prop} (i3 : Boxed W b 45 v) (io : RN.own W N v (lens pre)) (ib : Below w.heap.size w W) (hb : b < N) (hwb : w.heap.size ≤ b)
    (hg : (W.alloc o).grownBy w1 v.ownBlock) (O1 : RN.own w1 N v' (lens (pre ++ [p]))) (hP : ∀ k, Pr k → k ≠ b) :
    CkI w b N (pre ++ [p]) (w1.setCell ⟨b, 0, none⟩ v') ∧ KeepsFrom N W (w1.setCell ⟨b, 0, none⟩ v') ∧ KpO TC N Pr W (w1.setCell ⟨b, 0, none⟩ v') := by
  have lt := i3.lt
  have ez : (W.alloc o).heap.size = W.heap.size + 1 := by simp
  have sz : W.heap.size ≤ (w1.setCell ⟨b, 0, none⟩ v').heap.size := by
    have := hg.size
    simp [World.setCell] at this ⊢; omega
  have s1 : ∀ k, k < W.heap.size → v.ownBlock ≠ some k → w1.heap[k]? = W.heap[k]? := fun k hk hn => (hg.block k (by omega) (fun e => hn e.symm)).trans (Below.heap_alloc W o k hk)
  have same : ∀ k, k < W.heap.size → k ≠ b → v.ownBlock ≠ some k → (w1.setCell ⟨b, 0, none⟩ v').heap[k]? = W.heap[k]? := fun k hk hkb hn => (Below.heap_setCell _ _ _ _ hkb).trans (s1 k hk hn)
  have hN : ∀ k, v.ownBlock = some k → N ≤ k := fun k e => (RowK.own_lt io e).2
  have hT : ∀ k ob, v.ownBlock = some k → W.heap[k]? = some ob → TC ob := fun k ob e ho => by
    rcases io.2 with ⟨e2, _⟩ | ⟨g, cap, cur, rfl, _, hg2, _⟩
    · rw [e2] at e; cases e
    · cases e
      rw [hg2] at ho; cases ho; rfl
  refine ⟨⟨⟨v', ?_, RowK.own_same O1 fun k e => Below.heap_setCell _ _ _ _ (by have := (RowK.own_lt O1 e).2; simp; omega)⟩, ?_⟩, ⟨sz, fun k ob hk ho hc => (same k (Array.getElem?_eq_some_iff.1 ho).1 (by omega) fun e => by
      have := hT k ob e ho
      unfold TC at this; rw [hc] at this; cases this).trans ho⟩, ⟨sz, fun k hk hl hp => same k hl (hP k hp) (fun e => by have := hN k e; omega), fun k ob hk ho hc => (same k (Array.getElem?_eq_some_iff.1 ho).1 (by omega) fun e => hc (hT k ob e ho)).trans ho⟩⟩
  · have i4 : Boxed w1 b 45 v := (s1 b lt (fun e => by have := hN b e; omega)).trans i3
    have hb2 : Blk w1 b 45 #[v] := i4
    have := hb2.set_ 0 v'
    simpa [Boxed, Blk] using this
  · exact ((ib.alloc ib.size o).grown hg (by have := ib.size; omega) (fun k e => by have := hN k e; omega)).setCell hwb v'
theorem own_pos {W : World} {B k n : Nat} {e : TypeId} {zs : List Value} (h : W.ownsRow B e k v n zs) (h0 : 0 < n) : ∃ g cap, v = .slice (some ⟨g, 0, none⟩) n cap := by
  rcases h.2 with ⟨_, hn⟩ | ⟨g, cap, cur, rfl, _⟩
  · omega
  · exact ⟨g, cap, rfl⟩
theorem len_le : ∀ (ps : List Pc), (∀ p ∈ ps, 0 < p.bs.length) → ps.length ≤ (gath ps).length
  | [], _ => by simp
  | p :: ps, h => by
    have := len_le ps fun q hq => h q (List.mem_cons_of_mem _ hq)
    have := h p (List.mem_cons_self ..)
    rw [gath_cons, List.length_append, List.length_cons]; omega

set_option maxRecDepth 100000 in
set_option maxHeartbeats 8000000 in
theorem chunks_any (h : Cn w B 29 c L) :
    Calls Try.prog 17 #[.pointer (some ⟨c, 0, none⟩)] w fun e w' => ∃ v, e = .returned v ∧ RN.own w' w.heap.size v (L.map fun x => (x.bs.length : Int)) ∧ Below w.heap.size w w' := by
  have hle := h.le
  have H := Lib.hid h
  clear h
  refine (callsIn_wide (n := 5)).1 ?_
  refine callsIn_of_wp_marks Try.func17 rfl trivial ?_ rfl
  simp only [Try.ntmps17, List.size_toArray, List.length_cons, List.length_nil, Nat.reduceAdd, Nat.reduceSub, Array.replicate_succ, Array.replicate_zero, List.push_toArray, List.append_toArray, List.nil_append, List.cons_append]
  gi_wp2_with (refine ⟨trivial, ?_⟩; gi_at_call 39; refine (callsIn_wide.2 (pieces_call _ c 0)).mono ?_; rintro e w' ⟨rfl, rfl⟩)
  obtain ⟨V, hV⟩ : ∃ V, V = ((w.alloc (.cells #[.slice none 0 0] 45)).alloc (.cells #[.pointer (some ⟨c, 0, none⟩)] 82)).alloc (.cells #[.int .i64 0] 3) := ⟨_, rfl⟩
  have hkV : Kept (fun _ => False) w V := by rw [hV]; exact (((Kept.refl _ w).alloc _).alloc _).alloc _
  have hVz : V.heap.size = w.heap.size + 3 := by rw [hV]; simp
  have v3 : Boxed V w.heap.size 45 (.slice none 0 0) := by rw [hV]; exact ((Boxed.new w _ _).alloc _).alloc _
  have vL : Boxed V (w.heap.size + 1) 82 (.pointer (some ⟨c, 0, none⟩)) := by
    rw [hV]
    have := (Boxed.new (w.alloc (.cells #[.slice none 0 0] 45)) 82 (.pointer (some ⟨c, 0, none⟩))).alloc (.cells #[.int .i64 0] 3)
    simpa using this
  have vF : Boxed V (w.heap.size + 1 + 1) 3 (.int .i64 ((0 : Nat) : Int)) := by
    rw [hV]
    have := Boxed.new ((w.alloc (.cells #[.slice none 0 0] 45)).alloc (.cells #[.pointer (some ⟨c, 0, none⟩)] 82)) 3 (.int .i64 0)
    simpa using this
  have h := H.out
  have hcV := h.kept hkV
  have hFh : ∀ i, Fh c L i → i < w.heap.size := fun i hi => (Hold.of h).lt hi
  have hbV : Below w.heap.size w V := ⟨hkV.os, hkV.tape, hkV.output, hkV.size, fun k hk => hkV.block k hk (fun e => e)⟩
  obtain ⟨i0, hi, hz0, hz1, hz2⟩ := row_info RN.info
  have hi' : Try.prog.info? 3 = some i0 := hi
  have HI := Lib.hid (And.intro hi' (And.intro hz0 (And.intro hz1 hz2)))
  rw [← hV]
  clear hV hi hi' hz0 hz1 hz2
  refine rangeFunc_o (n := 5) (by omega) (gf := 50) (lb := #[.pointer (some ⟨w.heap.size + 1, 0, none⟩), .pointer (some ⟨w.heap.size + 1 + 1, 0, none⟩)]) rfl (enters_of Try.func50 (by kernel_rfl) rfl)
    (encs := encQ) TC (fun i => Fh c L i ∨ i = w.heap.size + 1 ∨ i = w.heap.size + 1 + 1)
    (pieces_o 4 (by omega) (Hold.of hcV) _ _ vL vF (by omega) hle TC _ V.heap.size ⟨by omega, .inr (.inl rfl)⟩ ⟨by omega, .inr (.inr rfl)⟩ (fun i hi => ⟨by have := hFh i hi; omega, .inl hi⟩)) (fun _ => rfl)
    (fun pre W => CkI w w.heap.size V.heap.size pre W)
    (fun _ _ _ => False)
    (fun s X Y hi hc => hi.chR hc (by omega)) (fun _ s X Y hi hc => hi) ⟨⟨_, v3, RowK.own_nil _ _⟩, hbV⟩ ?round ?done ?stop
  case round =>
    rintro l pre p W hz hI ⟨r, hr⟩
    have HJ := Lib.hid (And.intro hI hr)
    clear hI hr v3 vL vF hcV
    simp only [encQ]
    gi_wp2_with fail
    refine ⟨KeepsFrom.of_kc (Kc.refl No2 W), KpO.of_kc (Kc.refl No2 W) (fun _ _ _ _ e => e), fun W2 hc => ?_⟩
    obtain ⟨hI, hr⟩ := HJ.out
    obtain ⟨⟨v, i3, io⟩, ib⟩ := hI.chR hc (by omega)
    have c3 := i3.cell
    have l3 := i3.lt
    have hlen : (lens pre).length + 1 ≤ 1048576 := by
      have h1 := len_le (pcs 0 0 L) (pcs_pos 0 L 0)
      rw [pcs_gath, List.length_drop, ← hr] at h1
      simp [lens] at h1 ⊢; omega
    have hNw : V.heap.size ≤ W2.heap.size := by have := hc.size; omega
    obtain ⟨n, hn⟩ : ∃ n, n = p.bs.length := ⟨_, rfl⟩
    rw [← hn]
    have io2 : RN.own (W2.alloc (.cells #[.int .i64 (n : Int)] 3)) V.heap.size v (lens pre) := RowK.own_same io fun j e => Below.heap_alloc _ _ _ (RowK.own_lt io e).1
    have hcf : ∀ j u, [Value.int .i64 (n : Int)][j]? = some u → (W2.alloc (.cells #[.int .i64 (n : Int)] 3)).cell? ((⟨W2.heap.size, 0, none⟩ : Addr).add j) = some u := fun j u hj => by
      match j, hj with
      | 0, hj =>
        simp at hj; subst hj
        exact (cell_of_row _ _ 0 _ _ (0, 0) (heap_alloc_new W2 _)).trans rfl
    have b3 : ∀ j, v.ownBlock = some j → V.heap.size ≤ j := fun j e => (RowK.own_lt io e).2
    have HR := Lib.hid (And.intro i3 (And.intro io (And.intro ib (And.intro hn hr))))
    have HO := Lib.hid (And.intro io2 (And.intro hcf (And.intro hlen b3)))
    clear i3 io ib hr io2 hcf hn hI hc b3
    gi_wp2_with (gi_at_builtin; refine wpListIn_append_own _ rfl _ _ _ rfl V.heap.size 3 i0 (.int .i64 0) 1 8 Try.underlying45 HI.out.1 HI.out.2.1 HI.out.2.2.1 HI.out.2.2.2 rfl (by decide) v (lens pre).length (RN.all (lens pre)) rfl HO.out.1 ⟨W2.heap.size, 0, none⟩ 1 1 [.int .i64 (n : Int)] rfl rfl HO.out.2.1 (fun u hu => by simp at hu; subst hu; rfl) (by have := HO.out.2.2.1; unfold maxLen; omega) (by have := HO.out.2.2.1; omega) (by simp; omega) ?_; intro v' w1 O1 hg1 _; obtain ⟨g, cap, rfl⟩ := own_pos O1 (by omega); have i4 : Boxed w1 w.heap.size 45 v := ((hg1.block _ (by simp; omega) (fun e => by have := HO.out.2.2.2 _ e.symm; omega)).trans (Below.heap_alloc W2 _ _ l3)).trans HR.out.1; have d3 := i4.cell; have df := i4.frozen; have dl := i4.lt; have HG := Lib.hid (And.intro O1 hg1); clear O1 hg1 i4)
    obtain ⟨i3, io, ib, hn, hr⟩ := HR.out
    have O2 : RN.own w1 V.heap.size (.slice (some ⟨g, 0, none⟩) ((lens pre).length + 1) cap) (lens (pre ++ [p])) := by
      have e1 : lens (pre ++ [p]) = lens pre ++ [(n : Int)] := by simp [lens, hn]
      unfold RowK.own
      rw [e1, List.length_append, RowK.all_append]
      exact HG.out.1
    obtain ⟨k1, k2, k3⟩ := CkI.step (Pr := fun i => Fh c L i ∨ i = w.heap.size + 1 ∨ i = w.heap.size + 1 + 1) i3 io ib (by omega) (Nat.le_refl _) HG.out.2 O2 (fun k hk e => by
      rcases hk with hk | hk | hk
      · have := hFh k hk; omega
      · omega
      · omega)
    exact ⟨k2, k3, k1⟩
  case done =>
    rintro xs W rfl hI hD hz
    have e1 : lens (pcs 0 0 L) = L.map fun x => (x.bs.length : Int) := by
      have := congrArg (List.map fun n : Nat => (n : Int)) (pcs_lens L 0 h.lks.pos)
      rw [List.map_map, List.map_map] at this
      exact this
    obtain ⟨⟨v, h3, ho⟩, hb⟩ := hI
    have HE := Lib.hid (show ∀ W', ChO w.heap.size W W' → RN.own W' w.heap.size v (L.map fun x => (x.bs.length : Int)) ∧ Below w.heap.size w W' from fun W' hc => ⟨e1 ▸ RowK.own_more (own_chR ho hc.toR) (by omega), below_chR hb hc.toR (Nat.le_refl _)⟩)
    have c3 := h3.cell
    have l3 := h3.lt
    obtain ⟨Av, nv, cv, rfl⟩ := RowK.own_slice ho
    clear h3 ho hb e1 v3 vL vF hcV h
    gi_wp2_with fail
    exact leaves_marks w.heap.size [V.heap.size] W (by simp) (fun D hD' => by simp at hD'; subst hD'; exact ⟨by omega, hD⟩) (fun W' hc => ⟨_, results_tmp rfl _ _ _, .slice Av nv cv, rfl, HE.out W' hc⟩)
  case stop =>
    rintro cd pre W _ h
    exact h.elim
theorem chunks_nil (w : World) : Calls Try.prog 17 #[.pointer none] w fun e w' => e = .returned (.slice none 0 0) ∧ Kept (fun _ => False) w w' := by
  refine (callsIn_wide (n := 5)).1 ?_
  refine callsIn_of_wp_marks Try.func17 rfl trivial ?_ rfl
  simp only [Try.ntmps17, List.size_toArray, List.length_cons, List.length_nil, Nat.reduceAdd, Nat.reduceSub, Array.replicate_succ, Array.replicate_zero, List.push_toArray, List.append_toArray, List.nil_append, List.cons_append]
  gi_wp2
  exact ⟨_, results_tmp rfl _ _ _, rfl, Kept.refl _ _⟩
end
end Go.Proofs.Ytkhkhjkacibocaa
