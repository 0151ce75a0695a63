/-
  rows.items: all items come one by one, the most urgent ones first.
-/
import Derived.Test.YtlkmmbondelheaaPrRow
namespace Go.Proofs.Ytlkmmbondelheaa
open Go.RowKit Go.Maps Go.ChangeMaps Go.Shelf

attribute [local go_sem] Oper.semAt_some

def encJ (x : It) : Array Value := #[.int .i64 (x.pr : Int), .agg #[.int .i64 x.id, .int .i64 x.fl, .int .i64 x.ct]]
/-- The items of the first k priorities, one behind the other. -/
def byP (L : List It) (k : Nat) : List It := (List.range k).flatMap (ofP L)
theorem byP_succ (L : List It) (k : Nat) : byP L (k + 1) = byP L k ++ ofP L k := by unfold byP; rw [List.range_succ, List.flatMap_append]; simp

theorem byP_split (L : List It) {k : Nat} : ∀ {n : Nat}, k < n → ∃ R, byP L n = byP L k ++ (ofP L k ++ R)
  | 0, h => by omega
  | n + 1, h => by
    rw [byP_succ]
    by_cases e : k = n
    · subst e; exact ⟨[], by simp⟩
    · obtain ⟨R, hR⟩ := byP_split L (show k < n by omega)
      exact ⟨R ++ ofP L n, by rw [hR]; simp⟩

theorem row_call (w : World) (r : Nat) (p : Int) : Calls Try.prog 38 #[.pointer (some ⟨r, 0, none⟩), .int .i64 p] w fun e w' =>
    e = .returned (.func (.func 42) #[] #[.pointer (some ⟨w.heap.size, 0, none⟩), .pointer (some ⟨w.heap.size + 1, 0, none⟩)]) ∧
      w' = (w.alloc (.cells #[.pointer (some ⟨r, 0, none⟩)] 62)).alloc (.cells #[.int .i64 p] 3) := by
  go_enter Try.func38, Try.ntmps38
  go_wp2
  go_ret
  exact ⟨rfl, rfl⟩
theorem items_call (w : World) (r : Nat) : Calls Try.prog 37 #[.pointer (some ⟨r, 0, none⟩)] w fun e w' =>
    e = .returned (.func (.func 41) #[] #[.pointer (some ⟨w.heap.size, 0, none⟩)]) ∧ w' = w.alloc (.cells #[.pointer (some ⟨r, 0, none⟩)] 62) := by
  go_enter Try.func37, Try.ntmps37
  go_wp2
  go_ret
  exact ⟨rfl, rfl⟩

/-- A round is a round at whatever depth, in whatever round. -/
theorem roundIn_any {n m l0 : Nat} {P : Program} {l : Nat} {f : FuncId} {tmps : Array Value} {assign body : Code} {w : World} {R : Ending → World → Prop} (h : RoundIn Fence.wide n P l f tmps assign body w R) : RoundIn (Fence.wide.inRound l0) m P l f tmps assign body w R :=
  ⟨trivial, fun c cs _ => h.2 c cs (room_wide _)⟩

/-- Between two priorities. -/
structure ItS (J : List It → World → Prop) (l N bR b2 r g m many : Nat) (F G : Nd → Nd) (L : List It) (Ds : List Nat) (s : List It) (W : World) : Prop where
  j : J s W
  hrw : Rw W r g m many F G L
  boR : Boxed W bR 62 (.pointer (some ⟨r, 0, none⟩))
  bo2 : Boxed W b2 87 (.func (.yield l) #[] #[])
  h2 : N + 2 ≤ b2
  nd : Ds.Nodup
  ds : ∀ D ∈ Ds, N + 2 ≤ D ∧ W.heap[D]? = some (.deferred (some []))
  sz : N + 2 ≤ W.heap.size
section
variable {J : List It → World → Prop} {l N N2 bR b2 r g m many : Nat} {F G : Nd → Nd} {L : List It} {Ds : List Nat} {s s' : List It} {X Y : World} {T : Obj → Prop} {Pr : Nat → Prop}
theorem ItS.dlt (h : ItS J l N bR b2 r g m many F G L Ds s X) {D : Nat} (hD : D ∈ Ds) : D < X.heap.size := (Array.getElem?_eq_some_iff.1 (h.ds D hD).2).1
theorem ItS.same (h : ItS J l N bR b2 r g m many F G L Ds s X) (hj : J s' Y) (e1 : ∀ k, Fw r g m L k → Y.heap[k]? = X.heap[k]?) (e2 : Y.heap[bR]? = X.heap[bR]?) (e3 : Y.heap[b2]? = X.heap[b2]?) (e4 : ∀ D ∈ Ds, Y.heap[D]? = X.heap[D]?) (hz : X.heap.size ≤ Y.heap.size) :
    ItS J l N bR b2 r g m many F G L Ds s' Y :=
  ⟨hj, h.hrw.same e1, e2.trans h.boR, e3.trans h.bo2, h.h2, h.nd, fun D hD => ⟨(h.ds D hD).1, (e4 D hD).trans (h.ds D hD).2⟩, Nat.le_trans h.sz hz⟩
theorem ItS.kept (h : ItS J l N bR b2 r g m many F G L Ds s X) (hJ : ∀ s A A', J s A → ChO N A A' → J s A') (k : Kept (fun _ => False) X Y) : ItS J l N bR b2 r g m many F G L Ds s Y :=
  h.same (hJ _ _ _ h.j (ChO.of_kept k)) (fun i hi => k.block i (h.hrw.lt hi) (fun e => e)) (k.block _ h.boR.lt (fun e => e)) (k.block _ h.bo2.lt (fun e => e)) (fun D hD => k.block _ (h.dlt hD) (fun e => e)) k.size
/-- Behind a round of the loop outside. -/
theorem ItS.kp (h : ItS J l N bR b2 r g m many F G L Ds s X) (k : KpO T N Pr X Y) (hj : J s' Y) (hb : bR < N ∧ Pr bR) (hT : ∀ o, T o → o.isCells = true) (hT2 : ∀ cs t mk, T (.cells cs t mk) → t = 44) (hPr : ∀ i, Fw r g m L i → i < N ∧ Pr i) : ItS J l N bR b2 r g m many F G L Ds s' Y :=
  h.same hj (fun i hi => k.low i (hPr i hi).1 (h.hrw.lt hi) (hPr i hi).2) (k.low _ hb.1 h.boR.lt hb.2)
    ((k.high _ _ h.h2 h.bo2 (fun e => by have := hT2 _ _ _ e; revert this; decide)).trans h.bo2.symm)
    (fun D hD => (k.high _ _ (h.ds D hD).1 (h.ds D hD).2 (fun e => by have := hT _ e; cases this)).trans (h.ds D hD).2.symm) k.size
/-- Between two rounds of the loop inside. -/
theorem ItS.chR (h : ItS J l N bR b2 r g m many F G L Ds s X) (hJ : ∀ s A A', J s A → ChO N A A' → J s A') (k : ChR N2 X Y) (hN : N + 2 ≤ N2) (hb : bR < N2 ∧ b2 < N2) (hd : ∀ D ∈ Ds, D < N2) (hPr : ∀ i, Fw r g m L i → i < N2) : ItS J l N bR b2 r g m many F G L Ds s Y :=
  h.same (hJ _ _ _ h.j (k.inner hN)) (fun i hi => k.low i (hPr i hi) (h.hrw.lt hi)) (k.low _ hb.1 h.boR.lt) (k.low _ hb.2 h.bo2.lt) (fun D hD => k.low _ (hd D hD) (h.dlt hD)) k.size
end

set_option maxRecDepth 100000 in
set_option maxHeartbeats 8000000 in
theorem items_o (n : Nat) (hn : 4 ≤ n) {w : World} {r g m many : Nat} {F G : Nd → Nd} {L : List It} (h : Rw w r g m many F G L) (bR : Nat) (hR : Boxed w bR 62 (.pointer (some ⟨r, 0, none⟩)))
    (T : Obj → Prop) (Pr : Nat → Prop) (N : Nat) (hN : bR < N ∧ Pr bR) (hT : ∀ o, T o → o.isCells = true) (hT2 : ∀ cs t mk, T (.cells cs t mk) → t = 44) (hPr : ∀ i, Fw r g m L i → i < N ∧ Pr i) :
    SeqO n Try.prog 41 #[.pointer (some ⟨bR, 0, none⟩)] encJ T Pr (fun xs => xs = byP L many) (fun pre => ∃ r, pre ++ r = byP L many) (fun pre x => ∃ R, pre ++ x :: R = byP L many) N w := by
  intro l J Jx W hz hW hJ hJx hY h0
  have h1 : Rw W r g m many F G L := h.same (fun k hk => hW k (hPr k hk).1)
  have bR1 : Boxed W bR 62 (.pointer (some ⟨r, 0, none⟩)) := (hW bR hN.1).trans hR
  have cR := bR1.cell
  have c0 := h1.rb.cell 0
  simp at c0
  have lr := h1.rb.lt
  have lR := bR1.lt
  have hmy := h1.mny.2
  have H0 : ItS J l N bR W.heap.size r g m many F G L [] [] (W.alloc (.cells #[.func (.yield l) #[] #[]] 87)) :=
    ⟨hJ _ _ _ h0 (ChO.of_kept ((Kept.refl _ W).alloc _)), h1.same (fun k hk => Below.heap_alloc _ _ _ (h1.lt hk)), (Below.heap_alloc _ _ _ lR).trans bR1, World.alloc_heap_new _ _, hz, by simp, fun D hD => by simp at hD, by simp; omega⟩
  have HJ := Lib.hid (And.intro hJ hJx)
  have HY := Lib.hid hY
  have HP := Lib.hid (And.intro hN (And.intro hT (And.intro hT2 hPr)))
  have H0 := Lib.hid H0
  obtain ⟨b2, hb2⟩ : ∃ b2, b2 = W.heap.size := ⟨_, rfl⟩
  have HB := Lib.hid hb2
  clear hY h0 hPr hW h h1 hR hN hJ hJx hT hT2 hb2
  refine callsIn_of_wp_marks Try.func41 rfl trivial ?_ rfl
  simp only [Try.ntmps41, List.size_toArray, List.length_cons, List.length_nil, Nat.reduceAdd, Nat.reduceSub, Array.replicate_succ, Array.replicate_zero, List.push_toArray, List.append_toArray, List.nil_append, List.cons_append]
  gi_wp2_with fail
  rw [← HB.out] at H0 ⊢
  refine wpIn_loop (fun a wr => ∃ (k : Nat) (Ds : List Nat) (u3 u4 u11 u12 u13 u14 u15 u16 u17 u18 u19 u20 u21 u22 : Value), (k ≤ many ∧ ItS J l N bR b2 r g m many F G L Ds (byP L k) wr) ∧
    a = { tmps := #[.func (.yield l) #[] #[], .pointer (some ⟨bR, 0, none⟩), .pointer (some ⟨b2, 0, none⟩), u3, u4, .pointer (some ⟨r, 0, none⟩), .pointer (some ⟨r, 0, none⟩), .pointer (some ⟨r, 0, none⟩), .slice (some ⟨g, 0, none⟩) many many, .int .i64 (many : Int), .int .i64 (k : Int), u11, u12, u13, u14, u15, u16, u17, u18, u19, u20, u21, u22], defers := Ds.map markO })
    (fun a _ => many - (intOf (a.tmps.getD 10 undef)).toNat) ⟨0, [], _, _, _, _, _, _, _, _, _, _, _, _, _, _, ⟨Nat.zero_le _, H0.out⟩, rfl⟩ ?round
  case round =>
    rintro a wr ⟨k, Ds, u3, u4, u11, u12, u13, u14, u15, u16, u17, u18, u19, u20, u21, u22, ⟨hk, hS⟩, rfl⟩
    by_cases hlt : k < many
    · have b1 : (k : Int) < (many : Int) := by omega
      have b0 : (0 : Int) ≤ (k : Int) := by omega
      have cR := hS.boR.cell
      have lR := hS.boR.lt
      have HS := Lib.hid hS
      have HK := Lib.hid (And.intro hk hlt)
      clear hS hk hlt
      gi_wp2_with fail
      refine ⟨trivial, fun _ => by omega, (callsIn_wide.2 (row_call _ r (k : Int))).mono ?_⟩
      rintro e w1 ⟨rfl, rfl⟩
      obtain ⟨V, hV⟩ : ∃ V, V = ((wr.alloc (.cells #[.int .i64 (k : Int)] 3)).alloc (.cells #[.pointer (some ⟨r, 0, none⟩)] 62)).alloc (.cells #[.int .i64 (k : Int)] 3) := ⟨_, rfl⟩
      have v0 : Kept (fun _ => False) wr V := by rw [hV]; exact (((Kept.refl _ wr).alloc _).alloc _).alloc _
      have v1 : Boxed V wr.heap.size 3 (.int .i64 (k : Int)) := by rw [hV]; exact (Below.heap_alloc _ _ _ (by simp; omega)).trans ((Below.heap_alloc _ _ _ (by simp)).trans (World.alloc_heap_new wr _))
      have v2 : Boxed V (wr.heap.size + 1) 62 (.pointer (some ⟨r, 0, none⟩)) := by
        rw [hV]
        have := World.alloc_heap_new (wr.alloc (.cells #[.int .i64 (k : Int)] 3)) (.cells #[.pointer (some ⟨r, 0, none⟩)] 62)
        rw [World.size_alloc] at this
        exact (Below.heap_alloc _ _ _ (by simp)).trans this
      have v3 : Boxed V (wr.heap.size + 1 + 1) 3 (.int .i64 (k : Int)) := by
        rw [hV]
        have := World.alloc_heap_new ((wr.alloc (.cells #[.int .i64 (k : Int)] 3)).alloc (.cells #[.pointer (some ⟨r, 0, none⟩)] 62)) (.cells #[.int .i64 (k : Int)] 3)
        rw [World.size_alloc, World.size_alloc] at this
        exact this
      have v4 : V.heap.size = wr.heap.size + 3 := by rw [hV]; simp
      have vS := HS.out.kept HJ.out.1 v0
      have hDV : ∀ D ∈ Ds, D < V.heap.size := fun D hD => vS.dlt hD
      have HV := Lib.hid (And.intro v0 (And.intro v1 (And.intro v2 (And.intro v3 (And.intro v4 (And.intro vS hDV))))))
      have HVE := Lib.hid hV
      clear v0 v1 v2 v3 v4 vS hDV hV
      simp only [World.size_alloc]
      gi_wp2_with fail
      rw [← HVE.out]
      obtain ⟨v0, v1, v2, v3, v4, vS, hDV⟩ := HV.out
      obtain ⟨hJ, hJx⟩ := HJ.out
      obtain ⟨hN, hT, hT2, hPr⟩ := HP.out
      obtain ⟨hkm, hlt⟩ := HK.out
      have hN2 : N + 2 ≤ V.heap.size := vS.sz
      have hFw : ∀ i, Fw r g m L i → i < V.heap.size := fun i hi => by have := (hPr i hi).1; omega
      refine rangeFunc_o (n := n) (by omega) (gf := 42) (lb := #[.pointer (some ⟨wr.heap.size + 1, 0, none⟩), .pointer (some ⟨wr.heap.size + 1 + 1, 0, none⟩)]) rfl (enters_of Try.func42 (by kernel_rfl) rfl)
        (encs := encI) T (fun i => i < N ∧ Pr i) (row_o (n - 1) (by omega) vS.hrw k hlt _ _ v2 v3 T _ V.heap.size ⟨by omega, by omega, hFw r (.inl rfl)⟩ (fun i hi => ⟨hFw i (.inr (.inr hi)), hPr i (.inr (.inr hi))⟩)) (fun _ => rfl)
        (fun pre W => ItS J l N bR b2 r g m many F G L Ds (byP L k ++ pre) W ∧ Boxed W wr.heap.size 3 (.int .i64 (k : Int)))
        (fun c pre W => c = .ret ∧ Jx (byP L k ++ pre) W ∧ ∀ D ∈ Ds, N + 2 ≤ D ∧ W.heap[D]? = some (.deferred (some [])))
        (fun s X Y hi hc => ⟨hi.1.chR hJ hc hN2 ⟨by omega, vS.bo2.lt⟩ hDV hFw, (hc.low _ (by omega) hi.2.lt).trans hi.2⟩)
        (fun c s X Y hi hc => ⟨hi.1, hJx _ _ _ hi.2.1 (hc.inner hN2), fun D hD => ⟨(hi.2.2 D hD).1, (hc.low _ (hDV D hD) (Array.getElem?_eq_some_iff.1 (hi.2.2 D hD).2).1).trans (hi.2.2 D hD).2⟩⟩)
        ⟨by rw [List.append_nil]; exact vS, v1⟩ ?round ?done ?stop
      case round =>
        rintro l2 pre x W1 hz1 ⟨hS1, hb3⟩ hlen
        have HS1 := Lib.hid (And.intro hS1 hb3)
        have HC := Lib.hid (And.intro hJ (And.intro hJx (And.intro hN (And.intro hT (And.intro hT2 hPr)))))
        have HD := Lib.hid (And.intro hDV (And.intro hFw vS))
        clear hS1 hb3 hJ hJx hN hT hT2 hPr hDV hFw v0 v1 v2 v3 vS
        simp only [encI]
        gi_wp2_with fail
        obtain ⟨hJ, hJx, hN, hT, hT2, hPr⟩ := HC.out
        obtain ⟨hDV, hFw, vS⟩ := HD.out
        obtain ⟨hS1, hb3⟩ := HS1.out
        have hN2 : N + 2 ≤ V.heap.size := vS.sz
        have ka : Kept (fun _ => False) W1 (W1.alloc (.cells #[.int .i64 x.id, .int .i64 x.fl, .int .i64 x.ct] 44)) := (Kept.refl _ W1).alloc _
        refine ⟨KeepsFrom.of_kept ka (fun _ _ _ _ e => e.elim), KpO.of_kept ka (fun _ _ e => e.elim), fun W2 hc => ?_⟩
        have hS2 := (hS1.kept hJ ka).chR hJ hc hN2 ⟨by omega, vS.bo2.lt⟩ hDV hFw
        have hb32 : Boxed W2 wr.heap.size 3 (.int .i64 (k : Int)) := (hc.low _ (by omega) (by simp; have := hb3.lt; omega)).trans ((ka.block _ hb3.lt (fun e => e)).trans hb3)
        have hx2 : Blk W2 W1.heap.size 44 #[.int .i64 x.id, .int .i64 x.fl, .int .i64 x.ct] := hc.cells _ _ (World.alloc_heap_new W1 _) rfl
        have y0 := hx2.cell 0
        have y1 := hx2.cell 1
        have y2 := hx2.cell 2
        simp at y0 y1 y2
        have ly := hx2.lt
        have z2 := hS2.bo2.cell
        have z3 := hb32.cell
        have zl2 := hS2.bo2.lt
        have zl3 := hb32.lt
        obtain ⟨R1, hR1⟩ := hlen
        have hxp : x.pr = k := (ofP_mem.1 (show x ∈ ofP L k by rw [← hR1]; simp)).2
        have hlen2 : ∃ R, (byP L k ++ pre) ++ x :: R = byP L many := by
          obtain ⟨R, hR⟩ := byP_split L HK.out.2
          exact ⟨R1 ++ R, by rw [hR, ← hR1]; simp⟩
        obtain ⟨fn, tmps, assign, body, hy, hRd⟩ := HY.out (byP L k ++ pre) x W2 hS2.j hlen2
        have HS2 := Lib.hid (And.intro hS2 hb32)
        have hy2 := hy
        simp only [encJ, hxp] at hy2
        clear hR1 hJ hJx hN hT hT2 hPr hDV hFw vS hS1 hb3 ka hc hS2 hb32 hx2 hlen2 hy hN2 hxp
        have hRd2 := roundIn_any (m := n - 1 - 1 - 1) (l0 := l2) hRd
        clear hRd
        gi_wp2_with fail
        refine ⟨fun _ => by omega, hRd2.mono ?_⟩
        rintro e W3 ⟨hjj, hk3⟩
        obtain ⟨hJ, hJx, hN, hT, hT2, hPr⟩ := HC.out
        obtain ⟨hDV, hFw, vS⟩ := HD.out
        obtain ⟨hS2, hb32⟩ := HS2.out
        have hN2 : N + 2 ≤ V.heap.size := vS.sz
        have f1 := hk3.keepsFrom hT hN2
        have f2 : KpO T V.heap.size (fun i => i < N ∧ Pr i) W2 W3 := ⟨hk3.size, fun i _ hl hp => hk3.low i hp.1 hl hp.2, fun i o hi ho ht => hk3.high i o (by omega) ho ht⟩
        rcases hjj with ⟨rfl, hJ3⟩ | ⟨rfl, hJx3⟩
        · have hS3 := hS2.kp hk3 hJ3 hN hT hT2 hPr
          rw [List.append_assoc] at hS3
          have hb33 : Boxed W3 wr.heap.size 3 (.int .i64 (k : Int)) := hk3.high _ _ (by have := HS.out.sz; omega) hb32 (fun e => by have := hT2 _ _ _ e; revert this; decide)
          have HE := Lib.hid (And.intro f1 (And.intro f2 (And.intro hS3 hb33)))
          clear f1 f2 hS3 hb33 hJ hJx hN hT hT2 hPr hDV hFw vS hS2 hb32 hk3 hJ3 hRd2 hy2
          gi_wp2_with fail
          exact ⟨HE.out.1, HE.out.2.1, HE.out.2.2.1, HE.out.2.2.2⟩
        · have hds : ∀ D ∈ Ds, N + 2 ≤ D ∧ W3.heap[D]? = some (.deferred (some [])) := fun D hD => ⟨(hS2.ds D hD).1, hk3.high _ _ (hS2.ds D hD).1 (hS2.ds D hD).2 (fun e => by have := hT _ e; cases this)⟩
          rw [List.append_assoc] at hJx3
          have HE := Lib.hid (And.intro f1 (And.intro f2 (And.intro hJx3 hds)))
          clear f1 f2 hds hJ hJx hN hT hT2 hPr hDV hFw vS hS2 hb32 hk3 hJx3 hRd2 hy2
          gi_wp2_with fail
          exact ⟨HE.out.1, HE.out.2.1, rfl, HE.out.2.2.1, HE.out.2.2.2⟩
      case done =>
        rintro xs W4 rfl ⟨hS4, _⟩ hD4 hz4
        have hS5 : ItS J l N bR b2 r g m many F G L (V.heap.size :: Ds) (byP L (k + 1)) W4 := by
          rw [byP_succ]
          exact ⟨hS4.j, hS4.hrw, hS4.boR, hS4.bo2, hS4.h2, List.nodup_cons.2 ⟨fun hm => by have := hDV _ hm; omega, hS4.nd⟩, fun D hD => by
            rcases List.mem_cons.1 hD with rfl | hD
            · exact ⟨hN2, hD4⟩
            · exact hS4.ds D hD, hS4.sz⟩
        have HE := Lib.hid hS5
        have e1 : IntKind.i64.wrap ((k : Int) + 1) = (k : Int) + 1 := IntWalk.i64_in _ (by omega)
        clear hS4 hS5 hJ hJx hN hT hT2 hPr hDV hFw vS v0 v1 v2 v3
        gi_wp2_with fail
        refine ⟨⟨k + 1, V.heap.size :: Ds, _, _, _, _, _, _, _, _, _, _, _, _, _, _, ⟨by omega, HE.out⟩, by rw [show ((k + 1 : Nat) : Int) = (k : Int) + 1 by omega]; rfl⟩, ?_⟩
        simp [intOf]
        omega
      case stop =>
        rintro c pre W4 ⟨R1, hR1⟩ ⟨rfl, hJx4, hds⟩ hD4 hz4
        have HE := Lib.hid (And.intro hJx (And.intro hJx4 (And.intro hds (And.intro hDV hN2))))
        obtain ⟨R, hR⟩ := byP_split L hlt
        have HR := Lib.hid (show ∃ R, (byP L k ++ pre) ++ R = byP L many from ⟨R1 ++ R, by rw [hR, ← hR1]; simp⟩)
        have HNd := Lib.hid vS.nd
        clear hJ hJx hN hT hT2 hPr hDV hFw vS v0 v1 v2 v3 hJx4 hds hR hR1 hN2
        gi_wp2_with fail
        obtain ⟨hJx, hJx4, hds, hDV, hN2⟩ := HE.out
        refine leaves_marks N (V.heap.size :: Ds) W4 (List.nodup_cons.2 ⟨fun hm => by have := hDV _ hm; omega, HNd.out⟩) (fun D hD => ?_) (fun W' hc => ⟨_, results_none rfl _ _ _, ⟨_, rfl⟩, .inr ⟨_, HR.out, hJx _ _ _ hJx4 hc⟩⟩)
        rcases List.mem_cons.1 hD with rfl | hD
        · exact ⟨hN2, hD4⟩
        · exact hds D hD
    · have hkm : k = many := by omega
      have b1 : ¬ ((k : Int) < (many : Int)) := by omega
      have HS := Lib.hid hS
      have HK := Lib.hid hkm
      clear hS hk hlt hkm
      gi_wp2_with fail
      obtain ⟨hJ, hJx⟩ := HJ.out
      refine leaves_marks N Ds wr HS.out.nd HS.out.ds (fun W' hc => ⟨_, results_none rfl _ _ _, ⟨_, rfl⟩, .inl ?_⟩)
      have := hJ _ _ _ HS.out.j hc
      rw [HK.out] at this
      exact this
end Go.Proofs.Ytlkmmbondelheaa
