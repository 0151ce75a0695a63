/-
  The mask of words: a range over the words, the text cut at each plus.
-/
import Derived.Test.YtbpgoopmfofcnaaDoorFlPrs
import Derived.Test.YtbpgoopmfofcnaaDoorFlText
import Derived.Test.YtbpgoopmfofcnaaDoorFlDrv2
namespace Go.Proofs.YtbpgoopmfofcnaaDoor
open Go.RowKit Go.Shelf Go.Maps Go.ChangeMaps

attribute [local go_sem] Oper.semAt_some

theorem box_far {W : World} {B : Nat} {t : TypeId} {v : Value} (h : Boxed W B t v) {q : Addr} (hq : B ≠ q.block) (u : Value) : Boxed (W.setCell q u) B t v := (Below.heap_setCell _ _ _ _ hq).trans h
theorem box_put {W : World} {B D : Nat} {t : TypeId} {v : Value} (h : Boxed W B t v) (hq : B ≠ D) (o : Obj) : Boxed (W.putObj D o) B t v := (World.putObj_heap_other (by omega)).trans h
/-- Between two rounds: what is said so far, and what is left of the text. -/
def PsI (w : World) (s : ByteArray) (Wd : Nat → ByteArray) (pre : List Nat) (W : World) : Prop :=
  w.heap.size + 6 ≤ W.heap.size ∧ ∃ m t, (∀ ks, prs Wd (pre ++ ks) 0 s = prs Wd ks m t) ∧ t.size ≤ 1000 ∧
    Boxed W w.heap.size 3 (.int .i64 0) ∧ Boxed W (w.heap.size + 1) 22 (.int .i64 0) ∧ Boxed W (w.heap.size + 1 + 1) 3 (.int .i64 m) ∧
    Boxed W (w.heap.size + 1 + 1 + 1) 9 (.string (headB t)) ∧ Boxed W (w.heap.size + 1 + 1 + 1 + 1) 9 (.string (restB t)) ∧ Boxed W (w.heap.size + 1 + 1 + 1 + 1 + 1) 4 (.bool (moreB t)) ∧ Kept (fun _ => False) w W
/-- Left behind a word, as nothing stood behind it. -/
def PsX (w : World) (s : ByteArray) (Wd : Nat → ByteArray) (c : Code) (pre : List Nat) (W : World) : Prop :=
  w.heap.size + 6 ≤ W.heap.size ∧ c = .ret ∧ ∃ v, (∀ ks, prs Wd (pre ++ ks) 0 s = some v) ∧ Boxed W w.heap.size 3 (.int .i64 v) ∧ Boxed W (w.heap.size + 1) 22 (.int .i64 0) ∧ Kept (fun _ => False) w W
theorem psI_low (w : World) (s : ByteArray) (Wd : Nat → ByteArray) : Low (w.heap.size + 6) (PsI w s Wd) := by
  rintro pre W ⟨h0, m, t, h1, h2, b0, b1, b2, b3, b4, b5, hk⟩
  exact ⟨h0, fun W' S => ⟨S.size, m, t, h1, h2, (S.block _ (by omega)).trans b0, (S.block _ (by omega)).trans b1, (S.block _ (by omega)).trans b2, (S.block _ (by omega)).trans b3, (S.block _ (by omega)).trans b4, (S.block _ (by omega)).trans b5, hk.sameTo S (by omega)⟩⟩
theorem psX_low (w : World) (s : ByteArray) (Wd : Nat → ByteArray) (c : Code) : Low (w.heap.size + 6) (PsX w s Wd c) := by
  rintro pre W ⟨h0, h1, v, h2, b0, b1, hk⟩
  exact ⟨h0, fun W' S => ⟨S.size, h1, v, h2, (S.block _ (by omega)).trans b0, (S.block _ (by omega)).trans b1, hk.sameTo S (by omega)⟩⟩

set_option maxRecDepth 100000 in
set_option maxHeartbeats 4000000 in
theorem parse_gen (s : ByteArray) (Wd : Nat → ByteArray) (n gf : Nat) (w : World) (hs : s.size ≤ 1000) (hz : ¬ s = ⟨#[110, 111, 110, 101]⟩)
    (eg : ∀ args w, (callFunc gf args).run Tryd.prog w = .ok (.enter gf args) w)
    (hseq : ∀ Y, Kept (fun _ => False) w Y → ∀ Kp, SeqCh 3 Tryd.prog gf #[] (fun k : Nat => #[.int .i64 (bitV k), .string (Wd k)]) Kp (Kept (fun _ => False)) (fun xs _ => xs = List.range n) (fun pre => ∃ r, pre ++ r = List.range n) n Y) :
    Calls Tryd.prog 33 #[.string s, .func (.func gf) #[] #[]] w fun e w' => e = .returned (.tuple #[.int .i64 (prV Wd n s), .int .i64 (prE Wd n s)]) ∧ Below w.heap.size w w' := by
  refine (callsIn_wide (n := 4)).1 ?_
  have hb : (s.toList == [110, 111, 110, 101]) = false := by
    have := bytes_ne hz
    rwa [show (ByteArray.mk #[110, 111, 110, 101]).toList = [110, 111, 110, 101] by rw [ByteArray.toList_eq]] at this
  have hmx : Tryd.prog.follows .mixedOrders = true := by kernel_rfl
  refine callsIn_of_wp_marks Tryd.func33 rfl trivial ?_ rfl
  simp only [Tryd.ntmps33, List.size_toArray, List.length_cons, List.length_nil, Nat.reduceAdd, Nat.reduceSub, Array.replicate_succ, Array.replicate_zero, List.push_toArray, List.append_toArray, List.nil_append, List.cons_append]
  gi_wp2_with (refine ⟨trivial, ?_⟩; gi_at_call 44; refine (callsIn_wide.2 (cut_any s _ hs)).mono ?_; rintro e w' ⟨rfl, k0, rfl⟩)
  obtain ⟨Y, hY⟩ : ∃ Y, ((((((w.alloc (.cells #[.int .i64 0] 3)).alloc (.cells #[.int .i64 0] 22)).alloc (.cells #[.int .i64 0] 3)).drewN k0).alloc (.cells #[.string (headB s)] 9)).alloc (.cells #[.string (restB s)] 9)).alloc (.cells #[.bool (moreB s)] 4) = Y := ⟨_, rfl⟩
  have hkY : Kept (fun _ => False) w Y := by rw [← hY]; exact ((((((((Kept.refl _ w).alloc _).alloc _).alloc _).drewN k0).alloc _).alloc _).alloc _)
  have hYz : Y.heap.size = w.heap.size + 6 := by rw [← hY]; simp [World.drewN]
  have hI0 : PsI w s Wd [] Y := by
    rw [← hY]
    obtain ⟨W3, h3⟩ : ∃ W3, ((w.alloc (.cells #[.int .i64 0] 3)).alloc (.cells #[.int .i64 0] 22)).alloc (.cells #[.int .i64 0] 3) = W3 := ⟨_, rfl⟩
    have y0 : Boxed (W3.drewN k0) w.heap.size 3 (.int .i64 0) := by rw [← h3]; exact ((Boxed.new w _ _).alloc _).alloc _
    have y1 : Boxed (W3.drewN k0) (w.heap.size + 1) 22 (.int .i64 0) := by
      rw [← h3]
      have x := (Boxed.new (w.alloc (.cells #[.int .i64 0] 3)) 22 (.int .i64 0)).alloc (.cells #[.int .i64 0] 3)
      simp only [World.size_alloc] at x
      exact x
    have y2 : Boxed (W3.drewN k0) (w.heap.size + 1 + 1) 3 (.int .i64 0) := by
      rw [← h3]
      have x := Boxed.new ((w.alloc (.cells #[.int .i64 0] 3)).alloc (.cells #[.int .i64 0] 22)) 3 (.int .i64 0)
      simp only [World.size_alloc] at x
      exact x
    have z3 : (W3.drewN k0).heap.size = w.heap.size + 1 + 1 + 1 := by rw [← h3]; simp [World.drewN]
    have y3 := Boxed.new (W3.drewN k0) 9 (.string (headB s))
    have y4 := Boxed.new ((W3.drewN k0).alloc (.cells #[.string (headB s)] 9)) 9 (.string (restB s))
    have y5 := Boxed.new (((W3.drewN k0).alloc (.cells #[.string (headB s)] 9)).alloc (.cells #[.string (restB s)] 9)) 4 (.bool (moreB s))
    simp only [World.size_alloc, z3] at y3 y4 y5
    have hk3 : Kept (fun _ => False) w W3 := by rw [← h3]; exact ((((Kept.refl _ w).alloc _).alloc _).alloc _)
    rw [h3]
    exact ⟨by simp only [World.size_alloc, z3]; omega, 0, s, fun ks => rfl, hs, ((y0.alloc _).alloc _).alloc _, ((y1.alloc _).alloc _).alloc _, ((y2.alloc _).alloc _).alloc _, (y3.alloc _).alloc _, y4.alloc _, y5, (((hk3.drewN k0).alloc _).alloc _).alloc _⟩
  have hseqY := hseq Y hkY
  have HY := Lib.hid hY
  clear hY hseq
  rw [HY.out]
  refine rangeFunc_low (n := 4) (by omega) (gf := gf) (lb := #[]) rfl eg (fun k : Nat => #[.int .i64 (bitV k), .string (Wd k)]) (fun _ => False) (hseqY _) (fun _ => rfl)
    (PsI w s Wd) (PsX w s Wd) (by rw [hYz]; exact psI_low w s Wd) (by rw [hYz]; exact psX_low w s Wd) hI0 ?act ?assign ?body ?done ?stop
  case assign =>
    intro l x W K hK
    gi_wp2
    exact hK
  case body =>
    rintro l pre x W ⟨i0, m, t, h1, h2, b0, b1, b2, b3, b4, b5, hk⟩ hlt
    have c0 := b0.cell
    have c1 := b1.cell
    have c2 := b2.cell
    have c3 := b3.cell
    have c4 := b4.cell
    have c5 := b5.cell
    have f0 := b0.frozen
    have f1 := b1.frozen
    have f2 := b2.frozen
    have f3 := b3.frozen
    have f4 := b4.frozen
    have f5 := b5.frozen
    by_cases hx : Wd x = headB t
    · have hq := bytes_eq hx
      cases hm : moreB t with
      | true =>
        rw [hm] at c5 b5
        have HE : Hid (∀ ks, prs Wd (pre ++ [x] ++ ks) 0 s = prs Wd ks (bits .or .i64 m (bitV x)) (restB t)) := fun ks => by
          rw [List.append_assoc, h1]
          show prs Wd (x :: ks) m t = _
          rw [prs, if_pos hx, if_pos hm]
        have HB := Lib.hid (And.intro b0 (And.intro b1 (And.intro b2 (And.intro b3 (And.intro b4 (And.intro b5 hk))))))
        have ht := Nat.le_trans (rest_le t) h2
        clear hx h1 hm b0 b1 b2 b3 b4 b5 hk
        gi_wp2_with (refine ⟨trivial, ?_⟩; gi_at_call 44; refine (callsIn_wide.2 (cut_any (restB t) _ ht)).mono ?_; rintro e w' ⟨rfl, k1, rfl⟩)
        obtain ⟨b0, b1, b2, b3, b4, b5, hk⟩ := HB.out
        have r1 : ∀ k, w.heap.size + 6 ≤ k → (((((W.setCell ⟨w.heap.size + 1 + 1, 0, none⟩ (.int .i64 (bits .or .i64 m (bitV x)))).drewN k1).setCell ⟨w.heap.size + 1 + 1 + 1, 0, none⟩ (.string (headB (restB t)))).setCell ⟨w.heap.size + 1 + 1 + 1 + 1, 0, none⟩ (.string (restB (restB t)))).setCell ⟨w.heap.size + 1 + 1 + 1 + 1 + 1, 0, none⟩ (.bool (moreB (restB t)))).heap[k]? = W.heap[k]? := fun k hk =>
          (Below.heap_setCell _ _ _ _ (by show k ≠ w.heap.size + 1 + 1 + 1 + 1 + 1; omega)).trans ((Below.heap_setCell _ _ _ _ (by show k ≠ w.heap.size + 1 + 1 + 1 + 1; omega)).trans ((Below.heap_setCell _ _ _ _ (by show k ≠ w.heap.size + 1 + 1 + 1; omega)).trans (Below.heap_setCell _ _ _ _ (by show k ≠ w.heap.size + 1 + 1; omega))))
        have r2 : (((((W.setCell ⟨w.heap.size + 1 + 1, 0, none⟩ (.int .i64 (bits .or .i64 m (bitV x)))).drewN k1).setCell ⟨w.heap.size + 1 + 1 + 1, 0, none⟩ (.string (headB (restB t)))).setCell ⟨w.heap.size + 1 + 1 + 1 + 1, 0, none⟩ (.string (restB (restB t)))).setCell ⟨w.heap.size + 1 + 1 + 1 + 1 + 1, 0, none⟩ (.bool (moreB (restB t)))).heap.size = W.heap.size := by simp [World.setCell, World.drewN]
        have n2 : Boxed ((W.setCell ⟨w.heap.size + 1 + 1, 0, none⟩ (.int .i64 (bits .or .i64 m (bitV x)))).drewN k1) (w.heap.size + 1 + 1) 3 (.int .i64 (bits .or .i64 m (bitV x))) := b2.set _
        have o0 : Boxed ((W.setCell ⟨w.heap.size + 1 + 1, 0, none⟩ (.int .i64 (bits .or .i64 m (bitV x)))).drewN k1) w.heap.size 3 (.int .i64 0) := box_far b0 (by show w.heap.size ≠ w.heap.size + 1 + 1; omega) _
        have o1 : Boxed ((W.setCell ⟨w.heap.size + 1 + 1, 0, none⟩ (.int .i64 (bits .or .i64 m (bitV x)))).drewN k1) (w.heap.size + 1) 22 (.int .i64 0) := box_far b1 (by show w.heap.size + 1 ≠ w.heap.size + 1 + 1; omega) _
        have o3 : Boxed ((W.setCell ⟨w.heap.size + 1 + 1, 0, none⟩ (.int .i64 (bits .or .i64 m (bitV x)))).drewN k1) (w.heap.size + 1 + 1 + 1) 9 (.string (headB t)) := box_far b3 (by show w.heap.size + 1 + 1 + 1 ≠ w.heap.size + 1 + 1; omega) _
        have o4 : Boxed ((W.setCell ⟨w.heap.size + 1 + 1, 0, none⟩ (.int .i64 (bits .or .i64 m (bitV x)))).drewN k1) (w.heap.size + 1 + 1 + 1 + 1) 9 (.string (restB t)) := box_far b4 (by show w.heap.size + 1 + 1 + 1 + 1 ≠ w.heap.size + 1 + 1; omega) _
        have o5 : Boxed ((W.setCell ⟨w.heap.size + 1 + 1, 0, none⟩ (.int .i64 (bits .or .i64 m (bitV x)))).drewN k1) (w.heap.size + 1 + 1 + 1 + 1 + 1) 4 (.bool true) := box_far b5 (by show w.heap.size + 1 + 1 + 1 + 1 + 1 ≠ w.heap.size + 1 + 1; omega) _
        refine ⟨⟨by rw [r2]; exact Nat.le_refl _, fun k o' hk' hko ho => (r1 k (by omega)).trans hko⟩, ⟨by rw [r2]; exact Nat.le_refl _, fun _ _ h => h.elim⟩, ?_⟩
        refine ⟨by rw [r2]; exact i0, _, restB t, HE.out, ht, ?_, ?_, ?_, ?_, ?_, ?_, ?_⟩
        · exact box_far (box_far (box_far o0 (by show w.heap.size ≠ w.heap.size + 1 + 1 + 1; omega) _) (by show w.heap.size ≠ w.heap.size + 1 + 1 + 1 + 1; omega) _) (by show w.heap.size ≠ w.heap.size + 1 + 1 + 1 + 1 + 1; omega) _
        · exact box_far (box_far (box_far o1 (by show w.heap.size + 1 ≠ w.heap.size + 1 + 1 + 1; omega) _) (by show w.heap.size + 1 ≠ w.heap.size + 1 + 1 + 1 + 1; omega) _) (by show w.heap.size + 1 ≠ w.heap.size + 1 + 1 + 1 + 1 + 1; omega) _
        · exact box_far (box_far (box_far n2 (by show w.heap.size + 1 + 1 ≠ w.heap.size + 1 + 1 + 1; omega) _) (by show w.heap.size + 1 + 1 ≠ w.heap.size + 1 + 1 + 1 + 1; omega) _) (by show w.heap.size + 1 + 1 ≠ w.heap.size + 1 + 1 + 1 + 1 + 1; omega) _
        · exact box_far (box_far (o3.set _) (by show w.heap.size + 1 + 1 + 1 ≠ w.heap.size + 1 + 1 + 1 + 1; omega) _) (by show w.heap.size + 1 + 1 + 1 ≠ w.heap.size + 1 + 1 + 1 + 1 + 1; omega) _
        · exact box_far ((box_far o4 (by show w.heap.size + 1 + 1 + 1 + 1 ≠ w.heap.size + 1 + 1 + 1; omega) _).set _) (by show w.heap.size + 1 + 1 + 1 + 1 ≠ w.heap.size + 1 + 1 + 1 + 1 + 1; omega) _
        · exact (box_far (box_far o5 (by show w.heap.size + 1 + 1 + 1 + 1 + 1 ≠ w.heap.size + 1 + 1 + 1; omega) _) (by show w.heap.size + 1 + 1 + 1 + 1 + 1 ≠ w.heap.size + 1 + 1 + 1 + 1; omega) _).set _
        · exact ((((hk.setCell_new (by show w.heap.size ≤ w.heap.size + 1 + 1; omega) _).drewN k1).setCell_new (by show w.heap.size ≤ w.heap.size + 1 + 1 + 1; omega) _).setCell_new (by show w.heap.size ≤ w.heap.size + 1 + 1 + 1 + 1; omega) _).setCell_new (by show w.heap.size ≤ w.heap.size + 1 + 1 + 1 + 1 + 1; omega) _
      | false =>
        rw [hm] at c5 b5
        have HE : Hid (∀ ks, prs Wd (pre ++ [x] ++ ks) 0 s = some (bits .or .i64 m (bitV x))) := fun ks => by
          rw [List.append_assoc, h1]
          show prs Wd (x :: ks) m t = _
          rw [prs, if_pos hx, if_neg (by rw [hm]; simp)]
        have HB := Lib.hid (And.intro b0 (And.intro b1 (And.intro b2 hk)))
        clear hx h1 hm b0 b1 b2 b3 b4 b5 hk
        gi_wp2
        obtain ⟨b0, b1, b2, hk⟩ := HB.out
        have r1 : ∀ k, w.heap.size + 6 ≤ k → (((W.setCell ⟨w.heap.size + 1 + 1, 0, none⟩ (.int .i64 (bits .or .i64 m (bitV x)))).setCell ⟨w.heap.size, 0, none⟩ (.int .i64 (bits .or .i64 m (bitV x)))).setCell ⟨w.heap.size + 1, 0, none⟩ (.int .i64 0)).heap[k]? = W.heap[k]? := fun k hk =>
          (Below.heap_setCell _ _ _ _ (by show k ≠ w.heap.size + 1; omega)).trans ((Below.heap_setCell _ _ _ _ (by show k ≠ w.heap.size; omega)).trans (Below.heap_setCell _ _ _ _ (by show k ≠ w.heap.size + 1 + 1; omega)))
        have r2 : (((W.setCell ⟨w.heap.size + 1 + 1, 0, none⟩ (.int .i64 (bits .or .i64 m (bitV x)))).setCell ⟨w.heap.size, 0, none⟩ (.int .i64 (bits .or .i64 m (bitV x)))).setCell ⟨w.heap.size + 1, 0, none⟩ (.int .i64 0)).heap.size = W.heap.size := by simp [World.setCell]
        refine ⟨⟨by rw [r2]; exact Nat.le_refl _, fun k o' hk' hko ho => (r1 k (by omega)).trans hko⟩, by rw [r2]; exact i0, rfl, _, HE.out, ?_, ?_, ?_⟩
        · exact box_far ((box_far b0 (by show w.heap.size ≠ w.heap.size + 1 + 1; omega) _).set _) (by show w.heap.size ≠ w.heap.size + 1; omega) _
        · exact (box_far (box_far b1 (by show w.heap.size + 1 ≠ w.heap.size + 1 + 1; omega) _) (by show w.heap.size + 1 ≠ w.heap.size; omega) _).set _
        · exact ((hk.setCell_new (by show w.heap.size ≤ w.heap.size + 1 + 1; omega) _).setCell_new (Nat.le_refl _) _).setCell_new (by show w.heap.size ≤ w.heap.size + 1; omega) _
    · have hq := bytes_ne hx
      have HI : Hid (PsI w s Wd (pre ++ [x]) W) := ⟨i0, m, t, fun ks => by
          rw [List.append_assoc, h1]
          show prs Wd (x :: ks) m t = _
          rw [prs, if_neg hx], h2, b0, b1, b2, b3, b4, b5, hk⟩
      clear hx h1 b0 b1 b2 b3 b4 b5 hk
      gi_wp2
      exact ⟨KeepsFrom.refl _ _, ⟨Nat.le_refl _, fun _ _ _ => rfl⟩, HI.out⟩
  case done =>
    rintro D xs W hD rfl ⟨i0, m, t, h1, h2, b0, b1, b2, b3, b4, b5, hk⟩ hK
    have hn := h1 []
    rw [List.append_nil] at hn
    have HP : Hid (prV Wd n s = 0 ∧ prE Wd n s = 50) := by
      have e : PR Wd n s = none := by unfold PR; rw [if_neg hz, hn]; rfl
      unfold prV prE; rw [e]; exact ⟨rfl, rfl⟩
    have c0 := b0.cell
    have c1 := b1.cell
    have f0 := b0.frozen
    have f1 := b1.frozen
    have HB := Lib.hid (And.intro b0 (And.intro b1 hk))
    have HKD := Lib.hid hK
    clear h1 hn b0 b1 b2 b3 b4 b5 hk hK
    gi_wp2
    obtain ⟨b0, b1, hk⟩ := HB.out
    have hKD : ((W.setCell ⟨w.heap.size, 0, none⟩ (.int .i64 0)).setCell ⟨w.heap.size + 1, 0, none⟩ (.int .i64 50)).heap[D]? = some (.deferred (some [])) :=
      (Below.heap_setCell _ _ _ _ (by show D ≠ w.heap.size + 1; omega)).trans ((Below.heap_setCell _ _ _ _ (by show D ≠ w.heap.size; omega)).trans HKD.out)
    have n0 := box_put (D := D) (box_far (b0.set (.int .i64 0)) (q := ⟨w.heap.size + 1, 0, none⟩) (by show w.heap.size ≠ w.heap.size + 1; omega) (.int .i64 50)) (by omega)
    have n1 := box_put (D := D) ((box_far b1 (q := ⟨w.heap.size, 0, none⟩) (by show w.heap.size + 1 ≠ w.heap.size; omega) (.int .i64 0)).set (.int .i64 50)) (by omega)
    refine ⟨by simp, .inl ⟨_, _, rfl, run_takeDeferred hKD, ?_⟩⟩
    have d0 := (n0 (.deferred none)).cell
    have d1 := (n1 (.deferred none)).cell
    refine ⟨.tuple #[.int .i64 0, .int .i64 50], by simp [results, Tryd.results33, go_sem, d0, d1], by rw [HP.out.1, HP.out.2], ?_⟩
    exact below_put (((hk.setCell_new (p := ⟨w.heap.size, 0, none⟩) (Nat.le_refl _) _).setCell_new (p := ⟨w.heap.size + 1, 0, none⟩) (by show w.heap.size ≤ w.heap.size + 1; omega) _).below (fun _ e => e.elim) (Nat.le_refl _)) (by omega)
  case stop =>
    rintro D c pre W hD ⟨r, hr⟩ ⟨i0, rfl, v, h1, b0, b1, hk⟩ hK
    have hn := h1 r
    rw [hr] at hn
    have HP : Hid (prV Wd n s = v ∧ prE Wd n s = 0) := by
      have e : PR Wd n s = some v := by unfold PR; rw [if_neg hz, hn]
      unfold prV prE; rw [e]; exact ⟨rfl, rfl⟩
    have n0 := box_put (D := D) b0 (by omega)
    have n1 := box_put (D := D) b1 (by omega)
    gi_wp2
    refine ⟨by simp, .inl ⟨_, _, rfl, run_takeDeferred hK, ?_⟩⟩
    have d0 := (n0 (.deferred none)).cell
    have d1 := (n1 (.deferred none)).cell
    refine ⟨.tuple #[.int .i64 v, .int .i64 0], by simp [results, Tryd.results33, go_sem, d0, d1], by rw [HP.out.1, HP.out.2], ?_⟩
    exact below_put (hk.below (fun _ e => e.elim) (Nat.le_refl _)) (by omega)

set_option maxRecDepth 100000 in
theorem parse_zero (Wd : Nat → ByteArray) (n : Nat) (v : Value) (w : World) : Calls Tryd.prog 33 #[.string ⟨#[110, 111, 110, 101]⟩, v] w fun e w' => e = .returned (.tuple #[.int .i64 (prV Wd n ⟨#[110, 111, 110, 101]⟩), .int .i64 (prE Wd n ⟨#[110, 111, 110, 101]⟩)]) ∧ Below w.heap.size w w' := by
  have HX : Hid (prV Wd n ⟨#[110, 111, 110, 101]⟩ = 0 ∧ prE Wd n ⟨#[110, 111, 110, 101]⟩ = 0) := by
    unfold prV prE PR; rw [if_pos rfl]; exact ⟨rfl, rfl⟩
  rw [HX.out.1, HX.out.2]
  have hb : ((ByteArray.mk #[110, 111, 110, 101]).toList == [110, 111, 110, 101]) = true := by rw [ByteArray.toList_eq]; rfl
  go_enter Tryd.func33, Tryd.ntmps33
  go_wp2
  refine bodyPost_ret (v := .tuple #[.int .i64 0, .int .i64 0]) (by simp [results, Tryd.results33, go_sem]) rfl ⟨rfl, ?_⟩
  (repeat' (first | exact Below.refl _ _ | apply Below.setCell | apply Below.alloc)) <;> simp
theorem parseW_any (s : ByteArray) (w : World) (hT : TabW w) (hs : s.size ≤ 1000) :
    Calls Tryd.prog 13 #[.string s] w fun e w' => e = .returned (.tuple #[.int .i64 (prV wordB 6 s), .int .i64 (prE wordB 6 s)]) ∧ Below w.heap.size w w' := by
  have H : Hid (Calls Tryd.prog 33 #[.string s, .func (.func 40) #[] #[]] w fun e w' => e = .returned (.tuple #[.int .i64 (prV wordB 6 s), .int .i64 (prE wordB 6 s)]) ∧ Below w.heap.size w w') := by
    by_cases hz : s = ⟨#[110, 111, 110, 101]⟩
    · subst hz; exact parse_zero _ _ _ _
    · exact parse_gen s wordB 6 _ w hs hz (enters_of Tryd.func40 (by kernel_rfl) rfl) (fun Y hY => flags_ch 3 (by omega) Y (hT.same (fun k hk => hY.block k hk (fun e => e)) hY.size))
  clear hT
  go_enter Tryd.func13, Tryd.ntmps13
  go_wp2_with (first
    | (go_at_call 30; refine (flags_any _).mono ?_; rintro e w' ⟨rfl, rfl⟩)
    | (go_at_call 33; refine H.out.mono ?_; rintro e w' ⟨rfl, hb⟩))
  go_ret2
  exact ⟨rfl, hb⟩
theorem parseF_any (s : ByteArray) (w : World) (hT : TabF w) (hs : s.size ≤ 1000) :
    Calls Tryd.prog 15 #[.string s] w fun e w' => e = .returned (.tuple #[.int .i64 (prV featB 4 s), .int .i64 (prE featB 4 s)]) ∧ Below w.heap.size w w' := by
  have H : Hid (Calls Tryd.prog 33 #[.string s, .func (.func 43) #[] #[]] w fun e w' => e = .returned (.tuple #[.int .i64 (prV featB 4 s), .int .i64 (prE featB 4 s)]) ∧ Below w.heap.size w w') := by
    by_cases hz : s = ⟨#[110, 111, 110, 101]⟩
    · subst hz; exact parse_zero _ _ _ _
    · exact parse_gen s featB 4 _ w hs hz (enters_of Tryd.func43 (by kernel_rfl) rfl) (fun Y hY => feats_ch 3 (by omega) Y (hT.same (fun k hk => hY.block k hk (fun e => e)) hY.size))
  clear hT
  go_enter Tryd.func15, Tryd.ntmps15
  go_wp2_with (first
    | (go_at_call 32; refine (features_it _).mono ?_; rintro e w' ⟨rfl, rfl⟩)
    | (go_at_call 33; refine H.out.mono ?_; rintro e w' ⟨rfl, hb⟩))
  go_ret2
  exact ⟨rfl, hb⟩
end Go.Proofs.YtbpgoopmfofcnaaDoor
