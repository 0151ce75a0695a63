/-
  The text of a mask: a range over words, what was said in a row of its own, joined.
-/
import Derived.Test.YtbpgoopmfofcnaaDoorFlPure
import Derived.Deep.AppendLies
namespace Go.Proofs.YtbpgoopmfofcnaaDoor
open Go.RowKit Go.Shelf Go.Maps Go.ChangeMaps

attribute [local go_sem] Oper.semAt_some

theorem infoS : (Tryd.prog.info? 9).map (fun i => (i.zero, i.size, i.bytes)) = some (some (.string ⟨#[]⟩), 1, 16) := by kernel_rfl
def encS (Wd : Nat → ByteArray) (ks : List Nat) : List Value := ks.map fun k => Value.string (Wd k)
def OwnS (W : World) (B : Nat) (v : Value) (Wd : Nat → ByteArray) (ks : List Nat) : Prop := W.ownsRow B 9 1 v ks.length (encS Wd ks)

/-- A range over a function whose loop may own new rows. -/
theorem rangeFunc_own {n : Nat} {P : Program} {α : Type} {g : Operand} {ps : Array Tmp} {assign body : Code} {Q : Exit → Act → World → Prop} {a : Act} {w : World} (h1 : 1 ≤ n)
    {gf : Nat} {lb : Array Value} (hg : a.eval g = .func (.func gf) #[] lb) (eg : ∀ args w, (callFunc gf args).run P w = .ok (.enter gf args) w)
    (encs : α → Array Value) {S Sp : List α → Prop} {M : Nat} (hseq : SeqCh (n - 1) P gf lb encs (fun _ _ => True) (Kept (fun _ => False)) (fun xs _ => S xs) Sp M w)
    (hps : ∀ x, (encs x).size = ps.size)
    (I : List α → World → Prop) (Ix : Code → List α → World → Prop) (hI : OwnFrom w.heap.size I) (hIx : ∀ c, OwnFrom w.heap.size (Ix c)) (hIc : ∀ s A A', I s A → Kept (fun _ => False) A A' → I s A') (h0 : I [] w) (a₁ : α → Act)
    (hassign : ∀ (l : Nat) (x : α) (W : World) (K : Act → World → Prop), K (a₁ x) W →
      assign.wpIn (Fence.wide.inRound l) (n - 1 - 1) P (Exit.then K (fun _ _ _ => False)) { tmps := (ps.zip (encs x)).foldl (fun t (p, v) => t.setIfInBounds p v) a.tmps, defers := [] } W)
    (hbody : ∀ (l : Nat) (pre : List α) (x : α) (W : World), I pre W → pre.length < M → body.wpIn (Fence.wide.inRound l) (n - 1 - 1) P (ownPostG w.heap.size (fun _ _ => True) I Ix (pre ++ [x]) W) (a₁ x) W)
    (hdone : ∀ (D : Nat) (xs : List α) (W : World), w.heap.size ≤ D → S xs → I xs W → W.heap[D]? = some (.deferred (some [])) → Q .normal { a with defers := { target := .collected D, args := #[] } :: a.defers } W)
    (hstop : ∀ (D : Nat) (c : Code) (pre : List α) (W : World), w.heap.size ≤ D → Sp pre → Ix c pre W → W.heap[D]? = some (.deferred (some [])) → c.wpIn Fence.wide n P Q { a with defers := { target := .collected D, args := #[] } :: a.defers } W) :
    (Code.rangeFunc g ps assign body).wpIn Fence.wide n P Q a w := by
  refine rangeFunc_ch h1 hg eg hseq (fun _ _ => rfl) (Nat.le_refl _) (fun _ _ => trivial) (fun X l o o' hl _ _ _ => trivial) hps
    I Ix hI hIx
    (fun X Y k o h _ ho => (h.block k (Array.getElem?_eq_some_iff.1 ho).1 (fun e => e)).trans ho)
    hIc (fun _ _ _ _ _ hs _ _ => hs) h0 (fun x a' _ => a' = a₁ x) (fun _ _ _ _ _ _ hs _ _ => hs)
    (fun l pre x W K hi hK => hassign l x W K (hK _ _ (KeepsFrom.refl _ _) trivial hi rfl)) ?_ (fun D xs W hD hS hi hd => hdone D xs W hD hS hi hd) hstop
  rintro l pre x a' W hl hi rfl hM
  exact hbody l pre x W hi hM

/-- Between two rounds: the mask that is left, and what was said. -/
def TxI (w : World) (z : Int) (Wd : Nat → ByteArray) (pre : List Nat) (W : World) : Prop :=
  Boxed W w.heap.size 3 (.int .i64 (stt z pre).1) ∧ (∃ u, Boxed W (w.heap.size + 1) 57 u ∧ OwnS W w.heap.size u Wd (stt z pre).2) ∧ Kept (fun _ => False) w W

theorem boxed_keep {A B : World} {row : Option Nat} {k : Nat} {t : TypeId} {v : Value} (h : Boxed A k t v) (hg : A.grownBy B row) (hr : ∀ r, row = some r → ∃ o : Obj, A.heap[r]? = some o ∧ o.isCells = false) : Boxed B k t v :=
  h.kept hg (fun e => by obtain ⟨o, ho, hc⟩ := hr _ e.symm; rw [show A.heap[k]? = _ from h] at ho; cases ho; cases hc)
theorem ownS_keep {A B : World} {row : Option Nat} {b : Nat} {Wd : Nat → ByteArray} {P : List Nat} {v : Value} (h : OwnS A b v Wd P) (hg : A.grownBy B row) (hr : ∀ r, row = some r → ∃ o : Obj, A.heap[r]? = some o ∧ o.isCells = false) : OwnS B b v Wd P := by
  refine World.ownsRow.kept h hg ?_
  rcases h.2 with ⟨rfl, _⟩ | ⟨g, cap, cur, rfl, _, hgb, _⟩
  · exact .inl rfl
  · refine .inr fun e' => ?_
    obtain ⟨o, ho, hc⟩ := hr g (by simpa [Value.ownBlock] using e'.symm)
    rw [hgb] at ho; cases ho; cases hc
theorem txI_own (w : World) (z : Int) (Wd : Nat → ByteArray) (n0 : Nat) (hn : w.heap.size ≤ n0) : OwnFrom n0 (TxI w z Wd) := by
  rintro s X Y row ⟨h1, ⟨u, h2, h3⟩, h4⟩ hg hrow
  have hr := fun r e => (hrow r e).2
  exact ⟨boxed_keep h1 hg hr, ⟨u, boxed_keep h2 hg hr, ownS_keep h3 hg hr⟩, h4.grown hg (fun k e hk => by have := (hrow k e).1; omega)⟩
theorem own_same {w w' : World} {v : Value} {base : Nat} {e : TypeId} {size n : Nat} {xs : List Value} (h : w.ownsRow base e size v n xs) (hk : ∀ k, v.ownBlock = some k → k < w.heap.size → w'.heap[k]? = w.heap[k]?) : w'.ownsRow base e size v n xs := by
  obtain ⟨h1, h2⟩ := h
  refine ⟨h1, ?_⟩
  rcases h2 with h2 | ⟨g, cap, cur, rfl, hg, hh, r⟩
  · exact .inl h2
  · exact .inr ⟨g, cap, cur, rfl, hg, (hk g rfl (Array.getElem?_eq_some_iff.1 hh).1).trans hh, r⟩
theorem txI_kept {w : World} {z : Int} {Wd : Nat → ByteArray} {pre : List Nat} {X Y : World} (h : TxI w z Wd pre X) (hk : Kept (fun _ => False) X Y) : TxI w z Wd pre Y := by
  obtain ⟨h1, ⟨u, h2, h3⟩, h4⟩ := h
  exact ⟨(hk.block _ h1.lt (fun e => e)).trans h1, ⟨u, (hk.block _ h2.lt (fun e => e)).trans h2, own_same h3 fun k e hl => hk.block k hl (fun e => e)⟩, h4.trans hk⟩
/-- Left behind a word, as nothing was left of the mask. -/
def TxX (w : World) (z : Int) (Wd : Nat → ByteArray) (c : Code) (pre : List Nat) (W : World) : Prop := c = .exit 0 ∧ ∃ p x, pre = p ++ [x] ∧ (stt z p).1 = 0 ∧ TxI w z Wd p W
theorem txX_own (w : World) (z : Int) (Wd : Nat → ByteArray) (n0 : Nat) (hn : w.heap.size ≤ n0) (c : Code) : OwnFrom n0 (TxX w z Wd c) := by
  rintro s X Y row ⟨h1, p, x, h2, h3, h4⟩ hg hrow
  exact ⟨h1, p, x, h2, h3, txI_own w z Wd n0 hn p X Y row h4 hg hrow⟩

theorem below_put {w W : World} {D : Nat} {o : Obj} (h : Below w.heap.size w W) (hD : w.heap.size ≤ D) : Below w.heap.size w (W.putObj D o) :=
  ⟨h.os, h.tape, h.output, by simpa [World.putObj] using h.size, fun k hk => (World.putObj_heap_other (by omega)).trans (h.block k hk)⟩
/-- What was said, joined. -/
theorem text_last {z : Int} {n : Nat} {Wd : Nat → ByteArray} {w W : World} {u : Value} {ks : List Nat} (hn : n ≤ 6) (hz : ¬ z = 0) (hr : 0 ≤ z ∧ z < 2 ^ n) (hs : ks = sel n z.toNat)
    (hrow : OwnS W w.heap.size u Wd ks) (hk : Kept (fun _ => False) w W) (hw : ∀ ks, (txt Wd ks).size ≤ 8 * ks.length) :
    Calls Tryd.prog 39 #[u, .string ⟨#[43]⟩] W fun e w' => e = .returned (.string (textB Wd n z)) ∧ textE n z = 0 ∧ Below W.heap.size W w' ∧ Below w.heap.size w W := by
  have hp : (2 : Nat) ^ n ≤ 2 ^ 6 := Nat.pow_le_pow_right (by omega) hn
  have hpi : (2 : Int) ^ n = ((2 ^ n : Nat) : Int) := by simp
  have hl : z.toNat < 2 ^ n := by omega
  have hne := sel_ne ⟨n, by omega⟩ ⟨z.toNat, by omega⟩ (by show 0 < z.toNat; omega) hl
  simp only at hne
  rw [← hs] at hne
  have hlen : ks.length ≤ 6 := by
    rw [hs]; unfold sel
    exact Nat.le_trans (List.length_filter_le _ _) (by rw [List.length_range]; exact hn)
  have e1 : textB Wd n z = txt Wd ks := by unfold textB; rw [if_neg hz, if_pos hr, hs]
  have e2 : textE n z = 0 := by unfold textE; rw [if_pos hr]
  have hbel : Below w.heap.size w W := hk.below (fun _ e => e.elim) (Nat.le_refl _)
  rw [e1, e2]
  rcases hrow.2 with ⟨_, hn0⟩ | ⟨g, cap, cur, rfl, hbg, hgb, hcap, hcm, hcur, htake⟩
  · exact absurd (List.eq_nil_of_length_eq_zero hn0) hne
  · have hsz := hw ks
    have hj := Tryd.strings_Join g 0 cap (ks.map Wd) ⟨#[43]⟩ W (fun j x hx => by
        rw [Nat.zero_add, cell_of_row W g j cur 9 (0, 0) hgb]
        rw [List.getElem?_map] at hx
        have h1 : (cur.toList.take (ks.length * 1))[j]? = some (.string x) := by
          rw [htake]; unfold encS; rw [List.getElem?_map]
          cases hk' : ks[j]? with
          | none => rw [hk'] at hx; cases hx
          | some k => rw [hk'] at hx; simp at hx; simp [hx]
        rw [List.getElem?_take] at h1
        split at h1
        · simpa using h1
        · cases h1) (Array.getElem?_eq_some_iff.1 hgb).1 (by simp; omega) (by simpa using hcap) (by
        have h2 : (txt Wd ks).size = (Lib.join (ks.map fun k => (Wd k).data.toList) [43]).length := by unfold txt; simp [ByteArray.size]
        rw [List.map_map]
        have h3 : (Lib.join (List.map ((fun x => x.data.toList) ∘ Wd) ks) (ByteArray.mk #[43]).data.toList).length = (txt Wd ks).size := by rw [h2]; rfl
        rw [h3]; omega)
    rw [List.length_map, List.map_map] at hj
    exact hj.mono fun e w' ⟨he, hb⟩ => ⟨by rw [he]; rfl, rfl, hb, hbel⟩

set_option maxRecDepth 100000 in
set_option maxHeartbeats 4000000 in
theorem text_gen (z : Int) (Wd : Nat → ByteArray) (n gf : Nat) (hn : n ≤ 6) (w : World) (h0 : -9223372036854775808 ≤ z) (h1 : z ≤ 9223372036854775807) (hz : ¬ z = 0)
    (eg : ∀ args w, (callFunc gf args).run Tryd.prog w = .ok (.enter gf args) w)
    (hseq : ∀ Y, Kept (fun _ => False) w Y → SeqCh 3 Tryd.prog gf #[] (fun k : Nat => #[.int .i64 (bitV k), .string (Wd k)]) (fun _ _ => True) (Kept (fun _ => False)) (fun xs _ => xs = List.range n) (fun pre => ∃ r, pre ++ r = List.range n) n Y)
    (hw : ∀ ks, (txt Wd ks).size ≤ 8 * ks.length) :
    Calls Tryd.prog 29 #[.int .i64 z, .func (.func gf) #[] #[]] w fun e w' => e = .returned (.tuple #[.string (textB Wd n z), .int .i64 (textE n z)]) ∧ Below w.heap.size w w' := by
  obtain ⟨i0, hi, hz0, hz1, hz2⟩ := info_parts infoS
  refine (callsIn_wide (n := 4)).1 ?_
  obtain ⟨Y, hY⟩ : ∃ Y, (w.alloc (.cells #[.int .i64 z] 3)).alloc (.cells #[.slice none 0 0] 57) = Y := ⟨_, rfl⟩
  have hkY : Kept (fun _ => False) w Y := by rw [← hY]; exact ((Kept.refl _ w).alloc _).alloc _
  have hYz : Y.heap.size = w.heap.size + 1 + 1 := by rw [← hY]; simp
  have hI0 : TxI w z Wd [] Y := by
    refine ⟨?_, ⟨.slice none 0 0, ?_, World.ownsRow_nil _ _ _ _⟩, hkY⟩
    · rw [← hY]; exact (Boxed.new w _ _).alloc _
    · rw [← hY]
      have x3 := Boxed.new (w.alloc (.cells #[.int .i64 z] 3)) 57 (.slice none 0 0)
      simp only [World.size_alloc] at x3
      exact x3
  have hseqY := hseq Y hkY
  have HY := Lib.hid hY
  clear hY hseq
  refine callsIn_of_wp_marks Tryd.func29 rfl trivial ?_ rfl
  simp only [Tryd.ntmps29, List.size_toArray, List.length_cons, List.length_nil, Nat.reduceAdd, Nat.reduceSub, Array.replicate_succ, Array.replicate_zero, List.push_toArray, List.append_toArray, List.nil_append, List.cons_append]
  gi_wp2
  refine wpIn_wide.2 (wp_scope_straight ((wpIn_wide (n := 4)).1 ?_))
  gi_wp2
  rw [HY.out]
  refine wpIn_label ?_
  gi_wp2_with fail
  refine rangeFunc_own (n := 4) (by omega) (gf := gf) (lb := #[]) rfl eg (fun k : Nat => #[.int .i64 (bitV k), .string (Wd k)]) hseqY (fun _ => rfl)
    (TxI w z Wd) (TxX w z Wd) (txI_own w z Wd _ (by omega)) (txX_own w z Wd _ (by omega)) (fun _ _ _ h k => txI_kept h k) hI0 ?act ?assign ?body ?done ?stop
  case assign =>
    intro l x W K hK
    gi_wp2
    exact hK
  case body =>
    rintro l pre x W hI hlt
    have HI := Lib.hid hI
    obtain ⟨b1, ⟨u, b2, hrow⟩, hk⟩ := hI
    obtain ⟨m, hm⟩ : ∃ m, (stt z pre).1 = m := ⟨_, rfl⟩
    rw [hm] at b1
    have hkl : (stt z pre).2.length ≤ 6 := by have := stt_len z pre; omega
    have c1 := b1.cell
    have f1 := b1.frozen
    have l1 := b1.lt
    by_cases h0 : m = 0
    · subst h0
      have HM := Lib.hid hm
      clear hm b1 b2 hrow hk
      gi_wp2
      exact ⟨KeepsFrom.refl _ _, rfl, pre, x, rfl, HM.out, HI.out⟩
    · have hb : (m == 0) = false := by rw [beq_eq_false_iff_ne]; exact h0
      by_cases ha : bits .and .i64 m (bitV x) = 0
      · have HE : Hid (stt z (pre ++ [x]) = stt z pre) := stt_skip (by rw [hm]; exact ha)
        have hb2 : (bits .and .i64 m (bitV x) != 0) = false := by rw [ha]; rfl
        clear hm b1 b2 hrow hk ha h0
        gi_wp2
        exact ⟨KeepsFrom.refl _ _, trivial, by unfold TxI; rw [HE.out]; exact HI.out⟩
      · have HE : Hid (stt z (pre ++ [x]) = (bits .andNot .i64 m (bitV x), (stt z pre).2 ++ [x])) := by rw [← hm]; exact stt_take (by rw [hm]; exact ha)
        have hb2 : (bits .and .i64 m (bitV x) != 0) = true := by rw [bne_iff_ne]; exact ha
        have c2 := b2.cell
        have f2 := b2.frozen
        have l2 := b2.lt
        have HK := Lib.hid hk
        have HR := Lib.hid hrow
        have HB1 := Lib.hid b1
        have HB2 := Lib.hid b2
        clear hm hk ha h0 hrow b1 b2
        gi_wp2_with (gi_at_builtin; go_loud (refine wpListIn_append_own _ rfl _ _ 57 rfl w.heap.size 9 i0 _ 1 16 Tryd.underlying57 hi hz0 hz1 hz2 rfl (by decide) _ _ _ rfl (World.ownsRow.alloc HR.out _) ⟨W.heap.size, 0, none⟩ 1 1 [.string (Wd x)] rfl rfl (World.news_of_block (cs := #[.string (Wd x)]) (heap_alloc_new W _)) (by simp [Value.oneCell']) (by unfold maxLen; omega) (by omega) (by have := HK.out.size; simp; omega) ?_; intro v' w1 hown' hgrow _; obtain ⟨g', cap', rfl⟩ := ownsRow_succ hown'; obtain ⟨hv1, hv2, hr2, hk2, hb3⟩ := HB2.out.appended (by decide) HR.out HK.out.size (Nat.le_succ _) hown' hgrow; have hc1 := hv1.cell; have hf1 := hv1.frozen; have y0 : Boxed w1 w.heap.size 3 (.int .i64 m) := (HB1.out.alloc _).kept hgrow (HB1.out.not_row (by decide) HR.out); have y0c := y0.cell; have y0f := y0.frozen))
        have y2 : Boxed (w1.setCell ⟨w.heap.size + 1, 0, none⟩ (.slice (some ⟨g', 0, none⟩) ((stt z pre).2.length + 1) cap')) w.heap.size 3 (.int .i64 m) := (Below.heap_setCell _ _ _ _ (by show w.heap.size ≠ w.heap.size + 1; omega)).trans y0
        have hkw := HK.out
        refine ⟨(hk2.trans (KeepsOthers.setCell _ _ _)).from _, trivial, ?_⟩
        unfold TxI
        rw [HE.out]
        refine ⟨y2.set _, ⟨_, (Below.heap_setCell _ _ _ _ (by show w.heap.size + 1 ≠ w.heap.size; omega)).trans hv2, ?_⟩, ?_⟩
        · have hr3 := hr2.kept (grownBy_setCell' _ w.heap.size (.int .i64 (bits .andNot .i64 m (bitV x)))) (.inr (y2.not_row (by decide) hr2).symm)
          unfold OwnS
          simpa [encS] using hr3
        · have hk3 : Kept (fun _ => False) w (w1.setCell ⟨w.heap.size + 1, 0, none⟩ (.slice (some ⟨g', 0, none⟩) ((stt z pre).2.length + 1) cap')) :=
            ⟨hb3.os.trans hkw.os, hb3.tape.trans hkw.tape, hb3.output.trans hkw.output, Nat.le_trans hkw.size hb3.size, fun k hk hf => (hb3.block k hk).trans (hkw.block k hk hf)⟩
          exact hk3.setCell_new (Nat.le_refl _) _
  case done =>
    rintro D xs W hD rfl hI hK
    have he := stt_end h0 h1 hn
    obtain ⟨b1, ⟨u, b2, hrow⟩, hk⟩ := hI
    by_cases hr : 0 ≤ z ∧ z < 2 ^ n
    · have HT := Lib.hid (text_last hn hz hr (he.2 hr) hrow hk hw)
      obtain ⟨m, hm⟩ : ∃ m, (stt z (List.range n)).1 = m := ⟨_, rfl⟩
      have hm0 : m = 0 := by rw [← hm]; exact he.1.2 hr
      subst hm0
      rw [hm] at b1
      have c1 := b1.cell
      have c2 := b2.cell
      clear he hr hrow hk hm b1 b2
      have HKD := Lib.hid hK
      clear hK
      gi_wp2_with (refine ⟨trivial, ?_⟩; gi_at_call 39; refine (callsIn_wide.2 HT.out).mono ?_; rintro e w2 ⟨rfl, he2, hb2, hb1⟩; have HK2 := Lib.hid ((hb2.block D (Array.getElem?_eq_some_iff.1 HKD.out).1).trans HKD.out); have HB := Lib.hid (hb1.trans (hb2.mono hb1.size)); have HE2 := Lib.hid he2; clear he2 hb2 hb1)
      rw [Exit.noGoto_ret]
      refine ⟨by simp, .inl ⟨_, _, rfl, run_takeDeferred HK2.out, ?_⟩⟩
      exact ⟨_, results_tmp2 rfl _ _ _, by rw [HE2.out]; rfl, below_put HB.out (by omega)⟩
    · obtain ⟨m, hm⟩ : ∃ m, (stt z (List.range n)).1 = m := ⟨_, rfl⟩
      have hb : (m != 0) = true := by rw [bne_iff_ne, ← hm]; exact fun h => hr (he.1.1 h)
      rw [hm] at b1
      have c1 := b1.cell
      have HX : Hid (textB Wd n z = ⟨#[]⟩ ∧ textE n z = 50) := by unfold textB textE; rw [if_neg hz, if_neg hr, if_neg hr]; exact ⟨rfl, rfl⟩
      have HK := Lib.hid hk
      clear he hr hrow hk hm b1 b2
      gi_wp2
      rw [Exit.noGoto_ret]
      refine ⟨by simp, .inl ⟨_, _, rfl, run_takeDeferred hK, ?_⟩⟩
      exact ⟨_, results_tmp2 rfl _ _ _, by rw [HX.out.1, HX.out.2]; rfl, below_put (HK.out.below (fun _ e => e.elim) (Nat.le_refl _)) (by omega)⟩
  case stop =>
    rintro D c pre W hD ⟨r, hr⟩ ⟨rfl, p, x, rfl, hp0, hI⟩ hK
    have hpl : p = List.range p.length := by
      have h2 := congrArg (List.take p.length) hr
      rw [List.append_assoc, List.take_left, List.take_range] at h2
      have h3 := congrArg List.length hr
      simp at h3
      rw [Nat.min_eq_left (by omega)] at h2
      exact h2
    have hpn : p.length ≤ n := by have h3 := congrArg List.length hr; simp at h3; omega
    have he := stt_brk h0 h1 hn hpn (by rw [← hpl]; exact hp0)
    rw [← hpl] at he
    obtain ⟨b1, ⟨u, b2, hrow⟩, hk⟩ := hI
    · have HT := Lib.hid (text_last hn hz he.1 he.2 hrow hk hw)
      rw [hp0] at b1
      have c1 := b1.cell
      have c2 := b2.cell
      have HKD := Lib.hid hK
      clear he hr hrow hk hpl hpn hp0 b1 b2 hK
      gi_wp2_with (refine ⟨trivial, ?_⟩; gi_at_call 39; refine (callsIn_wide.2 HT.out).mono ?_; rintro e w2 ⟨rfl, he2, hb2, hb1⟩; have HK2 := Lib.hid ((hb2.block D (Array.getElem?_eq_some_iff.1 HKD.out).1).trans HKD.out); have HB := Lib.hid (hb1.trans (hb2.mono hb1.size)); have HE2 := Lib.hid he2; clear he2 hb2 hb1)
      rw [Exit.noGoto_ret]
      refine ⟨by simp, .inl ⟨_, _, rfl, run_takeDeferred HK2.out, ?_⟩⟩
      exact ⟨_, results_tmp2 rfl _ _ _, by rw [HE2.out]; rfl, below_put HB.out (by omega)⟩
theorem join_len (L : List (List UInt8)) (h : ∀ x ∈ L, x.length ≤ 7) : (Lib.join L [43]).length ≤ 8 * L.length := by
  induction L with
  | nil => simp [Lib.join]
  | cons a t ih =>
    have ha := h a (List.mem_cons_self ..)
    have ht := ih (fun x hx => h x (List.mem_cons_of_mem _ hx))
    cases t with
    | nil => simp [Lib.join]; omega
    | cons b t =>
      simp [Lib.join] at ht ⊢
      omega
theorem word_len (k : Nat) : (wordB k).data.toList.length ≤ 7 := by
  unfold wordB; split <;> decide
theorem feat_len (k : Nat) : (featB k).data.toList.length ≤ 7 := by
  unfold featB; split <;> decide
theorem txt_len {Wd : Nat → ByteArray} (h : ∀ k, (Wd k).data.toList.length ≤ 7) (ks : List Nat) : (txt Wd ks).size ≤ 8 * ks.length := by
  have := join_len (ks.map fun k => (Wd k).data.toList) (fun x hx => by obtain ⟨k, _, rfl⟩ := List.mem_map.1 hx; exact h k)
  rw [List.length_map] at this
  unfold txt
  simpa [ByteArray.size] using this

set_option maxRecDepth 100000 in
theorem text_zero (Wd : Nat → ByteArray) (n : Nat) (v : Value) (w : World) : Calls Tryd.prog 29 #[.int .i64 0, v] w fun e w' => e = .returned (.tuple #[.string (textB Wd n 0), .int .i64 (textE n 0)]) ∧ Below w.heap.size w w' := by
  have HX : Hid (textB Wd n 0 = ⟨#[110, 111, 110, 101]⟩ ∧ textE n 0 = 0) := by
    unfold textB textE
    have : (0 : Int) < 2 ^ n := Int.pow_pos (by omega)
    rw [if_pos rfl, if_pos ⟨by omega, this⟩]
    exact ⟨rfl, rfl⟩
  rw [HX.out.1, HX.out.2]
  go_enter Tryd.func29, Tryd.ntmps29
  go_wp2
  refine wp_scope_straight ?_
  go_wp2
  rw [Exit.noGoto_ret]
  go_ret2
  exact ⟨rfl, (Below.refl _ _).alloc (Nat.le_refl _) _⟩
theorem flags_any (w : World) : Calls Tryd.prog 30 #[] w fun e w' => e = .returned (.func (.func 40) #[] #[]) ∧ w = w' := by
  go_enter Tryd.func30, Tryd.ntmps30
  go_wp2
  go_ret
  exact ⟨rfl, rfl⟩
theorem features_it (w : World) : Calls Tryd.prog 32 #[] w fun e w' => e = .returned (.func (.func 43) #[] #[]) ∧ w = w' := by
  go_enter Tryd.func32, Tryd.ntmps32
  go_wp2
  go_ret
  exact ⟨rfl, rfl⟩
theorem textW_any (z : Int) (w : World) (hT : TabW w) (h0 : -9223372036854775808 ≤ z) (h1 : z ≤ 9223372036854775807) :
    Calls Tryd.prog 9 #[.int .i64 z] w fun e w' => e = .returned (.tuple #[.string (textB wordB 6 z), .int .i64 (textE 6 z)]) ∧ Below w.heap.size w w' := by
  have H : Hid (Calls Tryd.prog 29 #[.int .i64 z, .func (.func 40) #[] #[]] w fun e w' => e = .returned (.tuple #[.string (textB wordB 6 z), .int .i64 (textE 6 z)]) ∧ Below w.heap.size w w') := by
    by_cases hz : z = 0
    · subst hz; exact text_zero _ _ _ _
    · exact text_gen z wordB 6 _ (by omega) w h0 h1 hz (enters_of Tryd.func40 (by kernel_rfl) rfl) (fun Y hY => flags_ch 3 (by omega) Y (hT.same (fun k hk => hY.block k hk (fun e => e)) hY.size) _) (txt_len word_len)
  clear hT
  go_enter Tryd.func9, Tryd.ntmps9
  go_wp2_with (first
    | (go_at_call 30; refine (flags_any _).mono ?_; rintro e w' ⟨rfl, rfl⟩)
    | (go_at_call 29; refine H.out.mono ?_; rintro e w' ⟨rfl, hb⟩))
  go_ret2
  exact ⟨rfl, hb⟩
theorem textF_any (z : Int) (w : World) (hT : TabF w) (h0 : -9223372036854775808 ≤ z) (h1 : z ≤ 9223372036854775807) :
    Calls Tryd.prog 11 #[.int .i64 z] w fun e w' => e = .returned (.tuple #[.string (textB featB 4 z), .int .i64 (textE 4 z)]) ∧ Below w.heap.size w w' := by
  have H : Hid (Calls Tryd.prog 29 #[.int .i64 z, .func (.func 43) #[] #[]] w fun e w' => e = .returned (.tuple #[.string (textB featB 4 z), .int .i64 (textE 4 z)]) ∧ Below w.heap.size w w') := by
    by_cases hz : z = 0
    · subst hz; exact text_zero _ _ _ _
    · exact text_gen z featB 4 _ (by omega) w h0 h1 hz (enters_of Tryd.func43 (by kernel_rfl) rfl) (fun Y hY => feats_ch 3 (by omega) Y (hT.same (fun k hk => hY.block k hk (fun e => e)) hY.size) _) (txt_len feat_len)
  clear hT
  go_enter Tryd.func11, Tryd.ntmps11
  go_wp2_with (first
    | (go_at_call 32; refine (features_it _).mono ?_; rintro e w' ⟨rfl, rfl⟩)
    | (go_at_call 29; refine H.out.mono ?_; rintro e w' ⟨rfl, hb⟩))
  go_ret2
  exact ⟨rfl, hb⟩
end Go.Proofs.YtbpgoopmfofcnaaDoor
