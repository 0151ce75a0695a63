/-
  The order of a set's items: its own contract; slices.SortFunc by it; a set's items in their order.
-/
import Derived.Test.YtncdohbdmpfefaaCoColl
import Derived.Test.YtncdohbdmpfefaaShelfSort
import Derived.Shelf.SlSortCmp.NoneTotal
namespace Go.Proofs.Ytncdohbdmpfefaa
open Go.RowKit Go.Shelf Go.Maps Go.ChangeMaps Go.Sort Go.Lib

/-- The first of two that is not 0. -/
def or2 (a b : Int) : Int := if a = 0 then b else a
def ord2 (x y : It) : Int := or2 (cmpI x.d y.d) (cmpI x.n y.n)
/-- One is ahead of the other, by deadline and count. -/
def Lt2 (x y : It) : Prop := x.d < y.d ∨ (x.d = y.d ∧ x.n < y.n)
instance (x y : It) : Decidable (Lt2 x y) := by unfold Lt2; infer_instance
theorem ord2_lt (x y : It) : ord2 x y < 0 ↔ Lt2 x y := by
  unfold ord2 or2 cmpI Lt2
  by_cases h1 : x.d < y.d
  · simp [h1]
  · by_cases h2 : y.d < x.d
    · have : x.d ≠ y.d := by omega
      simp [h1, h2, this]
    · have e : x.d = y.d := by omega
      simp only [e, Int.lt_irrefl, if_false, false_or, true_and, if_true]
      by_cases h3 : x.n < y.n
      · simp [h3]
      · by_cases h4 : y.n < x.n <;> simp [h3, h4]
theorem lt_of (x y : It) : ltOf ord2 x y = decide (Lt2 x y) := by
  unfold ltOf
  rw [Bool.eq_iff_iff]
  simp only [decide_eq_true_eq]
  exact ord2_lt x y
theorem swo2 : SWO (ltOf ord2) where
  irrefl x := by rw [lt_of]; unfold Lt2; simp
  trans x y z h1 h2 := by rw [lt_of] at *; simp only [decide_eq_true_eq] at *; unfold Lt2 at *; omega
  ntrans x y z h1 h2 := by rw [lt_of] at *; simp only [decide_eq_false_iff_not] at *; unfold Lt2 at *; omega
/-- Sorted by deadlines and counts: in order, where no two counts are the same. -/
theorem sorted_srt {P Q S : List It} (hq : Q.Perm P) (hs : Srt S) (hp : P.Perm S) (hn : (P.map (·.n)).Nodup) (h : Q.Pairwise fun a b => ltOf ord2 b a = false) : Q = S := by
  refine srt_unique ?_ hs (hq.trans hp)
  have h2 : (Q.map (·.n)).Nodup := ((hq.map _).nodup_iff).2 hn
  rw [List.nodup_iff_pairwise_ne, List.pairwise_map] at h2
  refine (h.and h2).imp fun {a b} ⟨h3, h4⟩ => ?_
  rw [lt_of] at h3
  simp only [decide_eq_false_iff_not] at h3
  unfold Lt2 at h3
  unfold Lt
  omega

/-- cmp.Or of two numbers. -/
theorem or_two (g : Nat) (a b : Int) (w : World) (h0 : w.cell? ⟨g, 0, none⟩ = some (.int .i64 a)) (h1 : w.cell? ⟨g, 1, none⟩ = some (.int .i64 b)) :
    Calls Try.prog 53 #[.slice (some ⟨g, 0, none⟩) 2 2] w fun e w' => e = .returned (.int .i64 (or2 a b)) ∧ w = w' := by
  go_enter Try.func53, Try.ntmps53
  go_wp2
  go_loop [8] (fun i => i = .int .i64 0 ∨ (i = .int .i64 1 ∧ Hid (a = 0)) ∨ (i = .int .i64 2 ∧ Hid (a = 0) ∧ Hid (b = 0))) (fun i => (2 - intOf i).toNat)
  case atStart => exact .inl rfl
  case round =>
    rcases hrel with rfl | ⟨rfl, A0⟩ | ⟨rfl, A0, B0⟩
    · by_cases e0 : a = 0
      · have hb : (a != 0) = false := by simpa using e0
        have E0 := Lib.hid e0
        clear e0
        go_wp2
        go_round
        case rel => exact .inr (.inl ⟨rfl, E0⟩)
        case measure => simp [intOf]
      · have hb : (a != 0) = true := by simpa using e0
        have E0 := Lib.hid e0
        clear e0
        go_wp2
        go_ret
        exact ⟨(by unfold or2; rw [if_neg E0.out]; try rfl), rfl⟩
    · by_cases e0 : b = 0
      · have hb : (b != 0) = false := by simpa using e0
        have E0 := Lib.hid e0
        clear e0
        go_wp2
        go_round
        case rel => exact .inr (.inr ⟨rfl, A0, E0⟩)
        case measure => simp [intOf]
      · have hb : (b != 0) = true := by simpa using e0
        have E0 := Lib.hid e0
        clear e0
        go_wp2
        go_ret
        exact ⟨(by unfold or2; rw [if_pos A0.out]; try rfl), rfl⟩
    · go_wp2
      go_ret
      exact ⟨(by unfold or2; rw [if_pos A0.out, B0.out]; try rfl), rfl⟩

set_option maxHeartbeats 2000000 in
set_option maxRecDepth 100000 in
theorem corder_any (x y : It) (w : World) : Calls Try.prog 40 #[.agg #[.int .i64 x.id, .int .u64 x.d, .int .u64 x.n], .agg #[.int .i64 y.id, .int .u64 y.d, .int .u64 y.n]] w fun e w' => e = .returned (.int .i64 (ord2 x y)) ∧ ∃ q os', w' = grow (w.drewN q) os' := by
  obtain ⟨i, d, n⟩ := x
  obtain ⟨i', d', n'⟩ := y
  have H1 := Lib.hid (cmp64_any d d')
  have H2 := Lib.hid (cmp64_any n n')
  have H4 := Lib.hid (fun g w h0 h1 => or_two g (cmpI d d') (cmpI n n') w h0 h1)
  have e : ord2 ⟨i, d, n⟩ ⟨i', d', n'⟩ = or2 (cmpI d d') (cmpI n n') := rfl
  rw [e]
  clear e
  dsimp only
  generalize cmpI d d' = r1 at *
  generalize cmpI n n' = r2 at *
  go_enter Try.func40, Try.ntmps40
  go_wp2_with fail
  go_region_held3 (fun W => W.cell? ⟨w.heap.size, 0, none⟩ = some (.int .i64 i) ∧ W.cell? ⟨w.heap.size, 1, none⟩ = some (.int .u64 d) ∧ W.cell? ⟨w.heap.size, 2, none⟩ = some (.int .u64 n) ∧ W.cell? ⟨w.heap.size + 1, 0, none⟩ = some (.int .i64 i') ∧ W.cell? ⟨w.heap.size + 1, 1, none⟩ = some (.int .u64 d') ∧ W.cell? ⟨w.heap.size + 1, 2, none⟩ = some (.int .u64 n'))
      (go_keep)
      (first
        | (go_at_call_of 54 (Value.int .u64 d'); refine (H1.out _).mono ?_; rintro e w' ⟨rfl, rfl⟩)
        | (go_at_call_of 54 (Value.int .u64 n'); refine (H2.out _).mono ?_; rintro e w' ⟨rfl, rfl⟩)
        | (go_at_call 53; refine (H4.out _ _ (by go_simp) (by go_simp)).mono ?_; rintro e w' ⟨rfl, rfl⟩))
  all_goals
    go_wp2_with fail
    go_ret
    exact ⟨rfl, 1, _, by simp only [alloc_eq_grow, grow_grow, drew_grow]; rfl⟩

theorem enc_three (x : It) : (encIt x).length = 3 := rfl
theorem enc_one (x : It) : ∀ v ∈ encIt x, v.oneCell' = true := fun v hv => by simp [encIt] at hv; rcases hv with rfl | rfl | rfl <;> rfl

theorem flat_it (P : List It) : (flatK encIt 3 P.toArray).toList = P.flatMap encIt := by
  apply List.ext_getElem?
  intro t
  by_cases ht : t < P.length * 3
  · have h1 : t / 3 < P.length := by omega
    have hx : P[t / 3]? = some P[t / 3] := List.getElem?_eq_getElem h1
    obtain ⟨e0, e1, e2⟩ := enc_at P (t / 3) _ hx
    have hl : (flatK encIt 3 P.toArray).toList[t]? = some ((encIt P[t / 3])[t % 3]!) := by
      rw [Array.getElem?_toList, Array.getElem?_eq_getElem (by rw [size_flatK]; simpa using ht)]
      congr 1
      have := get_flatK encIt 3 P.toArray t (by simpa using ht)
      rw [getElem!_pos _ t (by rw [size_flatK]; simpa using ht)] at this
      rw [this]
      congr 2
      rw [getElem!_pos _ _ (by simpa using h1)]
      simp
    rw [hl]
    have hm : t % 3 = 0 ∨ t % 3 = 1 ∨ t % 3 = 2 := by omega
    rcases hm with h | h | h
    · rw [h, congrArg (fun q => (P.flatMap encIt)[q]?) (show t = t / 3 * 3 from by omega), e0]; rfl
    · rw [h, congrArg (fun q => (P.flatMap encIt)[q]?) (show t = t / 3 * 3 + 1 from by omega), e1]; rfl
    · rw [h, congrArg (fun q => (P.flatMap encIt)[q]?) (show t = t / 3 * 3 + 2 from by omega), e2]; rfl
  · rw [List.getElem?_eq_none (by simp; omega), List.getElem?_eq_none (by rw [enc_len]; omega)]

theorem sort_heap {w : World} {g m : Nat} {os : Array Obj} (d : Array It) {cur : Array Value} {e : TypeId} {fr : Nat × Nat} (hb : w.heap[g]? = some (.cells cur e fr)) :
    (sortWorldK encIt 3 w g 0 m d os).heap[g]? = some (.cells (putCells id 0 (flatK encIt 3 d) cur) e fr) := by
  unfold sortWorldK putRowK
  have hl : g < w.heap.size := (Array.getElem?_eq_some_iff.1 hb).1
  rw [heap_grow_old _ _ (by simpa using hl)]
  simp [putRow, mapBlock, Sort.ahead, Array.getElem?_modify, hb, onCells]
theorem sort_kept (w : World) (g m : Nat) (os : Array Obj) (d : Array It) : Kept (fun k => k = g) w (sortWorldK encIt 3 w g 0 m d os) := by
  refine ⟨rfl, rfl, rfl, by unfold sortWorldK putRowK; rw [size_grow, size_putRow]; exact Nat.le_add_right _ _, fun k hk hf => ?_⟩
  unfold sortWorldK putRowK
  rw [heap_grow_old _ _ (by simpa using hk)]
  have : g ≠ k := fun e => hf e.symm
  simp [putRow, mapBlock, Sort.ahead, Array.getElem?_modify, this]
theorem own_sorted {w : World} {B g n cap : Nat} {P P' : List It} (h : OwnI w B (.slice (some ⟨g, 0, none⟩) n cap) P) (hl : P'.length = P.length) (m : Nat) (os : Array Obj) : OwnI (sortWorldK encIt 3 w g 0 m P'.toArray os) B (.slice (some ⟨g, 0, none⟩) n cap) P' := by
  obtain ⟨h1, h2⟩ := h
  rcases h2 with ⟨e, _⟩ | ⟨g', cap', cur, e, hg, hh, hc, hm, hs, ht⟩
  · cases e
  · injection e with e1 e2 e3
    injection e1 with e1
    injection e1 with e1
    subst e1 e3
    refine ⟨enc_len _, .inr ⟨g, cap, _, by rw [hl, e2], hg, sort_heap _ hh, by omega, hm, by simp [putCells, hs], ?_⟩⟩
    rw [← flat_it P']
    apply List.ext_getElem?
    intro j
    by_cases hj : j < P'.length * 3
    · rw [List.getElem?_take_of_lt hj, Array.getElem?_toList, Array.getElem?_toList]
      have h3 : j < cur.size := by rw [hs]; omega
      simp [putCells, hj, h3]
    · rw [List.getElem?_take_eq_none (by omega), List.getElem?_eq_none (by simp; omega)]
theorem own_holds {w : World} {B g n cap : Nat} {P : List It} (h : OwnI w B (.slice (some ⟨g, 0, none⟩) n cap) P) : HoldsK encIt 3 w g 0 P.toArray := by
  have hn : n = P.length := by
    rcases h.2 with ⟨e, _⟩ | ⟨_, _, _, e, _⟩
    · cases e
    · injection e
  subst hn
  intro j hj
  have hj' : j < P.length * 3 := by simpa using hj
  rw [Nat.zero_add]
  refine ⟨?_, h.frozenAt j⟩
  rw [h.cellAt j hj', ← flat_it P, Array.getElem?_toList, Array.getElem?_eq_getElem hj]
  congr 1
  show _ = (flatK encIt 3 P.toArray)[j]!
  rw [getElem!_pos (flatK encIt 3 P.toArray) j hj]

theorem cmp_lays (blk off size : Nat) (w : World) : CmpLays Try.prog 40 #[] encIt 3 ord2 blk off size w := fun _ _ _ _ x y => corder_any x y _

/-- slices.SortFunc by common.order, at a slice of its own. -/
theorem sort_any {w : World} {B : Nat} {v : Value} {P S : List It} (h : OwnI w B v P) (hs : Srt S) (hp : P.Perm S) (hn : (P.map (·.n)).Nodup) (hlen : P.length ≤ 100000) (hB : B ≤ w.heap.size) :
    Calls Try.prog 51 #[v, .func (.func 40) #[] #[]] w fun e w' => e = .returned (.tuple #[]) ∧ OwnI w' B v S ∧ Go.RowKit.Below B w w' := by
  rcases h.2 with ⟨rfl, hn⟩ | ⟨g, cap, cur, rfl, hg, hh, hc, _⟩
  · refine (AnyF.slices_SortFunc_none Try.sortIt none 0 _ w).mono ?_
    rintro e w' ⟨rfl, rfl⟩
    have hP : P = [] := List.eq_nil_of_length_eq_zero hn
    subst hP
    obtain rfl : S = [] := hp.nil_eq.symm
    exact ⟨rfl, h, Go.RowKit.Below.refl _ _⟩
  · have eg : ∀ args w, (callFunc 40 args).run Try.prog w = .ok (.enter 40 args) w := enters_of Try.func40 (by kernel_rfl) rfl
    have hcon := AnyQ.slices_SortFunc Try.sortIt 3 Try.isAgg44 Try.sizeOf44 encIt enc_three enc_one ord2 swo2 40 #[] g 0 cap P.toArray w eg (cmp_lays g 0 _ w) (own_holds h) (Array.getElem?_eq_some_iff.1 hh).1 (by simp; omega)
    rw [show P.toArray.size = P.length from by simp] at hcon
    change Calls Try.prog 51 _ _ _ at hcon
    refine hcon.mono ?_
    rintro e w' ⟨rfl, d', n, os, hP, hS, rfl⟩
    obtain ⟨hsz, _, hperm⟩ := hP
    have hsz' : d'.size = P.length := by rw [hsz]; simp
    have e1 : d'.extract 0 P.length = d' := by rw [← hsz']; exact Array.extract_size
    have e2 : P.toArray.extract 0 P.length = P.toArray := by rw [show P.length = P.toArray.size by simp]; exact Array.extract_size
    rw [e1, e2] at hperm
    have hQ : d'.toList = S := by
      refine sorted_srt (P := P) hperm hs hp hn ?_
      rw [List.pairwise_iff_getElem]
      intro i j hi hj hij
      have hi' : i < d'.size := by simpa using hi
      have hj' : j < d'.size := by simpa using hj
      have := hS i j (Nat.zero_le _) hij (by omega)
      rw [getElem!_pos d' j hj', getElem!_pos d' i hi'] at this
      simpa using this
    have hd : d' = S.toArray := by rw [← hQ]
    subst hd
    exact ⟨rfl, own_sorted h hp.symm.length_eq n os, (sort_kept w g n os _).below (fun k e => by rw [e]; exact hg) hB⟩

theorem sortedFunc_any {w : World} {B k mp hp : Nat} {qv : Value} {F G : Nd → Nd} {bo qb : Int → Nat} {q m : Nat} {v : Value} {S : List It} {L : List En} {T : List Int} {nx ad : Int} (H : Cj w B k mp hp qv F G bo qb q m v S L T nx ad) (bK : Nat) (hK : Boxed w bK 56 (.pointer (some ⟨k, 0, none⟩))) :
    Calls Try.prog 38 #[.func (.func 52) #[] #[.pointer (some ⟨bK, 0, none⟩)], .func (.func 40) #[] #[]] w (Listed w (ord (xs L))) := by
  have hI := H.kr.inv
  have HA := Lib.hid (collect_any H bK hK)
  have hn : ((xs L).map (·.n)).Nodup := by
    rw [List.nodup_iff_pairwise_ne, List.pairwise_map]
    unfold xs
    rw [List.pairwise_map]
    exact hI.ns.imp fun {a b} h e => by
      have h2 : a.x.n < b.x.n := h
      have e2 : a.x.n = b.x.n := e
      omega
  have HI := Lib.hid (And.intro hI.uniq (And.intro hn hI.len))
  clear H hK hI hn
  go_enter Try.func38, Try.ntmps38
  go_wp2_with fail
  refine HA.out.mono ?_
  rintro e w1 ⟨P, hP, v, rfl, h1, h2⟩
  have hl : P.length ≤ 100000 := by
    have := hP.length_eq
    unfold xs at this
    rw [List.length_map] at this
    have := HI.out.2.2
    omega
  have HS := Lib.hid (sort_any h1 (ord_srt HI.out.1) (hP.trans (ord_perm _).symm) (((hP.map (fun x : It => x.n)).nodup_iff).2 HI.out.2.1) hl h2.size)
  have H2 := Lib.hid h2
  clear h1 h2 hP hl
  go_wp2_with fail
  refine HS.out.mono ?_
  rintro e w2 ⟨rfl, h3, h4⟩
  have H3 := Lib.hid (And.intro h3 (H2.out.trans h4))
  clear h3 h4
  go_wp2_with fail
  go_ret
  exact ⟨v, rfl, H3.out⟩
end Go.Proofs.Ytncdohbdmpfefaa
