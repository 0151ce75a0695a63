/-
  The reference's Add.
-/
import Derived.Test.YtncdohbdmpfefaaCoRefDue
import Derived.Test.YtncdohbdmpfefaaCoRefHeap
namespace Go.Proofs.Ytncdohbdmpfefaa
open Go.RowKit Go.Maps Go.ChangeMaps Go.Shelf Go.Sort

/-- Which queue, behind k rounds of the first loop. -/
def inK (T : List Int) (t : Int) (k : Nat) : Int := if t ∈ T.take k then (T.idxOf t : Int) else -1
theorem idx_of {T : List Int} (hn : T.Nodup) {k : Nat} {t : Int} (h : T[k]? = some t) : T.idxOf t = k := by
  have hm := List.mem_of_getElem? h
  have h2 := idx_at hm
  have hk := (List.getElem?_eq_some_iff.1 h).1
  exact (List.getElem?_inj (List.idxOf_lt_length_of_mem hm) hn).1 (h2.trans h.symm)
theorem inK_step {T : List Int} (hn : T.Nodup) {k : Nat} {s t : Int} (h : T[k]? = some s) : inK T t (k + 1) = if s = t then (k : Int) else inK T t k := by
  unfold inK
  rw [List.take_add_one, h]
  by_cases e : s = t
  · subst e
    rw [if_pos rfl, if_pos (by simp), idx_of hn h]
  · rw [if_neg e]
    have : (t ∈ T.take k ++ (some s).toList) ↔ t ∈ T.take k := by
      simp
      exact fun h => absurd h.symm e
    simp only [this]
theorem inK_all {T : List Int} {t : Int} {d : Int} : inK T t T.length = qi T (newQ [] T t d) := by
  unfold inK newQ
  rw [List.take_length]
  by_cases h : t ∈ T
  · rw [if_pos h, if_pos ⟨h, fun e he => by simp at he⟩]; rfl
  · rw [if_neg h, if_neg (fun e => h e.1)]; rfl
/-- One more is looked at. -/
theorem newQ_step {M : List En} {T : List Int} {t d : Int} {k : Nat} {e : En} (h : M[k]? = some e) : newQ (M.take (k + 1)) T t d = if newQ (M.take k) T t d = some t ∧ e.q = some t ∧ d < e.x.d then none else newQ (M.take k) T t d := by
  have ht : M.take (k + 1) = M.take k ++ [e] := by rw [List.take_add_one, h]; rfl
  rw [ht]
  by_cases h1 : t ∈ T ∧ ∀ a ∈ M.take k, a.q = some t → a.x.d ≤ d
  · have e1 : newQ (M.take k) T t d = some t := if_pos h1
    rw [e1]
    by_cases h2 : e.q = some t ∧ d < e.x.d
    · rw [if_pos ⟨rfl, h2⟩]
      unfold newQ
      rw [if_neg]
      rintro ⟨_, h3⟩
      have := h3 e (by simp) h2.1
      omega
    · rw [if_neg (fun h3 => h2 h3.2)]
      unfold newQ
      rw [if_pos]
      refine ⟨h1.1, fun a ha hq => ?_⟩
      rcases List.mem_append.1 ha with ha | ha
      · exact h1.2 a ha hq
      · simp at ha; subst ha
        by_cases h4 : d < a.x.d
        · exact absurd ⟨hq, h4⟩ h2
        · omega
  · have e1 : newQ (M.take k) T t d = none := if_neg h1
    rw [e1, if_neg (fun h3 => by cases h3.1)]
    unfold newQ
    rw [if_neg]
    exact fun h3 => h1 ⟨h3.1, fun a ha => h3.2 a (List.mem_append_left _ ha)⟩
theorem newQ_or (M : List En) (T : List Int) (t d : Int) : newQ M T t d = none ∨ (newQ M T t d = some t ∧ t ∈ T) := by
  unfold newQ
  by_cases h : t ∈ T ∧ ∀ e ∈ M, e.q = some t → e.x.d ≤ d
  · rw [if_pos h]; exact .inr ⟨rfl, h.1⟩
  · rw [if_neg h]; exact .inl rfl

/-- The world of a block. -/
def Blk.world {w : World} {g : Nat} {t : TypeId} {cs : Array Value} (_ : Blk w g t cs) : World := w

set_option maxHeartbeats 8000000 in
set_option maxRecDepth 100000 in
/-- Behind Cut. -/
theorem radd_rs {w : World} {B r : Nat} {L : List En} {T : List Int} {nx : Int} {O0 : Nat → Prop} (H : RefQ B r L T nx w O0) (hI : CInv L T nx) {id now after : Int} (hid : I id) (h0 : 0 ≤ id) (hnow : U now) (haf : U after) (h1 : nx < 1000000) (hl : L.length < 500) :
    Calls Try.prog 11 #[.pointer (some ⟨r, 0, none⟩), .int .i64 id, .int .u64 now, .int .u64 after] w fun e w' => e = .returned (.int .i64 0) ∧ ∃ O', RefQ B r (addL L T ⟨id, dl now after, nx⟩ after) T (nx + 1) w' O' ∧ Mv w w' O0 O' := by
  have HC := Lib.hid (rcut_any H hI.ids (by have := hI.len; omega) id)
  obtain ⟨M, eM⟩ : ∃ M, M = cutL id L := ⟨_, rfl⟩
  have hMI : CInv M T nx := by rw [eM]; exact hI.cut id
  have hMl : M.length < 500 := by rw [eM]; exact Nat.lt_of_le_of_lt (cutL_le id) hl
  rw [← eM] at HC
  have HM := Lib.hid (And.intro eM (And.intro hMI hMl))
  obtain ⟨d, ed⟩ : ∃ d, d = dl now after := ⟨_, rfl⟩
  have hD : ∀ w, Calls Try.prog 32 #[.int .u64 now, .int .u64 after] w fun e w' => e = .returned (.int .u64 d) ∧ w = w' := fun w => by rw [ed]; exact rdl_any now after w hnow haf
  have HD := Lib.hid hD
  have Hd := Lib.hid ed
  have hn0 := hI.n0
  have e5 : IntKind.u64.wrap (nx + 1) = nx + 1 := by rw [IntKind.wrap_u64]; omega
  clear H eM hMI hMl ed hD hI
  go_enter Try.func11, Try.ntmps11
  go_wp2_with fail
  refine HC.out.mono ?_
  rintro e w1 ⟨rfl, O1, ⟨vl, vq, vc, R, ho⟩, hm⟩
  obtain ⟨Al, cl, Aq, cq, Ac, cc, rfl, rfl, rfl⟩ := R.forms
  have c3 := R.blk.cell 3
  have rl := R.blk.lt
  simp at c3
  have HR := Lib.hid (And.intro R (And.intro ho hm))
  clear R ho hm
  go_upto_region 4 with fail
  go_cut [9] (fun s9 wx => s9 = .pointer (some ⟨w1.heap.size, 0, none⟩) ∧ Blk wx w1.heap.size 44 #[.int .i64 id, .int .u64 d, .int .u64 nx] ∧ Kept (fun _ => False) w1 wx)
  case first =>
    have n1 : r ≠ w1.heap.size := Nat.ne_of_lt rl
    have n2 : w1.heap.size ≠ r := n1.symm
    go_region_held3 (fun W => W.cell? ⟨r, 3, none⟩ = some (.int .u64 nx))
      (go_keep)
      (first
        | (go_at_call 32; refine (HD.out _).mono ?_; rintro e w' ⟨rfl, rfl⟩))
    all_goals
      go_wp2_with fail
      go_meet
      case rel =>
        exact ⟨rfl, Blk.new w1 _ _, Kept.drew (Kept.alloc (Kept.refl _ w1) _)⟩
  case rest =>
    obtain ⟨rfl, X2, k2⟩ := hcut
    obtain ⟨wx, hwx⟩ : ∃ W, W = X2.world := ⟨_, rfl⟩
    unfold Blk.world at hwx
    subst hwx
    obtain ⟨xb, exb⟩ : ∃ xb, xb = w1.heap.size := ⟨_, rfl⟩
    rw [← exb] at X2 ⊢
    have R2 := HR.out.1.below (k2.below (fun _ e => e.elim) (Nat.le_refl _))
    obtain ⟨R3, m3⟩ := R2.next (nx' := nx + 1)
    have X3 := X2.far (p := ⟨r, 3, none⟩) (by simp; omega) (.int .u64 (nx + 1))
    obtain ⟨W3, eW3⟩ : ∃ W3, W3 = wx.setCell ⟨r, 3, none⟩ (.int .u64 (nx + 1)) := ⟨_, rfl⟩
    rw [← eW3] at R3 m3 X3
    have mA : Mv w1 wx (RO r (.slice Al (xs M).length cl) (.slice Aq (qs M T).length cq) (.slice Ac T.length cc)) (RO r (.slice Al (xs M).length cl) (.slice Aq (qs M T).length cq) (.slice Ac T.length cc)) := Mv.of_kept k2
    have HW := Lib.hid eW3
    have H3 := Lib.hid (And.intro R3 (And.intro X3 (mA.trans m3)))
    have f3 := R2.blk.frozen 3
    have c3 := R2.blk.cell 3
    have rl := R2.blk.lt
    simp at c3
    clear R2 X2 R3 m3 X3 eW3 mA k2 exb
    go_upto_region 6 with fail
    rw [← HW.out]
    obtain ⟨c0, c1, c2⟩ := (show W3.cell? ⟨r, 0, none⟩ = some (.slice Al M.length cl) ∧ W3.cell? ⟨r, 1, none⟩ = some (.slice Aq M.length cq) ∧ W3.cell? ⟨r, 2, none⟩ = some (.slice Ac T.length cc) from by
      have e1 := H3.out.1.blk.cell 0
      have e2 := H3.out.1.blk.cell 1
      have e3 := H3.out.1.blk.cell 2
      simp [xs_len, qs_len] at e1 e2 e3
      exact ⟨e1, e2, e3⟩)
    have rl := H3.out.1.blk.lt
    have x1 : W3.cell? ⟨xb, 1, none⟩ = some (.int .u64 d) := H3.out.2.1.cell 1
    have xl := H3.out.2.1.lt
    have hT32 : (T.length : Int) ≤ 32 := by have := HM.out.2.1.t32; omega
    have hM5 : (M.length : Int) < 500 := by have := HM.out.2.2; omega
    go_wp2_with fail
    go_loopw [10, 11] (fun iv i wr => ∃ (k : Nat) (z : Int), i = .int .i64 (k : Int) ∧ iv = .int .i64 z ∧ k ≤ T.length ∧ z = inK T after k ∧ ∃ j, wr = W3.drewN j) (fun _ i _ => T.length - (intOf i).toNat)
    case atStart => exact ⟨0, -1, rfl, rfl, Nat.zero_le _, by simp [inK], 0, rfl⟩
    case round =>
      obtain ⟨k, z, rfl, rfl, hk, hz, j0, rfl⟩ := hrel
      by_cases hkl : k < T.length
      · obtain ⟨s, hs⟩ : ∃ s, T[k]? = some s := ⟨_, List.getElem?_eq_getElem hkl⟩
        have hst := inK_step (t := after) HM.out.2.1.ts hs
        rw [← hz] at hst
        have b0 : (0 : Int) ≤ (k : Int) := by omega
        have b1 : (k : Int) < (T.length : Int) := by omega
        obtain ⟨gc, rfl⟩ : ∃ gc, Ac = some ⟨gc, 0, none⟩ := by
          rcases RowK.own_form H3.out.1.rc with ⟨_, h0⟩ | ⟨g, c, e, _⟩
          · rw [h0] at hkl; simp at hkl
          · injection e with e1; exact ⟨g, e1⟩
        obtain ⟨s0, gl⟩ := H3.out.1.cellC hs
        by_cases hsa : s = after
        · rw [if_pos hsa] at hst
          rw [hsa] at s0
          have f1 : (after == after) = true := by simp
          have HS := Lib.hid hst
          clear hz hs hst hsa
          go_wp2_with fail
          go_roundw
          case rel => exact ⟨k + 1, (k : Int), by go_num, rfl, by omega, HS.out.symm, _, rfl⟩
          case measure => simp [intOf]; omega
        · rw [if_neg hsa] at hst
          have f1 : (s == after) = false := by simpa using hsa
          have HS := Lib.hid hst
          clear hz hs hst hsa
          go_wp2_with fail
          go_roundw
          case rel => exact ⟨k + 1, z, by go_num, rfl, by omega, HS.out.symm, _, rfl⟩
          case measure => simp [intOf]; omega
      · obtain rfl : k = T.length := by omega
        rw [inK_all (d := d)] at hz
        have HZ := Lib.hid hz
        clear hz
        go_wp2_with fail
        go_loopw [10, 12] (fun iv i wr => ∃ (k : Nat) (z : Int), i = .int .i64 (k : Int) ∧ iv = .int .i64 z ∧ k ≤ M.length ∧ z = qi T (newQ (M.take k) T after d) ∧ ∃ j, wr = W3.drewN j) (fun _ i _ => M.length - (intOf i).toNat)
        case atStart => exact ⟨0, z, rfl, rfl, Nat.zero_le _, HZ.out, j0, rfl⟩
        case round =>
          obtain ⟨k, z, rfl, rfl, hk, hz, j, rfl⟩ := hrel
          by_cases hkl : k < M.length
          · obtain ⟨e, he⟩ : ∃ e, M[k]? = some e := ⟨_, List.getElem?_eq_getElem hkl⟩
            have hst := newQ_step (T := T) (t := after) (d := d) he
            have heM := List.mem_of_getElem? he
            have hx : (xs M)[k]? = some e.x := by unfold xs; rw [List.getElem?_map, he]; rfl
            have hq : (qs M T)[k]? = some (qi T e.q) := by unfold qs; rw [List.getElem?_map, he]; rfl
            obtain ⟨gx, rfl⟩ : ∃ gx, Al = some ⟨gx, 0, none⟩ := by
              rcases RowK.own_form H3.out.1.rl with ⟨_, h0⟩ | ⟨g, c, e, _⟩
              · have := xs_len (L := M); rw [h0] at this; simp at this; omega
              · injection e with e1; exact ⟨g, e1⟩
            obtain ⟨gq, rfl⟩ : ∃ gq, Aq = some ⟨gq, 0, none⟩ := by
              rcases RowK.own_form H3.out.1.rq with ⟨_, h0⟩ | ⟨g, c, e, _⟩
              · have := qs_len (L := M) (T := T); rw [h0] at this; simp at this; omega
              · injection e with e1; exact ⟨g, e1⟩
            obtain ⟨y0, y1, y2, gxl⟩ := H3.out.1.cellX hx
            obtain ⟨p, ep⟩ : ∃ p, p = qi T e.q := ⟨_, rfl⟩
            rw [← ep] at hq
            obtain ⟨q0, gql⟩ := H3.out.1.cellQ hq
            have b0 : (0 : Int) ≤ (k : Int) := by omega
            have b1 : (k : Int) < (M.length : Int) := by omega
            rcases newQ_or (M.take k) T after d with hnq | ⟨hnq, haT⟩
            · rw [hnq] at hz hst
              rw [if_neg (fun h => by cases h.1)] at hst
              have HS := Lib.hid (show z = qi T (newQ (M.take (k + 1)) T after d) from by rw [hst]; exact hz)
              have hz1 : z = -1 := hz
              subst hz1
              clear hz hst he hx hq hnq y0 y1 y2 q0 ep
              go_wp2_with fail
              go_quiet (fail)
              go_wp2_with fail
              go_roundw
              case rel => exact ⟨k + 1, -1, by go_num, rfl, by omega, HS.out, _, rfl⟩
              case measure => simp [intOf]; omega
            · rw [hnq] at hz hst
              have hz0 : 0 ≤ z := by rw [hz]; simp only [qi]; omega
              have hpz : p = z ↔ e.q = some after := by rw [ep, hz]; exact qi_eq (HM.out.2.1.qin e heM) (fun t h => by cases h; exact haT)
              by_cases hpq : p = z
              · have hea := hpz.1 hpq
                have f1 : (z == z) = true := by simp
                rw [hpq] at q0
                by_cases hlt : d < e.x.d
                · rw [if_pos ⟨rfl, hea, hlt⟩] at hst
                  have HS := Lib.hid (show (-1 : Int) = qi T (newQ (M.take (k + 1)) T after d) from by rw [hst]; rfl)
                  clear hz hst he hx hq hnq y0 y2 ep hpq hpz
                  go_wp2_with fail
                  go_quiet (fail)
                  go_wp2_with fail
                  go_roundw
                  case rel => exact ⟨k + 1, -1, by go_num, rfl, by omega, HS.out, _, rfl⟩
                  case measure => simp [intOf]; omega
                · rw [if_neg (fun h => hlt h.2.2)] at hst
                  have HS := Lib.hid (show z = qi T (newQ (M.take (k + 1)) T after d) from by rw [hst]; exact hz)
                  clear hz hst he hx hq hnq y0 y2 ep hpq hpz
                  go_wp2_with fail
                  go_quiet (fail)
                  go_wp2_with fail
                  go_roundw
                  case rel => exact ⟨k + 1, z, by go_num, rfl, by omega, HS.out, _, rfl⟩
                  case measure => simp [intOf]; omega
              · have hea : ¬ e.q = some after := fun h => hpq (hpz.2 h)
                rw [if_neg (fun h => hea h.2.1)] at hst
                have HS := Lib.hid (show z = qi T (newQ (M.take (k + 1)) T after d) from by rw [hst]; exact hz)
                have f1 : (p == z) = false := by simpa using hpq
                clear hz hst he hx hq hnq y0 y2 ep hpq hpz
                go_wp2_with fail
                go_quiet (fail)
                go_wp2_with fail
                go_roundw
                case rel => exact ⟨k + 1, z, by go_num, rfl, by omega, HS.out, _, rfl⟩
                case measure => simp [intOf]; omega
          · obtain rfl : k = M.length := by omega
            rw [List.take_length] at hz
            obtain ⟨V, eV⟩ : ∃ V, V = W3.drewN j := ⟨_, rfl⟩
            have RV := H3.out.1.drewN j
            have XV : Blk V xb 44 #[.int .i64 id, .int .u64 d, .int .u64 nx] := by rw [eV]; exact H3.out.2.1
            have mV : Mv w1 V (RO r (.slice Al (xs M).length cl) (.slice Aq (qs M T).length cq) (.slice Ac T.length cc)) (RO r (.slice Al (xs M).length cl) (.slice Aq (qs M T).length cq) (.slice Ac T.length cc)) := by rw [eV]; exact H3.out.2.2.trans (Mv.of_kept ((Kept.refl _ W3).drewN j))
            rw [← eV] at RV
            have hOV := HR.out.2.1
            have hmV := HR.out.2.2
            rw [xs_len, qs_len] at RV mV hOV
            have ho : RS (V.alloc (.cells #[.int .i64 id, .int .u64 d, .int .u64 nx] 44)).drew B r (.slice Al M.length cl) (.slice Aq M.length cq) (.slice Ac T.length cc) (xs M) (qs M T) T (nx + 1) := (RV.alloc _).drew
            have hs : rowI.shows (V.alloc (.cells #[.int .i64 id, .int .u64 d, .int .u64 nx] 44)).drew (some ⟨V.heap.size, 0, none⟩) [⟨id, d, nx⟩] := fun _ => ⟨_, 0, rfl, by simp, RowK.lies_new (R := rowI) V ⟨id, d, nx⟩ _⟩
            have hB : B ≤ V.heap.size := Nat.le_trans RV.hB (Nat.le_of_lt RV.blk.lt)
            have d0 := RV.blk.cell 0
            have df := RV.blk.frozen 0
            have rl2 := RV.blk.lt
            simp at d0
            have z0 := XV.cell 0
            have z1 := XV.cell 1
            have z2 := XV.cell 2
            have zl := XV.lt
            simp at z0 z1 z2
            have hml : (xs M).length = M.length := xs_len
            have HY := Lib.hid (And.intro ho (And.intro hs (And.intro (mV.trans (Mv.of_kept (((Kept.refl _ V).alloc (.cells #[.int .i64 id, .int .u64 d, .int .u64 nx] 44)).drew))) (And.intro hOV (And.intro hmV hz)))))
            have HML := Lib.hid hml
            have EV := Lib.hid eV
            clear RV XV mV ho hs eV hz hml hOV hmV
            go_wp2_with fail
            rw [← EV.out]
            clear x1 xl c0 c1 c2
            go_region_law ((refine RowK.step_append (R := rowI) (by rfl) _ _ (by rfl) B (.slice Al M.length cl) (xs M) [⟨id, d, nx⟩] (by rfl) HY.out.1.rl ⟨V.heap.size, 0, none⟩ 1 1 rfl (by rfl) HY.out.2.1 (by omega) (by have := HML.out; simp; omega) (by simp; omega) (V.heap.size + 1) (by simp) ?_
                            intro gg cap w3 O3 hgrow hat hlt
                            have F3 := Lib.hid (HY.out.1.growL (u := .slice (some ⟨gg, 0, none⟩) ((xs M).length + 1) cap) hgrow (by rcases hat with e | e; (exact .inl e.symm); (right; rw [e]; simp [Value.ownBlock])) O3)
                            have b3 := HY.out.1.blk.same (hgrow.block r (by simp; omega) (fun e => HY.out.1.nl e.symm))
                            have fz := b3.frozen 0
                            have cz := b3.cell 0
                            have lq := b3.lt
                            have e1 := F3.out.1.blk.cell 1
                            have e2 := F3.out.1.blk.lt
                            simp at e1))
            all_goals
              clear hgrow hat O3 b3 fz cz lq d0 df rl2 z0 z1 z2 zl
              have HA := Lib.hid (F3.out.1.alloc (.cells #[.int .i64 z] 3))
              have hs5 := RowK.new_shows (R := rowN) (w3.setCell ⟨r, 0, none⟩ (.slice (some ⟨gg, 0, none⟩) ((xs M).length + 1) cap)) z 3
              rw [show (w3.setCell ⟨r, 0, none⟩ (.slice (some ⟨gg, 0, none⟩) ((xs M).length + 1) cap)).heap.size = w3.heap.size from by simp [World.setCell]] at hs5
              have HS5 := Lib.hid hs5
              clear hs5
              have hqz : qs M T ++ [z] = qs (M ++ [⟨⟨id, d, nx⟩, newQ M T after d⟩]) T := by
                unfold qs
                rw [List.map_append, HY.out.2.2.2.2.2]; rfl
              have hqx : xs M ++ [⟨id, d, nx⟩] = xs (M ++ [⟨⟨id, d, nx⟩, newQ M T after d⟩]) := by rw [xs_append]; rfl
              have hqa : addL L T ⟨id, dl now after, nx⟩ after = M ++ [⟨⟨id, d, nx⟩, newQ M T after d⟩] := by
                unfold addL
                rw [← Hd.out]
                show cutL id L ++ [⟨⟨id, d, nx⟩, newQ (cutL id L) T after d⟩] = _
                rw [← HM.out.1]
              have hql : (qs M T).length = M.length := qs_len
              have HQ := Lib.hid (And.intro hqz (And.intro hqx (And.intro hqa hql)))
              clear hqz hqx hqa hql
              go_wp2_with (at_builtin; refine RowK.append (R := rowN) rfl _ _ rfl B _ (qs M T) [z] rfl HA.out.rq _ 1 1 rfl rfl HS5.out (fun e => by cases e) (by have := HQ.out.2.2.2; rw [List.length_singleton]; omega) (Nat.le_trans HA.out.hB (Nat.le_of_lt HA.out.blk.lt)) ?_; intro u5 w5 O5 hg5 ho5; have F5 := Lib.hid (HA.out.growQ hg5 ho5 O5); have b5 := HA.out.blk.same (hg5.block r HA.out.blk.lt (fun e => HA.out.nq e.symm)); have g1 := b5.cell 1; have gf := b5.frozen 1; have gl5 := b5.lt; obtain ⟨A5, n5, k5, hu5⟩ := RowK.own_slice O5; subst hu5; clear O5 hg5 ho5 b5)
              go_ret
              exact ⟨rfl, _, ⟨_, _, _, by rw [HQ.out.2.2.1, ← HQ.out.2.1, ← HQ.out.1]; exact F5.out.1, fun i => Iff.rfl⟩, HY.out.2.2.2.2.1.trans ((HY.out.2.2.1.trans (F3.out.2.trans ((Mv.of_kept ((Kept.refl _ _).alloc _)).trans F5.out.2))).iff HY.out.2.2.2.1)⟩
theorem radd_no (w : World) (r : Nat) {id now after : Int} (h0 : id < 0) : Calls Try.prog 11 #[.pointer (some ⟨r, 0, none⟩), .int .i64 id, .int .u64 now, .int .u64 after] w fun e w' => e = .returned (.int .i64 2) ∧ w = w' := by
  go_enter Try.func11, Try.ntmps11
  go_wp2_with fail
  go_ret
  exact ⟨rfl, rfl⟩
theorem radd_any {w : World} {B r : Nat} {L : List En} {T : List Int} {nx : Int} {O0 : Nat → Prop} (H : RefQ B r L T nx w O0) (hI : CInv L T nx) {id now after : Int} (hid : I id) (hnow : U now) (haf : U after) (h1 : nx < 1000000) (hl : L.length < 500) :
    Calls Try.prog 11 #[.pointer (some ⟨r, 0, none⟩), .int .i64 id, .int .u64 now, .int .u64 after] w fun e w' => e = .returned (.int .i64 (addE id)) ∧ ∃ O', RefQ B r (addT L T nx id now after) T (addN nx id) w' O' ∧ Mv w w' O0 O' := by
  unfold addE addT addN
  by_cases h0 : id < 0
  · rw [if_pos h0, if_pos h0, if_pos h0]
    refine (radd_no w r h0).mono ?_
    rintro e w' ⟨rfl, rfl⟩
    exact ⟨rfl, O0, H, Mv.of_kept (Kept.refl _ _)⟩
  · rw [if_neg h0, if_neg h0, if_neg h0]
    exact radd_rs H hI hid (by omega) hnow haf h1 hl
end Go.Proofs.Ytncdohbdmpfefaa
