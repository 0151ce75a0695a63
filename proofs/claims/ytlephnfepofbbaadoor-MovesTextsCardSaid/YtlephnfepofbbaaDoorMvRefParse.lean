/-
  The document's Parse.
-/
import Derived.Test.YtlephnfepofbbaaDoorMvRefRead
import Derived.Test.YtlephnfepofbbaaDoorMvParse
namespace Go.Proofs.YtlephnfepofbbaaDoor
open Go.RowKit Go.Shelf Go.Maps Go.ChangeMaps

theorem cut_here {k : UInt8} {l : List UInt8} {fr j : Nat} (hf : fr ≤ j) (hc : l[j]? = some k) (h : k ∉ (l.take j).drop fr) : splitB k (l.drop fr) = (l.take j).drop fr :: splitB k (l.drop (j + 1)) := by
  obtain ⟨hj, hv⟩ := List.getElem?_eq_some_iff.1 hc
  have e : l.drop fr = (l.take j).drop fr ++ k :: l.drop (j + 1) := by
    conv => lhs; rw [← List.take_append_drop j l]
    rw [List.drop_append_of_le_length (by rw [List.length_take]; omega), List.drop_eq_getElem_cons hj, hv]
  rw [e]
  exact split_cut k _ _ h
theorem cut_more {k : UInt8} {l : List UInt8} {fr j : Nat} {c : UInt8} (hf : fr ≤ j) (hc : l[j]? = some c) (hn : c ≠ k) (h : k ∉ (l.take j).drop fr) : k ∉ (l.take (j + 1)).drop fr := by
  obtain ⟨hj, hv⟩ := List.getElem?_eq_some_iff.1 hc
  rw [List.take_add_one, hc, List.drop_append_of_le_length (by rw [List.length_take]; omega)]
  intro hm
  rcases List.mem_append.1 hm with hm | hm
  · exact h hm
  · have : k = c := by simpa using hm
    exact hn this.symm
theorem parseL_step {p : List UInt8} {rest : List (List UInt8)} {m : Nat} {acc : List St} (h : rest ≠ []) : parseL (p :: rest) m acc = match rdLine p with
    | some x => if 2000 < m + 1 then .error (m + 1) else parseL rest (m + 1) (acc ++ [x])
    | none => .error (m + 1) := by
  cases rest with
  | nil => exact absurd rfl h
  | cons q qs => rfl
set_option maxRecDepth 100000 in
set_option maxHeartbeats 16000000 in
theorem rparse_any (s : ByteArray) (hs : s.size ≤ 100000) (w : World) :
    Calls Tryd.prog 10 #[.string s] w (ParseR w (parseS s.data.toList)) := by
  obtain ⟨R, hR⟩ : ∃ R, parseS s.data.toList = R := ⟨_, rfl⟩
  rw [hR]
  obtain ⟨L, hL⟩ : ∃ L, s.size = L := ⟨_, rfl⟩
  have hl : s.data.toList.length = L := by rw [← Lib.size_eq, hL]
  have HLL := Lib.hid hl
  rw [hL] at hs
  have HR0 : Hid (parseL (splitB 10 (s.data.toList.drop 0)) 0 [] = R) := Lib.hid (by rw [List.drop_zero]; exact hR)
  clear hR hl
  go_enter Tryd.func10, Tryd.ntmps10
  go_wp2_with fail
  go_loopw [5, 6, 7, 8, 9, 10] (fun o n f i _ _ wr => ∃ (m fr j : Nat) (ps : List Ss), n = .int .i64 m ∧ f = .int .i64 fr ∧ i = .int .i64 j ∧ j ≤ L ∧ fr ≤ j ∧ m ≤ 2000 ∧ Hid ((10 : UInt8) ∉ (s.data.toList.take j).drop fr) ∧ Hid (parseL (splitB 10 (s.data.toList.drop fr)) m (ps.map Ss.x) = R) ∧ Hid (ps.length = m) ∧ Hid (PsR w.heap.size o ps wr) ∧ Hid (Below w.heap.size w wr)) (fun _ _ _ i _ _ _ => L - (intOf i).toNat)
  case atStart => exact ⟨0, 0, 0, [], rfl, rfl, rfl, Nat.zero_le _, Nat.le_refl _, by omega, Lib.hid (by simp), HR0, Lib.hid rfl, Lib.hid (PsR.nil _ _), Lib.hid (Below.refl _ _)⟩
  case round =>
    obtain ⟨m, fr, j, ps, rfl, rfl, rfl, hj, hf, hm, HNO, HPR, HPL, HPS, HB⟩ := hrel
    have j0 : (0 : Int) ≤ (j : Int) := by omega
    have hmw : IntKind.i64.wrap ((m : Int) + 1) = (m : Int) + 1 := IntWalk.i64_in _ (by omega)
    have hjw : IntKind.i64.wrap ((j : Int) + 1) = (j : Int) + 1 := IntWalk.i64_in _ (by omega)
    by_cases hlt : j < L
    · have hlt' : (j : Int) < (L : Int) := by omega
      have hLL := HLL.out
      obtain ⟨c, hc⟩ : ∃ c, s.data.toList[j]? = some c := ⟨_, List.getElem?_eq_getElem (by omega)⟩
      have i1 := str_run s j c hc (j : Int) rfl
      by_cases h10 : c = 10
      · subst h10
        have hsp := cut_here hf hc HNO.out
        have hpr := HPR.out
        rw [hsp, parseL_step (split_ne 10 _)] at hpr
        have hsl := slice_str_run s fr j hf (by omega)
        obtain ⟨P, hP⟩ : ∃ P, s.extract fr j = P := ⟨_, rfl⟩
        rw [hP] at hsl
        have hPd : P.data.toList = (s.data.toList.take j).drop fr := by rw [← hP, ext_slice]
        have hrd := read_any P (by rw [← hP, ByteArray.size_extract]; omega) wr
        rw [hPd, readR_eq] at hrd
        have hfr' : (fr : Int) ≤ (j : Int) := by omega
        have fr0 : (0 : Int) ≤ (fr : Int) := by omega
        have HRD := Lib.hid hrd
        have HP := Lib.hid hpr
        have hnl : Hid ((10 : UInt8) ∉ (s.data.toList.take (j + 1)).drop (j + 1)) := Lib.hid (by
          rw [List.drop_eq_nil_of_le (by rw [List.length_take]; omega)]; simp)
        clear hsp hpr hP hPd hrd hc hLL hlt
        cases ho : rdLine ((s.data.toList.take j).drop fr) with
        | none =>
          rw [ho] at HRD HP
          have HE : Hid (R = .error (m + 1)) := Lib.hid HP.out.symm
          clear ho
          go_wp2_with (go_at_call 21; refine HRD.out.mono ?_; rintro e w2 ⟨hb2, t, i, A1, a1, c1, B1, b1, d1, rfl⟩; have HB2 := Lib.hid (HB.out.trans (hb2.mono HB.out.size)); clear hb2)
          refine bodyPost_ret (v := .tuple #[.slice none 0 0, .int .i64 ((m : Int) + 1), .int .i64 121]) (by simp [results, Tryd.results10, go_sem]) rfl ?_
          rw [HE.out]
          exact ⟨HB2.out.alloc HB2.out.size _, rfl⟩
        | some y =>
          rw [ho] at HRD HP
          clear ho
          by_cases h20 : m = 2000
          · have HE : Hid (R = .error (m + 1)) := Lib.hid (by rw [← HP.out]; simp only []; rw [if_pos (by omega)])
            have h20' : (2000 : Int) < (m : Int) + 1 := by omega
            clear h20
            go_wp2_with (go_at_call 21; refine HRD.out.mono ?_; rintro e w2 ⟨hb2, ov, mvv, rfl, hrw⟩; obtain ⟨E, e2, F, f2, rfl, rfl⟩ := hrw.step.forms; have HB2 := Lib.hid (HB.out.trans (hb2.mono HB.out.size)); clear hb2 hrw)
            refine bodyPost_ret (v := .tuple #[.slice none 0 0, .int .i64 ((m : Int) + 1), .int .i64 121]) (by simp [results, Tryd.results10, go_sem]) rfl ?_
            rw [HE.out]
            exact ⟨HB2.out.alloc HB2.out.size _, rfl⟩
          · have HE : Hid (parseL (splitB 10 (s.data.toList.drop (j + 1))) (m + 1) (ps.map Ss.x ++ [y]) = R) := Lib.hid (by rw [← HP.out]; simp only []; rw [if_neg (by omega)])
            have h20' : ¬ (2000 : Int) < (m : Int) + 1 := by omega
            have HM : Hid (m + 1 ≤ 2000) := Lib.hid (by omega)
            clear h20
            go_wp2_with (first
              | (go_at_call 21; refine HRD.out.mono ?_; rintro e w2 ⟨hb2, ov, mvv, rfl, hrw⟩; obtain ⟨E, e2, F, f2, rfl, rfl⟩ := hrw.step.forms; have HB2 := Lib.hid (HB.out.trans (hb2.mono HB.out.size)); have HRW := Lib.hid hrw; have HPS2 := Lib.hid (HPS.out.below hb2); clear hb2 hrw)
              | (at_builtin; refine RowK.append (R := RT) rfl _ _ rfl w.heap.size _ ps [⟨y, E, e2, F, f2⟩] rfl ((HPS2.out.alloc (.cells #[.int .u64 (y.t : Int), .bool y.intr, .slice E y.ord.length e2, .slice F y.mv.length f2] 30)).alloc _).own (some ⟨w2.heap.size + 1, 0, none⟩) 1 1 rfl rfl (fun _ => ⟨_, 0, rfl, by simp, by have h := RowK.lies_new (R := RT) (w2.alloc (.cells #[.int .u64 (y.t : Int), .bool y.intr, .slice E y.ord.length e2, .slice F y.mv.length f2] 30)) ⟨y, E, e2, F, f2⟩ 30; rw [World.size_alloc] at h; exact h⟩) (fun e => by cases e) (by have := HPL.out; simp; omega) (by have := HB2.out.size; simp; omega) ?_; intro v1 w1 h1 hg1 hat; have HP1 := Lib.hid (((HPS2.out.alloc (.cells #[.int .u64 (y.t : Int), .bool y.intr, .slice E y.ord.length e2, .slice F y.mv.length f2] 30)).alloc (.cells #[.int .u64 (y.t : Int), .bool y.intr, .slice E y.ord.length e2, .slice F y.mv.length f2] 30)).more (p := ⟨y, E, e2, F, f2⟩) (((HRW.out.more HB.out.size).alloc (.cells #[.int .u64 (y.t : Int), .bool y.intr, .slice E y.ord.length e2, .slice F y.mv.length f2] 30)).alloc (.cells #[.int .u64 (y.t : Int), .bool y.intr, .slice E y.ord.length e2, .slice F y.mv.length f2] 30)) h1 hg1); have HB1 := Lib.hid (((HB2.out.alloc HB2.out.size (.cells #[.int .u64 (y.t : Int), .bool y.intr, .slice E y.ord.length e2, .slice F y.mv.length f2] 30)).alloc (by have := HB2.out.size; simp; omega) (.cells #[.int .u64 (y.t : Int), .bool y.intr, .slice E y.ord.length e2, .slice F y.mv.length f2] 30)).grown hg1 (by have := HB2.out.size; simp; omega) (fun k e => (RowK.own_lt HPS2.out.own e).2)); clear h1 hg1 hat))
            go_roundw
            case rel => exact ⟨m + 1, j + 1, j + 1, ps ++ [⟨y, E, e2, F, f2⟩], by go_num, by go_num, by go_num, by omega, by omega, HM.out, hnl, Lib.hid (by rw [List.map_append]; exact HE.out), Lib.hid (by rw [List.length_append, HPL.out]; rfl), HP1, HB1⟩
            case measure => simp [intOf] <;> omega
      · have hn1 : ((c.toNat : Int) == 10) = false := by
          rw [beq_eq_false_iff_ne]
          exact fun e => h10 (u8_eq (by have : (10 : UInt8).toNat = 10 := rfl; omega))
        have hn2 : ¬ (c.toNat : Int) = 10 := fun e => h10 (u8_eq (by have : (10 : UInt8).toNat = 10 := rfl; omega))
        have HO2 := Lib.hid (cut_more hf hc h10 HNO.out)
        clear hc hlt hLL h10
        go_wp2_with fail
        go_roundw
        case rel => exact ⟨m, fr, j + 1, ps, rfl, rfl, by go_num, by omega, by omega, by omega, HO2, HPR, HPL, HPS, HB⟩
        case measure => simp [intOf] <;> omega
    · obtain rfl : j = L := by omega
      have hlt' : ¬ (j : Int) < (j : Int) := by omega
      have hsp : splitB 10 (s.data.toList.drop fr) = [s.data.toList.drop fr] := split_none 10 _ (by
        have h := HNO.out
        rwa [List.take_of_length_le (by have := HLL.out; omega)] at h)
      have hpr := HPR.out
      rw [hsp] at hpr
      unfold parseL at hpr
      by_cases hfe : fr < j
      · have hfe' : (fr : Int) < (j : Int) := by omega
        rw [if_neg (fun e => by have h := congrArg List.length e; rw [List.length_drop, HLL.out] at h; simp at h; omega)] at hpr
        have HE := Lib.hid hpr
        clear hpr hsp hfe hlt
        go_wp2_with fail
        refine bodyPost_ret (v := .tuple #[.slice none 0 0, .int .i64 ((m : Int) + 1), .int .i64 121]) (by simp [results, Tryd.results10, go_sem]) rfl ?_
        rw [← HE.out]
        exact ⟨HB.out, rfl⟩
      · obtain rfl : fr = j := by omega
        rw [if_pos (List.drop_eq_nil_of_le (by have := HLL.out; omega))] at hpr
        have HE := Lib.hid hpr
        obtain ⟨A0, n0, c0, rfl⟩ := RowK.own_slice HPS.out.own
        clear hpr hsp hfe hlt
        go_wp2_with fail
        refine bodyPost_ret (v := .tuple #[.slice A0 n0 c0, .int .i64 0, .int .i64 0]) (by simp [results, Tryd.results10, go_sem]) rfl ?_
        rw [← HE.out]
        exact ⟨HB.out, _, ps, rfl, HPS.out, rfl⟩
end Go.Proofs.YtlephnfepofbbaaDoor
