/-
  HeapSorts.
-/
import Derived.Test.YtleokeabcbepaaaHpCount
import Derived.Test.YtleokeabcbepaaaHpAhead
namespace Go.Proofs.Ytleokeabcbepaaa
open Go.RowKit Go.Maps Go.ChangeMaps Go.Sort

set_option maxHeartbeats 4000000 in
set_option maxRecDepth 100000 in
theorem sorts_long (w : World) (A : Option Addr) (n c : Nat) (hn : 200 < n) : Calls Try.prog 5 #[.slice A n c] w fun e w' => e = .returned (.bool true) ∧ Below w.heap.size w w' := by
  have hn' : (200 : Int) < (n : Int) := by omega
  go_enter Try.func5, Try.ntmps5
  go_wp2_with fail
  refine (alive_any w).mono ?_
  rintro e w1 ⟨rfl, hb1⟩
  go_wp2_with fail
  go_ret
  exact ⟨rfl, hb1⟩

set_option maxHeartbeats 16000000 in
set_option maxRecDepth 100000 in
theorem sorts_any (w : World) (A : Option Addr) (c : Nat) (l : List It) (hA : ArgIts w A l) (hn : l.length ≤ 200) :
    Calls Try.prog 5 #[.slice A l.length c] w fun e w' => e = .returned (.bool true) ∧ Below w.heap.size w w' := by
  have hn' : ¬ (200 : Int) < (l.length : Int) := by omega
  have hmm := @run_makeMap Try.prog
  have HA := Lib.hid hA
  clear hA
  go_enter Try.func5, Try.ntmps5
  go_wp2_with fail
  refine (alive_any w).mono ?_
  rintro e w1 ⟨rfl, hb1⟩
  go_wp2_with fail
  refine (new_any w1 w1.heap.size (Nat.le_refl _)).mono ?_
  rintro e w2 ⟨h1, q1, m1, v1, rfl, H1, hb2, -⟩
  have z2 := hb1.trans (hb2.mono hb1.size)
  have H1 := H1.more hb1.size
  have F2 := Lib.hid (And.intro z2 H1)
  clear hb1 hb2 z2 H1
  go_wp2_with fail
  refine (new_any w2 w2.heap.size (Nat.le_refl _)).mono ?_
  rintro e w3 ⟨h2, q2, m2, v2, rfl, H2, hb3, -⟩
  have T3 := two_new F2.out.2 hb3 H2
  have s4 : St w (w3.alloc (.map #[] 0)) w3.heap.size 0 (fun _ => none) 0 h1 q1 m1 v1 [] h2 q2 m2 v2 [] :=
    ⟨T3.below ((Below.refl _ w3).alloc (Nat.le_refl _) _), Cm.made w3, fun e => by have := (T3.a.lt e).1; omega, fun e => by have := (T3.b.lt e).1; omega, (F2.out.1.trans (hb3.mono F2.out.1.size)).size, (F2.out.1.trans (hb3.mono F2.out.1.size)).alloc (F2.out.1.trans (hb3.mono F2.out.1.size)).size _⟩
  obtain ⟨mm, emm⟩ : ∃ mm, mm = w3.heap.size := ⟨_, rfl⟩
  rw [← emm] at s4
  have e0 : cntF (l.take 0) = fun _ => none := by funext k; simp [cntF, cnt]
  have F3 := Lib.hid (show St w (w3.alloc (.map #[] 0)) mm 0 (cntF (l.take 0)) (addAll (l.take 0)).length h1 q1 m1 v1 (addAll (l.take 0)) h2 q2 m2 v2 [] by rw [e0]; exact s4)
  have EM := Lib.hid emm
  clear hb3 H2 T3 s4 F2 emm e0
  go_wp2_with fail
  rw [← EM.out]
  go_loopw [31] (fun i wr => ∃ k : Nat, i = .int .i64 (k : Int) ∧ k ≤ l.length ∧ ∃ v1', St w wr mm k (cntF (l.take k)) (addAll (l.take k)).length h1 q1 m1 v1' (addAll (l.take k)) h2 q2 m2 v2 []) (fun i _ => l.length - (intOf i).toNat)
  case atStart => exact ⟨0, rfl, Nat.zero_le _, v1, F3.out⟩
  case round =>
    obtain ⟨k, rfl, hk, u1, s⟩ := hrel
    by_cases hlt : k < l.length
    · obtain ⟨b, off, rfl, hbl, hcell⟩ := HA.out.2 (by omega)
      have hz := List.getElem?_eq_getElem hlt
      obtain ⟨x, ex⟩ : ∃ x, x = l[k] := ⟨_, rfl⟩
      rw [← ex] at hz
      obtain ⟨x0, x1, x2⟩ := hcell k x hz
      have hok := HA.out.1 x (List.mem_of_getElem? hz)
      have hsz : (addAll (l.take k)).length < 1000 := by have := addAll_len (l.take k); have := List.length_take_le k l; omega
      have x0' := (s.z.cell (p := ⟨b, _, none⟩) hbl).trans x0
      have x1' := (s.z.cell (p := ⟨b, _, none⟩) hbl).trans x1
      have x2' := (s.z.cell (p := ⟨b, _, none⟩) hbl).trans x2
      have b0 : (0 : Int) ≤ (k : Int) := by omega
      have b1 : (k : Int) < (l.length : Int) := by omega
      have HC := Lib.hid (And.intro x0 (And.intro x1 x2))
      have HP := Lib.hid (push_any s.T.a hok hsz)
      have HQ := Lib.hid (push_cnt (l.take k) x.id)
      have HS := Lib.hid (And.intro (addAll_snoc hz) (And.intro (cntF_snoc hz) hz))
      have HF := Lib.hid (And.intro s hok)
      clear x0 x1 x2 ex hz hcell s hok hsz
      go_wp2_with fail
      refine HP.out.mono ?_
      rintro e w4 ⟨rfl, u1', H4, hm4⟩
      have s4 := HF.out.1.first hm4 H4
      clear x0' x1' x2' H4 hm4
      have x0' := (s4.z.cell (p := ⟨b, _, none⟩) hbl).trans HC.out.1
      have hlk := s4.C.pm.look x.id HF.out.2.1 false
      rw [cntF_getD] at hlk
      have F4 := Lib.hid s4
      have s4C := s4.C
      obtain ⟨D, hD, hf, hz⟩ := s4C
      have HD := Lib.hid (And.intro hD (And.intro hf hz))
      have hcl : cnt (l.take k) x.id ≤ 200 := by have : cnt (l.take k) x.id ≤ (l.take k).length := List.countP_le_length; have := List.length_take_le k l; omega
      have HPut := Lib.hid (fun w5 hown hg => sorts_put (w5 := w5) F4.out HS.out.2.2 HF.out.2 HD.out.1 HD.out.2.1 HD.out.2.2 hown hg)
      clear s4 hD hf hz
      generalize pushE (addAll (l.take k)) x.id = e0 at HQ ⊢
      generalize cnt (l.take k) x.id = c0 at HQ HPut hlk hcl
      have hcl' : (c0 : Int) ≤ 200 := by omega
      rcases HQ.out with ⟨rfl, hc⟩ | ⟨rfl, hc⟩
      · have hq : ((c0 : Int) + 1 == 1) = true := by simp; omega
        clear hc
        go_wp2_with (at_mapUpdate; refine wpList_mapUpdate_own _ rfl _ _ _ 51 rfl 3 3 keyInt Try.underlying51 _ mm k D rfl HD.out.1 (by unfold maxLen; omega) _ _ _ rfl rfl (keyOf_int_mk Try.underlying3 (wfI HF.out.2.1)) _ [] (plainElem_int Try.underlying3 (wfI (by omega))) ?_; intro w5 hown hg; have hlk2 := (HPut.out w5 hown hg).2; have F5 := Lib.hid (HPut.out w5 hown hg).1; have x0'' := (F5.out.z.cell (p := ⟨b, _, none⟩) hbl).trans HC.out.1; clear hown hg)
        go_roundw
        case rel => exact ⟨k + 1, by go_num, by omega, u1', F5.out⟩
        case measure => simp [intOf]; omega
      · have hq : ((c0 : Int) + 1 == 1) = false := by simp; omega
        clear hc
        go_wp2_with (at_mapUpdate; refine wpList_mapUpdate_own _ rfl _ _ _ 51 rfl 3 3 keyInt Try.underlying51 _ mm k D rfl HD.out.1 (by unfold maxLen; omega) _ _ _ rfl rfl (keyOf_int_mk Try.underlying3 (wfI HF.out.2.1)) _ [] (plainElem_int Try.underlying3 (wfI (by omega))) ?_; intro w5 hown hg; have hlk2 := (HPut.out w5 hown hg).2; have F5 := Lib.hid (HPut.out w5 hown hg).1; have x0'' := (F5.out.z.cell (p := ⟨b, _, none⟩) hbl).trans HC.out.1; clear hown hg)
        go_roundw
        case rel => exact ⟨k + 1, by go_num, by omega, u1', F5.out⟩
        case measure => simp [intOf]; omega
    · obtain rfl : k = l.length := by omega
      have hS := addAll_len l
      rw [List.take_length] at s
      generalize addAll l = S at s hS
      generalize cntF l = f at s
      have hu := s.T.a.uniq
      have hsr := s.T.a.srt
      have hoks := s.T.a.ok
      have HL := Lib.hid (And.intro hS (And.intro hu (And.intro hsr hoks)))
      have hA1 := Lib.hid (all_any s.T.a)
      have F5 := Lib.hid s
      have hS' : (S.length : Int) ≤ 200 := by omega
      have hS0 : (0 : Int) ≤ (S.length : Int) := by omega
      clear hS hu hsr hoks s
      go_wp2_with fail
      refine hA1.out.mono ?_
      rintro e w6 ⟨u, rfl, O6, hb6⟩
      obtain ⟨A6, c6, hu6, -, -⟩ := O6.shows
      subst hu6
      have s6 := F5.out.below hb6
      have r6 : Rw w6 wr.heap.size (.slice A6 S.length c6) S q1 m1 u1 q2 m2 v2 := ⟨O6, O6.apart F5.out.T.a (Nat.le_refl _), O6.apart F5.out.T.b (Nat.le_refl _)⟩
      have F6 := Lib.hid (And.intro s6 r6)
      obtain ⟨Bu, hBu⟩ : ∃ Bu, Bu = wr.heap.size := ⟨_, rfl⟩
      rw [← hBu] at F6
      clear s6 r6 O6 hb6 hBu
      go_wp2_with fail
      go_loopw [10] (fun i wq => ∃ (z : Int) (k : Nat), i = .int .i64 z ∧ z + 1 = (k : Int) ∧ k ≤ S.length ∧ ∃ v2', St w wq mm l.length f S.length h1 q1 m1 u1 S h2 q2 m2 v2' (S.drop k) ∧ Rw wq Bu (.slice A6 S.length c6) S q1 m1 u1 q2 m2 v2') (fun i _ => (intOf i + 1).toNat)
      case atStart => exact ⟨(S.length : Int) - 1, S.length, rfl, by omega, Nat.le_refl _, v2, by rw [List.drop_length]; exact F6.out.1, F6.out.2⟩
      case round =>
        obtain ⟨z, k, rfl, hz, hk, v2', s, r⟩ := hrel
        by_cases hk0 : k = 0
        · obtain rfl : z = -1 := by omega
          subst hk0
          rw [List.drop_zero] at s
          have hlen := s.C.len 3
          have F8 := Lib.hid (And.intro s r)
          clear s r hk hz
          go_wp2_with fail
          go_loopw [84] (fun i wt => ∃ k : Nat, i = .int .i64 (k : Int) ∧ k ≤ S.length ∧ ∃ v1' v2', St w wt mm l.length f S.length h1 q1 m1 v1' (S.drop k) h2 q2 m2 v2' (S.drop k) ∧ Rw wt Bu (.slice A6 S.length c6) S q1 m1 v1' q2 m2 v2') (fun i _ => S.length - (intOf i).toNat)
          case atStart => exact ⟨0, rfl, Nat.zero_le _, u1, v2', by rw [List.drop_zero]; exact F8.out.1, F8.out.2⟩
          case round =>
            obtain ⟨k, rfl, hk, a1, a2, s, r⟩ := hrel
            clear hlen
            by_cases hlt : k < S.length
            · have hx := List.getElem?_eq_getElem hlt
              obtain ⟨x, ex⟩ : ∃ x, x = S[k] := ⟨_, rfl⟩
              rw [← ex] at hx
              rw [drop_cons hx] at s
              have hP := Lib.hid (pop_some s.T.a)
              have F9 := Lib.hid (And.intro s (And.intro r hx))
              have b0 : (0 : Int) ≤ (k : Int) := by omega
              have b1 : (k : Int) < (S.length : Int) := by omega
              clear s r hx ex
              go_wp2_with fail
              refine hP.out.mono ?_
              rintro e w8 ⟨rfl, v8, H8, hm8⟩
              have s8 := F9.out.1.first hm8 H8
              have bl8 : Below w8.heap.size w8 (w8.alloc (.cells #[.int .i64 x.id, .int .u64 x.d, .int .u64 x.n] 31)) := (Below.refl _ w8).alloc (Nat.le_refl _) _
              have X8 := Blk.new w8 31 #[.int .i64 x.id, .int .u64 x.d, .int .u64 x.n]
              have nX := s8.T.b.fresh (Nat.le_refl _)
              have r8 := (F9.out.2.1.first hm8).below bl8
              have s8 := s8.below bl8
              have hP2 := Lib.hid (pop_some s8.T.b)
              have F10 := Lib.hid (And.intro s8 (And.intro r8 (And.intro X8 nX)))
              obtain ⟨xb, exb⟩ : ∃ xb, xb = w8.heap.size := ⟨_, rfl⟩
              rw [← exb] at F10
              have EX := Lib.hid exb
              clear s8 r8 X8 nX H8 hm8 bl8 exb
              go_wp2_with fail
              refine hP2.out.mono ?_
              rintro e w9 ⟨rfl, v9, H9, hm9⟩
              rw [← EX.out]
              have s9 := F10.out.1.second hm9 H9
              have r9 := F10.out.2.1.second hm9
              have X9 := F10.out.2.2.1.kept hm9.1 F10.out.2.2.2
              have bl9 : Below w9.heap.size w9 (w9.alloc (.cells #[.int .i64 x.id, .int .u64 x.d, .int .u64 x.n] 31)) := (Below.refl _ w9).alloc (Nat.le_refl _) _
              have Y9 := Blk.new w9 31 #[.int .i64 x.id, .int .u64 x.d, .int .u64 x.n]
              have s9 := s9.below bl9
              have r9 := r9.below bl9
              have X9 := X9.same (bl9.block _ X9.lt)
              obtain ⟨yb, eyb⟩ : ∃ yb, yb = w9.heap.size := ⟨_, rfl⟩
              obtain ⟨W, eW⟩ : ∃ W, W = w9.alloc (.cells #[.int .i64 x.id, .int .u64 x.d, .int .u64 x.n] 31) := ⟨_, rfl⟩
              rw [← eW] at s9 r9 X9
              rw [← eyb, ← eW] at Y9
              have EW := Lib.hid (And.intro eW eyb)
              obtain ⟨g, rfl, hg, hrow⟩ := r9.O.shows_of (by omega)
              obtain ⟨y0, y1, y2⟩ := hrow k x F9.out.2.2
              have E0 := cell_grown (w := W) (a := ⟨g, k * 3, none⟩) hg y0
              have E1 := cell_grown (w := W) (a := ⟨g, k * 3 + 1, none⟩) hg y1
              have E2 := cell_grown (w := W) (a := ⟨g, k * 3 + 2, none⟩) hg y2
              have t0 := X9.cell 0
              have t1 := X9.cell 1
              have t2 := X9.cell 2
              have q0 := Y9.cell 0
              have q1' := Y9.cell 1
              have q2' := Y9.cell 2
              simp at t0 t1 t2 q0 q1' q2'
              have E3 := cell_grown (w := W) (a := ⟨xb, 0, none⟩) X9.lt t0
              have E4 := cell_grown (w := W) (a := ⟨xb, 1, none⟩) X9.lt t1
              have E5 := cell_grown (w := W) (a := ⟨xb, 2, none⟩) X9.lt t2
              have E6 := cell_grown (w := W) (a := ⟨yb, 0, none⟩) Y9.lt q0
              have E7 := cell_grown (w := W) (a := ⟨yb, 1, none⟩) Y9.lt q1'
              have E8 := cell_grown (w := W) (a := ⟨yb, 2, none⟩) Y9.lt q2'
              have F11 := Lib.hid (And.intro s9 r9)
              by_cases hk0 : (0 : Int) < (k : Int)
              · obtain ⟨p, hp⟩ : ∃ p : Nat, (k : Int) - 1 = (p : Int) := ⟨k - 1, by omega⟩
                have hpl : p < S.length := by omega
                have hy := List.getElem?_eq_getElem hpl
                obtain ⟨y, ey⟩ : ∃ y, y = S[p] := ⟨_, rfl⟩
                rw [← ey] at hy
                obtain ⟨z0, z1, z2⟩ := hrow p y hy
                have E9 := cell_grown (w := W) (a := ⟨g, p * 3, none⟩) hg z0
                have E10 := cell_grown (w := W) (a := ⟨g, p * 3 + 1, none⟩) hg z1
                have E11 := cell_grown (w := W) (a := ⟨g, p * 3 + 2, none⟩) hg z2
                have p0 : (0 : Int) ≤ (p : Int) := by omega
                have p1 : (p : Int) < (S.length : Int) := by omega
                have hk1 : 0 < k := by omega
                have HO := Lib.hid (fun n os => ahead_grown y x (srt_lt HL.out.2.2.1 hy (by rw [show p + 1 = k by omega]; exact F9.out.2.2)) W n os)
                clear s9 r9 X9 Y9 eyb eW hrow y0 y1 y2 t0 t1 t2 q0 q1' q2' z0 z1 z2 hy ey H9 hm9 bl9
                go_wp2_with fail
                rw [← EW.out.1, ← EW.out.2]
                refine wp_region_quiet_grown (by kernel_rfl) (by kernel_rfl) ?_
                repeat (first | go_big_quiet_step ((go_at_call 29; refine HO.out _ _)) | quiet_step ((go_at_call 29; refine HO.out _ _)))
                refine wpQuiet_nil ?_
                intro _ hw'
                obtain ⟨⟨nq, osq⟩, hw''⟩ := hw'
                subst hw''
                have bq : Below W.heap.size W (grow (W.drewN nq) osq) := (Kept.grow (F := fun _ => False) (Kept.refl _ W) nq osq).below (fun _ e => e.elim) (Nat.le_refl _)
                have F12 := Lib.hid (And.intro (F11.out.1.below bq) (F11.out.2.below bq))
                clear bq
                go_wp2_with fail
                go_roundw
                case rel => exact ⟨k + 1, by go_num, by omega, v8, v9, F12.out.1, F12.out.2⟩
                case measure => simp [intOf]; omega
              · have hd : decide ((0 : Int) < (k : Int)) = false := by simpa using hk0
                have hk1 : ¬ 0 < k := by omega
                clear s9 r9 X9 Y9 eyb eW hrow y0 y1 y2 t0 t1 t2 q0 q1' q2' H9 hm9 bl9
                go_wp2_with fail
                rw [← EW.out.1, ← EW.out.2]
                refine wp_region_quiet_grown (by kernel_rfl) (by kernel_rfl) ?_
                repeat (first | go_big_quiet_step (fail) | quiet_step (fail))
                refine wpQuiet_nil ?_
                intro _ hw'
                obtain ⟨⟨nq, osq⟩, hw''⟩ := hw'
                subst hw''
                have bq : Below W.heap.size W (grow (W.drewN nq) osq) := (Kept.grow (F := fun _ => False) (Kept.refl _ W) nq osq).below (fun _ e => e.elim) (Nat.le_refl _)
                have F12 := Lib.hid (And.intro (F11.out.1.below bq) (F11.out.2.below bq))
                clear bq
                go_wp2_with fail
                go_roundw
                case rel => exact ⟨k + 1, by go_num, by omega, v8, v9, F12.out.1, F12.out.2⟩
                case measure => simp [intOf]; omega
            · obtain rfl : k = S.length := by omega
              rw [List.drop_length] at s
              have hL1 := Lib.hid (len_any s.T.a)
              have hL2 := Lib.hid (len_any s.T.b)
              have F9 := Lib.hid s.z
              clear s r
              go_wp2_with (first
                | (go_at_call_of 26 #[Value.pointer (some ⟨h1, 0, none⟩)]; refine hL1.out.mono ?_; rintro e w8 ⟨rfl, rfl⟩)
                | (go_at_call 26; refine hL2.out.mono ?_; rintro e w8 ⟨rfl, rfl⟩))
              go_ret
              exact ⟨rfl, F9.out⟩
        · obtain ⟨j, rfl⟩ : ∃ j, k = j + 1 := ⟨k - 1, by omega⟩
          obtain rfl : z = (j : Int) := by omega
          have hjl : j < S.length := by omega
          obtain ⟨g, rfl, hg, hrow⟩ := r.O.shows_of (by omega)
          have hx := List.getElem?_eq_getElem hjl
          obtain ⟨x, ex⟩ : ∃ x, x = S[j] := ⟨_, rfl⟩
          rw [← ex] at hx
          obtain ⟨x0, x1, x2⟩ := hrow j x hx
          have b0 : (0 : Int) ≤ (j : Int) := by omega
          have b1 : (j : Int) < (S.length : Int) := by omega
          have HP := push_new (x := x) s.T.b (HL.out.2.2.2 x (List.mem_of_getElem? hx)) (drop_ne HL.out.2.1 hx) (by have := HL.out.1; rw [List.length_drop]; omega)
          rw [ins_first HL.out.2.2.1 HL.out.2.1 hx] at HP
          have HP := Lib.hid HP
          have HF := Lib.hid (And.intro s r)
          clear hrow ex hx s r hz hk hk0
          go_wp2_with fail
          refine HP.out.mono ?_
          rintro e w7 ⟨rfl, v7, H7, hm7⟩
          have F7 := Lib.hid (And.intro (HF.out.1.second hm7 H7) (HF.out.2.second hm7))
          clear H7 hm7 x0 x1 x2
          go_wp2_with fail
          go_roundw
          case rel => exact ⟨(j : Int) - 1, j, rfl, by omega, by omega, v7, F7.out.1, F7.out.2⟩
          case measure => simp [intOf] <;> omega

theorem sorts_law (w : World) (A : Option Addr) (c : Nat) (l : List It) (hA : ArgIts w A l) :
    Calls Try.prog 5 #[.slice A l.length c] w fun e w' => e = .returned (.bool true) ∧ Below w.heap.size w w' := by
  by_cases h : l.length ≤ 200
  · exact sorts_any w A c l hA h
  · exact sorts_long w A l.length c (by omega)
end Go.Proofs.Ytleokeabcbepaaa
