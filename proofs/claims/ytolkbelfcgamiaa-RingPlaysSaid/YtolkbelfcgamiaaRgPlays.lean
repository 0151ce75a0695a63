/-
  RingPlays: its walk.
-/
import Derived.Test.YtolkbelfcgamiaaRgPl2
import Derived.Deep.CutBlock
import Derived.Deep.RegionHeld3
import Derived.Deep.RegionWith
namespace Go.Proofs.Ytolkbelfcgamiaa
open Go.RowKit Go.Shelf Go.Maps Go.ChangeMaps

/-- What holds behind the switch. -/
def PyMid (w W : World) (r rb xk j : Nat) (kd n : Int) (xv own : Value) (xb : List Int) : Prop :=
  ∃ F cap bs inn out A c, Pq w W r rb xk F cap bs inn out cap A c bs inn out kd n xv own xb ∧ inn ≤ 65536 * j

/-- A copy of a call, and of its bytes. -/
theorem xo_new {w wr w1 : World} {r rb cap inn out cap2 in2 out2 c : Nat} {F : Nat → Prop} {A : Option Addr} {bs bs2 xb : List Int} {kd n : Int} {xv own : Value}
    (M : Md w wr r rb F cap bs inn out cap2 A c bs2 in2 out2) (hl : xb.length ≤ 9223372036854775807)
    (ho : w1.ownsRow wr.heap.size 5 1 own xb.length (encB xb))
    (hg : ((wr.alloc (.cells #[.int .i64 kd, .int .i64 n, xv] 35)).alloc (.cells #[] 5)).grownBy w1 (some (wr.heap.size + 1))) :
    Md w w1 r rb F cap bs inn out cap2 A c bs2 in2 out2 ∧ Xo w w1 rb wr.heap.size F kd n xv own xb := by
  have hk : Kept (fun i => wr.heap.size + 1 = i) ((wr.alloc (.cells #[.int .i64 kd, .int .i64 n, xv] 35)).alloc (.cells #[] 5)) w1 := (Kept.refl _ _).grown hg (fun i e _ => by cases e; rfl)
  have hk2 : Kept (fun _ => False) wr w1 := (((Kept.refl (fun _ => False) wr).alloc _).alloc _).andThen hk (fun i hi e => by omega)
  have hs := (own_src (n := 0) ho hl).1
  refine ⟨M.quiet hk2, ⟨?_, fun e => by have := (M.st.1.lt e).1; omega, fun e => by have := M.rf.blk.lt; omega, hs.weak fun i e => ?_⟩⟩
  · exact ((Blk.new wr _ _).alloc _).kept hk (by omega)
  · rcases e with e | e | e
    · have := M.rf.blk.lt; omega
    · have := M.st.base; omega
    · exact (M.st.1.lt e).1

set_option maxRecDepth 100000 in
set_option maxHeartbeats 16000000 in
theorem plays_main (w : World) (k : Nat) (A : Option Addr) (c : Nat) (l : List OpD) (hk : k ≤ 65536) (hA : ArgOps w A l) (hl : l.length ≤ 100) (hB : ∀ x ∈ l, x.b.length ≤ 140737488355328)
    (hgr : Calls Try.prog 9 #[.slice A l.length c] w fun e w' => e = .returned (.bool false) ∧ w = w') :
    Calls Try.prog 3 #[.int .i64 (k : Int), .slice A l.length c] w fun e w' => e = .returned (.bool true) ∧ Below w.heap.size w w' := by
  have HA := Lib.hid (And.intro hA hB)
  have HG := Lib.hid hgr
  clear hA hgr hB
  go_enter Try.func3, Try.ntmps3
  go_wp2_with (go_at_call 9; refine HG.out.mono ?_; rintro e wx ⟨rfl, rfl⟩)
  refine (new_yes _ k hk).mono ?_
  rintro e w1 ⟨r, F, rfl, hR, hb1, hrl⟩
  have H1 := Lib.hid (show St w w1 r F k [] 0 0 from ⟨hR, hb1⟩)
  clear hR hb1 hrl
  go_wp2_with fail
  refine (rnew_yes _ k hk).mono ?_
  rintro e w2 ⟨rfl, hb2⟩
  have H2 := Lib.hid (py_new (show St w w2 r F k [] 0 0 from ⟨H1.out.1.below hb2, H1.out.2.trans (hb2.mono H1.out.base)⟩))
  obtain ⟨rb, er⟩ : ∃ rb, rb = w2.heap.size := ⟨_, rfl⟩
  have ER := Lib.hid er
  rw [← er] at H2
  clear hb2 er
  go_wp2_with fail
  rw [← ER.out]
  go_loopw [9] (fun i wr => ∃ j : Nat, j ≤ l.length ∧ i = .int .i64 (j : Int) ∧ PyAt w r rb j wr) (fun i _ => l.length - (intOf i).toNat)
  case atStart => exact ⟨0, by omega, rfl, H2.out⟩
  case round =>
    obtain ⟨j, hj, rfl, F0, cap, bs, inn, out, A0, c0, M0, hij⟩ := hrel
    by_cases hlt : j < l.length
    · obtain ⟨b, off, x, rfl, hbl, hz, hok, hs, hcap, x0, x1, x2, hxc⟩ := HA.out.1.at_ M0.st.2 hlt
      have hlb := HA.out.2 x (List.mem_of_getElem? hz)
      obtain ⟨kd, n, xv, xb⟩ := x
      dsimp only at hok hs hcap x0 x1 x2 hlb
      obtain ⟨As, cs, hv, _⟩ := id hs
      obtain ⟨As', n', cs', hv', hA0, hsp⟩ := hcap
      have hv2 := hv
      rw [hv'] at hv2
      cases hv2
      have b0 : (0 : Int) ≤ (j : Int) := by omega
      have b3 : (j : Int) < (l.length : Int) := by omega
      have HS := Lib.hid (And.intro hok (And.intro (hv ▸ hs) (And.intro hlb (And.intro hA0 (And.intro hsp hv)))))
      have HM := Lib.hid (And.intro M0 hij)
      rw [hv] at x2
      have HX := Lib.hid (show Src ((wr.alloc (.cells #[.int .i64 kd, .int .i64 n, .slice As xb.length cs] 35)).alloc (.cells #[] 5)) (fun _ => False) (.slice As xb.length cs) xb ∧
          ((wr.alloc (.cells #[.int .i64 kd, .int .i64 n, .slice As xb.length cs] 35)).alloc (.cells #[] 5)).ownsRow wr.heap.size 5 1 (.slice (some ⟨wr.heap.size + 1, 0, none⟩) 0 0) ([] : List Int).length (encB []) from by
        refine ⟨(HS.out.2.1).at_ ((M0.st.2.alloc M0.st.base _).alloc (by have := M0.st.base; simp; omega) _) (fun _ e => e.elim), ?_⟩
        have := World.ownsRow_lit (base := wr.heap.size) (e := 5) (size := 1) (wr.alloc (.cells #[.int .i64 kd, .int .i64 n, .slice As xb.length cs] 35)) #[] 0 (by simp) (by unfold maxLen; omega) (by simp)
        simpa [encB] using this)
      clear hz hok hs hv hv' hA0 hsp hlb M0 hij hxc
      go_upto_block 2 with (at_builtin; refine app_src rfl _ _ rfl wr.heap.size _ [] xb rfl HX.out.2 As cs (fun _ => False) rfl HX.out.1 HS.out.2.2.2.1 (by have := HS.out.2.2.1; simp; omega) (by simp; omega) ?_; intro own w3 hown hgrow; rw [List.nil_append] at hown; obtain ⟨Ao, co, ho, _⟩ := own_form hown; obtain ⟨M3, X3⟩ := xo_new (xv := .slice As xb.length cs) (kd := kd) (n := n) HM.out.1 (by have := HS.out.2.2.1; omega) hown hgrow; rw [ho] at X3; have H3 := Lib.hid (Pq.mk M3 X3 HS.out.2.1); obtain ⟨y0, y1, y2, yl⟩ := X3.cells; subst ho; clear M3 X3 hown hgrow x0 x1 x2)
      obtain ⟨xk, exk⟩ : ∃ xk, xk = wr.heap.size := ⟨_, rfl⟩
      rw [← exk] at H3 y0 y1 y2 yl ⊢
      clear y1 y2 exk
      go_cut [12] (fun s12 wx => s12 = .bool true ∧ PyMid w wx r rb xk (j + 1) kd n (.slice As xb.length cs) (.slice Ao xb.length co) xb)
      case first =>
        have f := H3.out.m.st.1.facts
        have hij := HM.out.2
        have hN := HS.out.1.2
        have hzl : xb.length ≤ 9223372036854775807 := by have := HS.out.2.2.1; omega
        have F3 := Lib.hid (And.intro f (And.intro hij (And.intro hN (And.intro hzl hlt))))
        clear f hij hN hzl y0 yl
        by_cases k0 : kd = 0
        · as_aux_lemma =>
          subst k0
          obtain ⟨m, hm⟩ : ∃ m, min xb.length (cap - bs.length) = m := ⟨_, rfl⟩
          have hin : inn + min xb.length (cap - bs.length) ≤ 1000000000 := by obtain ⟨⟨f1, f2, f3, f4, _⟩, f6, f7, f8, f9⟩ := F3.out; omega
          have hi2 : inn + m ≤ 65536 * (j + 1) := by obtain ⟨⟨f1, f2, f3, f4, _⟩, f6, f7, f8, f9⟩ := F3.out; omega
          have HP := Lib.hid H3.out.drew
          have HC := Lib.hid HP.out.cells.2.1
          have HI := Lib.hid (And.intro hin (And.intro hm hi2))
          clear hin hm hi2
          go_wp2_with fail
          go_region_held3 (fun W => W.cell? ⟨xk, 2, none⟩ = some (.slice As xb.length cs))
            (exact HC.out)
            (first
              | (go_at_call 12; refine (pq_put HP.out HI.out.1 HI.out.2.1).mono ?_; rintro e w' ⟨rfl, F', P'⟩; have HP := Lib.hid P'; have HC := Lib.hid P'.cells.2.1; clear P')
              | (go_at_call 13; refine (pq_rput HP.out F3.out.1.1 F3.out.1.2.1 HI.out.1 F3.out.2.2.2.1 HI.out.2.1).mono ?_; rintro e w' ⟨rfl, A', c', P'⟩; have HP := Lib.hid P'; have HC := Lib.hid P'.cells.2.1; clear P'))
          go_wp2_with fail
          go_meet
          case rel => exact ⟨by simp, _, _, _, _, _, _, _, HP.out, HI.out.2.2⟩
        have n0 : (kd == 0) = false := by simpa using k0
        clear k0
        by_cases k1 : kd = 1
        · as_aux_lemma =>
          subst k1
          have hbl2 : bs.length ≤ 65536 := by obtain ⟨⟨f1, f2, f3, f4, _⟩, f6, f7, f8, f9⟩ := F3.out; omega
          have ho : out + bs.length ≤ 1000000000 := by obtain ⟨⟨f1, f2, f3, f4, _⟩, f6, f7, f8, f9⟩ := F3.out; omega
          have hi2 : inn ≤ 65536 * (j + 1) := by obtain ⟨⟨f1, f2, f3, f4, _⟩, f6, f7, f8, f9⟩ := F3.out; omega
          obtain ⟨xs, hxs⟩ : ∃ xs, bs.take n.toNat = xs := ⟨_, rfl⟩
          obtain ⟨T, hT⟩ : ∃ T, strOfNums xs = T := ⟨_, rfl⟩
          have HP := Lib.hid H3.out.drew
          have y1 := HP.out.cells.1
          have HI := Lib.hid (And.intro hbl2 (And.intro ho (And.intro hi2 (And.intro hxs hT))))
          clear hbl2 ho hi2 hxs hT
          go_wp2_with fail
          go_region_with (first
              | (go_at_call 14; refine (pq_take HP.out n F3.out.2.2.1 HI.out.2.2.2.1 rfl rfl HI.out.1).mono ?_; rintro e w' ⟨v1, rfl, s1, P'⟩; have HP := Lib.hid P'; have y1 := P'.cells.1; have hv1 := conv_at s1; rw [HI.out.2.2.2.2] at hv1; have S1 := Lib.hid s1; clear P' s1)
              | (go_at_call 15; refine (pq_rtake HP.out HI.out.1 HI.out.2.1 n F3.out.2.2.1 HI.out.2.2.2.1 rfl rfl).mono ?_; rintro e w' ⟨B2, g2, A', c', rfl, s2, k2, P'⟩; have HP := Lib.hid P'; have y1 := P'.cells.1; have hv2 := conv_at s2; rw [HI.out.2.2.2.2] at hv2; have hv1 := conv_at (S1.out.keep k2 (fun i e => .inl (.inl e))); rw [HI.out.2.2.2.2] at hv1; clear P' s2 k2))
          all_goals
            go_wp2_with fail
            go_meet
            case rel => exact ⟨by simp, _, _, _, _, _, _, _, HP.out, HI.out.2.2.1⟩
        have n1 : (kd == 1) = false := by simpa using k1
        clear k1
        by_cases k2 : kd = 2
        · as_aux_lemma =>
          subst k2
          have hbl2 : bs.length ≤ 65536 := by obtain ⟨⟨f1, f2, f3, f4, _⟩, f6, f7, f8, f9⟩ := F3.out; omega
          have hi2 : inn ≤ 65536 * (j + 1) := by obtain ⟨⟨f1, f2, f3, f4, _⟩, f6, f7, f8, f9⟩ := F3.out; omega
          obtain ⟨xs, hxs⟩ : ∃ xs, bs.take n.toNat = xs := ⟨_, rfl⟩
          obtain ⟨T, hT⟩ : ∃ T, strOfNums xs = T := ⟨_, rfl⟩
          have HP := Lib.hid H3.out.drew
          have y1 := HP.out.cells.1
          have HI := Lib.hid (And.intro hbl2 (And.intro hi2 (And.intro hi2 (And.intro hxs hT))))
          clear hbl2 hi2 hxs hT
          go_wp2_with fail
          go_region_with (first
              | (go_at_call 16; refine (pq_look HP.out n F3.out.2.2.1 HI.out.2.2.2.1 HI.out.1).mono ?_; rintro e w' ⟨v1, rfl, s1, P'⟩; have HP := Lib.hid P'; have y1 := P'.cells.1; have hv1 := conv_at s1; rw [HI.out.2.2.2.2] at hv1; have S1 := Lib.hid s1; clear P' s1)
              | (go_at_call 17; refine (pq_rlook HP.out HI.out.1 n F3.out.2.2.1 HI.out.2.2.2.1).mono ?_; rintro e w' ⟨v2, rfl, s2, k2, P'⟩; have HP := Lib.hid P'; have y1 := P'.cells.1; have hv2 := conv_at s2; rw [HI.out.2.2.2.2] at hv2; have hv1 := conv_at (S1.out.keep k2 (fun i e => e.elim)); rw [HI.out.2.2.2.2] at hv1; clear P' s2 k2))
          all_goals
            go_wp2_with fail
            go_meet
            case rel => exact ⟨by simp, _, _, _, _, _, _, _, HP.out, HI.out.2.2.1⟩
        have n2 : (kd == 2) = false := by simpa using k2
        clear k2
        by_cases k3 : kd = 3
        · as_aux_lemma =>
          subst k3
          have hbl2 : bs.length ≤ 65536 := by obtain ⟨⟨f1, f2, f3, f4, _⟩, f6, f7, f8, f9⟩ := F3.out; omega
          have hi2 : inn ≤ 65536 * (j + 1) := by obtain ⟨⟨f1, f2, f3, f4, _⟩, f6, f7, f8, f9⟩ := F3.out; omega
          have HP := Lib.hid H3.out.drew
          have HC := Lib.hid HP.out.cells.1
          by_cases hg : n < (bs.length : Int) ∨ 65536 < n
          · have HI := Lib.hid (And.intro hbl2 (And.intro hi2 hg))
            clear hbl2 hi2 hg
            go_wp2_with fail
            go_region_held3 (fun W => W.cell? ⟨xk, 1, none⟩ = some (.int .i64 n))
              (exact HC.out)
              (first
                | (go_at_call 18; refine (pq_grow_no HP.out n HI.out.2.2 F3.out.2.2.1).mono ?_; rintro e w' ⟨rfl, P'⟩; have HP := Lib.hid P'; have HC := Lib.hid P'.cells.1; clear P')
                | (go_at_call 19; refine (pq_rgrow_no HP.out HI.out.1 n HI.out.2.2).mono ?_; rintro e w' ⟨rfl, P'⟩; have HP := Lib.hid P'; have HC := Lib.hid P'.cells.1; clear P'))
            go_wp2_with fail
            go_meet
            case rel => exact ⟨by simp, _, _, _, _, _, _, _, HP.out, HI.out.2.1⟩
          · obtain ⟨m, rfl⟩ : ∃ m : Nat, n = (m : Int) := ⟨n.toNat, by omega⟩
            have hg1 : bs.length ≤ m := by omega
            have hg2 : m ≤ 65536 := by omega
            have HI := Lib.hid (And.intro hg1 (And.intro hg2 hi2))
            clear hbl2 hi2 hg hg1 hg2
            go_wp2_with fail
            go_region_held3 (fun W => W.cell? ⟨xk, 1, none⟩ = some (.int .i64 (m : Int)))
              (exact HC.out)
              (first
                | (go_at_call 18; refine (pq_grow_yes HP.out m HI.out.1 HI.out.2.1).mono ?_; rintro e w' ⟨rfl, F', P'⟩; have HP := Lib.hid P'; have HC := Lib.hid P'.cells.1; clear P')
                | (go_at_call 19; refine (pq_rgrow_yes HP.out m HI.out.1 HI.out.2.1).mono ?_; rintro e w' ⟨rfl, P'⟩; have HP := Lib.hid P'; have HC := Lib.hid P'.cells.1; clear P'))
            go_wp2_with fail
            go_meet
            case rel => exact ⟨by simp, _, _, _, _, _, _, _, HP.out, HI.out.2.2⟩
        have n3 : (kd == 3) = false := by simpa using k3
        clear k3
        by_cases k4 : kd = 4
        · as_aux_lemma =>
          subst k4
          have hbl2 : bs.length ≤ 65536 := by obtain ⟨⟨f1, f2, f3, f4, _⟩, f6, f7, f8, f9⟩ := F3.out; omega
          have ho : out + bs.length ≤ 1000000000 := by obtain ⟨⟨f1, f2, f3, f4, _⟩, f6, f7, f8, f9⟩ := F3.out; omega
          have hi2 : inn ≤ 65536 * (j + 1) := by obtain ⟨⟨f1, f2, f3, f4, _⟩, f6, f7, f8, f9⟩ := F3.out; omega
          have HP := Lib.hid H3.out.drew
          have HC := Lib.hid HP.out.cells.2.2.2.1
          have hb2 : -9223372036854775808 ≤ (bs.length : Int) ∧ (bs.length : Int) ≤ 9223372036854775807 := ⟨by omega, by omega⟩
          have hb3 : bs.take ((bs.length : Int)).toNat = bs := by simp
          have hb4 : bs.drop ((bs.length : Int)).toNat = [] := by simp
          have HI := Lib.hid (And.intro hbl2 (And.intro ho (And.intro hi2 (And.intro hb2 (And.intro hb3 hb4)))))
          clear hbl2 ho hi2 hb2 hb3 hb4
          go_wp2_with fail
          have y1 := HC.out
          go_region_with (first
              | (go_at_call 20; refine (pq_clear HP.out).mono ?_; rintro e w' ⟨rfl, P'⟩; have HP := Lib.hid P'; have y1 := P'.cells.2.2.2.1; clear P')
              | (go_at_call 15; refine (pq_rtake HP.out HI.out.1 HI.out.2.1 (bs.length : Int) HI.out.2.2.2.1 HI.out.2.2.2.2.1 HI.out.2.2.2.2.2 rfl).mono ?_; rintro e w' ⟨B2, g2, A', c', rfl, s2, k2, P'⟩; have HP := Lib.hid P'; clear P' s2 k2))
          all_goals
            go_wp2_with fail
            go_meet
            case rel => exact ⟨by simp, _, _, _, _, _, _, _, HP.out, HI.out.2.2.1⟩
        · as_aux_lemma =>
          have n4 : (kd == 4) = false := by simpa using k4
          have hi2 : inn ≤ 65536 * (j + 1) := by obtain ⟨⟨f1, f2, f3, f4, _⟩, f6, f7, f8, f9⟩ := F3.out; omega
          have HI := Lib.hid hi2
          clear k4 hi2
          go_wp2_with fail
          go_meet
          case rel => exact ⟨rfl, _, _, _, _, _, _, _, H3.out, HI.out⟩
      case rest =>
        obtain ⟨rfl, F4, cap4, bs4, in4, ou4, A4, c4, P4, hij4⟩ := hcut
        have f := P4.m.st.1.facts
        obtain ⟨T1, hT1⟩ : ∃ T, strOfNums xb = T := ⟨_, rfl⟩
        obtain ⟨T2, hT2⟩ : ∃ T, strOfNums bs4 = T := ⟨_, rfl⟩
        obtain ⟨M, hM⟩ : ∃ M, cap4 - bs4.length = M := ⟨_, rfl⟩
        obtain ⟨L, hL⟩ : ∃ L, bs4.length = L := ⟨_, rfl⟩
        have e3 : IntKind.i64.wrap ((cap4 : Int) - (L : Int)) = (M : Int) := by rw [IntWalk.i64_in _ (by omega)]; omega
        have hl : bs4.length ≤ 65536 := by omega
        have hz : -9223372036854775808 ≤ (L : Int) ∧ (L : Int) ≤ 9223372036854775807 := ⟨by omega, by omega⟩
        have hx : bs4.take ((L : Int)).toNat = bs4 := by rw [← hL]; simp
        have HT := Lib.hid (And.intro hT1 (And.intro hT2 (And.intro hM (And.intro hL (And.intro hl (And.intro hz (And.intro hx hij4)))))))
        have HP := Lib.hid P4
        clear P4 y0 yl f hT1 hT2 hM hL hl hz hx hij4
        go_wp2_with (go_at_call 21; refine (pq_counts HP.out).mono ?_; rintro e w' ⟨rfl, P'⟩; have HP := Lib.hid P'; clear P')
        have HP := Lib.hid HP.out.drew
        have HC := Lib.hid (HP.out.held HT.out.1 HT.out.2.1)
        rw [HT.out.2.2.2.1] at HC
        refine wp_region_held_drew (S := (fun W => W.cell? ⟨xk, 2, none⟩ = some (.slice As xb.length cs) ∧ W.cell? ⟨rb, 0, none⟩ = some (.int .i64 (cap4 : Int)) ∧ W.cell? ⟨rb, 1, none⟩ = some (.slice A4 L c4) ∧ W.cell? ⟨rb, 2, none⟩ = some (.int .u64 (in4 : Int)) ∧ W.cell? ⟨rb, 3, none⟩ = some (.int .u64 (ou4 : Int)) ∧
            (convert 28 9 (.slice Ao xb.length co)).run Try.prog W = .ok (.string T1) W ∧ (convert 28 9 (.slice As xb.length cs)).run Try.prog W = .ok (.string T1) W ∧ (convert 28 9 (.slice A4 L c4)).run Try.prog W = .ok (.string T2) W)) (by kernel_rfl) HC.out (fun hHeld => ?_)
        refine wpAnyH_take (i := 0) (oi := { dst := some 114, op := Op.move (Operand.tmp 12), type := 4, pos := "law.go:53", after := #[], guard := none }) (v := .bool true) rfl (by kernel_rfl) (by kernel_rfl) (by kernel_rfl) (fun _ _ _ h => h) (Or.inl ⟨by rfl, by intro w hSw; (try dsimp only at hSw); go_simp⟩) (by assumption) ?_
        try simp only [Act.put, List.setIfInBounds_toArray, List.set_cons_zero, List.set_cons_succ]
        refine wpAnyH_take (i := 1) (oi := { dst := some 115, op := Op.unOp UnOp.not 4 (Operand.tmp 114), type := 4, pos := "law.go:53", after := #[{ on := 0, ground := Ground.data }], guard := none }) (v := .bool false) rfl (by kernel_rfl) (by kernel_rfl) (by kernel_rfl) (fun _ _ _ h => h) (Or.inl ⟨by rfl, by intro w hSw; (try dsimp only at hSw); go_simp⟩) (by assumption) ?_
        try simp only [Act.put, List.setIfInBounds_toArray, List.set_cons_zero, List.set_cons_succ]
        refine wpAnyH_take (i := 2) (oi := { dst := some 116, op := Op.move (Operand.tmp 115), type := 4, pos := "law.go:53", after := #[{ on := 1, ground := Ground.data }], guard := none }) (v := .bool false) rfl (by kernel_rfl) (by kernel_rfl) (by kernel_rfl) (fun _ _ _ h => h) (Or.inl ⟨by rfl, by intro w hSw; (try dsimp only at hSw); go_simp⟩) (by assumption) ?_
        try simp only [Act.put, List.setIfInBounds_toArray, List.set_cons_zero, List.set_cons_succ]
        refine wpAnyH_take (i := 3) (oi := { dst := some 117, op := Op.move (Operand.tmp 11), type := 28, pos := "law.go:53", after := #[{ on := 2, ground := Ground.guard }], guard := some (2, false) }) (v := .slice Ao xb.length co) rfl (by kernel_rfl) (by kernel_rfl) (by kernel_rfl) (fun _ _ _ h => h) (Or.inl ⟨by rfl, by intro w hSw; (try dsimp only at hSw); go_simp⟩) (by assumption) ?_
        try simp only [Act.put, List.setIfInBounds_toArray, List.set_cons_zero, List.set_cons_succ]
        refine wpAnyH_take (i := 4) (oi := { dst := some 118, op := Op.convert 28 9 (Operand.tmp 117), type := 9, pos := "law.go:53", after := #[{ on := 3, ground := Ground.data }, { on := 2, ground := Ground.guard }], guard := some (2, false) }) (v := .string T1) rfl (by kernel_rfl) (by kernel_rfl) (by kernel_rfl) (fun _ _ _ h => h) (Or.inl ⟨by rfl, by intro w hSw; (try dsimp only at hSw); go_simp⟩) (by assumption) ?_
        try simp only [Act.put, List.setIfInBounds_toArray, List.set_cons_zero, List.set_cons_succ]
        refine wpAnyH_take (i := 5) (oi := { dst := some 119, op := Op.fieldAddr 35 (Operand.tmp 10) 2, type := 0, pos := "law.go:53", after := #[{ on := 2, ground := Ground.guard }], guard := some (2, false) }) (v := .pointer (some ⟨xk, 2, none⟩)) rfl (by kernel_rfl) (by kernel_rfl) (by kernel_rfl) (fun _ _ _ h => h) (Or.inl ⟨by rfl, by intro w hSw; (try dsimp only at hSw); go_simp⟩) (by assumption) ?_
        try simp only [Act.put, List.setIfInBounds_toArray, List.set_cons_zero, List.set_cons_succ]
        refine wpAnyH_take (i := 6) (oi := { dst := some 120, op := Op.load 28 (Operand.tmp 119), type := 28, pos := "law.go:53", after := #[{ on := 5, ground := Ground.data }, { on := 2, ground := Ground.guard }], guard := some (2, false) }) (v := .slice As xb.length cs) rfl (by kernel_rfl) (by kernel_rfl) (by kernel_rfl) (fun _ _ _ h => h) (Or.inl ⟨by rfl, by intro w hSw; (try dsimp only at hSw); go_simp⟩) (by assumption) ?_
        try simp only [Act.put, List.setIfInBounds_toArray, List.set_cons_zero, List.set_cons_succ]
        refine wpAnyH_take (i := 7) (oi := { dst := some 121, op := Op.convert 28 9 (Operand.tmp 120), type := 9, pos := "law.go:53", after := #[{ on := 6, ground := Ground.data }, { on := 2, ground := Ground.guard }], guard := some (2, false) }) (v := .string T1) rfl (by kernel_rfl) (by kernel_rfl) (by kernel_rfl) (fun _ _ _ h => h) (Or.inl ⟨by rfl, by intro w hSw; (try dsimp only at hSw); go_simp⟩) (by assumption) ?_
        try simp only [Act.put, List.setIfInBounds_toArray, List.set_cons_zero, List.set_cons_succ]
        refine wpAnyH_take (i := 8) (oi := { dst := some 122, op := Op.binOp BinOp.neq 9 (Operand.tmp 118) (Operand.tmp 121) 9, type := 4, pos := "law.go:53", after := #[{ on := 4, ground := Ground.data }, { on := 7, ground := Ground.data }, { on := 2, ground := Ground.guard }], guard := some (2, false) }) (v := .bool false) rfl (by kernel_rfl) (by kernel_rfl) (by kernel_rfl) (fun _ _ _ h => h) (Or.inl ⟨by rfl, by intro w hSw; (try dsimp only at hSw); go_simp⟩) (by assumption) ?_
        try simp only [Act.put, List.setIfInBounds_toArray, List.set_cons_zero, List.set_cons_succ]
        refine wpAnyH_take (i := 9) (oi := { dst := some 123, op := Op.pick (Operand.tmp 116) (Operand.const (Value.bool true)) (Operand.tmp 122), type := 4, pos := "law.go:53", after := #[{ on := 2, ground := Ground.data }, { on := 8, ground := Ground.data }], guard := none }) (v := .bool false) rfl (by kernel_rfl) (by kernel_rfl) (by kernel_rfl) (fun _ _ _ h => h) (Or.inl ⟨by rfl, by intro w hSw; (try dsimp only at hSw); go_simp⟩) (by assumption) ?_
        try simp only [Act.put, List.setIfInBounds_toArray, List.set_cons_zero, List.set_cons_succ]
        refine wpAnyH_take (i := 10) (oi := { dst := some 124, op := Op.move (Operand.tmp 123), type := 4, pos := "law.go:53", after := #[{ on := 9, ground := Ground.data }, { on := 2, ground := Ground.chain }], guard := none }) (v := .bool false) rfl (by kernel_rfl) (by kernel_rfl) (by kernel_rfl) (fun _ _ _ h => h) (Or.inl ⟨by rfl, by intro w hSw; (try dsimp only at hSw); go_simp⟩) (by assumption) ?_
        try simp only [Act.put, List.setIfInBounds_toArray, List.set_cons_zero, List.set_cons_succ]
        refine wpAnyH_take (i := 11) (oi := { dst := some 125, op := Op.move (Operand.tmp 5), type := 24, pos := "law.go:53", after := #[{ on := 10, ground := Ground.guard }], guard := some (10, false) }) (v := .pointer (some ⟨r, 0, none⟩)) rfl (by kernel_rfl) (by kernel_rfl) (by kernel_rfl) (fun _ _ _ h => h) (Or.inl ⟨by rfl, by intro w hSw; (try dsimp only at hSw); go_simp⟩) (by assumption) ?_
        try simp only [Act.put, List.setIfInBounds_toArray, List.set_cons_zero, List.set_cons_succ]
        refine wpAnyH_take (i := 13) (oi := { dst := some 127, op := Op.fieldAddr 31 (Operand.tmp 7) 1, type := 0, pos := "law.go:53", after := #[{ on := 10, ground := Ground.guard }], guard := some (10, false) }) (v := .pointer (some ⟨rb, 1, none⟩)) rfl (by kernel_rfl) (by kernel_rfl) (by kernel_rfl) (fun _ _ _ h => h) (Or.inl ⟨by rfl, by intro w hSw; (try dsimp only at hSw); go_simp⟩) (by assumption) ?_
        try simp only [Act.put, List.setIfInBounds_toArray, List.set_cons_zero, List.set_cons_succ]
        refine wpAnyH_take (i := 14) (oi := { dst := some 128, op := Op.load 28 (Operand.tmp 127), type := 28, pos := "law.go:53", after := #[{ on := 13, ground := Ground.data }, { on := 10, ground := Ground.guard }], guard := some (10, false) }) (v := .slice A4 L c4) rfl (by kernel_rfl) (by kernel_rfl) (by kernel_rfl) (fun _ _ _ h => h) (Or.inl ⟨by rfl, by intro w hSw; (try dsimp only at hSw); go_simp⟩) (by assumption) ?_
        try simp only [Act.put, List.setIfInBounds_toArray, List.set_cons_zero, List.set_cons_succ]
        refine wpAnyH_take (i := 15) (oi := { dst := some 129, op := Op.call { callee := Callee.builtin Builtin.len, args := #[Operand.tmp 128], argTypes := #[28] }, type := 3, pos := "law.go:53", after := #[{ on := 14, ground := Ground.data }, { on := 10, ground := Ground.guard }], guard := some (10, false) }) (v := .int .i64 (L : Int)) rfl (by kernel_rfl) (by kernel_rfl) (by kernel_rfl) (fun _ _ _ h => h) (Or.inl ⟨by rfl, by intro w hSw; (try dsimp only at hSw); go_simp⟩) (by assumption) ?_
        try simp only [Act.put, List.setIfInBounds_toArray, List.set_cons_zero, List.set_cons_succ]
        refine wpAnyH_ready (rs := [12]) (by kernel_rfl) (by simp) ?_
        refine AllReadyH.cons (o := { dst := some 126, op := Op.call { callee := Callee.value (Operand.func 22), args := #[Operand.tmp 125], argTypes := #[24] }, type := 3, pos := "law.go:53", after := #[{ on := 11, ground := Ground.data }, { on := 10, ground := Ground.chain }, { on := 10, ground := Ground.guard }], guard := some (10, false) }) rfl (fun K hK => ?_) AllReadyH.nil
        go_simp
        refine (pq_len HP.out).mono ?_
        rintro e w' ⟨rfl, P'⟩
        have HP := Lib.hid P'
        have HC := Lib.hid (P'.held HT.out.1 HT.out.2.1)
        rw [HT.out.2.2.2.1] at HC
        rw [HT.out.2.2.2.1]
        clear P'
        first | refine hK.out _ _ HC.out (fun hHeld2 => ?_) | (go_wp2_with fail; refine hK.out _ _ HC.out (fun hHeld2 => ?_))
        clear hK K hHeld
        have hHeld := hHeld2
        clear hHeld2
        try simp only [Act.put, List.setIfInBounds_toArray, List.set_cons_zero, List.set_cons_succ]
        refine wpAnyH_take (i := 16) (oi := { dst := some 130, op := Op.binOp BinOp.neq 3 (Operand.tmp 126) (Operand.tmp 129) 3, type := 4, pos := "law.go:53", after := #[{ on := 12, ground := Ground.data }, { on := 15, ground := Ground.data }, { on := 10, ground := Ground.guard }], guard := some (10, false) }) (v := .bool false) rfl (by kernel_rfl) (by kernel_rfl) (by kernel_rfl) (fun _ _ _ h => h) (Or.inl ⟨by rfl, by intro w hSw; (try dsimp only at hSw); go_simp⟩) (by assumption) ?_
        try simp only [Act.put, List.setIfInBounds_toArray, List.set_cons_zero, List.set_cons_succ]
        refine wpAnyH_take (i := 17) (oi := { dst := some 131, op := Op.pick (Operand.tmp 124) (Operand.const (Value.bool true)) (Operand.tmp 130), type := 4, pos := "law.go:53", after := #[{ on := 10, ground := Ground.data }, { on := 16, ground := Ground.data }], guard := none }) (v := .bool false) rfl (by kernel_rfl) (by kernel_rfl) (by kernel_rfl) (fun _ _ _ h => h) (Or.inl ⟨by rfl, by intro w hSw; (try dsimp only at hSw); go_simp⟩) (by assumption) ?_
        try simp only [Act.put, List.setIfInBounds_toArray, List.set_cons_zero, List.set_cons_succ]
        refine wpAnyH_take (i := 18) (oi := { dst := some 132, op := Op.move (Operand.tmp 131), type := 4, pos := "law.go:53", after := #[{ on := 17, ground := Ground.data }, { on := 12, ground := Ground.chain }], guard := none }) (v := .bool false) rfl (by kernel_rfl) (by kernel_rfl) (by kernel_rfl) (fun _ _ _ h => h) (Or.inl ⟨by rfl, by intro w hSw; (try dsimp only at hSw); go_simp⟩) (by assumption) ?_
        try simp only [Act.put, List.setIfInBounds_toArray, List.set_cons_zero, List.set_cons_succ]
        refine wpAnyH_take (i := 19) (oi := { dst := some 133, op := Op.move (Operand.tmp 5), type := 24, pos := "law.go:53", after := #[{ on := 18, ground := Ground.guard }], guard := some (18, false) }) (v := .pointer (some ⟨r, 0, none⟩)) rfl (by kernel_rfl) (by kernel_rfl) (by kernel_rfl) (fun _ _ _ h => h) (Or.inl ⟨by rfl, by intro w hSw; (try dsimp only at hSw); go_simp⟩) (by assumption) ?_
        try simp only [Act.put, List.setIfInBounds_toArray, List.set_cons_zero, List.set_cons_succ]
        refine wpAnyH_take (i := 21) (oi := { dst := some 135, op := Op.fieldAddr 31 (Operand.tmp 7) 0, type := 0, pos := "law.go:53", after := #[{ on := 18, ground := Ground.guard }], guard := some (18, false) }) (v := .pointer (some ⟨rb, 0, none⟩)) rfl (by kernel_rfl) (by kernel_rfl) (by kernel_rfl) (fun _ _ _ h => h) (Or.inl ⟨by rfl, by intro w hSw; (try dsimp only at hSw); go_simp⟩) (by assumption) ?_
        try simp only [Act.put, List.setIfInBounds_toArray, List.set_cons_zero, List.set_cons_succ]
        refine wpAnyH_take (i := 22) (oi := { dst := some 136, op := Op.load 3 (Operand.tmp 135), type := 3, pos := "law.go:53", after := #[{ on := 21, ground := Ground.data }, { on := 18, ground := Ground.guard }], guard := some (18, false) }) (v := .int .i64 (cap4 : Int)) rfl (by kernel_rfl) (by kernel_rfl) (by kernel_rfl) (fun _ _ _ h => h) (Or.inl ⟨by rfl, by intro w hSw; (try dsimp only at hSw); go_simp⟩) (by assumption) ?_
        try simp only [Act.put, List.setIfInBounds_toArray, List.set_cons_zero, List.set_cons_succ]
        refine wpAnyH_take (i := 23) (oi := { dst := some 137, op := Op.fieldAddr 31 (Operand.tmp 7) 1, type := 0, pos := "law.go:53", after := #[{ on := 18, ground := Ground.guard }], guard := some (18, false) }) (v := .pointer (some ⟨rb, 1, none⟩)) rfl (by kernel_rfl) (by kernel_rfl) (by kernel_rfl) (fun _ _ _ h => h) (Or.inl ⟨by rfl, by intro w hSw; (try dsimp only at hSw); go_simp⟩) (by assumption) ?_
        try simp only [Act.put, List.setIfInBounds_toArray, List.set_cons_zero, List.set_cons_succ]
        refine wpAnyH_take (i := 24) (oi := { dst := some 138, op := Op.load 28 (Operand.tmp 137), type := 28, pos := "law.go:53", after := #[{ on := 23, ground := Ground.data }, { on := 18, ground := Ground.guard }], guard := some (18, false) }) (v := .slice A4 L c4) rfl (by kernel_rfl) (by kernel_rfl) (by kernel_rfl) (fun _ _ _ h => h) (Or.inl ⟨by rfl, by intro w hSw; (try dsimp only at hSw); go_simp⟩) (by assumption) ?_
        try simp only [Act.put, List.setIfInBounds_toArray, List.set_cons_zero, List.set_cons_succ]
        refine wpAnyH_take (i := 25) (oi := { dst := some 139, op := Op.call { callee := Callee.builtin Builtin.len, args := #[Operand.tmp 138], argTypes := #[28] }, type := 3, pos := "law.go:53", after := #[{ on := 24, ground := Ground.data }, { on := 18, ground := Ground.guard }], guard := some (18, false) }) (v := .int .i64 (L : Int)) rfl (by kernel_rfl) (by kernel_rfl) (by kernel_rfl) (fun _ _ _ h => h) (Or.inl ⟨by rfl, by intro w hSw; (try dsimp only at hSw); go_simp⟩) (by assumption) ?_
        try simp only [Act.put, List.setIfInBounds_toArray, List.set_cons_zero, List.set_cons_succ]
        refine wpAnyH_take (i := 26) (oi := { dst := some 140, op := Op.binOp BinOp.sub 3 (Operand.tmp 136) (Operand.tmp 139) 3, type := 3, pos := "law.go:53", after := #[{ on := 22, ground := Ground.data }, { on := 25, ground := Ground.data }, { on := 18, ground := Ground.guard }], guard := some (18, false) }) (v := .int .i64 (M : Int)) rfl (by kernel_rfl) (by kernel_rfl) (by kernel_rfl) (fun _ _ _ h => h) (Or.inl ⟨by rfl, by intro w hSw; (try dsimp only at hSw); go_simp⟩) (by assumption) ?_
        try simp only [Act.put, List.setIfInBounds_toArray, List.set_cons_zero, List.set_cons_succ]
        refine wpAnyH_ready (rs := [20]) (by kernel_rfl) (by simp) ?_
        refine AllReadyH.cons (o := { dst := some 134, op := Op.call { callee := Callee.value (Operand.func 23), args := #[Operand.tmp 133], argTypes := #[24] }, type := 3, pos := "law.go:53", after := #[{ on := 19, ground := Ground.data }, { on := 18, ground := Ground.chain }, { on := 18, ground := Ground.guard }], guard := some (18, false) }) rfl (fun K hK => ?_) AllReadyH.nil
        go_simp
        refine (pq_room HP.out).mono ?_
        rintro e w' ⟨rfl, P'⟩
        have HP := Lib.hid P'
        have HC := Lib.hid (P'.held HT.out.1 HT.out.2.1)
        rw [HT.out.2.2.2.1] at HC
        rw [HT.out.2.2.1]
        clear P'
        first | refine hK.out _ _ HC.out (fun hHeld2 => ?_) | (go_wp2_with fail; refine hK.out _ _ HC.out (fun hHeld2 => ?_))
        clear hK K hHeld
        have hHeld := hHeld2
        clear hHeld2
        try simp only [Act.put, List.setIfInBounds_toArray, List.set_cons_zero, List.set_cons_succ]
        refine wpAnyH_take (i := 27) (oi := { dst := some 141, op := Op.binOp BinOp.neq 3 (Operand.tmp 134) (Operand.tmp 140) 3, type := 4, pos := "law.go:53", after := #[{ on := 20, ground := Ground.data }, { on := 26, ground := Ground.data }, { on := 18, ground := Ground.guard }], guard := some (18, false) }) (v := .bool false) rfl (by kernel_rfl) (by kernel_rfl) (by kernel_rfl) (fun _ _ _ h => h) (Or.inl ⟨by rfl, by intro w hSw; (try dsimp only at hSw); go_simp⟩) (by assumption) ?_
        try simp only [Act.put, List.setIfInBounds_toArray, List.set_cons_zero, List.set_cons_succ]
        refine wpAnyH_take (i := 28) (oi := { dst := some 142, op := Op.pick (Operand.tmp 132) (Operand.const (Value.bool true)) (Operand.tmp 141), type := 4, pos := "law.go:53", after := #[{ on := 18, ground := Ground.data }, { on := 27, ground := Ground.data }], guard := none }) (v := .bool false) rfl (by kernel_rfl) (by kernel_rfl) (by kernel_rfl) (fun _ _ _ h => h) (Or.inl ⟨by rfl, by intro w hSw; (try dsimp only at hSw); go_simp⟩) (by assumption) ?_
        try simp only [Act.put, List.setIfInBounds_toArray, List.set_cons_zero, List.set_cons_succ]
        refine wpAnyH_take (i := 29) (oi := { dst := some 143, op := Op.move (Operand.tmp 142), type := 4, pos := "law.go:53", after := #[{ on := 28, ground := Ground.data }, { on := 20, ground := Ground.chain }], guard := none }) (v := .bool false) rfl (by kernel_rfl) (by kernel_rfl) (by kernel_rfl) (fun _ _ _ h => h) (Or.inl ⟨by rfl, by intro w hSw; (try dsimp only at hSw); go_simp⟩) (by assumption) ?_
        try simp only [Act.put, List.setIfInBounds_toArray, List.set_cons_zero, List.set_cons_succ]
        refine wpAnyH_take (i := 30) (oi := { dst := some 144, op := Op.move (Operand.tmp 13), type := 29, pos := "law.go:53", after := #[{ on := 29, ground := Ground.guard }], guard := some (29, false) }) (v := .int .u64 (in4 : Int)) rfl (by kernel_rfl) (by kernel_rfl) (by kernel_rfl) (fun _ _ _ h => h) (Or.inl ⟨by rfl, by intro w hSw; (try dsimp only at hSw); go_simp⟩) (by assumption) ?_
        try simp only [Act.put, List.setIfInBounds_toArray, List.set_cons_zero, List.set_cons_succ]
        refine wpAnyH_take (i := 31) (oi := { dst := some 145, op := Op.fieldAddr 31 (Operand.tmp 7) 2, type := 0, pos := "law.go:53", after := #[{ on := 29, ground := Ground.guard }], guard := some (29, false) }) (v := .pointer (some ⟨rb, 2, none⟩)) rfl (by kernel_rfl) (by kernel_rfl) (by kernel_rfl) (fun _ _ _ h => h) (Or.inl ⟨by rfl, by intro w hSw; (try dsimp only at hSw); go_simp⟩) (by assumption) ?_
        try simp only [Act.put, List.setIfInBounds_toArray, List.set_cons_zero, List.set_cons_succ]
        refine wpAnyH_take (i := 32) (oi := { dst := some 146, op := Op.load 29 (Operand.tmp 145), type := 29, pos := "law.go:53", after := #[{ on := 31, ground := Ground.data }, { on := 29, ground := Ground.guard }], guard := some (29, false) }) (v := .int .u64 (in4 : Int)) rfl (by kernel_rfl) (by kernel_rfl) (by kernel_rfl) (fun _ _ _ h => h) (Or.inl ⟨by rfl, by intro w hSw; (try dsimp only at hSw); go_simp⟩) (by assumption) ?_
        try simp only [Act.put, List.setIfInBounds_toArray, List.set_cons_zero, List.set_cons_succ]
        refine wpAnyH_take (i := 33) (oi := { dst := some 147, op := Op.binOp BinOp.neq 29 (Operand.tmp 144) (Operand.tmp 146) 29, type := 4, pos := "law.go:53", after := #[{ on := 30, ground := Ground.data }, { on := 32, ground := Ground.data }, { on := 29, ground := Ground.guard }], guard := some (29, false) }) (v := .bool false) rfl (by kernel_rfl) (by kernel_rfl) (by kernel_rfl) (fun _ _ _ h => h) (Or.inl ⟨by rfl, by intro w hSw; (try dsimp only at hSw); go_simp⟩) (by assumption) ?_
        try simp only [Act.put, List.setIfInBounds_toArray, List.set_cons_zero, List.set_cons_succ]
        refine wpAnyH_take (i := 34) (oi := { dst := some 148, op := Op.pick (Operand.tmp 143) (Operand.const (Value.bool true)) (Operand.tmp 147), type := 4, pos := "law.go:53", after := #[{ on := 29, ground := Ground.data }, { on := 33, ground := Ground.data }], guard := none }) (v := .bool false) rfl (by kernel_rfl) (by kernel_rfl) (by kernel_rfl) (fun _ _ _ h => h) (Or.inl ⟨by rfl, by intro w hSw; (try dsimp only at hSw); go_simp⟩) (by assumption) ?_
        try simp only [Act.put, List.setIfInBounds_toArray, List.set_cons_zero, List.set_cons_succ]
        refine wpAnyH_take (i := 35) (oi := { dst := some 149, op := Op.move (Operand.tmp 148), type := 4, pos := "law.go:53", after := #[{ on := 34, ground := Ground.data }, { on := 29, ground := Ground.chain }], guard := none }) (v := .bool false) rfl (by kernel_rfl) (by kernel_rfl) (by kernel_rfl) (fun _ _ _ h => h) (Or.inl ⟨by rfl, by intro w hSw; (try dsimp only at hSw); go_simp⟩) (by assumption) ?_
        try simp only [Act.put, List.setIfInBounds_toArray, List.set_cons_zero, List.set_cons_succ]
        refine wpAnyH_take (i := 36) (oi := { dst := some 150, op := Op.move (Operand.tmp 14), type := 29, pos := "law.go:53", after := #[{ on := 35, ground := Ground.guard }], guard := some (35, false) }) (v := .int .u64 (ou4 : Int)) rfl (by kernel_rfl) (by kernel_rfl) (by kernel_rfl) (fun _ _ _ h => h) (Or.inl ⟨by rfl, by intro w hSw; (try dsimp only at hSw); go_simp⟩) (by assumption) ?_
        try simp only [Act.put, List.setIfInBounds_toArray, List.set_cons_zero, List.set_cons_succ]
        refine wpAnyH_take (i := 37) (oi := { dst := some 151, op := Op.fieldAddr 31 (Operand.tmp 7) 3, type := 0, pos := "law.go:53", after := #[{ on := 35, ground := Ground.guard }], guard := some (35, false) }) (v := .pointer (some ⟨rb, 3, none⟩)) rfl (by kernel_rfl) (by kernel_rfl) (by kernel_rfl) (fun _ _ _ h => h) (Or.inl ⟨by rfl, by intro w hSw; (try dsimp only at hSw); go_simp⟩) (by assumption) ?_
        try simp only [Act.put, List.setIfInBounds_toArray, List.set_cons_zero, List.set_cons_succ]
        refine wpAnyH_take (i := 38) (oi := { dst := some 152, op := Op.load 29 (Operand.tmp 151), type := 29, pos := "law.go:53", after := #[{ on := 37, ground := Ground.data }, { on := 35, ground := Ground.guard }], guard := some (35, false) }) (v := .int .u64 (ou4 : Int)) rfl (by kernel_rfl) (by kernel_rfl) (by kernel_rfl) (fun _ _ _ h => h) (Or.inl ⟨by rfl, by intro w hSw; (try dsimp only at hSw); go_simp⟩) (by assumption) ?_
        try simp only [Act.put, List.setIfInBounds_toArray, List.set_cons_zero, List.set_cons_succ]
        refine wpAnyH_take (i := 39) (oi := { dst := some 153, op := Op.binOp BinOp.neq 29 (Operand.tmp 150) (Operand.tmp 152) 29, type := 4, pos := "law.go:53", after := #[{ on := 36, ground := Ground.data }, { on := 38, ground := Ground.data }, { on := 35, ground := Ground.guard }], guard := some (35, false) }) (v := .bool false) rfl (by kernel_rfl) (by kernel_rfl) (by kernel_rfl) (fun _ _ _ h => h) (Or.inl ⟨by rfl, by intro w hSw; (try dsimp only at hSw); go_simp⟩) (by assumption) ?_
        try simp only [Act.put, List.setIfInBounds_toArray, List.set_cons_zero, List.set_cons_succ]
        refine wpAnyH_take (i := 40) (oi := { dst := some 154, op := Op.pick (Operand.tmp 149) (Operand.const (Value.bool true)) (Operand.tmp 153), type := 4, pos := "law.go:53", after := #[{ on := 35, ground := Ground.data }, { on := 39, ground := Ground.data }], guard := none }) (v := .bool false) rfl (by kernel_rfl) (by kernel_rfl) (by kernel_rfl) (fun _ _ _ h => h) (Or.inl ⟨by rfl, by intro w hSw; (try dsimp only at hSw); go_simp⟩) (by assumption) ?_
        try simp only [Act.put, List.setIfInBounds_toArray, List.set_cons_zero, List.set_cons_succ]
        refine wpAnyH_take (i := 41) (oi := { dst := some 155, op := Op.move (Operand.tmp 154), type := 4, pos := "law.go:53", after := #[{ on := 40, ground := Ground.data }, { on := 35, ground := Ground.chain }], guard := none }) (v := .bool false) rfl (by kernel_rfl) (by kernel_rfl) (by kernel_rfl) (fun _ _ _ h => h) (Or.inl ⟨by rfl, by intro w hSw; (try dsimp only at hSw); go_simp⟩) (by assumption) ?_
        try simp only [Act.put, List.setIfInBounds_toArray, List.set_cons_zero, List.set_cons_succ]
        refine wpAnyH_take (i := 42) (oi := { dst := some 156, op := Op.move (Operand.tmp 5), type := 24, pos := "law.go:53", after := #[{ on := 41, ground := Ground.guard }], guard := some (41, false) }) (v := .pointer (some ⟨r, 0, none⟩)) rfl (by kernel_rfl) (by kernel_rfl) (by kernel_rfl) (fun _ _ _ h => h) (Or.inl ⟨by rfl, by intro w hSw; (try dsimp only at hSw); go_simp⟩) (by assumption) ?_
        try simp only [Act.put, List.setIfInBounds_toArray, List.set_cons_zero, List.set_cons_succ]
        refine wpAnyH_take (i := 43) (oi := { dst := some 157, op := Op.move (Operand.tmp 5), type := 24, pos := "law.go:53", after := #[{ on := 41, ground := Ground.guard }], guard := some (41, false) }) (v := .pointer (some ⟨r, 0, none⟩)) rfl (by kernel_rfl) (by kernel_rfl) (by kernel_rfl) (fun _ _ _ h => h) (Or.inl ⟨by rfl, by intro w hSw; (try dsimp only at hSw); go_simp⟩) (by assumption) ?_
        try simp only [Act.put, List.setIfInBounds_toArray, List.set_cons_zero, List.set_cons_succ]
        refine wpAnyH_take (i := 47) (oi := { dst := some 161, op := Op.fieldAddr 31 (Operand.tmp 7) 1, type := 0, pos := "law.go:53", after := #[{ on := 41, ground := Ground.guard }], guard := some (41, false) }) (v := .pointer (some ⟨rb, 1, none⟩)) rfl (by kernel_rfl) (by kernel_rfl) (by kernel_rfl) (fun _ _ _ h => h) (Or.inl ⟨by rfl, by intro w hSw; (try dsimp only at hSw); go_simp⟩) (by assumption) ?_
        try simp only [Act.put, List.setIfInBounds_toArray, List.set_cons_zero, List.set_cons_succ]
        refine wpAnyH_take (i := 48) (oi := { dst := some 162, op := Op.load 28 (Operand.tmp 161), type := 28, pos := "law.go:53", after := #[{ on := 47, ground := Ground.data }, { on := 41, ground := Ground.guard }], guard := some (41, false) }) (v := .slice A4 L c4) rfl (by kernel_rfl) (by kernel_rfl) (by kernel_rfl) (fun _ _ _ h => h) (Or.inl ⟨by rfl, by intro w hSw; (try dsimp only at hSw); go_simp⟩) (by assumption) ?_
        try simp only [Act.put, List.setIfInBounds_toArray, List.set_cons_zero, List.set_cons_succ]
        refine wpAnyH_take (i := 49) (oi := { dst := some 163, op := Op.convert 28 9 (Operand.tmp 162), type := 9, pos := "law.go:53", after := #[{ on := 48, ground := Ground.data }, { on := 41, ground := Ground.guard }], guard := some (41, false) }) (v := .string T2) rfl (by kernel_rfl) (by kernel_rfl) (by kernel_rfl) (fun _ _ _ h => h) (Or.inl ⟨by rfl, by intro w hSw; (try dsimp only at hSw); go_simp⟩) (by assumption) ?_
        try simp only [Act.put, List.setIfInBounds_toArray, List.set_cons_zero, List.set_cons_succ]
        refine wpAnyH_ready (rs := [44]) (by kernel_rfl) (by simp) ?_
        refine AllReadyH.cons (o := { dst := some 158, op := Op.call { callee := Callee.value (Operand.func 22), args := #[Operand.tmp 157], argTypes := #[24] }, type := 3, pos := "law.go:53", after := #[{ on := 43, ground := Ground.data }, { on := 41, ground := Ground.chain }, { on := 41, ground := Ground.guard }], guard := some (41, false) }) rfl (fun K hK => ?_) AllReadyH.nil
        go_simp
        refine (pq_len HP.out).mono ?_
        rintro e w' ⟨rfl, P'⟩
        have HP := Lib.hid P'
        have HC := Lib.hid (P'.held HT.out.1 HT.out.2.1)
        rw [HT.out.2.2.2.1] at HC
        rw [HT.out.2.2.2.1]
        clear P'
        first | refine hK.out _ _ HC.out (fun hHeld2 => ?_) | (go_wp2_with fail; refine hK.out _ _ HC.out (fun hHeld2 => ?_))
        clear hK K hHeld
        have hHeld := hHeld2
        clear hHeld2
        try simp only [Act.put, List.setIfInBounds_toArray, List.set_cons_zero, List.set_cons_succ]
        refine wpAnyH_ready (rs := [45]) (by kernel_rfl) (by simp) ?_
        refine AllReadyH.cons (o := { dst := some 159, op := Op.call { callee := Callee.value (Operand.func 16), args := #[Operand.tmp 156, Operand.tmp 158], argTypes := #[24, 3] }, type := 28, pos := "law.go:53", after := #[{ on := 42, ground := Ground.data }, { on := 44, ground := Ground.data }, { on := 44, ground := Ground.chain }, { on := 41, ground := Ground.guard }], guard := some (41, false) }) rfl (fun K hK => ?_) AllReadyH.nil
        go_simp
        refine (pq_look HP.out (L : Int) HT.out.2.2.2.2.2.1 HT.out.2.2.2.2.2.2.1 HT.out.2.2.2.2.1).mono ?_
        rintro e w' ⟨v1, rfl, s1, P'⟩
        have HP := Lib.hid P'
        have HC := Lib.hid (P'.held HT.out.1 HT.out.2.1)
        rw [HT.out.2.2.2.1] at HC
        have hv1 := conv_at s1
        rw [HT.out.2.1] at hv1
        clear s1
        clear P'
        first | refine hK.out _ _ HC.out (fun hHeld2 => ?_) | (go_wp2_with fail; refine hK.out _ _ HC.out (fun hHeld2 => ?_))
        clear hK K hHeld
        have hHeld := hHeld2
        clear hHeld2
        try simp only [Act.put, List.setIfInBounds_toArray, List.set_cons_zero, List.set_cons_succ]
        refine wpAnyH_ready (rs := [46]) (by kernel_rfl) (by simp) ?_
        refine AllReadyH.cons (o := { dst := some 160, op := Op.convert 28 9 (Operand.tmp 159), type := 9, pos := "law.go:53", after := #[{ on := 45, ground := Ground.data }, { on := 41, ground := Ground.guard }], guard := some (41, false) }) rfl (fun K hK => ?_) AllReadyH.nil
        go_simp
        first | refine hK.out _ _ HC.out (fun hHeld2 => ?_) | (go_wp2_with fail; refine hK.out _ _ HC.out (fun hHeld2 => ?_))
        clear hK K hHeld
        have hHeld := hHeld2
        clear hHeld2
        try simp only [Act.put, List.setIfInBounds_toArray, List.set_cons_zero, List.set_cons_succ]
        refine wpAnyH_take (i := 50) (oi := { dst := some 164, op := Op.binOp BinOp.neq 9 (Operand.tmp 160) (Operand.tmp 163) 9, type := 4, pos := "law.go:53", after := #[{ on := 46, ground := Ground.data }, { on := 49, ground := Ground.data }, { on := 41, ground := Ground.guard }], guard := some (41, false) }) (v := .bool false) rfl (by kernel_rfl) (by kernel_rfl) (by kernel_rfl) (fun _ _ _ h => h) (Or.inl ⟨by rfl, by intro w hSw; (try dsimp only at hSw); go_simp⟩) (by assumption) ?_
        try simp only [Act.put, List.setIfInBounds_toArray, List.set_cons_zero, List.set_cons_succ]
        refine wpAnyH_take (i := 51) (oi := { dst := some 165, op := Op.pick (Operand.tmp 155) (Operand.const (Value.bool true)) (Operand.tmp 164), type := 4, pos := "law.go:53", after := #[{ on := 41, ground := Ground.data }, { on := 50, ground := Ground.data }], guard := none }) (v := .bool false) rfl (by kernel_rfl) (by kernel_rfl) (by kernel_rfl) (fun _ _ _ h => h) (Or.inl ⟨by rfl, by intro w hSw; (try dsimp only at hSw); go_simp⟩) (by assumption) ?_
        try simp only [Act.put, List.setIfInBounds_toArray, List.set_cons_zero, List.set_cons_succ]
        refine wpAnyH_done (by kernel_rfl) ?_ _
        go_wp2_with fail
        go_roundw
        case rel => exact ⟨j + 1, by omega, by go_num, _, _, _, _, _, _, _, HP.out.m, HT.out.2.2.2.2.2.2.2⟩
        case measure => simp [intOf]; omega
    · obtain rfl : j = l.length := by omega
      have HB := Lib.hid M0.st.2
      clear M0 hij hlt
      have g0 : decide (l.length < l.length) = false := by simp
      go_wp2_with fail
      go_ret
      exact ⟨rfl, HB.out⟩
end Go.Proofs.Ytolkbelfcgamiaa
