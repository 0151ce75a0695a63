/-
  pending: what is pending comes one by one, rising.
-/
import Derived.Test.YtjejpgognfadoaaGreatDoorSgCopy
import Derived.Test.YtjejpgognfadoaaGreatDoorCmNest
namespace Go.Proofs.YtjejpgognfadoaaGreatDoor
open Go.RowKit Go.Maps Go.ChangeMaps Go.Shelf

attribute [local go_sem] Oper.semAt_some

def encPr (x : Nat × Nat) : Array Value := #[.int .i64 (x.1 : Int), .int .i64 (x.2 : Int)]
theorem pending_call (w : World) (k : Nat) : Calls Tryz.prog 76 #[.pointer (some ⟨k, 0, none⟩)] w fun e w' =>
    e = .returned (.func (.func 87) #[] #[.pointer (some ⟨w.heap.size, 0, none⟩)]) ∧ w' = w.alloc (.cells #[.pointer (some ⟨k, 0, none⟩)] 56) := by
  go_enter Tryz.func76, Tryz.ntmps76
  go_wp2
  go_ret
  exact ⟨rfl, rfl⟩

theorem pend_split (s : T) {i : Nat} (hi : i < 32) (hc : s.c i ≠ 0) : ∃ R, s.pend i ++ (i, s.c i) :: R = s.pend 32 := by
  have h : ∀ j, ∃ R, s.pend (i + 1 + j) = s.pend (i + 1) ++ R := fun j => by
    induction j with
    | zero => exact ⟨[], by simp⟩
    | succ j ih =>
      obtain ⟨R, hR⟩ := ih
      rw [← Nat.add_assoc, T.pend_succ]
      split
      · exact ⟨R, hR⟩
      · exact ⟨R ++ [(i + 1 + j, s.c (i + 1 + j))], by rw [hR, List.append_assoc]⟩
  obtain ⟨R, hR⟩ := h (31 - i)
  have e1 : s.pend (i + 1) = s.pend i ++ [(i, s.c i)] := by rw [T.pend_succ, if_neg hc]
  rw [show i + 1 + (31 - i) = 32 by omega, e1] at hR
  exact ⟨R, by rw [hR]; simp⟩

set_option maxRecDepth 100000 in
set_option maxHeartbeats 4000000 in
theorem pend_o (n : Nat) (hn : 1 ≤ n) {w : World} {k : Nat} {s : T} (hT : Tb w k s) (bK : Nat) (hK : Boxed w bK 56 (.pointer (some ⟨k, 0, none⟩))) (O : Obj → Prop) (Pr : Nat → Prop) (N : Nat) (hN : bK < N ∧ Pr bK) (hk : k < N ∧ Pr k) :
    SeqO n Tryz.prog 87 #[.pointer (some ⟨bK, 0, none⟩)] encPr O Pr (fun xs => xs = s.pend 32) (fun _ => True) (fun pre x => ∃ R, pre ++ x :: R = s.pend 32) N w := by
  intro l J Jx W hz hW hJ hJx hY h0
  have b1 : Tb W k s := hT.same (hW k hk.1)
  have k1 : Boxed W bK 56 (.pointer (some ⟨k, 0, none⟩)) := (hW bK hN.1).trans hK
  have HY := Lib.hid hY
  have H0 := Lib.hid (And.intro h0 (And.intro b1 k1))
  have HP := Lib.hid (And.intro hN hk)
  clear hJ hJx hY h0 hW b1 k1 hT hK hN hk
  refine callsIn_of_wp Tryz.func87 rfl trivial ?_ rfl
  simp only [Tryz.ntmps87, List.size_toArray, List.length_cons, List.length_nil, Nat.reduceAdd, Nat.reduceSub, Array.replicate_succ, Array.replicate_zero, List.push_toArray, List.append_toArray, List.nil_append, List.cons_append]
  gi_wp2_with fail
  refine wpIn_wide.2 (wp_scope_straight ((wpIn_wide (n := n)).1 ?_))
  gi_wp2
  refine wpIn_label ?_
  gi_wp2_with fail
  gi_loopw [5] (fun v wr => ∃ i : Nat, v = .int .i64 (i : Int) ∧ i ≤ 32 ∧ J (s.pend i) wr ∧ Tb wr k s ∧ Boxed wr bK 56 (.pointer (some ⟨k, 0, none⟩))) (fun v _ => 32 - (intOf v).toNat)
  case atStart => exact ⟨0, rfl, Nat.zero_le _, H0.out⟩
  case round =>
    obtain ⟨i, rfl, hi, hJ1, hT1, hK1⟩ := hrel
    by_cases hlt : i < 32
    · have b0 : (0 : Int) ≤ (i : Int) := by omega
      have b1 : (i : Int) < 32 := by omega
      have c1 := hT1.c_ hlt
      have cK := hK1.cell
      have lk := hT1.lt
      have lK := hK1.lt
      by_cases hc : s.c i = 0
      · have HR := Lib.hid (show J (s.pend (i + 1)) wr ∧ Tb wr k s ∧ Boxed wr bK 56 (.pointer (some ⟨k, 0, none⟩)) by rw [T.pend_succ, if_pos hc]; exact ⟨hJ1, hT1, hK1⟩)
        rw [hc] at c1
        clear hJ1 hT1 hK1 hc
        gi_wp2_with fail
        go_roundw
        case rel => exact ⟨i + 1, by go_num, by omega, HR.out⟩
        case measure => simp [intOf] <;> omega
      · obtain ⟨fn, tmps, assign, body, hy, hRd⟩ := HY.out (s.pend i) (i, s.c i) wr hJ1 (pend_split s hlt hc)
        have hcc : ((s.c i : Int) == 0) = false := by simpa using hc
        have HE := Lib.hid (And.intro (show s.pend (i + 1) = s.pend i ++ [(i, s.c i)] by rw [T.pend_succ, if_neg hc]) (And.intro hT1 hK1))
        simp only [encPr] at hy
        clear hJ1 hT1 hK1
        gi_wp2_with fail
        clear hy
        refine hRd.mono ?_
        rintro e W3 ⟨(⟨rfl, hJ3⟩ | ⟨rfl, hJx3⟩), hk3⟩
        · obtain ⟨he, hT1, hK1⟩ := HE.out
          rw [← he] at hJ3
          obtain ⟨hN, hk⟩ := HP.out
          have HR := Lib.hid (And.intro hJ3 (And.intro (hT1.same (hk3.low k hk.1 hT1.lt hk.2)) ((hk3.low bK hN.1 hK1.lt hN.2).trans hK1)))
          clear hJ3 hk3 hRd hT1 hK1 he hN hk hc hcc
          gi_wp2_with fail
          go_roundw
          case rel => exact ⟨i + 1, by go_num, by omega, HR.out⟩
          case measure => simp [intOf] <;> omega
        · have HX := Lib.hid hJx3
          clear hk3 hJx3 hRd hc hcc
          gi_wp2_with fail
          rw [Exit.noGoto_ret]
          refine bodyPost_ret (results_none rfl _ _ _) rfl ?_
          exact ⟨⟨_, rfl⟩, .inr ⟨_, trivial, HX.out⟩⟩
    · obtain rfl : i = 32 := by omega
      have HE := Lib.hid hJ1
      clear hJ1 hT1 hK1
      gi_wp2_with fail
      rw [Exit.noGoto_normal]
      go_end0
      exact ⟨⟨_, rfl⟩, .inl ⟨_, rfl, HE.out⟩⟩
end Go.Proofs.YtjejpgognfadoaaGreatDoor
