/-
  The requests of two sets, one by one, as an iterator.
-/
import Derived.Test.YtbbgnpnopodppaaDoorSeBase
import Derived.Sort.AtCallIn
import Derived.Test.YtbbgnpnopodppaaDoorFsAll
namespace Go.Proofs.YtbbgnpnopodppaaDoor
open Go.RowKit Go.Shelf Go.Maps Go.ChangeMaps

def sidesN (a b c d n : Nat) : Nat := if Fs.hasB a b n then (if Fs.hasB c d n then 6 else 2) else (if Fs.hasB c d n then 4 else 0)
def reqs (a b c d : Nat) : List (Nat × Nat) := (Fs.mem (a ||| c) (b ||| d)).map fun n => (n, sidesN a b c d n)
abbrev setV (a b : Nat) : Value := .agg #[.int .u32 (a : Int), .int .u32 (b : Int)]
abbrev setC (a b : Nat) : Array Value := #[.int .u32 (a : Int), .int .u32 (b : Int)]
theorem requests_call (w : World) (a b c d : Nat) : Calls Tryd.prog 18 #[setV a b, setV c d] w fun e w' =>
    e = .returned (.func (.func 37) #[] #[.pointer (some ⟨w.heap.size, 0, none⟩), .pointer (some ⟨w.heap.size + 1, 0, none⟩)]) ∧ w' = (w.alloc (.cells (setC a b) 28)).alloc (.cells (setC c d) 28) := by
  go_enter Tryd.func18, Tryd.ntmps18
  go_wp2_with fail
  go_ret
  exact ⟨by simp, rfl⟩
theorem reqs_get {a b c d i : Nat} (hi : i < (Fs.mem (a ||| c) (b ||| d)).length) : (reqs a b c d)[i]? = some ((Fs.mem (a ||| c) (b ||| d))[i], sidesN a b c d (Fs.mem (a ||| c) (b ||| d))[i]) := by
  unfold reqs
  rw [List.getElem?_map, List.getElem?_eq_getElem hi]; rfl
theorem reqs_len (a b c d : Nat) : (reqs a b c d).length = (Fs.mem (a ||| c) (b ||| d)).length := by unfold reqs; rw [List.length_map]
theorem take_get {α : Type} {l : List α} {i : Nat} {x : α} (h : l[i]? = some x) : l.take (i + 1) = l.take i ++ [x] ∧ ∃ R, l.take i ++ x :: R = l := by
  obtain ⟨hi, rfl⟩ := List.getElem?_eq_some_iff.1 h
  refine ⟨(List.take_append_getElem hi).symm, l.drop (i + 1), ?_⟩
  rw [List.getElem_cons_drop, List.take_append_drop]
/-- The list that the iterator walks. -/
def SeL (w : World) (A : Option Addr) (zs : List Nat) (N : Nat) : Prop := zs = [] ∨ ∃ g off, A = some ⟨g, off, none⟩ ∧ N ≤ g ∧ g < w.heap.size ∧ ∀ (i z : Nat), zs[i]? = some z → w.cell? ⟨g, off + i, none⟩ = some (.int .i64 (z : Int))
theorem SeL.same {w w' : World} {A : Option Addr} {zs : List Nat} {N : Nat} (h : SeL w A zs N) (e : ∀ k o, N ≤ k → w.heap[k]? = some o → w'.heap[k]? = some o) (hs : w.heap.size ≤ w'.heap.size) : SeL w' A zs N := by
  rcases h with h | ⟨g, off, h1, h2, h3, h4⟩
  · exact Or.inl h
  · refine Or.inr ⟨g, off, h1, h2, by omega, fun i z hz => ?_⟩
    obtain ⟨o, ho⟩ : ∃ o, w.heap[g]? = some o := ⟨_, Array.getElem?_eq_getElem h3⟩
    have := e g o h2 ho
    exact (World.cell?_of_block (by rw [this, ho])).trans (h4 i z hz)
theorem SeL.below {w w' : World} {A : Option Addr} {zs : List Nat} {N : Nat} (h : SeL w A zs N) (hb : Below w.heap.size w w') : SeL w' A zs N :=
  h.same (fun k o _ ho => (hb.block k (Array.getElem?_eq_some_iff.1 ho).1).trans ho) hb.size
set_option maxRecDepth 100000 in
set_option maxHeartbeats 8000000 in
theorem req_o (n : Nat) (hn : 1 ≤ n) {w : World} {a b c d : Nat} (ha : a < 4294967296) (hb : b < 4294967296) (hc : c < 4294967296) (hd : d < 4294967296) (bR bS : Nat) (hR : Blk w bR 28 (setC a b)) (hS : Blk w bS 28 (setC c d))
    (hT : Fs.Tab w) (Pr : Nat → Prop) (N : Nat) (hN : bR < N ∧ Pr bR) (hN2 : bS < N ∧ Pr bS) (hg : 0 < N) :
    SeqO n Tryd.prog 37 #[.pointer (some ⟨bR, 0, none⟩), .pointer (some ⟨bS, 0, none⟩)] encPr (fun _ => False) Pr (fun xs => xs = reqs a b c d) (fun _ => True) (fun pre x => ∃ R, pre ++ x :: R = reqs a b c d) N w := by
  intro l J Jx W hz hW hJ hJx hY h0
  have b1 : Blk W bR 28 (setC a b) := hR.same (hW bR hN.1)
  have b2 : Blk W bS 28 (setC c d) := hS.same (hW bS hN2.1)
  have t1 : Fs.Tab W := fun j hj => (World.cell?_of_block (a := ⟨0, j, none⟩) (hW _ hg)).trans (hT j hj)
  have HY := Lib.hid hY
  have H0 := Lib.hid (And.intro h0 (And.intro b1 b2))
  have HP := Lib.hid (And.intro hN hN2)
  have HJd := Lib.hid hJ
  have HT := Lib.hid t1
  have c0 := b1.cell 0
  have c1 := b1.cell 1
  have d0 := b2.cell 0
  have d1 := b2.cell 1
  simp at c0 c1 d0 d1
  have lR := b1.lt
  have lS := b2.lt
  clear hJ hJx hY h0 b1 b2 hR hS hN hN2 hT t1 hW
  refine callsIn_of_wp Tryd.func37 rfl trivial ?_ rfl
  simp only [Tryd.ntmps37, List.size_toArray, List.length_cons, List.length_nil, Nat.reduceAdd, Nat.reduceSub, Array.replicate_succ, Array.replicate_zero, List.push_toArray, List.append_toArray, List.nil_append, List.cons_append]
  gi_wp2_with (first
    | (refine ⟨trivial, ?_⟩; gi_at_call 38; refine (callsIn_wide.2 (Fs.or_any a b c d _ ha hb hc hd)).mono ?_; rintro e w1 ⟨rfl, hb1⟩; have HB1 := Lib.hid hb1; clear hb1)
    | (refine ⟨trivial, ?_⟩; gi_at_call 39; refine (callsIn_wide.2 (Fs.all_own (a ||| c) (b ||| d) _ (Fs.or_lt ha hc) (Fs.or_lt hb hd) (HT.out.below (by omega) HB1.out) (by have := HB1.out.size; omega))).mono ?_; rintro e w2 ⟨v, rfl, hl, hb2⟩; obtain ⟨hl, hnew⟩ := hl; obtain ⟨A, cap, rfl, hm, hz0, hl⟩ := hl; have HL := Lib.hid (And.intro hl (And.intro hz0 (And.intro hnew hb2))); clear hl hz0 hnew hb2))
  obtain ⟨ms, hms⟩ : ∃ ms, ms = Fs.mem (a ||| c) (b ||| d) := ⟨_, rfl⟩
  have hmi : Fs.memI (a ||| c) (b ||| d) = ms.map (fun n : Nat => (n : Int)) := by rw [hms]; rfl
  have hL : (Fs.memI (a ||| c) (b ||| d)).length = ms.length := by rw [hmi, List.length_map]
  have hBW : Below W.heap.size W w2 := Fs.below_endL HB1.out HL.out.2.2.2
  have hSL : SeL w2 A ms (N + 2) := by
    rcases HL.out.1 with e | ⟨g, off, rfl, hgl, hcl⟩
    · refine Or.inl ?_
      rw [hmi] at e
      exact List.map_eq_nil_iff.1 e
    · refine Or.inr ⟨g, off, rfl, by have := HL.out.2.2.1 g rfl; have := HB1.out.size; omega, hgl, fun i z hz => ?_⟩
      have hi : i < ms.length := (List.getElem?_eq_some_iff.1 hz).1
      rw [hcl i (by omega), hmi, List.getElem?_map, hz]; rfl
  have hm64 : ms.length ≤ 64 := by have := Fs.length_memI (a ||| c) (b ||| d); omega
  have hml : ∀ x ∈ ms, x < 64 := fun x hx => by rw [hms] at hx; exact ((Fs.mem_mem _ _ _).1 hx).1
  rw [hL]
  have HM := Lib.hid (And.intro hms hml)
  have HK := Lib.hid (And.intro (HJd.out _ _ _ H0.out.1 (ChO.of_kept (Kept.of_below hBW))) (And.intro (H0.out.2.1.same (hBW.block _ lR)) (And.intro (H0.out.2.2.same (hBW.block _ lS)) hSL)))
  have hsz := hBW.size
  clear hm hL hmi HL HB1 hBW hSL c0 c1 d0 d1 hms hml
  gi_loopw [12] (fun v wr => ∃ i : Nat, v = .int .i64 (i : Int) ∧ i ≤ ms.length ∧ J ((reqs a b c d).take i) wr ∧ Blk wr bR 28 (setC a b) ∧ Blk wr bS 28 (setC c d) ∧ SeL wr A ms (N + 2)) (fun v _ => ms.length - (intOf v).toNat)
  case atStart => exact ⟨0, rfl, Nat.zero_le _, HK.out⟩
  case round =>
    obtain ⟨i, rfl, hi, hJ1, hR1, hS1, hL1⟩ := hrel
    by_cases hlt : i < ms.length
    · have b0 : (0 : Int) ≤ (i : Int) := by omega
      have b1 : (i : Int) < (ms.length : Int) := by omega
      obtain ⟨x, hx⟩ : ∃ x, ms[i]? = some x := ⟨_, List.getElem?_eq_getElem hlt⟩
      rcases hL1 with e | ⟨g, off, rfl, hgN, hgl, hcl⟩
      · rw [e] at hlt; exact absurd hlt (Nat.not_lt_zero _)
      have hxc := hcl i x hx
      have hx64 : x < 64 := HM.out.2 x (List.mem_of_getElem? hx)
      have c0 := hR1.cell 0
      have c1 := hR1.cell 1
      have d0 := hS1.cell 0
      have d1 := hS1.cell 1
      simp at c0 c1 d0 d1
      have lR := hR1.lt
      have lS := hS1.lt
      have hq : (reqs a b c d)[i]? = some (x, sidesN a b c d x) := by
        unfold reqs
        rw [← HM.out.1, List.getElem?_map, hx]; rfl
      obtain ⟨ht1, ht2⟩ := take_get hq
      have HE := Lib.hid (And.intro hJ1 (And.intro hR1 (And.intro hS1 (show SeL wr (some ⟨g, off, none⟩) ms (N + 2) from Or.inr ⟨g, off, rfl, hgN, hgl, hcl⟩))))
      have HQ := Lib.hid (And.intro ht1 ht2)
      clear hJ1 hR1 hS1 hcl ht1 ht2 hq hx
      have step : ∀ (s : Int), s = ((sidesN a b c d x : Nat) : Int) → ∀ W2, Below wr.heap.size wr W2 → YieldAt Fence.wide (n - 1) Tryd.prog l #[.int .i64 (x : Int), .int .i64 s] W2 fun e W' =>
          ((e = .returned (.bool true) ∧ J ((reqs a b c d).take (i + 1)) W' ∧ Blk W' bR 28 (setC a b) ∧ Blk W' bS 28 (setC c d) ∧ SeL W' (some ⟨g, off, none⟩) ms (N + 2)) ∨ (e = .returned (.bool false) ∧ Jx ((reqs a b c d).take (i + 1)) W')) := by
        intro s hs W2 hb2
        subst hs
        have hy := HY.out ((reqs a b c d).take i) (x, sidesN a b c d x) W2 (HJd.out _ _ _ HE.out.1 (ChO.of_kept (Kept.of_below hb2))) HQ.out.2
        obtain ⟨fn, tmps, assign, body, hy, hRd⟩ := hy
        refine ⟨fn, tmps, assign, body, hy, hRd.mono ?_⟩
        rintro e W3 ⟨(⟨rfl, hJ3⟩ | ⟨rfl, hJx3⟩), hk3⟩
        · have bR2 := HE.out.2.1.same (hb2.block _ lR)
          have bS2 := HE.out.2.2.1.same (hb2.block _ lS)
          refine .inl ⟨rfl, HQ.out.1 ▸ hJ3, bR2.same (hk3.low bR HP.out.1.1 bR2.lt HP.out.1.2), bS2.same (hk3.low bS HP.out.2.1 bS2.lt HP.out.2.2), (HE.out.2.2.2.below hb2).same (fun k o hk ho => hk3.high k o hk ho (fun e => e)) hk3.size⟩
        · exact .inr ⟨rfl, HQ.out.1 ▸ hJx3⟩
      have HS := Lib.hid step
      clear step
      cases hr : Fs.hasB a b x with
      | true =>
        cases hs : Fs.hasB c d x with
        | true =>
          gi_wp2_with (first
            | (refine ⟨trivial, ?_⟩; gi_at_call_has 9 (Value.int .u32 (a : Int)); refine (callsIn_wide.2 (Fs.has_yes a b x _ ha hb hx64 hr)).mono ?_; rintro e w3 ⟨rfl, hb3⟩; have d0' := (hb3.cell (p := ⟨bS, 0, none⟩) lS).trans d0; have d1' := (hb3.cell (p := ⟨bS, 1, none⟩) lS).trans d1; have lS' := Nat.lt_of_lt_of_le lS hb3.size; have HB3 := Lib.hid hb3; clear hb3)
            | (refine ⟨trivial, ?_⟩; gi_at_call 9; refine (callsIn_wide.2 (Fs.has_yes c d x _ hc hd hx64 hs)).mono ?_; rintro e w4 ⟨rfl, hb4⟩; have HB4 := Lib.hid (Fs.below_endL HB3.out hb4); clear hb4; obtain ⟨fn, tmps, assign, body, hy, hRd⟩ := HS.out (bits BinOp.or IntKind.i64 (bits BinOp.or IntKind.i64 0 2) 4) (by rw [show sidesN a b c d x = 6 by simp [sidesN, hr, hs]]; decide) w4 HB4.out))
          clear hy
          refine hRd.mono ?_
          rintro e W3 (⟨rfl, hJ3⟩ | ⟨rfl, hJx3⟩)
          · have HX := Lib.hid hJ3
            clear hJ3 hRd
            gi_wp2_with fail
            go_roundw
            case rel => exact ⟨i + 1, by go_num, by omega, HX.out⟩
            case measure => simp [intOf] <;> omega
          · have HX := Lib.hid hJx3
            clear hJx3 hRd
            gi_wp2_with fail
            refine bodyPost_ret (results_none rfl _ _ _) rfl ?_
            exact ⟨⟨_, rfl⟩, .inr ⟨_, trivial, HX.out⟩⟩
        | false =>
          gi_wp2_with (first
            | (refine ⟨trivial, ?_⟩; gi_at_call_has 9 (Value.int .u32 (a : Int)); refine (callsIn_wide.2 (Fs.has_yes a b x _ ha hb hx64 hr)).mono ?_; rintro e w3 ⟨rfl, hb3⟩; have d0' := (hb3.cell (p := ⟨bS, 0, none⟩) lS).trans d0; have d1' := (hb3.cell (p := ⟨bS, 1, none⟩) lS).trans d1; have lS' := Nat.lt_of_lt_of_le lS hb3.size; have HB3 := Lib.hid hb3; clear hb3)
            | (refine ⟨trivial, ?_⟩; gi_at_call 9; refine (callsIn_wide.2 (Fs.has_no c d x _ hc hd hx64 hs)).mono ?_; rintro e w4 ⟨rfl, hb4⟩; have HB4 := Lib.hid (Fs.below_endL HB3.out hb4); clear hb4; obtain ⟨fn, tmps, assign, body, hy, hRd⟩ := HS.out (bits BinOp.or IntKind.i64 0 2) (by rw [show sidesN a b c d x = 2 by simp [sidesN, hr, hs]]; decide) w4 HB4.out))
          clear hy
          refine hRd.mono ?_
          rintro e W3 (⟨rfl, hJ3⟩ | ⟨rfl, hJx3⟩)
          · have HX := Lib.hid hJ3
            clear hJ3 hRd
            gi_wp2_with fail
            go_roundw
            case rel => exact ⟨i + 1, by go_num, by omega, HX.out⟩
            case measure => simp [intOf] <;> omega
          · have HX := Lib.hid hJx3
            clear hJx3 hRd
            gi_wp2_with fail
            refine bodyPost_ret (results_none rfl _ _ _) rfl ?_
            exact ⟨⟨_, rfl⟩, .inr ⟨_, trivial, HX.out⟩⟩
      | false =>
        cases hs : Fs.hasB c d x with
        | true =>
          gi_wp2_with (first
            | (refine ⟨trivial, ?_⟩; gi_at_call_has 9 (Value.int .u32 (a : Int)); refine (callsIn_wide.2 (Fs.has_no a b x _ ha hb hx64 hr)).mono ?_; rintro e w3 ⟨rfl, hb3⟩; have d0' := (hb3.cell (p := ⟨bS, 0, none⟩) lS).trans d0; have d1' := (hb3.cell (p := ⟨bS, 1, none⟩) lS).trans d1; have lS' := Nat.lt_of_lt_of_le lS hb3.size; have HB3 := Lib.hid hb3; clear hb3)
            | (refine ⟨trivial, ?_⟩; gi_at_call 9; refine (callsIn_wide.2 (Fs.has_yes c d x _ hc hd hx64 hs)).mono ?_; rintro e w4 ⟨rfl, hb4⟩; have HB4 := Lib.hid (Fs.below_endL HB3.out hb4); clear hb4; obtain ⟨fn, tmps, assign, body, hy, hRd⟩ := HS.out (bits BinOp.or IntKind.i64 0 4) (by rw [show sidesN a b c d x = 4 by simp [sidesN, hr, hs]]; decide) w4 HB4.out))
          clear hy
          refine hRd.mono ?_
          rintro e W3 (⟨rfl, hJ3⟩ | ⟨rfl, hJx3⟩)
          · have HX := Lib.hid hJ3
            clear hJ3 hRd
            gi_wp2_with fail
            go_roundw
            case rel => exact ⟨i + 1, by go_num, by omega, HX.out⟩
            case measure => simp [intOf] <;> omega
          · have HX := Lib.hid hJx3
            clear hJx3 hRd
            gi_wp2_with fail
            refine bodyPost_ret (results_none rfl _ _ _) rfl ?_
            exact ⟨⟨_, rfl⟩, .inr ⟨_, trivial, HX.out⟩⟩
        | false =>
          gi_wp2_with (first
            | (refine ⟨trivial, ?_⟩; gi_at_call_has 9 (Value.int .u32 (a : Int)); refine (callsIn_wide.2 (Fs.has_no a b x _ ha hb hx64 hr)).mono ?_; rintro e w3 ⟨rfl, hb3⟩; have d0' := (hb3.cell (p := ⟨bS, 0, none⟩) lS).trans d0; have d1' := (hb3.cell (p := ⟨bS, 1, none⟩) lS).trans d1; have lS' := Nat.lt_of_lt_of_le lS hb3.size; have HB3 := Lib.hid hb3; clear hb3)
            | (refine ⟨trivial, ?_⟩; gi_at_call 9; refine (callsIn_wide.2 (Fs.has_no c d x _ hc hd hx64 hs)).mono ?_; rintro e w4 ⟨rfl, hb4⟩; have HB4 := Lib.hid (Fs.below_endL HB3.out hb4); clear hb4; obtain ⟨fn, tmps, assign, body, hy, hRd⟩ := HS.out (0) (by rw [show sidesN a b c d x = 0 by simp [sidesN, hr, hs]]; decide) w4 HB4.out))
          clear hy
          refine hRd.mono ?_
          rintro e W3 (⟨rfl, hJ3⟩ | ⟨rfl, hJx3⟩)
          · have HX := Lib.hid hJ3
            clear hJ3 hRd
            gi_wp2_with fail
            go_roundw
            case rel => exact ⟨i + 1, by go_num, by omega, HX.out⟩
            case measure => simp [intOf] <;> omega
          · have HX := Lib.hid hJx3
            clear hJx3 hRd
            gi_wp2_with fail
            refine bodyPost_ret (results_none rfl _ _ _) rfl ?_
            exact ⟨⟨_, rfl⟩, .inr ⟨_, trivial, HX.out⟩⟩
    · obtain rfl : i = ms.length := by omega
      have HX := Lib.hid hJ1
      have hlr : (reqs a b c d).take ms.length = reqs a b c d := by rw [HM.out.1, ← reqs_len, List.take_length]
      clear hJ1 hR1 hS1 hL1
      gi_wp2_with fail
      go_end0
      exact ⟨⟨_, rfl⟩, .inl ⟨_, rfl, hlr ▸ HX.out⟩⟩
end Go.Proofs.YtbbgnpnopodppaaDoor
