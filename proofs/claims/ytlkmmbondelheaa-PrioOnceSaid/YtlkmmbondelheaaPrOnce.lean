/-
  PrioOnce.
-/
import Derived.Test.YtlkmmbondelheaaPrLaw2
import Derived.Deep.CutBlock
namespace Go.Proofs.Ytlkmmbondelheaa
open Go.RowKit Go.Maps Go.ChangeMaps Go.Shelf

theorem OwnI.len_at {W : World} {B : Nat} {v : Value} {P : List It} (h : OwnI W B v P) : ∃ A c, v = .slice A P.length c := by obtain ⟨A, c, e, _⟩ := h.form; exact ⟨A, c, e⟩
def encC (x : Cal) : Array Value := #[.int .i64 x.k, .int .i64 x.pr, .int .i64 x.id, .int .i64 x.fl, .int .i64 x.ct]
/-- The queues, and a copy of a call that is none of their blocks. -/
structure QX (w W : World) (B h : Nat) (Own : Nat → Prop) (many : Nat) (L : List It) (xk : Nat) (x : Cal) : Prop where
  q : Qu W B h Own many L
  b : Below w.heap.size w W
  hB : w.heap.size ≤ B
  x : Blk W xk 33 (encC x)
  xo : ¬ Own xk
  xl : w.heap.size ≤ xk
section
variable {w W W' : World} {B h many xk : Nat} {Own Own' : Nat → Prop} {L L' : List It} {x : Cal}
theorem QX.new (H : Qu W B h Own many L) (b : Below w.heap.size w W) (hB : w.heap.size ≤ B) (x : Cal) : QX w (W.alloc (.cells (encC x) 33)) B h Own many L W.heap.size x :=
  ⟨H.alloc _, b.alloc b.size _, hB, Blk.new _ _ _, fun e => by have := (H.lt e).1; omega, b.size⟩
theorem QX.mv (H : QX w W B h Own many L xk x) (q : Qu W' B h Own' many L') (m : Mv W W' Own Own') : QX w W' B h Own' many L' xk x :=
  ⟨q, (law_step H.q (B := B) (w := W) (Below.refl _ _) m).mono H.hB |> H.b.trans, H.hB, H.x.kept m.k H.xo, fun e => by rcases m.o _ e with e | e; exact H.xo e; have := H.x.lt; omega, H.xl⟩
theorem QX.below (H : QX w W B h Own many L xk x) (b : Below W.heap.size W W') : QX w W' B h Own many L xk x :=
  ⟨H.q.below b, H.b.trans (b.mono H.b.size), H.hB, H.x.same (b.block _ H.x.lt), H.xo, H.xl⟩
theorem QX.alloc (H : QX w W B h Own many L xk x) (o : Obj) : QX w (W.alloc o) B h Own many L xk x := H.below ((Below.refl _ W).alloc (Nat.le_refl _) _)
theorem QX.drew (H : QX w W B h Own many L xk x) : QX w W.drew B h Own many L xk x := H.below (Below.refl _ W).drew
theorem QX.cells (H : QX w W B h Own many L xk x) : W.cell? ⟨xk, 0, none⟩ = some (.int .i64 x.k) ∧ W.cell? ⟨xk, 1, none⟩ = some (.int .i64 x.pr) ∧ W.cell? ⟨xk, 2, none⟩ = some (.int .i64 x.id) ∧ W.cell? ⟨xk, 3, none⟩ = some (.int .i64 x.fl) ∧ W.cell? ⟨xk, 4, none⟩ = some (.int .i64 x.ct) ∧ xk < W.heap.size :=
  ⟨H.x.cell 0, H.x.cell 1, H.x.cell 2, H.x.cell 3, H.x.cell 4, H.x.lt⟩
end

def OnMid (w W : World) (h many j xk : Nat) (x : Cal) : Prop := ∃ B Own L, QX w W B h Own many L xk x ∧ L.length ≤ j ∧ (x.k = 1 → hasI L x.id = false)
def OnAt (w : World) (h many j : Nat) (W : World) : Prop := ∃ B Own L, Qu W B h Own many L ∧ Below w.heap.size w W ∧ w.heap.size ≤ B ∧ L.length ≤ j

set_option maxHeartbeats 16000000 in
set_option maxRecDepth 100000 in
theorem once_any (w : World) (A : Option Addr) (c many : Nat) (l : List Cal) (hm : 1 ≤ many ∧ many ≤ 8) (hn : l.length ≤ 100) (hA : ArgOps w A l) :
    Calls Try.prog 5 #[.int .i64 (many : Int), .slice A l.length c] w fun e w' => e = .returned (.bool true) ∧ Below w.heap.size w w' := by
  have HA := Lib.hid hA
  clear hA
  go_enter Try.func5, Try.ntmps5
  go_wp2_with fail
  refine (alive_any w).mono ?_
  rintro e w1 ⟨rfl, hb1⟩
  have HB1 := Lib.hid hb1
  clear hb1
  go_wp2_with fail
  refine (new_yes w1 many hm.1 hm.2).mono ?_
  rintro e w2 ⟨h, Own, rfl, hQ, hb, hl⟩
  have H2 := Lib.hid (show OnAt w h many 0 w2 from ⟨_, _, _, hQ, HB1.out.trans (hb.mono HB1.out.size), HB1.out.size, by simp⟩)
  clear hQ hb hl
  go_wp2_with fail
  go_loopw [8] (fun i wr => ∃ k : Nat, i = .int .i64 (k : Int) ∧ k ≤ l.length ∧ OnAt w h many k wr) (fun i _ => l.length - (intOf i).toNat)
  case atStart => exact ⟨0, rfl, Nat.zero_le _, H2.out⟩
  case round =>
    obtain ⟨k, rfl, hk, B, Own, L, hQ, hb, hB, hl⟩ := hrel
    by_cases hlt : k < l.length
    · obtain ⟨b, off, x, rfl, hbl, hz, hok, x0, x1, x2, x3, x4⟩ := HA.out.at_ hb hlt
      have hX := QX.new hQ hb hB x
      have HO := Lib.hid (And.intro hok hl)
      have b0 : (0 : Int) ≤ (k : Int) := by omega
      have b1 : (k : Int) < (l.length : Int) := by omega
      obtain ⟨xk, exk⟩ : ∃ xk, xk = wr.heap.size := ⟨_, rfl⟩
      obtain ⟨W, eW⟩ : ∃ W, W = wr.alloc (.cells (encC x) 33) := ⟨_, rfl⟩
      rw [← exk, ← eW] at hX
      have HX := Lib.hid hX
      unfold encC at eW
      obtain ⟨kd, ekd⟩ : ∃ kd, kd = x.k := ⟨_, rfl⟩
      have EK := Lib.hid ekd
      have c0 := hX.cells.1
      rw [eW, exk] at c0
      rw [← ekd] at c0 x0 eW
      have EW := Lib.hid (And.intro exk eW)
      clear ekd exk eW hX hz hok hl hQ hb hB
      go_upto_block 2 with fail
      rw [← EW.out.1, ← EW.out.2]
      clear c0
      obtain ⟨c0, c1, c2, c3, c4, cl⟩ := HX.out.cells
      rw [← EK.out] at c0
      go_cut [8] (fun s8 wx => s8 = .int .i64 (k : Int) ∧ OnMid w wx h many (k + 1) xk x)
      case first =>
        have hi0 : i64 0 := by unfold i64; omega
        by_cases k0 : kd = 0
        · have HP := Lib.hid (put_any HX.out.q x.pr x.id x.fl 0 HO.out.1.pr HO.out.1.id HO.out.1.fl hi0 (by have := HO.out.2; omega))
          subst k0
          go_wp2_with fail
          refine HP.out.mono ?_
          rintro e w3 ⟨rfl, bk, Own3, hQ3, m3⟩
          have H3 := Lib.hid (show OnMid w w3 h many (k + 1) xk x from ⟨_, _, _, HX.out.mv hQ3 m3, by have := putS_len many L x.pr x.id x.fl 0 bk; have := HO.out.2; omega, fun e => by have := EK.out; omega⟩)
          clear hQ3 m3
          go_wp2_with fail
          go_meet
          case rel => exact ⟨rfl, H3.out⟩
        have n0 : (kd == 0) = false := by simpa using k0
        by_cases k1 : kd = 1
        · have HP := Lib.hid (cut_any HX.out.q HO.out.1.id)
          subst k1
          clear k0
          go_wp2_with fail
          refine HP.out.mono ?_
          rintro e w3 ⟨rfl, Own3, hQ3, m3⟩
          have H3 := Lib.hid (show OnMid w w3 h many (k + 1) xk x from ⟨_, _, _, HX.out.mv hQ3 m3, by have := cutL_len L x.id; have := HO.out.2; omega, fun e => cut_gone _ _⟩)
          clear hQ3 m3
          go_wp2_with fail
          go_meet
          case rel => exact ⟨rfl, H3.out⟩
        have n1 : (kd == 1) = false := by simpa using k1
        by_cases k2 : kd = 2
        · have HP := Lib.hid (move_any HX.out.q (p := x.pr) HO.out.1.id)
          subst k2
          clear k0 k1
          go_wp2_with fail
          refine HP.out.mono ?_
          rintro e w3 ⟨rfl, Own3, hQ3, m3⟩
          have H3 := Lib.hid (show OnMid w w3 h many (k + 1) xk x from ⟨_, _, _, HX.out.mv hQ3 m3, by have := moveS_len many L x.id x.pr; have := HO.out.2; omega, fun e => by have := EK.out; omega⟩)
          clear hQ3 m3
          go_wp2_with fail
          go_meet
          case rel => exact ⟨rfl, H3.out⟩
        have n2 : (kd == 2) = false := by simpa using k2
        by_cases k3 : kd = 3
        · have HP := Lib.hid (batch_any HX.out.q)
          subst k3
          clear k0 k1 k2
          go_wp2_with fail
          refine HP.out.mono ?_
          rintro e w3 ⟨v, rfl, hrow, Own3, hQ3, m3, hap⟩
          have H3 := Lib.hid (show OnMid w w3 h many (k + 1) xk x from ⟨_, _, _, HX.out.mv hQ3 m3, by have := restL_len L; have := HO.out.2; omega, fun e => by have := EK.out; omega⟩)
          clear hQ3 m3 hrow hap
          go_wp2_with fail
          go_meet
          case rel => exact ⟨rfl, H3.out⟩
        · have n3 : (kd == 3) = false := by simpa using k3
          have H3 := Lib.hid (show OnMid w W h many (k + 1) xk x from ⟨_, _, _, HX.out, by have := HO.out.2; omega, fun e => absurd (EK.out.trans e) k1⟩)
          clear k0 k1 k2 k3
          go_wp2_with fail
          go_meet
          case rel => exact ⟨rfl, H3.out⟩
      case rest =>
        clear c0 c1 c2 c3 c4 cl
        obtain ⟨rfl, B', Own', L', hX', hl', hg'⟩ := hcut
        have HF := Lib.hid (And.intro hl' hg')
        have HY := Lib.hid hX'
        clear hX' hl' hg' HX EW x0 x1 x2 x3 x4
        go_wp2_with fail
        go_loopw [10, 11, 12] (fun n i p wr => ∃ q : Nat, p = .int .i64 (q : Int) ∧ q ≤ many ∧ n = .int .i64 ((byP L' q).length : Int) ∧ i = .int .i64 (cnt (byP L' q) x.id : Int) ∧ QX w wr B' h Own' many L' xk x) (fun _ _ p _ => many - (intOf p).toNat)
        case atStart => exact ⟨0, rfl, Nat.zero_le _, rfl, rfl, HY.out⟩
        case round =>
          obtain ⟨q, rfl, hq, rfl, rfl, hX⟩ := hrel
          by_cases hqm : q < many
          · have HP := Lib.hid (list_any hX.q (q : Int))
            rw [listP_of hqm] at HP
            have HX := Lib.hid hX
            have hs : (byP L' q).length + (ofP L' q).length ≤ 101 := by
              rw [← byP_succ_len, (byP_perm (L := L') (q + 1)).length_eq]
              exact Nat.le_trans (List.length_filter_le _ _) (by have := HF.out.1; omega)
            have hc := cnt_le (byP L' q) x.id
            obtain ⟨n1, en1⟩ : ∃ n, n = (byP L' q).length := ⟨_, rfl⟩
            obtain ⟨n2, en2⟩ : ∃ n, n = (ofP L' q).length := ⟨_, rfl⟩
            obtain ⟨i1, ei1⟩ : ∃ n, n = cnt (byP L' q) x.id := ⟨_, rfl⟩
            rw [← en1, ← en2] at hs
            rw [← en1, ← ei1] at hc
            rw [← en1, ← ei1]
            have EN := Lib.hid (And.intro en1 (And.intro en2 ei1))
            have hq0 : (q : Int) < (many : Int) := by omega
            clear hX en1 en2 ei1
            go_wp2_with fail
            refine HP.out.mono ?_
            rintro e w3 ⟨v, rfl, hrow, hbel⟩
            obtain ⟨A3, c3, ev⟩ := hrow.len_at
            rw [← EN.out.2.1] at ev
            subst ev
            have H3 := Lib.hid (And.intro (HX.out.below hbel) hrow)
            clear hrow hbel
            go_wp2_with fail
            obtain ⟨wo, ewo⟩ : ∃ wo, wo = wr.heap.size := ⟨_, rfl⟩
            rw [← ewo] at H3
            clear ewo
            go_loopw [11, 14] (fun i jj wr => ∃ j : Nat, jj = .int .i64 (j : Int) ∧ j ≤ n2 ∧ i = .int .i64 ((i1 + cnt ((ofP L' q).take j) x.id : Nat) : Int) ∧ QX w wr B' h Own' many L' xk x ∧ OwnI wr wo (.slice A3 n2 c3) (ofP L' q)) (fun _ jj _ => n2 - (intOf jj).toNat)
            case atStart => exact ⟨0, rfl, Nat.zero_le _, rfl, H3.out⟩
            case round =>
              obtain ⟨j, rfl, hj, rfl, hX3, hrow⟩ := hrel
              by_cases hlj : j < n2
              · obtain ⟨A', c', e', hform⟩ := hrow.form
                injection e' with eA en ec
                clear en
                subst eA; subst ec
                obtain ⟨g2, rfl, hg2, hob, hcell⟩ := hform (by have := EN.out.2.1; omega)
                obtain ⟨y, hy⟩ : ∃ y, (ofP L' q)[j]? = some y := ⟨_, List.getElem?_eq_getElem (by have := EN.out.2.1; omega)⟩
                have y0 := (hcell j y hy).1
                obtain ⟨-, -, c2, -, -, cl⟩ := hX3.cells
                have htk := cnt_take hy x.id
                have hct := cnt_le ((ofP L' q).take j) x.id
                have hct2 := List.length_take_le j (ofP L' q)
                obtain ⟨i2, ei2⟩ : ∃ n, n = cnt ((ofP L' q).take j) x.id := ⟨_, rfl⟩
                rw [← ei2] at htk hct ⊢
                have HE := Lib.hid (And.intro hX3 (And.intro hrow htk))
                have hi : i1 + i2 ≤ 1000 := by omega
                have b0 : (0 : Int) ≤ (j : Int) := by omega
                have b1 : (j : Int) < (n2 : Int) := by omega
                clear hX3 hrow htk hcell hy hob hform ei2 hct hct2
                go_wp2_with fail
                go_region
                go_wp2_with fail
                · rename_i hyx
                  obtain ⟨hX3, hrow, htk⟩ := HE.out
                  refine ⟨⟨j + 1, by go_num, by omega, ?_, hX3.drew, hrow.below (Below.refl _ wr).drew⟩, by simp [intOf]; omega⟩
                  rw [htk, if_pos (by simpa using hyx)]
                  push_cast
                  congr 1
                · rename_i hyx
                  obtain ⟨hX3, hrow, htk⟩ := HE.out
                  refine ⟨⟨j + 1, by go_num, by omega, ?_, hX3.drew, hrow.below (Below.refl _ wr).drew⟩, by simp [intOf]; omega⟩
                  rw [htk, if_neg (by simpa using hyx)]
                  rfl
              · obtain rfl : j = n2 := by omega
                have ht : cnt ((ofP L' q).take j) x.id = cnt (ofP L' q) x.id := by rw [EN.out.2.1, List.take_length]
                have ha := cnt_append (byP L' q) (ofP L' q) x.id
                have hb2 := byP_succ_len L' q
                rw [← byP_succ] at ha
                rw [ht]
                have HE := Lib.hid (And.intro hX3 (And.intro ha hb2))
                have b1 : ¬ ((j : Int) < (j : Int)) := by omega
                clear hX3 hrow ht ha hb2
                go_wp2_with fail
                go_roundw
                case rel =>
                  refine ⟨q + 1, by go_num, by omega, ?_, ?_, HE.out.1⟩
                  · rw [HE.out.2.2, ← EN.out.1, ← EN.out.2.1]; rfl
                  · rw [HE.out.2.1, ← EN.out.2.2]
                case measure => simp [intOf]; omega
          · obtain rfl : q = many := by omega
            have hp := byP_all (L := L') (many := q) (fun x hx => (hX.q.facts.2.1 x hx).pr)
            rw [hp.length_eq, cnt_perm hp, cnt_ids hX.q.facts.2.2.1]
            have HP := Lib.hid (has_any hX.q HO.out.1.id)
            have HX := Lib.hid hX
            have HG := Lib.hid HF.out.2
            obtain ⟨-, -, c2, -, -, cl⟩ := hX.cells
            have b1 : ¬ ((q : Int) < (q : Int)) := by omega
            clear hp hX
            cases hh : hasI L' x.id with
            | true =>
              have hk1 : (x.k == 1) = false := by rw [beq_eq_false_iff_ne]; intro e; have := HG.out e; rw [hh] at this; cases this
              rw [hh] at HP
              go_wp2_with fail
              refine HP.out.mono ?_
              rintro e w4 ⟨rfl, hb4⟩
              have H4 := Lib.hid ((HX.out.below hb4).alloc (.cells #[.int .i64 (hasX L' x.id).id, .int .i64 (hasX L' x.id).fl, .int .i64 (hasX L' x.id).ct] 44))
              clear hb4
              obtain ⟨c0, -, -, -, -, cl⟩ := H4.out.cells
              have hL := Lib.hid (len_any H4.out.q)
              go_wp2_with (go_at_call 21; refine hL.out.mono ?_; rintro e w' ⟨rfl, rfl⟩)
              all_goals exact ⟨⟨k + 1, by go_num, by omega, _, _, _, H4.out.q, H4.out.b, H4.out.hB, HF.out.1⟩, by simp [intOf]; omega⟩
            | false =>
              rw [hh] at HP
              go_wp2_with fail
              refine HP.out.mono ?_
              rintro e w4 ⟨rfl, hb4⟩
              have H4 := Lib.hid ((HX.out.below hb4).alloc (.cells #[.int .i64 (hasX L' x.id).id, .int .i64 (hasX L' x.id).fl, .int .i64 (hasX L' x.id).ct] 44))
              clear hb4
              obtain ⟨c0, -, -, -, -, cl⟩ := H4.out.cells
              have hL := Lib.hid (len_any H4.out.q)
              go_wp2_with (go_at_call 21; refine hL.out.mono ?_; rintro e w' ⟨rfl, rfl⟩)
              all_goals exact ⟨⟨k + 1, by go_num, by omega, _, _, _, H4.out.q, H4.out.b, H4.out.hB, HF.out.1⟩, by simp [intOf]; omega⟩
    · obtain rfl : k = l.length := by omega
      have b1 : ¬ ((l.length : Int) < (l.length : Int)) := by omega
      have HB := Lib.hid hb
      clear hQ hb
      go_wp2_with fail
      go_ret
      exact ⟨rfl, HB.out⟩

set_option maxHeartbeats 4000000 in
set_option maxRecDepth 100000 in
theorem once_out (w : World) (A : Option Addr) (n c : Nat) (m : Int) (h : (m < 1 ∨ 8 < m) ∨ 100 < n) : Calls Try.prog 5 #[.int .i64 m, .slice A n c] w fun e w' => e = .returned (.bool true) ∧ Below w.heap.size w w' := by
  by_cases h1 : m < 1
  · go_enter Try.func5, Try.ntmps5
    go_wp2_with fail
    refine (alive_any w).mono ?_
    rintro e w1 ⟨rfl, hb1⟩
    go_wp2_with fail
    go_ret
    exact ⟨rfl, hb1⟩
  by_cases h2 : 8 < m
  · go_enter Try.func5, Try.ntmps5
    go_wp2_with fail
    refine (alive_any w).mono ?_
    rintro e w1 ⟨rfl, hb1⟩
    go_wp2_with fail
    go_ret
    exact ⟨rfl, hb1⟩
  · have h3 : (100 : Int) < (n : Int) := by omega
    go_enter Try.func5, Try.ntmps5
    go_wp2_with fail
    refine (alive_any w).mono ?_
    rintro e w1 ⟨rfl, hb1⟩
    go_wp2_with fail
    go_ret
    exact ⟨rfl, hb1⟩

theorem once_law (w : World) (A : Option Addr) (c : Nat) (l : List Cal) (m : Int) (hA : ArgOps w A l) :
    Calls Try.prog 5 #[.int .i64 m, .slice A l.length c] w fun e w' => e = .returned (.bool true) ∧ Below w.heap.size w w' := by
  by_cases h : (m < 1 ∨ 8 < m) ∨ 100 < l.length
  · exact once_out w A l.length c m h
  · obtain ⟨k, rfl⟩ : ∃ k : Nat, m = (k : Int) := ⟨m.toNat, by omega⟩
    exact once_any w A c k l (by omega) (by omega) hA
