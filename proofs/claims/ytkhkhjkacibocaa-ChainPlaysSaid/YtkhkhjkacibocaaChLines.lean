/-
  ChainLines.
-/
import Derived.Test.YtkhkhjkacibocaaChAheadL
namespace Go.Proofs.Ytkhkhjkacibocaa
open Go.RowKit Go.Shelf Go.Maps Go.ChangeMaps

theorem strOfNums_append (xs ys : List Int) : strOfNums xs ++ strOfNums ys = strOfNums (xs ++ ys) := by
  apply ByteArray.ext
  rw [ByteArray.data_append]
  simp [strOfNums]
theorem occ_ten {B : List Int} {j : Nat} : Occ B [10] j ↔ B[j]? = some 10 := by
  unfold Occ
  rw [show ([10] : List Int).length = 1 from rfl, List.take_one, List.head?_drop]
  cases h : B[j]? with
  | none => simp
  | some z => simp
theorem ten_split {B : List Int} {j : Nat} (h : B[j]? = some 10) : B.take j ++ [10] ++ B.drop (j + 1) = B := by
  obtain ⟨hj, e⟩ := List.getElem?_eq_some_iff.1 h
  rw [List.append_assoc, List.singleton_append, ← e, List.getElem_cons_drop, List.take_append_drop]
theorem src_lit (w : World) (zs : List Int) (mk : Nat × Nat) (hl : zs.length ≤ 9223372036854775807) : Src (w.alloc (.cells (encB zs).toArray 5 mk)) No2 (some ⟨w.heap.size, 0, none⟩) zs.length zs.length zs :=
  ⟨rfl, Nat.le_refl _, hl, (fun e => by cases e), (fun a e _ => by cases e; rfl), fun _ => ⟨w.heap.size, 0, rfl, by simp, fun i z hz => ⟨fun e => e, by
    have hb : (w.alloc (.cells (encB zs).toArray 5 mk)).heap[w.heap.size]? = some (.cells (encB zs).toArray 5 mk) := World.alloc_heap_new w _
    rw [Nat.zero_add, cell_of_row _ _ _ _ _ _ hb]
    simp [encB, hz]⟩⟩⟩

/-- While lines are taken. -/
structure LnI (w0 : World) (c : Nat) (v : Value) (ps : List Ps) (zs rest gb : List Int) (L : List Lk) (wr : World) : Prop where
  ov : OvI w0 c L v ps (flat L) wr
  all : gb ++ flat L ++ rest = zs
section
variable {w0 wr w1 : World} {c : Nat} {L L' : List Lk} {v : Value} {ps : List Ps} {zs rest gb xs : List Int}
theorem LnI.kept (h : LnI w0 c v ps zs rest gb L wr) (k : Kept (fun _ => False) wr w1) : LnI w0 c v ps zs rest gb L w1 := by
  obtain ⟨B, ho⟩ := h.ov.own
  exact ⟨⟨h.ov.cc.kept k, rfl, ⟨B, RowK.own_same ho fun i e => k.block i (RowK.own_lt ho e).1 (fun e => e)⟩, h.ov.ap, law_quiet h.ov.bel h.ov.cc.base k⟩, h.all⟩
theorem LnI.line {j : Nat} (h : LnI w0 c v ps zs rest gb L wr) (hj : (flat L)[j]? = some 10) (hc : Cn w1 w0.heap.size 29 c L') (hf : flat L' = (flat L).drop (j + 1)) (m : Mc wr w1 (Fc c L) (Fc c L')) :
    LnI w0 c v ps zs rest (gb ++ (flat L).take j ++ [10]) L' w1 :=
  ⟨h.ov.step hc rfl m, by rw [← h.all, hf, List.append_assoc gb, List.append_assoc gb, ten_split hj]⟩
end

set_option maxRecDepth 100000 in
set_option maxHeartbeats 8000000 in
theorem lines_main (w : World) {A A2 : Option Addr} {n c m c2 : Nat} {zs xs : List Int} (hb : Src w No2 A n c zs) (ha : Src w No2 A2 m c2 xs) (hx : Byt xs) (hn : n ≤ 3000) (hm : m ≤ 300) :
    Calls Try.prog 7 #[.slice A n c, .slice A2 m c2] w fun e w' => e = .returned (.bool true) ∧ Below w.heap.size w w' := by
  have b1 : decide ((3000 : Int) < (n : Int)) = false := by simp; omega
  have b2 : decide ((300 : Int) < (m : Int)) = false := by simp; omega
  have hzl := hb.len
  obtain ⟨T, hT⟩ : ∃ T, strOfNums zs = T := ⟨_, rfl⟩
  have HB := Lib.hid (fun W (hW : Below w.heap.size w W) => hT ▸ (hb.below (D := No2) hW (fun _ _ e => e.elim)).str)
  have HA := Lib.hid (And.intro hb (And.intro ha (And.intro hx (And.intro hn hm))))
  have HT := Lib.hid (And.intro hT hzl)
  clear hb ha hx hT hzl
  go_enter Try.func7, Try.ntmps7
  go_wp2_with (go_at_call 24; refine (alive_any _).mono ?_; rintro e w0 ⟨rfl, hb0⟩; have HB0 := Lib.hid hb0; clear hb0)
  have cn0 := (cn_new w0).more HB0.out.size
  have hbV := HB0.out.alloc HB0.out.size (.cells #[.pointer none, .pointer none, .int .i64 0] 29)
  obtain ⟨V, hV⟩ : ∃ V, V = w0.alloc (.cells #[.pointer none, .pointer none, .int .i64 0] 29) := ⟨_, rfl⟩
  rw [← hV] at cn0 hbV ⊢
  obtain ⟨ca, hca⟩ : ∃ x, x = w0.heap.size := ⟨_, rfl⟩
  rw [← hca] at cn0 ⊢
  refine (cutl_any HA.out.1 (HA.out.2.1.below hbV (fun _ _ e => e.elim)) HA.out.2.2.1 HA.out.2.2.2.2).mono ?_
  rintro e w3 ⟨v, ps, rfl, h1, h2, h3, h4, h5⟩
  have hap : ∀ k i, Fc ca [] k i → v.ownBlock ≠ some k := fun k i hf e => by
    have h6 := (RowK.own_lt h1 e).2
    have := cn0.lt hf; omega
  have hk3 : Kept (fun _ => False) V w3 := ⟨h5.os, h5.tape, h5.output, h5.size, fun k hk _ => h5.block k hk⟩
  have H3 := Lib.hid (show LnI w ca v ps zs (gps (ps.drop 0)) [] [] w3 from ⟨⟨cn0.kept hk3, rfl, ⟨_, h1⟩, hap, hbV.trans (h5.mono hbV.size)⟩, by rw [List.drop_zero, h3]; rfl⟩)
  have HP := Lib.hid (And.intro h2 (And.intro h3 h4))
  obtain ⟨Ap, cp, rfl, hsh, _, hcp⟩ := RowK.own_shows h1
  have HS := Lib.hid hcp
  have kb : (ps.length : Int) ≤ 301 := by omega
  clear h1 h2 h3 h4 h5 cn0 hbV hV hca hap hk3 hsh hcp
  go_wp2_with fail
  go_loopw [34, 7] (fun i s wr => ∃ (k : Nat) (L : List Lk) (gb : List Int), i = .int .i64 (k : Int) ∧ s = .string (strOfNums gb) ∧ k ≤ ps.length ∧ LnI w ca (.slice Ap ps.length cp) ps zs (gps (ps.drop k)) gb L wr ∧ FindR (flat L) [10] 0 none) (fun i _ _ => ps.length - (intOf i).toNat)
  case atStart => exact ⟨0, [], [], rfl, rfl, by omega, H3.out, fun i _ ho => by rw [occ_ten] at ho; simp [flat] at ho⟩
  case round =>
    obtain ⟨k, L, gb, rfl, rfl, hk, hM, hno⟩ := hrel
    by_cases hlt : k < ps.length
    · obtain ⟨B0, ho⟩ := hM.ov.own
      obtain ⟨A1, c1, e1, hsh, _, _⟩ := RowK.own_shows ho
      cases e1
      obtain ⟨g, off, rfl, hg, hl⟩ := hsh (by omega)
      obtain ⟨p, hp⟩ : ∃ p, ps[k]? = some p := ⟨_, List.getElem?_eq_getElem hlt⟩
      have cz := hl k p hp 0 (by decide)
      rw [show off + (k * RP.n + 0) = off + k by simp [RP]] at cz
      replace cz : wr.cell? ⟨g, off + k, none⟩ = some (.slice p.A p.n p.c) := cz
      have hpo := HP.out.1 p (List.mem_of_getElem? hp)
      have hpl := hpo.len
      have hall := hM.all
      rw [gps_drop hp] at hall
      have hlen : p.n + (flat L).length ≤ 3000 := by
        have e1 := congrArg List.length hall
        rw [List.length_append, List.length_append, List.length_append, HT.out.2] at e1
        have := HA.out.2.2.2.1
        omega
      have HAd := Lib.hid (add_yes hM.ov.cc (hM.ov.src hpo) (by omega))
      have HM := Lib.hid (And.intro hM (And.intro hall (And.intro hp hlt)))
      have d1 : (k : Int) < (ps.length : Int) := by omega
      clear hM hp hk ho hsh hl hpo hlen hno hpl hall hlt
      go_wp2_with fail
      refine HAd.out.mono ?_
      rintro e w4 ⟨rfl, L', g1, g2, g3⟩
      have HE := Lib.hid (show LnI w ca (.slice (some ⟨g, off, none⟩) ps.length cp) ps zs (gps (ps.drop (k + 1))) gb L' w4 from ⟨HM.out.1.ov.step g1 rfl g3, by rw [g2, ← List.append_assoc]; have := HM.out.2.1; rw [← List.append_assoc] at this; exact this⟩)
      clear g1 g2 g3
      go_wp2_with fail
      go_loopw [10, 7] (fun i s wr => ∃ (k2 : Nat) (L : List Lk) (gb : List Int), i = .int .i64 (k2 : Int) ∧ s = .string (strOfNums gb) ∧ (flat L).length + k2 ≤ n ∧ LnI w ca (.slice (some ⟨g, off, none⟩) ps.length cp) ps zs (gps (ps.drop (k + 1))) gb L wr) (fun i _ _ => n + 1 - (intOf i).toNat)
      case atStart => exact ⟨0, L', gb, rfl, rfl, by
        have e1 := congrArg List.length HE.out.all
        rw [List.length_append, List.length_append, HT.out.2] at e1
        omega, HE.out⟩
      case round =>
        obtain ⟨k2, L2, gb2, rfl, rfl, hle, hN⟩ := hrel
        have HLn := Lib.hid (line_any hN.ov.cc)
        have HN := Lib.hid (And.intro hN hle)
        have d2 : (k2 : Int) ≤ (n : Int) := by omega
        have kb2 : (n : Int) ≤ 3000 := by omega
        clear hN hle
        go_wp2_with fail
        refine HLn.out.mono ?_
        rintro e w5 ⟨r, hr, hR⟩
        cases r with
        | none =>
          obtain ⟨rfl, _, k5⟩ := hR
          have H5 := Lib.hid (And.intro (HN.out.1.kept k5) hr)
          clear hr k5
          go_wp2_with fail
          refine ⟨⟨k + 1, L2, gb2, by go_num, rfl, HM.out.2.2.2, H5.out.1, H5.out.2⟩, by have := HM.out.2.2.2; simp [intOf]; omega⟩
        | some j =>
          obtain ⟨vl, rfl, hrow, L3, g1, g2, g3⟩ := hR
          have h10 := occ_ten.1 hr.2.1
          have hjl := (List.getElem?_eq_some_iff.1 h10).1
          have hlj : ((flat L2).take j).length = j := by rw [List.length_take]; omega
          have hle := HN.out.2
          have e3 := congrArg List.length HN.out.1.all
          rw [List.length_append, List.length_append, HT.out.2] at e3
          obtain ⟨Al, rfl, hsl⟩ := hrow.src (D := No2) (by omega) (fun _ _ e => e.elim)
          rw [hlj] at hsl ⊢
          have hcv := hsl.str
          obtain ⟨G, hG⟩ : ∃ G, strOfNums gb2 = G := ⟨_, rfl⟩
          obtain ⟨T1, hT1⟩ : ∃ G, strOfNums ((flat L2).take j) = G := ⟨_, rfl⟩
          have z1 : G.size = gb2.length := by rw [← hG, strOfNums_size]
          have z2 : T1.size = j := by rw [← hT1, strOfNums_size, hlj]
          have sG : G ++ T1 ++ ⟨#[10]⟩ = strOfNums (gb2 ++ (flat L2).take j ++ [10]) := by
            rw [← strOfNums_append, ← strOfNums_append, hG, hT1]; rfl
          rw [hT1] at hcv
          rw [hG]
          have hnb : ¬ 9223372036854775807 < G.size + T1.size := by omega
          have hsb : G.size + T1.size ≤ 9223372036854775807 := by omega
          have hnb2 : ¬ 9223372036854775807 < (G ++ T1).size + 1 := by rw [ByteArray.size_append]; omega
          have hsb2 : (G ++ T1).size + 1 ≤ 9223372036854775807 := by rw [ByteArray.size_append]; omega
          have hnb3 : ¬ 9223372036854775807 < G.size + T1.size + 1 := by omega
          have hsb3 : G.size + T1.size + 1 ≤ 9223372036854775807 := by omega
          have kj : (j : Int) ≤ 3000 := by omega
          have HE2 := Lib.hid (show LnI w ca (.slice (some ⟨g, off, none⟩) ps.length cp) ps zs (gps (ps.drop (k + 1))) (gb2 ++ (flat L2).take j ++ [10]) L3 w5 from HN.out.1.line h10 g1 g2 g3)
          have HQ := Lib.hid (And.intro hsl (And.intro hr.2.2 (And.intro hlj (And.intro sG (show (flat L3).length + (k2 + 1) ≤ n by rw [g2, List.length_drop]; omega)))))
          clear h10 hjl hlj hrow hsl g1 g2 g3 hr hG hT1 z1 z2 sG e3 hle
          go_wp2_with fail
          go_loop [54] (fun i => ∃ q : Nat, q ≤ j ∧ i = .int .i64 (q : Int)) (fun i => j - (intOf i).toNat)
          case atStart => exact ⟨0, by omega, rfl⟩
          case round =>
            obtain ⟨q, hq, rfl⟩ := hrel
            by_cases hqj : q < j
            · obtain ⟨hsl, hno, hlj, _, _⟩ := HQ.out
              obtain ⟨bl, ol, rfl, hbl, hcl⟩ := hsl.at_ (by omega)
              obtain ⟨z, hz⟩ : ∃ z, ((flat L2).take j)[q]? = some z := ⟨_, List.getElem?_eq_getElem (by omega)⟩
              have cl := (hcl q z hz).2
              have hz10 : ¬ z = 10 := fun e => hno q (by omega) hqj (occ_ten.2 (by rw [List.getElem?_take, if_pos hqj] at hz; rw [hz, e]))
              have f1 : (z == 10) = false := by simpa using hz10
              have f2 : decide (z = 10) = false := by simpa using hz10
              have f3 : (q : Int) < (j : Int) := by omega
              have HJ := Lib.hid hqj
              clear hsl hno hlj hcl hz hqj
              go_wp2_with fail
              refine ⟨⟨q + 1, HJ.out, by go_num⟩, by have := HJ.out; simp [intOf]; omega⟩
            · obtain rfl : q = j := by omega
              have f3 : ¬ ((q : Int) < (q : Int)) := by omega
              clear hqj
              go_wp2_with fail
              refine ⟨⟨k2 + 1, L3, _, by go_num, by rw [HQ.out.2.2.2.1], HQ.out.2.2.2.2, HE2.out⟩, by simp [intOf]; omega⟩
    · obtain rfl : k = ps.length := by omega
      have hcn := hM.ov.cc
      have hbel := hM.ov.bel
      have hall : gb ++ flat L = zs := by
        have := hM.all
        rwa [List.drop_length, show gps ([] : List Ps) = [] from rfl, List.append_nil] at this
      have hFi : ∀ r, FindA (flat L) [10] 0 r → r = none := fun r h => by
        unfold FindA at h
        rw [if_neg (by omega), if_neg (by simp)] at h
        exact h.unique hno
      have e3 := congrArg List.length hall
      rw [List.length_append, HT.out.2] at e3
      have HFn := Lib.hid (find_any (hcn.kept ((Kept.refl _ wr).alloc (.cells (encB [10]).toArray 5 (0, 0)))) (src_lit wr [10] (0, 0) (by decide)) 0 (by omega))
      have HX := Lib.hid (And.intro hcn (And.intro hbel hFi))
      obtain ⟨S7, hS7⟩ : ∃ S, strOfNums gb = S := ⟨_, rfl⟩
      obtain ⟨T9, hT9⟩ : ∃ S, strOfNums (flat L) = S := ⟨_, rfl⟩
      have hST : S7 ++ T9 = T := by rw [← hS7, ← hT9, strOfNums_append, hall, HT.out.1]
      have z1 : S7.size = gb.length := by rw [← hS7, strOfNums_size]
      have z2 : T9.size = (flat L).length := by rw [← hT9, strOfNums_size]
      have hnb : ¬ 9223372036854775807 < S7.size + T9.size := by omega
      have hsb : S7.size + T9.size ≤ 9223372036854775807 := by omega
      have HTk := Lib.hid (show ∀ W, Cn W w.heap.size 29 ca L → Below w.heap.size w W → Calls Try.prog 25 #[.pointer (some ⟨ca, 0, none⟩), .int .i64 (n : Int)] W fun e w' => ∃ v, e = .returned v ∧ (convert 31 9 v).run Try.prog w' = .ok (.string T9) w' ∧ Below w.heap.size w w' from fun W h hW => by
        refine (take_any h (n : Int) (by omega)).mono ?_
        rintro e2 w' ⟨v, rfl, h1, L', h2, h3, h4, _⟩
        rw [show ((n : Int)).toNat = n from rfl, List.take_of_length_le (by omega)] at h1
        exact ⟨v, rfl, hT9 ▸ rowB_str h1 (by omega), law_step h hW h4⟩)
      rw [hS7]
      have d1 : ¬ ((ps.length : Int) < (ps.length : Int)) := by omega
      clear hM hcn hbel hall hFi hno hlt hk hS7 hT9 z1 z2 e3
      go_wp2_with fail
      refine HFn.out.mono ?_
      rintro e w6 ⟨r, rfl, hr, k6⟩
      obtain rfl := HX.out.2.2 r hr
      unfold ansF
      have k6' := ((Kept.refl (fun _ => False) wr).alloc (.cells (encB [10]).toArray 5 (0, 0))).trans k6
      have H7 := Lib.hid (And.intro (HX.out.1.kept k6') (law_quiet HX.out.2.1 HX.out.1.base k6'))
      have HC := Lib.hid (HB.out w6.drew H7.out.2.drew)
      clear hr k6 k6'
      go_wp2_with fail
      refine wp_region_held_drew (S := (fun W => (convert 31 9 (.slice A n c)).run Try.prog W = .ok (.string T) W)) (by kernel_rfl) HC.out (fun hHeld => ?_)
      refine wpAnyH_take (i := 0) (oi := { dst := some 74, op := Op.move (Operand.tmp 5), type := 4, pos := "outright.go:163", after := #[], guard := none }) (v := .bool true) rfl (by kernel_rfl) (by kernel_rfl) (by kernel_rfl) (fun _ _ _ h => h) (Or.inl ⟨by rfl, by intro w hSw; (try dsimp only at hSw); go_simp⟩) (by assumption) ?_
      try simp only [Act.put, List.setIfInBounds_toArray, List.set_cons_zero, List.set_cons_succ]
      refine wpAnyH_take (i := 1) (oi := { dst := some 75, op := Op.move (Operand.tmp 74), type := 4, pos := "outright.go:163", after := #[{ on := 0, ground := Ground.data }], guard := none }) (v := .bool true) rfl (by kernel_rfl) (by kernel_rfl) (by kernel_rfl) (fun _ _ _ h => h) (Or.inl ⟨by rfl, by intro w hSw; (try dsimp only at hSw); go_simp⟩) (by assumption) ?_
      try simp only [Act.put, List.setIfInBounds_toArray, List.set_cons_zero, List.set_cons_succ]
      refine wpAnyH_take (i := 2) (oi := { dst := some 76, op := Op.move (Operand.tmp 15), type := 4, pos := "outright.go:163", after := #[{ on := 1, ground := Ground.guard }], guard := some (1, true) }) (v := .bool false) rfl (by kernel_rfl) (by kernel_rfl) (by kernel_rfl) (fun _ _ _ h => h) (Or.inl ⟨by rfl, by intro w hSw; (try dsimp only at hSw); go_simp⟩) (by assumption) ?_
      try simp only [Act.put, List.setIfInBounds_toArray, List.set_cons_zero, List.set_cons_succ]
      refine wpAnyH_take (i := 3) (oi := { dst := some 77, op := Op.unOp UnOp.not 4 (Operand.tmp 76), type := 4, pos := "outright.go:163", after := #[{ on := 2, ground := Ground.data }, { on := 1, ground := Ground.guard }], guard := some (1, true) }) (v := .bool true) rfl (by kernel_rfl) (by kernel_rfl) (by kernel_rfl) (fun _ _ _ h => h) (Or.inl ⟨by rfl, by intro w hSw; (try dsimp only at hSw); go_simp⟩) (by assumption) ?_
      try simp only [Act.put, List.setIfInBounds_toArray, List.set_cons_zero, List.set_cons_succ]
      refine wpAnyH_take (i := 4) (oi := { dst := some 78, op := Op.pick (Operand.tmp 75) (Operand.tmp 77) (Operand.const (Value.bool false)), type := 4, pos := "outright.go:163", after := #[{ on := 1, ground := Ground.data }, { on := 3, ground := Ground.data }], guard := none }) (v := .bool true) rfl (by kernel_rfl) (by kernel_rfl) (by kernel_rfl) (fun _ _ _ h => h) (Or.inl ⟨by rfl, by intro w hSw; (try dsimp only at hSw); go_simp⟩) (by assumption) ?_
      try simp only [Act.put, List.setIfInBounds_toArray, List.set_cons_zero, List.set_cons_succ]
      refine wpAnyH_take (i := 5) (oi := { dst := some 79, op := Op.move (Operand.tmp 78), type := 4, pos := "outright.go:163", after := #[{ on := 4, ground := Ground.data }, { on := 1, ground := Ground.chain }], guard := none }) (v := .bool true) rfl (by kernel_rfl) (by kernel_rfl) (by kernel_rfl) (fun _ _ _ h => h) (Or.inl ⟨by rfl, by intro w hSw; (try dsimp only at hSw); go_simp⟩) (by assumption) ?_
      try simp only [Act.put, List.setIfInBounds_toArray, List.set_cons_zero, List.set_cons_succ]
      refine wpAnyH_take (i := 6) (oi := { dst := some 80, op := Op.move (Operand.tmp 7), type := 9, pos := "outright.go:163", after := #[{ on := 5, ground := Ground.guard }], guard := some (5, true) }) (v := .string S7) rfl (by kernel_rfl) (by kernel_rfl) (by kernel_rfl) (fun _ _ _ h => h) (Or.inl ⟨by rfl, by intro w hSw; (try dsimp only at hSw); go_simp⟩) (by assumption) ?_
      try simp only [Act.put, List.setIfInBounds_toArray, List.set_cons_zero, List.set_cons_succ]
      refine wpAnyH_take (i := 7) (oi := { dst := some 81, op := Op.move (Operand.tmp 0), type := 31, pos := "outright.go:163", after := #[{ on := 5, ground := Ground.guard }], guard := some (5, true) }) (v := .slice A n c) rfl (by kernel_rfl) (by kernel_rfl) (by kernel_rfl) (fun _ _ _ h => h) (Or.inl ⟨by rfl, by intro w hSw; (try dsimp only at hSw); go_simp⟩) (by assumption) ?_
      try simp only [Act.put, List.setIfInBounds_toArray, List.set_cons_zero, List.set_cons_succ]
      refine wpAnyH_take (i := 8) (oi := { dst := some 82, op := Op.call { callee := Callee.builtin Builtin.len, args := #[Operand.tmp 81], argTypes := #[31] }, type := 3, pos := "outright.go:163", after := #[{ on := 7, ground := Ground.data }, { on := 5, ground := Ground.guard }], guard := some (5, true) }) (v := .int .i64 (n : Int)) rfl (by kernel_rfl) (by kernel_rfl) (by kernel_rfl) (fun _ _ _ h => h) (Or.inl ⟨by rfl, by intro w hSw; (try dsimp only at hSw); go_simp⟩) (by assumption) ?_
      try simp only [Act.put, List.setIfInBounds_toArray, List.set_cons_zero, List.set_cons_succ]
      refine wpAnyH_take (i := 12) (oi := { dst := some 86, op := Op.move (Operand.tmp 0), type := 31, pos := "outright.go:163", after := #[{ on := 5, ground := Ground.guard }], guard := some (5, true) }) (v := .slice A n c) rfl (by kernel_rfl) (by kernel_rfl) (by kernel_rfl) (fun _ _ _ h => h) (Or.inl ⟨by rfl, by intro w hSw; (try dsimp only at hSw); go_simp⟩) (by assumption) ?_
      try simp only [Act.put, List.setIfInBounds_toArray, List.set_cons_zero, List.set_cons_succ]
      refine wpAnyH_take (i := 13) (oi := { dst := some 87, op := Op.convert 31 9 (Operand.tmp 86), type := 9, pos := "outright.go:163", after := #[{ on := 12, ground := Ground.data }, { on := 5, ground := Ground.guard }], guard := some (5, true) }) (v := .string T) rfl (by kernel_rfl) (by kernel_rfl) (by kernel_rfl) (fun _ _ _ h => h) (Or.inl ⟨by rfl, by intro w hSw; (try dsimp only at hSw); go_simp⟩) (by assumption) ?_
      try simp only [Act.put, List.setIfInBounds_toArray, List.set_cons_zero, List.set_cons_succ]
      refine wpAnyH_ready (rs := [9]) (by kernel_rfl) (by simp) ?_
      refine AllReadyH.cons (o := { dst := some 83, op := Op.call { callee := Callee.value (Operand.func 25), args := #[Operand.tmp 6, Operand.tmp 82], argTypes := #[29, 3] }, type := 31, pos := "outright.go:163", after := #[{ on := 8, ground := Ground.data }, { on := 5, ground := Ground.chain }, { on := 5, ground := Ground.guard }], guard := some (5, true) }) rfl (fun K hK => ?_) AllReadyH.nil
      go_simp
      refine (HTk.out _ (H7.out.1.kept (Kept.refl _ _).drew) H7.out.2.drew).mono ?_
      rintro e w9 ⟨v9, rfl, hs9, b9⟩
      have HC := Lib.hid (HB.out w9 b9)
      have HE := Lib.hid b9
      clear b9
      first | refine hK.out _ _ HC.out (fun hHeld2 => ?_) | (go_wp2_with fail; refine hK.out _ _ HC.out (fun hHeld2 => ?_))
      clear hK K hHeld
      have hHeld := hHeld2
      clear hHeld2
      try simp only [Act.put, List.setIfInBounds_toArray, List.set_cons_zero, List.set_cons_succ]
      refine wpAnyH_ready (rs := [10]) (by kernel_rfl) (by simp) ?_
      refine AllReadyH.cons (o := { dst := some 84, op := Op.convert 31 9 (Operand.tmp 83), type := 9, pos := "outright.go:163", after := #[{ on := 9, ground := Ground.data }, { on := 5, ground := Ground.guard }], guard := some (5, true) }) rfl (fun K hK => ?_) AllReadyH.nil
      go_simp
      first | refine hK.out _ _ HC.out (fun hHeld2 => ?_) | (go_wp2_with fail; refine hK.out _ _ HC.out (fun hHeld2 => ?_))
      clear hK K hHeld
      have hHeld := hHeld2
      clear hHeld2
      try simp only [Act.put, List.setIfInBounds_toArray, List.set_cons_zero, List.set_cons_succ]
      refine wpAnyH_take (i := 11) (oi := { dst := some 85, op := Op.binOp BinOp.add 9 (Operand.tmp 80) (Operand.tmp 84) 9, type := 9, pos := "outright.go:163", after := #[{ on := 6, ground := Ground.data }, { on := 10, ground := Ground.data }, { on := 5, ground := Ground.guard }], guard := some (5, true) }) (v := .string T) rfl (by kernel_rfl) (by kernel_rfl) (by kernel_rfl) (fun _ _ _ h => h) (Or.inl ⟨by rfl, by intro w hSw; (try dsimp only at hSw); go_simp⟩) (by assumption) ?_
      try simp only [Act.put, List.setIfInBounds_toArray, List.set_cons_zero, List.set_cons_succ]
      refine wpAnyH_take (i := 14) (oi := { dst := some 88, op := Op.binOp BinOp.eql 9 (Operand.tmp 85) (Operand.tmp 87) 9, type := 4, pos := "outright.go:163", after := #[{ on := 11, ground := Ground.data }, { on := 13, ground := Ground.data }, { on := 5, ground := Ground.guard }], guard := some (5, true) }) (v := .bool true) rfl (by kernel_rfl) (by kernel_rfl) (by kernel_rfl) (fun _ _ _ h => h) (Or.inl ⟨by rfl, by intro w hSw; (try dsimp only at hSw); go_simp⟩) (by assumption) ?_
      try simp only [Act.put, List.setIfInBounds_toArray, List.set_cons_zero, List.set_cons_succ]
      refine wpAnyH_take (i := 15) (oi := { dst := some 89, op := Op.pick (Operand.tmp 79) (Operand.tmp 88) (Operand.const (Value.bool false)), type := 4, pos := "outright.go:163", after := #[{ on := 5, ground := Ground.data }, { on := 14, ground := Ground.data }], guard := none }) (v := .bool true) rfl (by kernel_rfl) (by kernel_rfl) (by kernel_rfl) (fun _ _ _ h => h) (Or.inl ⟨by rfl, by intro w hSw; (try dsimp only at hSw); go_simp⟩) (by assumption) ?_
      try simp only [Act.put, List.setIfInBounds_toArray, List.set_cons_zero, List.set_cons_succ]
      refine wpAnyH_take (i := 16) (oi := { dst := some 4, op := Op.assign (Operand.tmp 89), type := 4, pos := "outright.go:163", after := #[{ on := 15, ground := Ground.data }, { on := 9, ground := Ground.chain }, { on := 0, ground := Ground.phase }, { on := 1, ground := Ground.phase }, { on := 2, ground := Ground.phase }, { on := 3, ground := Ground.phase }, { on := 4, ground := Ground.phase }, { on := 5, ground := Ground.phase }, { on := 6, ground := Ground.phase }, { on := 7, ground := Ground.phase }, { on := 8, ground := Ground.phase }, { on := 9, ground := Ground.phase }, { on := 10, ground := Ground.phase }, { on := 11, ground := Ground.phase }, { on := 12, ground := Ground.phase }, { on := 13, ground := Ground.phase }, { on := 14, ground := Ground.phase }, { on := 15, ground := Ground.phase }], guard := none }) (v := .bool true) rfl (by kernel_rfl) (by kernel_rfl) (by kernel_rfl) (fun _ _ _ h => h) (Or.inl ⟨by rfl, by intro w hSw; (try dsimp only at hSw); go_simp⟩) (by assumption) ?_
      try simp only [Act.put, List.setIfInBounds_toArray, List.set_cons_zero, List.set_cons_succ]
      refine wpAnyH_done (by kernel_rfl) ?_ _
      go_wp2_with fail
      go_ret
      exact ⟨rfl, HE.out⟩

set_option maxRecDepth 100000 in
set_option maxHeartbeats 4000000 in
theorem lines_law (w : World) {A A2 : Option Addr} {n c m c2 : Nat} {zs xs : List Int} (hb : Src w No2 A n c zs) (ha : Src w No2 A2 m c2 xs) (hx : Byt xs) :
    Calls Try.prog 7 #[.slice A n c, .slice A2 m c2] w fun e w' => e = .returned (.bool true) ∧ Below w.heap.size w w' := by
  by_cases hn : n ≤ 3000
  · by_cases hm : m ≤ 300
    · exact lines_main w hb ha hx hn hm
    · have b1 : decide ((3000 : Int) < (n : Int)) = false := by simp; omega
      have b2 : decide ((300 : Int) < (m : Int)) = true := by simp; omega
      clear hb ha hx
      go_enter Try.func7, Try.ntmps7
      go_wp2_with (go_at_call 24; refine (alive_any _).mono ?_; rintro e w0 ⟨rfl, hb0⟩; have HB0 := Lib.hid hb0; clear hb0)
      go_ret
      exact ⟨rfl, HB0.out⟩
  · have b1 : decide ((3000 : Int) < (n : Int)) = true := by simp; omega
    clear hb ha hx
    go_enter Try.func7, Try.ntmps7
    go_wp2_with (go_at_call 24; refine (alive_any _).mono ?_; rintro e w0 ⟨rfl, hb0⟩; have HB0 := Lib.hid hb0; clear hb0)
    go_ret
    exact ⟨rfl, HB0.out⟩
end Go.Proofs.Ytkhkhjkacibocaa
