/-
  ChainAhead.
-/
import Derived.Test.YtkhkhjkacibocaaChMoves
import Derived.Test.YtkhkhjkacibocaaChWhole
namespace Go.Proofs.Ytkhkhjkacibocaa
open Go.RowKit Go.Shelf Go.Maps Go.ChangeMaps

/-- While the pieces are laid in one chain. -/
structure OvI (w0 : World) (c : Nat) (L : List Lk) (v : Value) (ps : List Ps) (xs : List Int) (wr : World) : Prop where
  cc : Cn wr w0.heap.size 29 c L
  fl : flat L = xs
  own : ∃ B, RP.own wr B v ps
  ap : ∀ k i, Fc c L k i → v.ownBlock ≠ some k
  bel : Below w0.heap.size w0 wr
section
variable {w0 wr w1 : World} {c : Nat} {L L' : List Lk} {v : Value} {ps : List Ps} {xs ys : List Int}
theorem OvI.step (h : OvI w0 c L v ps xs wr) (hc : Cn w1 w0.heap.size 29 c L') (hf : flat L' = ys) (m : Mc wr w1 (Fc c L) (Fc c L')) : OvI w0 c L' v ps ys w1 := by
  obtain ⟨B, ho⟩ := h.own
  obtain ⟨o, a⟩ := own_mc ho m h.ap
  exact ⟨hc, hf, ⟨B, o⟩, a, law_step h.cc h.bel m⟩
theorem OvI.src (h : OvI w0 c L v ps xs wr) {p : Ps} (hp : p.Ok w0) : Src wr (Fc c L) p.A p.n p.c p.zs := Src.below hp h.bel fun _ _ e => h.cc.low e
theorem gps_drop {k : Nat} {p : Ps} (h : ps[k]? = some p) : gps (ps.drop k) = p.zs ++ gps (ps.drop (k + 1)) := by
  obtain ⟨hk, e⟩ := List.getElem?_eq_some_iff.1 h
  rw [List.drop_eq_getElem_cons hk, e]
  simp [gps]
theorem gps_dropl (k : Nat) : (gps (ps.drop k)).length ≤ (gps ps).length := by
  have : gps ps = gps (ps.take k) ++ gps (ps.drop k) := by
    unfold gps
    rw [← List.flatMap_append, List.take_append_drop]
  rw [this, List.length_append]; omega
end

set_option maxRecDepth 100000 in
set_option maxHeartbeats 8000000 in
theorem ahead_main (w : World) {A A2 : Option Addr} {n c m c2 : Nat} {zs xs : List Int} (hb : Src w No2 A n c zs) (ha : Src w No2 A2 m c2 xs) (hx : Byt xs) (hn : n ≤ 3000) (hm : m ≤ 300) :
    Calls Try.prog 9 #[.slice A n c, .slice A2 m c2] w fun e w' => e = .returned (.bool true) ∧ Below w.heap.size w w' := by
  have b1 : decide ((3000 : Int) < (n : Int)) = false := by simp; omega
  have b2 : decide ((300 : Int) < (m : Int)) = false := by simp; omega
  obtain ⟨y, hy⟩ : ∃ y, y = n / 2 := ⟨_, rfl⟩
  have wy : Int.tdiv (n : Int) 2 = (y : Int) := by rw [hy]; exact (Int.ofNat_tdiv n 2).symm
  have wy2 : wrap64 (y : Int) = (y : Int) := by unfold wrap64; omega
  have hzl := hb.len
  obtain ⟨r1, s1⟩ := hb.left (m := y) (by omega)
  obtain ⟨A'', r2, s2⟩ := hb.right (m := y) (by omega)
  obtain ⟨T1, hT1⟩ : ∃ T, strOfNums (zs.take y) = T := ⟨_, rfl⟩
  have HB1 := Lib.hid (fun W (hW : Below w.heap.size w W) => hT1 ▸ (s1.below (D := No2) hW (fun _ _ e => e.elim)).str)
  have HA := Lib.hid (And.intro hb (And.intro ha (And.intro hx (And.intro hn hm))))
  have HW1 := Lib.hid (show ∀ W L ca, Cn W w.heap.size 29 ca L → flat L = zs → Below w.heap.size w W → Calls Try.prog 13 #[.pointer (some ⟨ca, 0, none⟩), .slice A n c] W fun e w' => e = .returned (.bool true) ∧ Kept (fun _ => False) W w' from fun W L ca h e hW => whole_yes h (by rw [e]; exact hb.below hW (fun _ _ e => e.elim)))
  have HW2 := Lib.hid (show ∀ W L ca, Cn W w.heap.size 29 ca L → flat L = zs.drop y → Below w.heap.size w W → Calls Try.prog 13 #[.pointer (some ⟨ca, 0, none⟩), .slice A'' (n - y) (c - y)] W fun e w' => e = .returned (.bool true) ∧ Kept (fun _ => False) W w' from fun W L ca h e hW => whole_yes h (by rw [e]; exact s2.below hW (fun _ _ e => e.elim)))
  have HTk := Lib.hid (show ∀ W L ca, Cn W w.heap.size 29 ca L → flat L = zs → Below w.heap.size w W → Calls Try.prog 25 #[.pointer (some ⟨ca, 0, none⟩), .int .i64 (y : Int)] W fun e w' => ∃ v, e = .returned v ∧ (convert 31 9 v).run Try.prog w' = .ok (.string T1) w' ∧ ∃ L', Cn w' w.heap.size 29 ca L' ∧ flat L' = zs.drop y ∧ Below w.heap.size w w' from fun W L ca h e hW => by
    refine (take_any h (y : Int) (by omega)).mono ?_
    rintro e2 w' ⟨v, rfl, h1, L', h2, h3, h4, _⟩
    rw [e, show ((y : Int)).toNat = y from rfl] at h1 h3
    exact ⟨v, rfl, hT1 ▸ rowB_str h1 (by rw [List.length_take]; omega), L', h2, h3, law_step h hW h4⟩)
  clear hb ha hx s1 s2 hT1 hy
  go_enter Try.func9, Try.ntmps9
  go_wp2_with (go_at_call 24; refine (alive_any _).mono ?_; rintro e w0 ⟨rfl, hb0⟩; have HB0 := Lib.hid hb0; clear hb0)
  have cn0 := (cn_new w0).more HB0.out.size
  have hbV := HB0.out.alloc HB0.out.size (.cells #[.pointer none, .pointer none, .int .i64 0] 29)
  obtain ⟨V, hV⟩ : ∃ V, V = w0.alloc (.cells #[.pointer none, .pointer none, .int .i64 0] 29) := ⟨_, rfl⟩
  rw [← hV] at cn0 hbV ⊢
  obtain ⟨ca, hca⟩ : ∃ x, x = w0.heap.size := ⟨_, rfl⟩
  rw [← hca] at cn0 ⊢
  refine (cutl_any HA.out.1 (HA.out.2.1.below hbV (fun _ _ e => e.elim)) HA.out.2.2.1 HA.out.2.2.2.2).mono ?_
  rintro e w3 ⟨v, ps, rfl, h1, h2, h3, h4, h5⟩
  have hap : ∀ k i, Fc ca [] k i → v.ownBlock ≠ some k := fun k i hf e => by
    have h6 := (RowK.own_lt h1 e).2
    have := cn0.lt hf; omega
  have hk3 : Kept (fun _ => False) V w3 := ⟨h5.os, h5.tape, h5.output, h5.size, fun k hk _ => h5.block k hk⟩
  have H3 := Lib.hid (show OvI w ca [] v ps [] w3 from ⟨cn0.kept hk3, rfl, ⟨_, h1⟩, hap, hbV.trans (h5.mono hbV.size)⟩)
  have HP := Lib.hid (And.intro h2 (And.intro h3 h4))
  obtain ⟨Ap, cp, rfl, hsh, _, hcp⟩ := RowK.own_shows h1
  have HS := Lib.hid hcp
  have kb : (ps.length : Int) ≤ 301 := by omega
  clear h1 h2 h3 h4 h5 cn0 hbV hV hca hap hk3 hsh hcp
  go_wp2_with fail
  go_loopw [8] (fun i wr => ∃ (k : Nat) (L : List Lk), i = .int .i64 ((k : Int) - 1) ∧ k ≤ ps.length ∧ OvI w ca L (.slice Ap ps.length cp) ps (gps (ps.drop k)) wr) (fun i _ => (intOf i + 1).toNat)
  case atStart => exact ⟨ps.length, [], by go_num, Nat.le_refl _, by rw [List.drop_length]; exact H3.out⟩
  case round =>
    obtain ⟨k, L, rfl, hk, hM⟩ := hrel
    by_cases hlt : 0 < k
    · obtain ⟨j, rfl⟩ : ∃ j, k = j + 1 := ⟨k - 1, by omega⟩
      have ej : (((j + 1 : Nat) : Int) - 1) = (j : Int) := by omega
      rw [ej]
      obtain ⟨B0, ho⟩ := hM.own
      obtain ⟨A1, c1, e1, hsh, _, _⟩ := RowK.own_shows ho
      cases e1
      obtain ⟨g, off, rfl, hg, hl⟩ := hsh (by omega)
      obtain ⟨p, hp⟩ : ∃ p, ps[j]? = some p := ⟨_, List.getElem?_eq_getElem (by omega)⟩
      have cz := hl j p hp 0 (by decide)
      rw [show off + (j * RP.n + 0) = off + j by simp [RP]] at cz
      replace cz : wr.cell? ⟨g, off + j, none⟩ = some (.slice p.A p.n p.c) := cz
      have hpo := HP.out.1 p (List.mem_of_getElem? hp)
      have hlen : p.n + (flat L).length ≤ 1048576 := by
        have e1 := gps_drop hp
        have e3 := gps_dropl (ps := ps) j
        rw [e1, HP.out.2.1, List.length_append] at e3
        have e2 := hpo.len
        have := HA.out.2.2.2.1
        rw [hM.fl]; omega
      have HAd := Lib.hid (ahead_yes hM.cc (hM.src hpo) hlen)
      have HM := Lib.hid (And.intro hM (And.intro hp hk))
      have d0 : (0 : Int) ≤ (j : Int) := by omega
      have d1 : (j : Int) < (ps.length : Int) := by omega
      have d2 : IntKind.i64.wrap ((j : Int) - 1) = (j : Int) - 1 := IntWalk.i64_in _ (by omega)
      clear hM hp hk ho hsh hl hpo hlen hlt ej
      go_wp2_with fail
      refine HAd.out.mono ?_
      rintro e w4 ⟨rfl, L', g1, g2, g3⟩
      have HE := Lib.hid (HM.out.1.step (ys := gps (ps.drop j)) g1 (by rw [g2, HM.out.1.fl, gps_drop HM.out.2.1]) g3)
      clear g1 g2 g3
      go_wp2_with fail
      refine ⟨⟨j, L', rfl, by have := HM.out.2.2; omega, HE.out⟩, by simp [intOf]⟩
    · obtain rfl : k = 0 := by omega
      have hM2 : OvI w ca L (.slice Ap ps.length cp) ps zs wr := by rw [List.drop_zero, HP.out.2.1] at hM; exact hM
      have d1 : ¬ ((0 : Int) ≤ ((0 : Nat) : Int) - 1) := by omega
      have d2 : (((0 : Nat) : Int) - 1) = -1 := by omega
      rw [d2]
      have H5 := Lib.hid (And.intro hM2.cc (And.intro hM2.fl hM2.bel))
      have HC := Lib.hid (HB1.out wr.drew hM2.bel.drew)
      clear hM hM2 hk hlt d1 d2
      go_wp2_with fail
      refine wp_region_held_drew (S := (fun W => (convert 31 9 (.slice A y c)).run Try.prog W = .ok (.string T1) W)) (by kernel_rfl) HC.out (fun hHeld => ?_)
      refine wpAnyH_take (i := 0) (oi := { dst := some 48, op := Op.move (Operand.tmp 5), type := 4, pos := "outright.go:201", after := #[], guard := none }) (v := .bool true) rfl (by kernel_rfl) (by kernel_rfl) (by kernel_rfl) (fun _ _ _ h => h) (Or.inl ⟨by rfl, by intro w hSw; (try dsimp only at hSw); go_simp⟩) (by assumption) ?_
      try simp only [Act.put, List.setIfInBounds_toArray, List.set_cons_zero, List.set_cons_succ]
      refine wpAnyH_take (i := 1) (oi := { dst := some 49, op := Op.move (Operand.tmp 48), type := 4, pos := "outright.go:201", after := #[{ on := 0, ground := Ground.data }], guard := none }) (v := .bool true) rfl (by kernel_rfl) (by kernel_rfl) (by kernel_rfl) (fun _ _ _ h => h) (Or.inl ⟨by rfl, by intro w hSw; (try dsimp only at hSw); go_simp⟩) (by assumption) ?_
      try simp only [Act.put, List.setIfInBounds_toArray, List.set_cons_zero, List.set_cons_succ]
      refine wpAnyH_take (i := 2) (oi := { dst := some 50, op := Op.move (Operand.tmp 6), type := 24, pos := "outright.go:201", after := #[{ on := 1, ground := Ground.guard }], guard := some (1, true) }) (v := .pointer (some ⟨ca, 0, none⟩)) rfl (by kernel_rfl) (by kernel_rfl) (by kernel_rfl) (fun _ _ _ h => h) (Or.inl ⟨by rfl, by intro w hSw; (try dsimp only at hSw); go_simp⟩) (by assumption) ?_
      try simp only [Act.put, List.setIfInBounds_toArray, List.set_cons_zero, List.set_cons_succ]
      refine wpAnyH_take (i := 3) (oi := { dst := some 51, op := Op.move (Operand.tmp 0), type := 31, pos := "outright.go:201", after := #[{ on := 1, ground := Ground.guard }], guard := some (1, true) }) (v := .slice A n c) rfl (by kernel_rfl) (by kernel_rfl) (by kernel_rfl) (fun _ _ _ h => h) (Or.inl ⟨by rfl, by intro w hSw; (try dsimp only at hSw); go_simp⟩) (by assumption) ?_
      try simp only [Act.put, List.setIfInBounds_toArray, List.set_cons_zero, List.set_cons_succ]
      refine wpAnyH_ready (rs := [4]) (by kernel_rfl) (by simp) ?_
      refine AllReadyH.cons (o := { dst := some 52, op := Op.call { callee := Callee.value (Operand.func 13), args := #[Operand.tmp 50, Operand.tmp 51], argTypes := #[24, 31] }, type := 4, pos := "outright.go:201", after := #[{ on := 2, ground := Ground.data }, { on := 3, ground := Ground.data }, { on := 1, ground := Ground.chain }, { on := 1, ground := Ground.guard }], guard := some (1, true) }) rfl (fun K hK => ?_) AllReadyH.nil
      go_simp
      refine (HW1.out _ _ _ (H5.out.1.kept (Kept.refl _ _).drew) H5.out.2.1 H5.out.2.2.drew).mono ?_
      rintro e w6 ⟨rfl, hk6⟩
      have H6 := Lib.hid (And.intro (H5.out.1.kept ((Kept.refl _ _).drew.trans hk6)) (law_quiet H5.out.2.2.drew H5.out.1.base hk6))
      have HC := Lib.hid (HB1.out w6 H6.out.2)
      clear hk6
      first | refine hK.out _ _ HC.out (fun hHeld2 => ?_) | (go_wp2_with fail; refine hK.out _ _ HC.out (fun hHeld2 => ?_))
      clear hK K hHeld
      have hHeld := hHeld2
      clear hHeld2
      try simp only [Act.put, List.setIfInBounds_toArray, List.set_cons_zero, List.set_cons_succ]
      refine wpAnyH_take (i := 5) (oi := { dst := some 53, op := Op.pick (Operand.tmp 49) (Operand.tmp 52) (Operand.const (Value.bool false)), type := 4, pos := "outright.go:201", after := #[{ on := 1, ground := Ground.data }, { on := 4, ground := Ground.data }], guard := none }) (v := .bool true) rfl (by kernel_rfl) (by kernel_rfl) (by kernel_rfl) (fun _ _ _ h => h) (Or.inl ⟨by rfl, by intro w hSw; (try dsimp only at hSw); go_simp⟩) (by assumption) ?_
      try simp only [Act.put, List.setIfInBounds_toArray, List.set_cons_zero, List.set_cons_succ]
      refine wpAnyH_take (i := 6) (oi := { dst := some 54, op := Op.move (Operand.tmp 53), type := 4, pos := "outright.go:201", after := #[{ on := 5, ground := Ground.data }, { on := 4, ground := Ground.chain }], guard := none }) (v := .bool true) rfl (by kernel_rfl) (by kernel_rfl) (by kernel_rfl) (fun _ _ _ h => h) (Or.inl ⟨by rfl, by intro w hSw; (try dsimp only at hSw); go_simp⟩) (by assumption) ?_
      try simp only [Act.put, List.setIfInBounds_toArray, List.set_cons_zero, List.set_cons_succ]
      refine wpAnyH_take (i := 7) (oi := { dst := some 55, op := Op.move (Operand.tmp 6), type := 24, pos := "outright.go:201", after := #[{ on := 6, ground := Ground.guard }], guard := some (6, true) }) (v := .pointer (some ⟨ca, 0, none⟩)) rfl (by kernel_rfl) (by kernel_rfl) (by kernel_rfl) (fun _ _ _ h => h) (Or.inl ⟨by rfl, by intro w hSw; (try dsimp only at hSw); go_simp⟩) (by assumption) ?_
      try simp only [Act.put, List.setIfInBounds_toArray, List.set_cons_zero, List.set_cons_succ]
      refine wpAnyH_take (i := 8) (oi := { dst := some 56, op := Op.move (Operand.tmp 10), type := 3, pos := "outright.go:201", after := #[{ on := 6, ground := Ground.guard }], guard := some (6, true) }) (v := .int .i64 (y : Int)) rfl (by kernel_rfl) (by kernel_rfl) (by kernel_rfl) (fun _ _ _ h => h) (Or.inl ⟨by rfl, by intro w hSw; (try dsimp only at hSw); go_simp⟩) (by assumption) ?_
      try simp only [Act.put, List.setIfInBounds_toArray, List.set_cons_zero, List.set_cons_succ]
      refine wpAnyH_take (i := 11) (oi := { dst := some 59, op := Op.move (Operand.tmp 0), type := 31, pos := "outright.go:201", after := #[{ on := 6, ground := Ground.guard }], guard := some (6, true) }) (v := .slice A n c) rfl (by kernel_rfl) (by kernel_rfl) (by kernel_rfl) (fun _ _ _ h => h) (Or.inl ⟨by rfl, by intro w hSw; (try dsimp only at hSw); go_simp⟩) (by assumption) ?_
      try simp only [Act.put, List.setIfInBounds_toArray, List.set_cons_zero, List.set_cons_succ]
      refine wpAnyH_take (i := 12) (oi := { dst := some 60, op := Op.move (Operand.tmp 10), type := 3, pos := "outright.go:201", after := #[{ on := 6, ground := Ground.guard }], guard := some (6, true) }) (v := .int .i64 (y : Int)) rfl (by kernel_rfl) (by kernel_rfl) (by kernel_rfl) (fun _ _ _ h => h) (Or.inl ⟨by rfl, by intro w hSw; (try dsimp only at hSw); go_simp⟩) (by assumption) ?_
      try simp only [Act.put, List.setIfInBounds_toArray, List.set_cons_zero, List.set_cons_succ]
      refine wpAnyH_take (i := 13) (oi := { dst := some 61, op := Op.slice 31 (Operand.tmp 59) none (some (Operand.tmp 60)) none, type := 31, pos := "outright.go:201", after := #[{ on := 11, ground := Ground.data }, { on := 12, ground := Ground.data }, { on := 6, ground := Ground.guard }], guard := some (6, true) }) (v := .slice A y c) rfl (by kernel_rfl) (by kernel_rfl) (by kernel_rfl) (fun _ _ _ h => h) (Or.inl ⟨by rfl, by intro w hSw; (try dsimp only at hSw); go_simp⟩) (by assumption) ?_
      try simp only [Act.put, List.setIfInBounds_toArray, List.set_cons_zero, List.set_cons_succ]
      refine wpAnyH_take (i := 14) (oi := { dst := some 62, op := Op.convert 31 9 (Operand.tmp 61), type := 9, pos := "outright.go:201", after := #[{ on := 13, ground := Ground.data }, { on := 6, ground := Ground.guard }], guard := some (6, true) }) (v := .string T1) rfl (by kernel_rfl) (by kernel_rfl) (by kernel_rfl) (fun _ _ _ h => h) (Or.inl ⟨by rfl, by intro w hSw; (try dsimp only at hSw); go_simp⟩) (by assumption) ?_
      try simp only [Act.put, List.setIfInBounds_toArray, List.set_cons_zero, List.set_cons_succ]
      refine wpAnyH_ready (rs := [9]) (by kernel_rfl) (by simp) ?_
      refine AllReadyH.cons (o := { dst := some 57, op := Op.call { callee := Callee.value (Operand.func 25), args := #[Operand.tmp 55, Operand.tmp 56], argTypes := #[24, 3] }, type := 31, pos := "outright.go:201", after := #[{ on := 7, ground := Ground.data }, { on := 8, ground := Ground.data }, { on := 6, ground := Ground.chain }, { on := 6, ground := Ground.guard }], guard := some (6, true) }) rfl (fun K hK => ?_) AllReadyH.nil
      go_simp
      refine (HTk.out _ _ _ H6.out.1 H5.out.2.1 H6.out.2).mono ?_
      rintro e w7 ⟨v7, rfl, hs7, L7, h7, f7, b7⟩
      have H7 := Lib.hid (And.intro h7 (And.intro f7 b7))
      have HC := Lib.hid (HB1.out w7 b7)
      clear h7 f7 b7
      first | refine hK.out _ _ HC.out (fun hHeld2 => ?_) | (go_wp2_with fail; refine hK.out _ _ HC.out (fun hHeld2 => ?_))
      clear hK K hHeld
      have hHeld := hHeld2
      clear hHeld2
      try simp only [Act.put, List.setIfInBounds_toArray, List.set_cons_zero, List.set_cons_succ]
      refine wpAnyH_ready (rs := [10]) (by kernel_rfl) (by simp) ?_
      refine AllReadyH.cons (o := { dst := some 58, op := Op.convert 31 9 (Operand.tmp 57), type := 9, pos := "outright.go:201", after := #[{ on := 9, ground := Ground.data }, { on := 6, ground := Ground.guard }], guard := some (6, true) }) rfl (fun K hK => ?_) AllReadyH.nil
      go_simp
      first | refine hK.out _ _ HC.out (fun hHeld2 => ?_) | (go_wp2_with fail; refine hK.out _ _ HC.out (fun hHeld2 => ?_))
      clear hK K hHeld
      have hHeld := hHeld2
      clear hHeld2
      try simp only [Act.put, List.setIfInBounds_toArray, List.set_cons_zero, List.set_cons_succ]
      refine wpAnyH_take (i := 15) (oi := { dst := some 63, op := Op.binOp BinOp.eql 9 (Operand.tmp 58) (Operand.tmp 62) 9, type := 4, pos := "outright.go:201", after := #[{ on := 10, ground := Ground.data }, { on := 14, ground := Ground.data }, { on := 6, ground := Ground.guard }], guard := some (6, true) }) (v := .bool true) rfl (by kernel_rfl) (by kernel_rfl) (by kernel_rfl) (fun _ _ _ h => h) (Or.inl ⟨by rfl, by intro w hSw; (try dsimp only at hSw); go_simp⟩) (by assumption) ?_
      try simp only [Act.put, List.setIfInBounds_toArray, List.set_cons_zero, List.set_cons_succ]
      refine wpAnyH_take (i := 16) (oi := { dst := some 64, op := Op.pick (Operand.tmp 54) (Operand.tmp 63) (Operand.const (Value.bool false)), type := 4, pos := "outright.go:201", after := #[{ on := 6, ground := Ground.data }, { on := 15, ground := Ground.data }], guard := none }) (v := .bool true) rfl (by kernel_rfl) (by kernel_rfl) (by kernel_rfl) (fun _ _ _ h => h) (Or.inl ⟨by rfl, by intro w hSw; (try dsimp only at hSw); go_simp⟩) (by assumption) ?_
      try simp only [Act.put, List.setIfInBounds_toArray, List.set_cons_zero, List.set_cons_succ]
      refine wpAnyH_take (i := 17) (oi := { dst := some 65, op := Op.move (Operand.tmp 64), type := 4, pos := "outright.go:201", after := #[{ on := 16, ground := Ground.data }, { on := 9, ground := Ground.chain }], guard := none }) (v := .bool true) rfl (by kernel_rfl) (by kernel_rfl) (by kernel_rfl) (fun _ _ _ h => h) (Or.inl ⟨by rfl, by intro w hSw; (try dsimp only at hSw); go_simp⟩) (by assumption) ?_
      try simp only [Act.put, List.setIfInBounds_toArray, List.set_cons_zero, List.set_cons_succ]
      refine wpAnyH_take (i := 18) (oi := { dst := some 66, op := Op.move (Operand.tmp 6), type := 24, pos := "outright.go:201", after := #[{ on := 17, ground := Ground.guard }], guard := some (17, true) }) (v := .pointer (some ⟨ca, 0, none⟩)) rfl (by kernel_rfl) (by kernel_rfl) (by kernel_rfl) (fun _ _ _ h => h) (Or.inl ⟨by rfl, by intro w hSw; (try dsimp only at hSw); go_simp⟩) (by assumption) ?_
      try simp only [Act.put, List.setIfInBounds_toArray, List.set_cons_zero, List.set_cons_succ]
      refine wpAnyH_take (i := 19) (oi := { dst := some 67, op := Op.move (Operand.tmp 0), type := 31, pos := "outright.go:201", after := #[{ on := 17, ground := Ground.guard }], guard := some (17, true) }) (v := .slice A n c) rfl (by kernel_rfl) (by kernel_rfl) (by kernel_rfl) (fun _ _ _ h => h) (Or.inl ⟨by rfl, by intro w hSw; (try dsimp only at hSw); go_simp⟩) (by assumption) ?_
      try simp only [Act.put, List.setIfInBounds_toArray, List.set_cons_zero, List.set_cons_succ]
      refine wpAnyH_take (i := 20) (oi := { dst := some 68, op := Op.move (Operand.tmp 10), type := 3, pos := "outright.go:201", after := #[{ on := 17, ground := Ground.guard }], guard := some (17, true) }) (v := .int .i64 (y : Int)) rfl (by kernel_rfl) (by kernel_rfl) (by kernel_rfl) (fun _ _ _ h => h) (Or.inl ⟨by rfl, by intro w hSw; (try dsimp only at hSw); go_simp⟩) (by assumption) ?_
      try simp only [Act.put, List.setIfInBounds_toArray, List.set_cons_zero, List.set_cons_succ]
      refine wpAnyH_take (i := 21) (oi := { dst := some 69, op := Op.slice 31 (Operand.tmp 67) (some (Operand.tmp 68)) none none, type := 31, pos := "outright.go:201", after := #[{ on := 19, ground := Ground.data }, { on := 20, ground := Ground.data }, { on := 17, ground := Ground.guard }], guard := some (17, true) }) (v := (.slice A'' (n - y) (c - y))) rfl (by kernel_rfl) (by kernel_rfl) (by kernel_rfl) (fun _ _ _ h => h) (Or.inl ⟨by rfl, by intro w hSw; (try dsimp only at hSw); go_simp⟩) (by assumption) ?_
      try simp only [Act.put, List.setIfInBounds_toArray, List.set_cons_zero, List.set_cons_succ]
      refine wpAnyH_ready (rs := [22]) (by kernel_rfl) (by simp) ?_
      refine AllReadyH.cons (o := { dst := some 70, op := Op.call { callee := Callee.value (Operand.func 13), args := #[Operand.tmp 66, Operand.tmp 69], argTypes := #[24, 31] }, type := 4, pos := "outright.go:201", after := #[{ on := 18, ground := Ground.data }, { on := 21, ground := Ground.data }, { on := 17, ground := Ground.chain }, { on := 17, ground := Ground.guard }], guard := some (17, true) }) rfl (fun K hK => ?_) AllReadyH.nil
      go_simp
      refine (HW2.out _ _ _ H7.out.1 H7.out.2.1 H7.out.2.2).mono ?_
      rintro e w8 ⟨rfl, hk8⟩
      have H8 := Lib.hid (law_quiet H7.out.2.2 H7.out.1.base hk8)
      have HC := Lib.hid (HB1.out w8 H8.out)
      clear hk8
      first | refine hK.out _ _ HC.out (fun hHeld2 => ?_) | (go_wp2_with fail; refine hK.out _ _ HC.out (fun hHeld2 => ?_))
      clear hK K hHeld
      have hHeld := hHeld2
      clear hHeld2
      try simp only [Act.put, List.setIfInBounds_toArray, List.set_cons_zero, List.set_cons_succ]
      refine wpAnyH_take (i := 23) (oi := { dst := some 71, op := Op.pick (Operand.tmp 65) (Operand.tmp 70) (Operand.const (Value.bool false)), type := 4, pos := "outright.go:201", after := #[{ on := 17, ground := Ground.data }, { on := 22, ground := Ground.data }], guard := none }) (v := .bool true) rfl (by kernel_rfl) (by kernel_rfl) (by kernel_rfl) (fun _ _ _ h => h) (Or.inl ⟨by rfl, by intro w hSw; (try dsimp only at hSw); go_simp⟩) (by assumption) ?_
      try simp only [Act.put, List.setIfInBounds_toArray, List.set_cons_zero, List.set_cons_succ]
      refine wpAnyH_take (i := 24) (oi := { dst := some 4, op := Op.assign (Operand.tmp 71), type := 4, pos := "outright.go:201", after := #[{ on := 23, ground := Ground.data }, { on := 22, ground := Ground.chain }, { on := 0, ground := Ground.phase }, { on := 1, ground := Ground.phase }, { on := 2, ground := Ground.phase }, { on := 3, ground := Ground.phase }, { on := 4, ground := Ground.phase }, { on := 5, ground := Ground.phase }, { on := 6, ground := Ground.phase }, { on := 7, ground := Ground.phase }, { on := 8, ground := Ground.phase }, { on := 9, ground := Ground.phase }, { on := 10, ground := Ground.phase }, { on := 11, ground := Ground.phase }, { on := 12, ground := Ground.phase }, { on := 13, ground := Ground.phase }, { on := 14, ground := Ground.phase }, { on := 15, ground := Ground.phase }, { on := 16, ground := Ground.phase }, { on := 17, ground := Ground.phase }, { on := 18, ground := Ground.phase }, { on := 19, ground := Ground.phase }, { on := 20, ground := Ground.phase }, { on := 21, ground := Ground.phase }, { on := 22, ground := Ground.phase }, { on := 23, ground := Ground.phase }], guard := none }) (v := .bool true) rfl (by kernel_rfl) (by kernel_rfl) (by kernel_rfl) (fun _ _ _ h => h) (Or.inl ⟨by rfl, by intro w hSw; (try dsimp only at hSw); go_simp⟩) (by assumption) ?_
      try simp only [Act.put, List.setIfInBounds_toArray, List.set_cons_zero, List.set_cons_succ]
      refine wpAnyH_done (by kernel_rfl) ?_ _
      go_wp2_with fail
      go_ret
      exact ⟨rfl, H8.out⟩

set_option maxRecDepth 100000 in
set_option maxHeartbeats 4000000 in
theorem ahead_law (w : World) {A A2 : Option Addr} {n c m c2 : Nat} {zs xs : List Int} (hb : Src w No2 A n c zs) (ha : Src w No2 A2 m c2 xs) (hx : Byt xs) :
    Calls Try.prog 9 #[.slice A n c, .slice A2 m c2] w fun e w' => e = .returned (.bool true) ∧ Below w.heap.size w w' := by
  by_cases hn : n ≤ 3000
  · by_cases hm : m ≤ 300
    · exact ahead_main w hb ha hx hn hm
    · have b1 : decide ((3000 : Int) < (n : Int)) = false := by simp; omega
      have b2 : decide ((300 : Int) < (m : Int)) = true := by simp; omega
      clear hb ha hx
      go_enter Try.func9, Try.ntmps9
      go_wp2_with (go_at_call 24; refine (alive_any _).mono ?_; rintro e w0 ⟨rfl, hb0⟩; have HB0 := Lib.hid hb0; clear hb0)
      go_ret
      exact ⟨rfl, HB0.out⟩
  · have b1 : decide ((3000 : Int) < (n : Int)) = true := by simp; omega
    clear hb ha hx
    go_enter Try.func9, Try.ntmps9
    go_wp2_with (go_at_call 24; refine (alive_any _).mono ?_; rintro e w0 ⟨rfl, hb0⟩; have HB0 := Lib.hid hb0; clear hb0)
    go_ret
    exact ⟨rfl, HB0.out⟩
end Go.Proofs.Ytkhkhjkacibocaa
