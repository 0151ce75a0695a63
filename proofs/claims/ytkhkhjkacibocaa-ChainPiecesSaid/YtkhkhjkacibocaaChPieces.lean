/-
  ChainPieces.
-/
import Derived.Test.YtkhkhjkacibocaaChPg
namespace Go.Proofs.Ytkhkhjkacibocaa
open Go.RowKit Go.Shelf Go.Maps Go.ChangeMaps

set_option maxRecDepth 100000 in
set_option maxHeartbeats 16000000 in
theorem pieces_main (w : World) {A A2 A3 : Option Addr} {n c m c2 m3 c3 : Nat} {zs xs ys : List Int} (hb : Src w No2 A n c zs) (ha : Src w No2 A2 m c2 xs) (ho : Src w No2 A3 m3 c3 ys) (hx : Byt xs) (hy : Byt ys) (hn : n ≤ 3000) (hm : m ≤ 300) (hm3 : m3 ≤ 300) :
    Calls Try.prog 5 #[.slice A n c, .slice A2 m c2, .slice A3 m3 c3] w fun e w' => e = .returned (.bool true) ∧ Below w.heap.size w w' := by
  have b1 : decide ((3000 : Int) < (n : Int)) = false := by simp; omega
  have b2 : decide ((300 : Int) < (m : Int)) = false := by simp; omega
  have b3 : decide ((300 : Int) < (m3 : Int)) = false := by simp; omega
  have hzl := hb.len
  obtain ⟨T, hT⟩ : ∃ T, strOfNums zs = T := ⟨_, rfl⟩
  have HB := Lib.hid (fun W (hW : Below w.heap.size w W) => hT ▸ (hb.below (D := No2) hW (fun _ _ e => e.elim)).str)
  have HA := Lib.hid (And.intro hb (And.intro ha (And.intro hx (And.intro hn hm))))
  have HO := Lib.hid (And.intro ho (And.intro hy hm3))
  have HLn := Lib.hid (show ∀ W L x, Cn W w.heap.size 29 x L → flat L = zs → Calls Try.prog 12 #[.pointer (some ⟨x, 0, none⟩)] W fun e w' => e = .returned (.int .i64 (n : Int)) ∧ W = w' from fun W L x h e => by have := len_any h; rwa [e, hzl] at this)
  have HCp := Lib.hid (show ∀ W L x, Cn W w.heap.size 29 x L → flat L = zs → Calls Try.prog 26 #[.pointer (some ⟨x, 0, none⟩), .int .i64 0, .int .i64 (n : Int)] W fun e w' => ∃ v, e = .returned v ∧ (convert 31 9 v).run Try.prog w' = .ok (.string T) w' ∧ Kept (fun _ => False) W w' from fun W L x h e => by
    refine (copy_any h 0 (n : Int) (by omega) (by omega)).mono ?_
    rintro e2 w' ⟨v, rfl, h1, h2⟩
    have e3 : cpy (flat L) 0 (n : Int) = zs := by
      unfold cpy; rw [if_neg (by omega), show ((0 : Int).toNat) = 0 from rfl, List.drop_zero, e, List.take_of_length_le (by omega)]
    rw [e3] at h1
    exact ⟨v, rfl, hT ▸ rowB_str h1 (by omega), h2⟩)
  have HT := Lib.hid (And.intro hT hzl)
  have HZ3 := Lib.hid (show zs.length ≤ 3000 by omega)
  clear hb ha ho hx hy hT hzl
  go_enter Try.func5, Try.ntmps5
  go_wp2_with (go_at_call 24; refine (alive_any _).mono ?_; rintro e w0 ⟨rfl, hb0⟩; have HB0 := Lib.hid hb0; clear hb0)
  obtain ⟨tw, hbV⟩ := two_new HB0.out
  obtain ⟨U, hU⟩ : ∃ U, U = (w0.alloc (.cells #[.pointer none, .pointer none, .int .i64 0] 29)).alloc (.cells #[.pointer none, .pointer none, .int .i64 0] 29) := ⟨_, rfl⟩
  have hUs : U.heap.size = w0.heap.size + 1 + 1 := by rw [hU]; simp
  rw [← hU] at tw hbV ⊢
  obtain ⟨V, hV⟩ : ∃ V, V = U.alloc (.cells #[.pointer none, .pointer none, .int .i64 0] 29) := ⟨_, rfl⟩
  have ce := (cn_new U).more hbV.size
  have tV := tw.kept ((Kept.refl _ U).alloc (.cells #[.pointer none, .pointer none, .int .i64 0] 29))
  have bV := hbV.alloc hbV.size (.cells #[.pointer none, .pointer none, .int .i64 0] 29)
  rw [← hV] at ce tV bV ⊢
  rw [hUs] at ce
  have HG0 := Lib.hid (show Pg w w0.heap.size [] (w0.heap.size + 1) [] (w0.heap.size + 1 + 1) [] [] V from ⟨tV, rfl, rfl, ce, fun i hi => by
    rcases hi with (e | ⟨x, hx, _⟩) | (e | ⟨x, hx, _⟩)
    · omega
    · simp at hx
    · omega
    · simp at hx, bV⟩)
  obtain ⟨ea, hea⟩ : ∃ x, x = w0.heap.size + 1 + 1 := ⟨_, rfl⟩
  obtain ⟨da, hda⟩ : ∃ x, x = w0.heap.size + 1 := ⟨_, rfl⟩
  obtain ⟨ca, hca⟩ : ∃ x, x = w0.heap.size := ⟨_, rfl⟩
  rw [← hea, ← hda, ← hca] at HG0 ⊢
  have HAd := Lib.hid (add_yes HG0.out.two.dd (HA.out.1.below bV (fun _ _ e => HG0.out.two.dd.low e)) (by rw [HG0.out.fm]; simp; omega))
  clear tw hbV hU hUs hV ce tV bV hea hda hca
  refine HAd.out.mono ?_
  rintro e w2 ⟨rfl, M, g1, g2, g3⟩
  have HG1 := Lib.hid (HG0.out.symm.step (ys := zs) g1 (by rw [g2, HG0.out.fm]; rfl) g3).symm
  clear g1 g2 g3 HAd
  go_wp2_with fail
  refine (cutl_any HA.out.1 (HA.out.2.1.below HG1.out.bel (fun _ _ e => e.elim)) HA.out.2.2.1 HA.out.2.2.2.2).mono ?_
  rintro e w3 ⟨v, ps, rfl, h1, h2, h3, h4, h5⟩
  have hk3 : Kept (fun _ => False) w2 w3 := ⟨h5.os, h5.tape, h5.output, h5.size, fun k hk _ => h5.block k hk⟩
  have hap : ∀ k i, Fc ca [] k i → v.ownBlock ≠ some k := fun k i hf e => by
    have h6 := (RowK.own_lt h1 e).2
    have := HG1.out.two.cc.lt hf; omega
  have H3 := Lib.hid (And.intro (show Pg w ca [] da M ea (gps (ps.take 0)) zs w3 from HG1.out.kept hk3) (show ∃ B, RP.own w3 B v ps from ⟨_, h1⟩))
  have HP := Lib.hid (And.intro h2 (And.intro h3 h4))
  have HAp := Lib.hid hap
  obtain ⟨Ap, cp, rfl, hsh, _, hcp⟩ := RowK.own_shows h1
  have HS := Lib.hid hcp
  have kb : (ps.length : Int) ≤ 301 := by omega
  clear h1 h2 h3 h4 h5 hap hk3 hsh hcp
  go_wp2_with fail
  go_loopw [46] (fun i wr => ∃ (k : Nat) (L : List Lk), i = .int .i64 (k : Int) ∧ k ≤ ps.length ∧ Pg w ca L da M ea (gps (ps.take k)) zs wr ∧ (∃ B, RP.own wr B (.slice Ap ps.length cp) ps) ∧ ∀ k i, Fc ca L k i → (Value.slice Ap ps.length cp).ownBlock ≠ some k) (fun i _ => ps.length - (intOf i).toNat)
  case atStart => exact ⟨0, [], rfl, by omega, H3.out.1, H3.out.2, HAp.out⟩
  case round =>
    obtain ⟨k, L, rfl, hk, hM, ⟨B0, ho⟩, hap⟩ := hrel
    by_cases hlt : k < ps.length
    · obtain ⟨A1, c1, e1, hsh, _, _⟩ := RowK.own_shows ho
      cases e1
      obtain ⟨g, off, rfl, hg, hl⟩ := hsh (by omega)
      obtain ⟨p, hp⟩ : ∃ p, ps[k]? = some p := ⟨_, List.getElem?_eq_getElem hlt⟩
      have cx := hl k p hp 0 (by decide)
      rw [show off + (k * RP.n + 0) = off + k by simp [RP]] at cx
      replace cx : wr.cell? ⟨g, off + k, none⟩ = some (.slice p.A p.n p.c) := cx
      have hpo := HP.out.1 p (List.mem_of_getElem? hp)
      have hlen : p.n + (flat L).length ≤ 1048576 := by
        have e1 := gps_mem hp
        rw [HP.out.2.1] at e1
        have e2 := hpo.len
        have := HA.out.2.2.2.1
        have := HT.out.2
        rw [hM.fl]; omega
      have HAd := Lib.hid (add_yes hM.two.cc (hpo.below hM.bel (fun _ _ e => hM.two.cc.low e)) hlen)
      have HM := Lib.hid (And.intro hM (And.intro ho (And.intro hap (And.intro hp hlt))))
      have d1 : (k : Int) < (ps.length : Int) := by omega
      clear hM hp hk ho hsh hl hpo hlen hlt hap
      go_wp2_with fail
      refine HAd.out.mono ?_
      rintro e w4 ⟨rfl, L', g1, g2, g3⟩
      have HE := Lib.hid (And.intro (HM.out.1.step (ys := gps (ps.take (k + 1))) g1 (by rw [g2, HM.out.1.fl, gps_take HM.out.2.2.2.1]) g3) (own_mc HM.out.2.1 g3 HM.out.2.2.1))
      clear g1 g2 g3
      go_wp2_with fail
      refine ⟨⟨k + 1, L', by go_num, HM.out.2.2.2.2, HE.out.1, ⟨_, HE.out.2.1⟩, HE.out.2.2⟩, by have := HM.out.2.2.2.2; simp [intOf]; omega⟩
    · obtain rfl : k = ps.length := by omega
      have H5 := Lib.hid (show Pg w ca L da M ea zs zs wr by rw [List.take_length, HP.out.2.1] at hM; exact hM)
      have d1 : ¬ ((ps.length : Int) < (ps.length : Int)) := by omega
      have HC := Lib.hid (HB.out wr.drew H5.out.bel.drew)
      have wN : (n : Int) ≤ 3000 := by omega
      clear hM hk hlt ho hap
      go_wp2_with fail
      refine wp_region_held_drew (S := (fun W => (convert 31 9 (.slice A n c)).run Try.prog W = .ok (.string T) W)) (by kernel_rfl) HC.out (fun hHeld => ?_)
      refine wpAnyH_ready (rs := [0]) (by kernel_rfl) (by simp) ?_
      refine (AllReadyH.cons (o := { dst := some 55, op := Op.call { callee := Callee.value (Operand.func 12), args := #[Operand.tmp 8], argTypes := #[29] }, type := 3, pos := "outright.go:91", after := #[], guard := none }) rfl (fun K hK => ?_) AllReadyH.nil)
      go_simp
      refine (HLn.out _ _ _ (H5.out.two.cc.kept (Kept.refl _ _).drew) H5.out.fl).mono ?_
      rintro e w' ⟨rfl, rfl⟩
      first | refine hK.out _ _ HC.out (fun hHeld2 => ?_) | (go_wp2_with fail; refine hK.out _ _ HC.out (fun hHeld2 => ?_))
      clear hK K hHeld
      have hHeld := hHeld2
      clear hHeld2
      try simp only [Act.put, List.setIfInBounds_toArray, List.set_cons_zero, List.set_cons_succ]
      refine wpAnyH_ready (rs := [1]) (by kernel_rfl) (by simp) ?_
      refine (AllReadyH.cons (o := { dst := some 56, op := Op.call { callee := Callee.value (Operand.func 12), args := #[Operand.tmp 9], argTypes := #[29] }, type := 3, pos := "outright.go:91", after := #[{ on := 0, ground := Ground.chain }], guard := none }) rfl (fun K hK => ?_) AllReadyH.nil)
      go_simp
      refine (HLn.out _ _ _ (H5.out.two.dd.kept (Kept.refl _ _).drew) H5.out.fm).mono ?_
      rintro e w' ⟨rfl, rfl⟩
      first | refine hK.out _ _ HC.out (fun hHeld2 => ?_) | (go_wp2_with fail; refine hK.out _ _ HC.out (fun hHeld2 => ?_))
      clear hK K hHeld
      have hHeld := hHeld2
      clear hHeld2
      try simp only [Act.put, List.setIfInBounds_toArray, List.set_cons_zero, List.set_cons_succ]
      refine wpAnyH_take (i := 2) (oi := { dst := some 57, op := Op.binOp BinOp.neq 3 (Operand.tmp 55) (Operand.tmp 56) 3, type := 4, pos := "outright.go:91", after := #[{ on := 0, ground := Ground.data }, { on := 1, ground := Ground.data }], guard := none }) (v := .bool false) rfl (by kernel_rfl) (by kernel_rfl) (by kernel_rfl) (fun _ _ _ h => h) (Or.inl ⟨by rfl, by intro w hSw; (try dsimp only at hSw); go_simp⟩) (by assumption) ?_
      try simp only [Act.put, List.setIfInBounds_toArray, List.set_cons_zero, List.set_cons_succ]
      refine wpAnyH_take (i := 3) (oi := { dst := some 58, op := Op.move (Operand.tmp 57), type := 4, pos := "outright.go:91", after := #[{ on := 2, ground := Ground.data }, { on := 1, ground := Ground.chain }], guard := none }) (v := .bool false) rfl (by kernel_rfl) (by kernel_rfl) (by kernel_rfl) (fun _ _ _ h => h) (Or.inl ⟨by rfl, by intro w hSw; (try dsimp only at hSw); go_simp⟩) (by assumption) ?_
      try simp only [Act.put, List.setIfInBounds_toArray, List.set_cons_zero, List.set_cons_succ]
      refine wpAnyH_take (i := 4) (oi := { dst := some 59, op := Op.move (Operand.tmp 0), type := 31, pos := "outright.go:91", after := #[{ on := 3, ground := Ground.guard }], guard := some (3, false) }) (v := .slice A n c) rfl (by kernel_rfl) (by kernel_rfl) (by kernel_rfl) (fun _ _ _ h => h) (Or.inl ⟨by rfl, by intro w hSw; (try dsimp only at hSw); go_simp⟩) (by assumption) ?_
      try simp only [Act.put, List.setIfInBounds_toArray, List.set_cons_zero, List.set_cons_succ]
      refine wpAnyH_take (i := 5) (oi := { dst := some 60, op := Op.call { callee := Callee.builtin Builtin.len, args := #[Operand.tmp 59], argTypes := #[31] }, type := 3, pos := "outright.go:91", after := #[{ on := 4, ground := Ground.data }, { on := 3, ground := Ground.guard }], guard := some (3, false) }) (v := .int .i64 (n : Int)) rfl (by kernel_rfl) (by kernel_rfl) (by kernel_rfl) (fun _ _ _ h => h) (Or.inl ⟨by rfl, by intro w hSw; (try dsimp only at hSw); go_simp⟩) (by assumption) ?_
      try simp only [Act.put, List.setIfInBounds_toArray, List.set_cons_zero, List.set_cons_succ]
      refine wpAnyH_take (i := 8) (oi := { dst := some 63, op := Op.move (Operand.tmp 0), type := 31, pos := "outright.go:91", after := #[{ on := 3, ground := Ground.guard }], guard := some (3, false) }) (v := .slice A n c) rfl (by kernel_rfl) (by kernel_rfl) (by kernel_rfl) (fun _ _ _ h => h) (Or.inl ⟨by rfl, by intro w hSw; (try dsimp only at hSw); go_simp⟩) (by assumption) ?_
      try simp only [Act.put, List.setIfInBounds_toArray, List.set_cons_zero, List.set_cons_succ]
      refine wpAnyH_take (i := 9) (oi := { dst := some 64, op := Op.convert 31 9 (Operand.tmp 63), type := 9, pos := "outright.go:91", after := #[{ on := 8, ground := Ground.data }, { on := 3, ground := Ground.guard }], guard := some (3, false) }) (v := .string T) rfl (by kernel_rfl) (by kernel_rfl) (by kernel_rfl) (fun _ _ _ h => h) (Or.inl ⟨by rfl, by intro w hSw; (try dsimp only at hSw); go_simp⟩) (by assumption) ?_
      try simp only [Act.put, List.setIfInBounds_toArray, List.set_cons_zero, List.set_cons_succ]
      refine wpAnyH_ready (rs := [6]) (by kernel_rfl) (by simp) ?_
      refine (AllReadyH.cons (o := { dst := some 61, op := Op.call { callee := Callee.value (Operand.func 26), args := #[Operand.tmp 8, Operand.const (Value.int IntKind.i64 0), Operand.tmp 60], argTypes := #[29, 3, 3] }, type := 31, pos := "outright.go:91", after := #[{ on := 5, ground := Ground.data }, { on := 3, ground := Ground.chain }, { on := 3, ground := Ground.guard }], guard := some (3, false) }) rfl (fun K hK => ?_) AllReadyH.nil)
      go_simp
      refine (HCp.out _ _ _ (H5.out.two.cc.kept (Kept.refl _ _).drew) H5.out.fl).mono ?_
      rintro e w6 ⟨v6, rfl, hs6, hk6⟩
      have H6 := Lib.hid (H5.out.kept ((Kept.refl _ _).drew.trans hk6))
      have HC := Lib.hid (HB.out w6 H6.out.bel)
      clear hk6
      first | refine hK.out _ _ HC.out (fun hHeld2 => ?_) | (go_wp2_with fail; refine hK.out _ _ HC.out (fun hHeld2 => ?_))
      clear hK K hHeld
      have hHeld := hHeld2
      clear hHeld2
      try simp only [Act.put, List.setIfInBounds_toArray, List.set_cons_zero, List.set_cons_succ]
      refine wpAnyH_ready (rs := [7]) (by kernel_rfl) (by simp) ?_
      refine (AllReadyH.cons (o := { dst := some 62, op := Op.convert 31 9 (Operand.tmp 61), type := 9, pos := "outright.go:91", after := #[{ on := 6, ground := Ground.data }, { on := 3, ground := Ground.guard }], guard := some (3, false) }) rfl (fun K hK => ?_) AllReadyH.nil)
      go_simp
      first | refine hK.out _ _ HC.out (fun hHeld2 => ?_) | (go_wp2_with fail; refine hK.out _ _ HC.out (fun hHeld2 => ?_))
      clear hK K hHeld
      have hHeld := hHeld2
      clear hHeld2
      try simp only [Act.put, List.setIfInBounds_toArray, List.set_cons_zero, List.set_cons_succ]
      refine wpAnyH_take (i := 10) (oi := { dst := some 65, op := Op.binOp BinOp.neq 9 (Operand.tmp 62) (Operand.tmp 64) 9, type := 4, pos := "outright.go:91", after := #[{ on := 7, ground := Ground.data }, { on := 9, ground := Ground.data }, { on := 3, ground := Ground.guard }], guard := some (3, false) }) (v := .bool false) rfl (by kernel_rfl) (by kernel_rfl) (by kernel_rfl) (fun _ _ _ h => h) (Or.inl ⟨by rfl, by intro w hSw; (try dsimp only at hSw); go_simp⟩) (by assumption) ?_
      try simp only [Act.put, List.setIfInBounds_toArray, List.set_cons_zero, List.set_cons_succ]
      refine wpAnyH_take (i := 11) (oi := { dst := some 66, op := Op.pick (Operand.tmp 58) (Operand.const (Value.bool true)) (Operand.tmp 65), type := 4, pos := "outright.go:91", after := #[{ on := 3, ground := Ground.data }, { on := 10, ground := Ground.data }], guard := none }) (v := .bool false) rfl (by kernel_rfl) (by kernel_rfl) (by kernel_rfl) (fun _ _ _ h => h) (Or.inl ⟨by rfl, by intro w hSw; (try dsimp only at hSw); go_simp⟩) (by assumption) ?_
      try simp only [Act.put, List.setIfInBounds_toArray, List.set_cons_zero, List.set_cons_succ]
      refine wpAnyH_take (i := 12) (oi := { dst := some 67, op := Op.move (Operand.tmp 66), type := 4, pos := "outright.go:91", after := #[{ on := 11, ground := Ground.data }, { on := 6, ground := Ground.chain }], guard := none }) (v := .bool false) rfl (by kernel_rfl) (by kernel_rfl) (by kernel_rfl) (fun _ _ _ h => h) (Or.inl ⟨by rfl, by intro w hSw; (try dsimp only at hSw); go_simp⟩) (by assumption) ?_
      try simp only [Act.put, List.setIfInBounds_toArray, List.set_cons_zero, List.set_cons_succ]
      refine wpAnyH_take (i := 13) (oi := { dst := some 68, op := Op.move (Operand.tmp 0), type := 31, pos := "outright.go:91", after := #[{ on := 12, ground := Ground.guard }], guard := some (12, false) }) (v := .slice A n c) rfl (by kernel_rfl) (by kernel_rfl) (by kernel_rfl) (fun _ _ _ h => h) (Or.inl ⟨by rfl, by intro w hSw; (try dsimp only at hSw); go_simp⟩) (by assumption) ?_
      try simp only [Act.put, List.setIfInBounds_toArray, List.set_cons_zero, List.set_cons_succ]
      refine wpAnyH_take (i := 14) (oi := { dst := some 69, op := Op.call { callee := Callee.builtin Builtin.len, args := #[Operand.tmp 68], argTypes := #[31] }, type := 3, pos := "outright.go:91", after := #[{ on := 13, ground := Ground.data }, { on := 12, ground := Ground.guard }], guard := some (12, false) }) (v := .int .i64 (n : Int)) rfl (by kernel_rfl) (by kernel_rfl) (by kernel_rfl) (fun _ _ _ h => h) (Or.inl ⟨by rfl, by intro w hSw; (try dsimp only at hSw); go_simp⟩) (by assumption) ?_
      try simp only [Act.put, List.setIfInBounds_toArray, List.set_cons_zero, List.set_cons_succ]
      refine wpAnyH_take (i := 17) (oi := { dst := some 72, op := Op.move (Operand.tmp 0), type := 31, pos := "outright.go:91", after := #[{ on := 12, ground := Ground.guard }], guard := some (12, false) }) (v := .slice A n c) rfl (by kernel_rfl) (by kernel_rfl) (by kernel_rfl) (fun _ _ _ h => h) (Or.inl ⟨by rfl, by intro w hSw; (try dsimp only at hSw); go_simp⟩) (by assumption) ?_
      try simp only [Act.put, List.setIfInBounds_toArray, List.set_cons_zero, List.set_cons_succ]
      refine wpAnyH_take (i := 18) (oi := { dst := some 73, op := Op.convert 31 9 (Operand.tmp 72), type := 9, pos := "outright.go:91", after := #[{ on := 17, ground := Ground.data }, { on := 12, ground := Ground.guard }], guard := some (12, false) }) (v := .string T) rfl (by kernel_rfl) (by kernel_rfl) (by kernel_rfl) (fun _ _ _ h => h) (Or.inl ⟨by rfl, by intro w hSw; (try dsimp only at hSw); go_simp⟩) (by assumption) ?_
      try simp only [Act.put, List.setIfInBounds_toArray, List.set_cons_zero, List.set_cons_succ]
      refine wpAnyH_ready (rs := [15]) (by kernel_rfl) (by simp) ?_
      refine (AllReadyH.cons (o := { dst := some 70, op := Op.call { callee := Callee.value (Operand.func 26), args := #[Operand.tmp 9, Operand.const (Value.int IntKind.i64 0), Operand.tmp 69], argTypes := #[29, 3, 3] }, type := 31, pos := "outright.go:91", after := #[{ on := 14, ground := Ground.data }, { on := 12, ground := Ground.chain }, { on := 12, ground := Ground.guard }], guard := some (12, false) }) rfl (fun K hK => ?_) AllReadyH.nil)
      go_simp
      refine (HCp.out _ _ _ H6.out.two.dd H6.out.fm).mono ?_
      rintro e w7 ⟨v7, rfl, hs7, hk7⟩
      have H7 := Lib.hid (H6.out.kept hk7)
      have HC := Lib.hid (HB.out w7 H7.out.bel)
      clear hk7
      first | refine hK.out _ _ HC.out (fun hHeld2 => ?_) | (go_wp2_with fail; refine hK.out _ _ HC.out (fun hHeld2 => ?_))
      clear hK K hHeld
      have hHeld := hHeld2
      clear hHeld2
      try simp only [Act.put, List.setIfInBounds_toArray, List.set_cons_zero, List.set_cons_succ]
      refine wpAnyH_ready (rs := [16]) (by kernel_rfl) (by simp) ?_
      refine (AllReadyH.cons (o := { dst := some 71, op := Op.convert 31 9 (Operand.tmp 70), type := 9, pos := "outright.go:91", after := #[{ on := 15, ground := Ground.data }, { on := 12, ground := Ground.guard }], guard := some (12, false) }) rfl (fun K hK => ?_) AllReadyH.nil)
      go_simp
      first | refine hK.out _ _ HC.out (fun hHeld2 => ?_) | (go_wp2_with fail; refine hK.out _ _ HC.out (fun hHeld2 => ?_))
      clear hK K hHeld
      have hHeld := hHeld2
      clear hHeld2
      try simp only [Act.put, List.setIfInBounds_toArray, List.set_cons_zero, List.set_cons_succ]
      refine wpAnyH_take (i := 19) (oi := { dst := some 74, op := Op.binOp BinOp.neq 9 (Operand.tmp 71) (Operand.tmp 73) 9, type := 4, pos := "outright.go:91", after := #[{ on := 16, ground := Ground.data }, { on := 18, ground := Ground.data }, { on := 12, ground := Ground.guard }], guard := some (12, false) }) (v := .bool false) rfl (by kernel_rfl) (by kernel_rfl) (by kernel_rfl) (fun _ _ _ h => h) (Or.inl ⟨by rfl, by intro w hSw; (try dsimp only at hSw); go_simp⟩) (by assumption) ?_
      try simp only [Act.put, List.setIfInBounds_toArray, List.set_cons_zero, List.set_cons_succ]
      refine wpAnyH_take (i := 20) (oi := { dst := some 75, op := Op.pick (Operand.tmp 67) (Operand.const (Value.bool true)) (Operand.tmp 74), type := 4, pos := "outright.go:91", after := #[{ on := 12, ground := Ground.data }, { on := 19, ground := Ground.data }], guard := none }) (v := .bool false) rfl (by kernel_rfl) (by kernel_rfl) (by kernel_rfl) (fun _ _ _ h => h) (Or.inl ⟨by rfl, by intro w hSw; (try dsimp only at hSw); go_simp⟩) (by assumption) ?_
      try simp only [Act.put, List.setIfInBounds_toArray, List.set_cons_zero, List.set_cons_succ]
      refine wpAnyH_done (by kernel_rfl) ?_ _
      have HG7 := Lib.hid H7.out.move
      have HAll := Lib.hid (show ([] : List Int) ++ flat ([] : List Lk) ++ flat L = zs from by rw [H7.out.fl]; rfl)
      go_wp2_with fail
      go_loopw [78, 15] (fun i s wr => ∃ (k : Nat) (L E : List Lk) (gb : List Int), i = .int .i64 (k : Int) ∧ s = .string (strOfNums gb) ∧ k ≤ m3 ∧ Two wr w.heap.size ca L ea E ∧ gb ++ flat E ++ flat L = zs ∧ Below w.heap.size w wr) (fun i _ _ => m3 - (intOf i).toNat)
      case atStart => exact ⟨0, L, [], [], rfl, rfl, Nat.zero_le _, HG7.out, HAll.out, H7.out.bel⟩
      case round =>
        obtain ⟨k, L, E, gb, rfl, rfl, hk, tt, hall, hB⟩ := hrel
        by_cases hlt : k < m3
        · obtain ⟨bo, oo, rfl, hbo, hco⟩ := HO.out.1.at_ (Nat.lt_of_le_of_lt (Nat.zero_le _) hlt)
          obtain ⟨z, hz⟩ : ∃ z, ys[k]? = some z := ⟨_, List.getElem?_eq_getElem (by rw [HO.out.1.len]; exact hlt)⟩
          obtain ⟨hz0, hz1⟩ := HO.out.2.1 z (List.mem_of_getElem? hz)
          obtain ⟨q, rfl⟩ := pn_nat hz0
          have hq := pn_byte hz1
          have co := (hco k _ hz).2
          have cz := (hB.cell hbo).trans co
          have wq := pn_wrap hq
          obtain ⟨y, hy⟩ : ∃ y, y = min q (flat L).length := ⟨_, rfl⟩
          obtain ⟨rr, e3, w3r⟩ := pn_mod k
          obtain ⟨f1, f1a, f1b⟩ := pn_min hy
          have HMv := Lib.hid (pmove tt hall hB HZ3.out q y hq hy)
          have d1 : (k : Int) < (m3 : Int) := Int.ofNat_lt.2 hlt
          have HQ := Lib.hid (And.intro hlt (And.intro hbo (And.intro co hq)))
          clear hk tt hall hB hlt hco hz hz0 hz1 hy co hq
          go_wp2_with fail
          refine HMv.out.mono ?_
          rintro e w8 ⟨rfl, L', E', t8, a8, b8⟩
          have cz8 := (b8.cell HQ.out.2.1).trans HQ.out.2.2.1
          by_cases h2 : rr = 2
          · subst h2
            obtain ⟨G, hG⟩ : ∃ G, strOfNums gb = G := ⟨_, rfl⟩
            obtain ⟨X, hsz, sG, HTq⟩ := ptake t8 a8 b8 HZ3.out q HQ.out.2.2.2 hG
            obtain ⟨hnb, hsb⟩ := pn_size hsz
            have HTq := Lib.hid HTq
            have HG9 := Lib.hid sG
            rw [hG]
            clear t8 a8 b8 hG sG hsz
            go_wp2_with fail
            refine HTq.out.mono ?_
            rintro e w9 ⟨v9, rfl, hs9, E2, t9, a9, b9⟩
            have HE := Lib.hid (And.intro t9 (And.intro a9 b9))
            clear t9 a9 b9
            go_wp2_with fail
            exact ⟨⟨k + 1, L', E2, _, by go_num, by rw [HG9.out], HQ.out.1, HE.out.1, HE.out.2.1, HE.out.2.2⟩, pn_meas HQ.out.1⟩
          · obtain ⟨f2, f3, f4⟩ := pn_two h2
            have HE := Lib.hid (And.intro t8 (And.intro a8 b8))
            clear t8 a8 b8
            go_wp2_with fail
            exact ⟨⟨k + 1, L', E', gb, by go_num, rfl, HQ.out.1, HE.out.1, HE.out.2.1, HE.out.2.2⟩, pn_meas HQ.out.1⟩
        · obtain rfl : k = m3 := Nat.le_antisymm hk (Nat.not_lt.1 hlt)
          have H8 := Lib.hid (And.intro tt (And.intro (pn_lens hall HT.out.2 HA.out.2.2.2.1).1 hB))
          obtain ⟨S7, hS7⟩ : ∃ S, strOfNums gb = S := ⟨_, rfl⟩
          obtain ⟨T1, hT1⟩ : ∃ S, strOfNums (flat E) = S := ⟨_, rfl⟩
          obtain ⟨T2, hT2⟩ : ∃ S, strOfNums (flat L) = S := ⟨_, rfl⟩
          obtain ⟨hST, g1, g2⟩ := pn_strs hall HT.out.2 HA.out.2.2.2.1 hS7 hT1 hT2 HT.out.1
          obtain ⟨hnb, hsb⟩ := pn_size g1
          obtain ⟨hnb2, hsb2, hnb3, hsb3⟩ := pn_big g2
          have HZ := Lib.hid (And.intro hS7 (And.intro hT1 (And.intro hT2 trivial)))
          have HC := Lib.hid (HB.out wr.drew hB.drew)
          rw [hS7]
          have d1 : ¬ ((k : Int) < (k : Int)) := Int.lt_irrefl _
          clear tt hall hB hlt hk hS7 hT1 hT2 g1 g2
          go_wp2_with fail
      
          refine wp_region_held_drew (S := (fun W => (convert 31 9 (.slice A n c)).run Try.prog W = .ok (.string T) W)) (by kernel_rfl) HC.out (fun hHeld => ?_)
          refine wpAnyH_take (i := 0) (oi := { dst := some 114, op := Op.move (Operand.tmp 15), type := 9, pos := "outright.go:104", after := #[], guard := none }) (v := .string S7) rfl (by kernel_rfl) (by kernel_rfl) (by kernel_rfl) (fun _ _ _ h => h) (Or.inl ⟨by rfl, by intro w hSw; (try dsimp only at hSw); go_simp⟩) (by assumption) ?_
          try simp only [Act.put, List.setIfInBounds_toArray, List.set_cons_zero, List.set_cons_succ]
          refine wpAnyH_take (i := 1) (oi := { dst := some 115, op := Op.move (Operand.tmp 0), type := 31, pos := "outright.go:104", after := #[], guard := none }) (v := .slice A n c) rfl (by kernel_rfl) (by kernel_rfl) (by kernel_rfl) (fun _ _ _ h => h) (Or.inl ⟨by rfl, by intro w hSw; (try dsimp only at hSw); go_simp⟩) (by assumption) ?_
          try simp only [Act.put, List.setIfInBounds_toArray, List.set_cons_zero, List.set_cons_succ]
          refine wpAnyH_take (i := 2) (oi := { dst := some 116, op := Op.call { callee := Callee.builtin Builtin.len, args := #[Operand.tmp 115], argTypes := #[31] }, type := 3, pos := "outright.go:104", after := #[{ on := 1, ground := Ground.data }], guard := none }) (v := .int .i64 (n : Int)) rfl (by kernel_rfl) (by kernel_rfl) (by kernel_rfl) (fun _ _ _ h => h) (Or.inl ⟨by rfl, by intro w hSw; (try dsimp only at hSw); go_simp⟩) (by assumption) ?_
          try simp only [Act.put, List.setIfInBounds_toArray, List.set_cons_zero, List.set_cons_succ]
          refine wpAnyH_take (i := 6) (oi := { dst := some 120, op := Op.move (Operand.tmp 0), type := 31, pos := "outright.go:104", after := #[], guard := none }) (v := .slice A n c) rfl (by kernel_rfl) (by kernel_rfl) (by kernel_rfl) (fun _ _ _ h => h) (Or.inl ⟨by rfl, by intro w hSw; (try dsimp only at hSw); go_simp⟩) (by assumption) ?_
          try simp only [Act.put, List.setIfInBounds_toArray, List.set_cons_zero, List.set_cons_succ]
          refine wpAnyH_take (i := 7) (oi := { dst := some 121, op := Op.call { callee := Callee.builtin Builtin.len, args := #[Operand.tmp 120], argTypes := #[31] }, type := 3, pos := "outright.go:104", after := #[{ on := 6, ground := Ground.data }], guard := none }) (v := .int .i64 (n : Int)) rfl (by kernel_rfl) (by kernel_rfl) (by kernel_rfl) (fun _ _ _ h => h) (Or.inl ⟨by rfl, by intro w hSw; (try dsimp only at hSw); go_simp⟩) (by assumption) ?_
          try simp only [Act.put, List.setIfInBounds_toArray, List.set_cons_zero, List.set_cons_succ]
          refine wpAnyH_ready (rs := [3]) (by kernel_rfl) (by simp) ?_
          refine (AllReadyH.cons (o := { dst := some 117, op := Op.call { callee := Callee.value (Operand.func 25), args := #[Operand.tmp 10, Operand.tmp 116], argTypes := #[29, 3] }, type := 31, pos := "outright.go:104", after := #[{ on := 2, ground := Ground.data }], guard := none }) rfl (fun K hK => ?_) AllReadyH.nil)
          go_simp
          refine (take2 (H8.out.1.kept (Kept.refl _ _).drew) H8.out.2.2.drew n ⟨H8.out.2.1.1, H8.out.2.1.2.2⟩).mono ?_
          rintro e w3 ⟨v3, rfl, hs3, E3, t3, f3, b3, m3, p3⟩
          have HC := Lib.hid (HB.out w3 b3)
          have HC2 := Lib.hid (show (fun W => (fun W => (convert 31 9 (.slice A n c)).run Try.prog W = .ok (.string T) W) W ∧ (convert 31 9 (v3)).run Try.prog W = .ok (.string T1) W) w3 from And.intro HC.out (HZ.out.2.1 ▸ rowB_str hs3 (pn_le H8.out.2.1)))
          have H3 := Lib.hid (And.intro t3 (And.intro f3 (And.intro b3 p3)))
          clear hs3 t3 f3 b3 m3 p3
          first | refine hK.out _ _ HC.out (fun hHeld2 => ?_) | (go_wp2_with fail; refine hK.out _ _ HC.out (fun hHeld2 => ?_))
          clear hK K hHeld
          clear hHeld2
          refine wpAnyH_more (S' := (fun W => (fun W => (convert 31 9 (.slice A n c)).run Try.prog W = .ok (.string T) W) W ∧ (convert 31 9 (v3)).run Try.prog W = .ok (.string T1) W)) (fun _ h => h.1) HC2.out (fun hHeld => ?_)
          have HC := HC2
          try simp only [Act.put, List.setIfInBounds_toArray, List.set_cons_zero, List.set_cons_succ]
          refine wpAnyH_take (i := 4) (oi := { dst := some 118, op := Op.convert 31 9 (Operand.tmp 117), type := 9, pos := "outright.go:104", after := #[{ on := 3, ground := Ground.data }], guard := none }) (v := .string T1) rfl (by kernel_rfl) (by kernel_rfl) (by kernel_rfl) (fun _ _ _ h => h) (Or.inl ⟨by rfl, by intro w hSw; (try dsimp only at hSw); go_simp⟩) (by assumption) ?_
          try simp only [Act.put, List.setIfInBounds_toArray, List.set_cons_zero, List.set_cons_succ]
          refine wpAnyH_take (i := 5) (oi := { dst := some 119, op := Op.binOp BinOp.add 9 (Operand.tmp 114) (Operand.tmp 118) 9, type := 9, pos := "outright.go:104", after := #[{ on := 0, ground := Ground.data }, { on := 4, ground := Ground.data }], guard := none }) (v := .string (S7 ++ T1)) rfl (by kernel_rfl) (by kernel_rfl) (by kernel_rfl) (fun _ _ _ h => h) (Or.inl ⟨by rfl, by intro w hSw; (try dsimp only at hSw); go_simp⟩) (by assumption) ?_
          try simp only [Act.put, List.setIfInBounds_toArray, List.set_cons_zero, List.set_cons_succ]
          refine wpAnyH_ready (rs := [8]) (by kernel_rfl) (by simp) ?_
          refine (AllReadyH.cons (o := { dst := some 122, op := Op.call { callee := Callee.value (Operand.func 25), args := #[Operand.tmp 8, Operand.tmp 121], argTypes := #[29, 3] }, type := 31, pos := "outright.go:104", after := #[{ on := 7, ground := Ground.data }, { on := 3, ground := Ground.chain }], guard := none }) rfl (fun K hK => ?_) AllReadyH.nil)
          go_simp
          refine (take2 H3.out.1.symm H3.out.2.2.1 n ⟨H8.out.2.1.2.1, H8.out.2.1.2.2⟩).mono ?_
          rintro e w4 ⟨v4, rfl, hs4, L4, t4, f4, b4, m4, p4⟩
          have HC := Lib.hid (show (fun W => (fun W => (convert 31 9 (.slice A n c)).run Try.prog W = .ok (.string T) W) W ∧ (convert 31 9 (v3)).run Try.prog W = .ok (.string T1) W) w4 from And.intro (HB.out w4 b4) (HZ.out.2.1 ▸ rowB_str (H3.out.2.2.2 _ _ m4) (pn_le H8.out.2.1)))
          have HC2 := Lib.hid (show (fun W => (fun W => (fun W => (convert 31 9 (.slice A n c)).run Try.prog W = .ok (.string T) W) W ∧ (convert 31 9 (v3)).run Try.prog W = .ok (.string T1) W) W ∧ (convert 31 9 (v4)).run Try.prog W = .ok (.string T2) W) w4 from And.intro HC.out (HZ.out.2.2.1 ▸ rowB_str hs4 (pn_le2 H8.out.2.1)))
          have HX := Lib.hid (And.intro t4.dd (And.intro f4 (And.intro t4.cc (And.intro H3.out.2.1 b4))))
          clear hs4 t4 f4 b4 m4 p4
          first | refine hK.out _ _ HC.out (fun hHeld2 => ?_) | (go_wp2_with fail; refine hK.out _ _ HC.out (fun hHeld2 => ?_))
          clear hK K hHeld
          clear hHeld2
          refine wpAnyH_more (S' := (fun W => (fun W => (fun W => (convert 31 9 (.slice A n c)).run Try.prog W = .ok (.string T) W) W ∧ (convert 31 9 (v3)).run Try.prog W = .ok (.string T1) W) W ∧ (convert 31 9 (v4)).run Try.prog W = .ok (.string T2) W)) (fun _ h => h.1) HC2.out (fun hHeld => ?_)
          have HC := HC2
          try simp only [Act.put, List.setIfInBounds_toArray, List.set_cons_zero, List.set_cons_succ]
          refine wpAnyH_take (i := 9) (oi := { dst := some 123, op := Op.convert 31 9 (Operand.tmp 122), type := 9, pos := "outright.go:104", after := #[{ on := 8, ground := Ground.data }], guard := none }) (v := .string T2) rfl (by kernel_rfl) (by kernel_rfl) (by kernel_rfl) (fun _ _ _ h => h) (Or.inl ⟨by rfl, by intro w hSw; (try dsimp only at hSw); go_simp⟩) (by assumption) ?_
          try simp only [Act.put, List.setIfInBounds_toArray, List.set_cons_zero, List.set_cons_succ]
          refine wpAnyH_take (i := 10) (oi := { dst := some 124, op := Op.binOp BinOp.add 9 (Operand.tmp 119) (Operand.tmp 123) 9, type := 9, pos := "outright.go:104", after := #[{ on := 5, ground := Ground.data }, { on := 9, ground := Ground.data }], guard := none }) (v := .string T) rfl (by kernel_rfl) (by kernel_rfl) (by kernel_rfl) (fun _ _ _ h => h) (Or.inl ⟨by rfl, by intro w hSw; (try dsimp only at hSw); go_simp⟩) (by assumption) ?_
          try simp only [Act.put, List.setIfInBounds_toArray, List.set_cons_zero, List.set_cons_succ]
          refine wpAnyH_take (i := 11) (oi := { dst := some 15, op := Op.assign (Operand.tmp 124), type := 9, pos := "outright.go:104", after := #[{ on := 10, ground := Ground.data }, { on := 8, ground := Ground.chain }, { on := 0, ground := Ground.phase }, { on := 1, ground := Ground.phase }, { on := 2, ground := Ground.phase }, { on := 3, ground := Ground.phase }, { on := 4, ground := Ground.phase }, { on := 5, ground := Ground.phase }, { on := 6, ground := Ground.phase }, { on := 7, ground := Ground.phase }, { on := 8, ground := Ground.phase }, { on := 9, ground := Ground.phase }, { on := 10, ground := Ground.phase }], guard := none }) (v := .string T) rfl (by kernel_rfl) (by kernel_rfl) (by kernel_rfl) (fun _ _ _ h => h) (Or.inl ⟨by rfl, by intro w hSw; (try dsimp only at hSw); go_simp⟩) (by assumption) ?_
          try simp only [Act.put, List.setIfInBounds_toArray, List.set_cons_zero, List.set_cons_succ]
          refine wpAnyH_done (by kernel_rfl) ?_ _
          have hcv := HB.out w4 HX.out.2.2.2.2
          go_wp2_with (first
            | (go_at_call_of 12 (Value.pointer (some ⟨ca, 0, none⟩)); refine (len_zero HX.out.1 HX.out.2.1).mono ?_; rintro e w9 ⟨rfl, rfl⟩)
            | (go_at_call 12; refine (len_zero HX.out.2.2.1 HX.out.2.2.2.1).mono ?_; rintro e w9 ⟨rfl, rfl⟩))
          go_ret
          exact ⟨rfl, HX.out.2.2.2.2⟩
      

set_option maxRecDepth 100000 in
set_option maxHeartbeats 4000000 in
theorem pieces_law (w : World) {A A2 A3 : Option Addr} {n c m c2 m3 c3 : Nat} {zs xs ys : List Int} (hb : Src w No2 A n c zs) (ha : Src w No2 A2 m c2 xs) (ho : Src w No2 A3 m3 c3 ys) (hx : Byt xs) (hy : Byt ys) :
    Calls Try.prog 5 #[.slice A n c, .slice A2 m c2, .slice A3 m3 c3] w fun e w' => e = .returned (.bool true) ∧ Below w.heap.size w w' := by
  by_cases hn : n ≤ 3000
  · by_cases hm : m ≤ 300
    · by_cases hm3 : m3 ≤ 300
      · exact pieces_main w hb ha ho hx hy hn hm hm3
      · have b1 : decide ((3000 : Int) < (n : Int)) = false := by simp; omega
        have b2 : decide ((300 : Int) < (m : Int)) = false := by simp; omega
        have b3 : decide ((300 : Int) < (m3 : Int)) = true := by simp; omega
        clear hb ha ho hx hy
        go_enter Try.func5, Try.ntmps5
        go_wp2_with (go_at_call 24; refine (alive_any _).mono ?_; rintro e w0 ⟨rfl, hb0⟩; have HB0 := Lib.hid hb0; clear hb0)
        go_ret
        exact ⟨rfl, HB0.out⟩
    · have b1 : decide ((3000 : Int) < (n : Int)) = false := by simp; omega
      have b2 : decide ((300 : Int) < (m : Int)) = true := by simp; omega
      clear hb ha ho hx hy
      go_enter Try.func5, Try.ntmps5
      go_wp2_with (go_at_call 24; refine (alive_any _).mono ?_; rintro e w0 ⟨rfl, hb0⟩; have HB0 := Lib.hid hb0; clear hb0)
      go_ret
      exact ⟨rfl, HB0.out⟩
  · have b1 : decide ((3000 : Int) < (n : Int)) = true := by simp; omega
    clear hb ha ho hx hy
    go_enter Try.func5, Try.ntmps5
    go_wp2_with (go_at_call 24; refine (alive_any _).mono ?_; rintro e w0 ⟨rfl, hb0⟩; have HB0 := Lib.hid hb0; clear hb0)
    go_ret
    exact ⟨rfl, HB0.out⟩
end Go.Proofs.Ytkhkhjkacibocaa
