/-
  ChainMoves.
-/
import Derived.Test.YtkhkhjkacibocaaChCutL
namespace Go.Proofs.Ytkhkhjkacibocaa
open Go.RowKit Go.Shelf Go.Maps Go.ChangeMaps

/-- While the pieces are added. -/
structure MvI (w0 : World) (c : Nat) (L : List Lk) (d : Nat) (M : List Lk) (v : Value) (ps : List Ps) (xs : List Int) (wr : World) : Prop where
  two : Two wr w0.heap.size c L d M
  fl : flat L = xs
  own : ∃ B, RP.own wr B v ps
  ap : ∀ k i, F2 c L d M k i → v.ownBlock ≠ some k
  bel : Below w0.heap.size w0 wr
section
variable {w0 wr w1 : World} {c d : Nat} {L L' M : List Lk} {v : Value} {ps : List Ps} {xs ys : List Int}
theorem own_mc {B : Nat} {D D' : Nat → Nat → Prop} (h : RP.own wr B v ps) (m : Mc wr w1 D D') (ha : ∀ k i, D k i → v.ownBlock ≠ some k) : RP.own w1 B v ps ∧ ∀ k i, D' k i → v.ownBlock ≠ some k :=
  ⟨RowK.own_same h fun k e => m.k.same (RowK.own_lt h e).1 fun j hd => ha k j hd e, fun k i hd e => by
    rcases m.o k i hd with h2 | h2
    · exact ha k i h2 e
    · have := (RowK.own_lt h e).1; omega⟩
theorem F2.low {wr : World} {B k i : Nat} (h : Two wr B c L d M) (hf : F2 c L d M k i) : B ≤ k := hf.elim h.cc.low h.dd.low
theorem MvI.step (h : MvI w0 c L d M v ps xs wr) (hc : Cn w1 w0.heap.size 29 c L') (hf : flat L' = xs ++ ys) (m : Mc wr w1 (Fc c L) (Fc c L')) : MvI w0 c L' d M v ps (xs ++ ys) w1 := by
  obtain ⟨t, m2⟩ := h.two.step hc m
  obtain ⟨B, ho⟩ := h.own
  obtain ⟨o, a⟩ := own_mc ho m2 h.ap
  exact ⟨t, hf, ⟨B, o⟩, a, law_step h.two.cc h.bel m⟩
theorem MvI.src (h : MvI w0 c L d M v ps xs wr) {p : Ps} (hp : p.Ok w0) : Src wr (Fc c L) p.A p.n p.c p.zs := Src.below hp h.bel fun _ _ e => h.two.cc.low e
theorem gps_take {k : Nat} {p : Ps} (h : ps[k]? = some p) : gps (ps.take (k + 1)) = gps (ps.take k) ++ p.zs := by
  obtain ⟨hk, e⟩ := List.getElem?_eq_some_iff.1 h
  rw [List.take_succ_eq_append_getElem hk, e]
  simp [gps]
theorem gps_mem {k : Nat} {p : Ps} (h : ps[k]? = some p) : (gps (ps.take k)).length + p.zs.length ≤ (gps ps).length := by
  have h1 := gps_take h
  have : gps ps = gps (ps.take (k + 1)) ++ gps (ps.drop (k + 1)) := by
    unfold gps
    rw [← List.flatMap_append, List.take_append_drop]
  rw [this, h1]; simp
end

/-- Two new chains. -/
theorem two_new {w w0 : World} (hb : Below w.heap.size w w0) :
    Two ((w0.alloc (.cells #[.pointer none, .pointer none, .int .i64 0] 29)).alloc (.cells #[.pointer none, .pointer none, .int .i64 0] 29)) w.heap.size w0.heap.size [] (w0.heap.size + 1) [] ∧
    Below w.heap.size w ((w0.alloc (.cells #[.pointer none, .pointer none, .int .i64 0] 29)).alloc (.cells #[.pointer none, .pointer none, .int .i64 0] 29)) := by
  have h1 := ((cn_new w0).kept ((Kept.refl _ _).alloc (.cells #[.pointer none, .pointer none, .int .i64 0] 29))).more hb.size
  have h2 := (cn_new (w0.alloc (.cells #[.pointer none, .pointer none, .int .i64 0] 29))).more (B' := w.heap.size) (by have := hb.size; simp; omega)
  have e1 : (w0.alloc (.cells #[.pointer none, .pointer none, .int .i64 0] 29)).heap.size = w0.heap.size + 1 := by simp
  rw [e1] at h2
  exact ⟨⟨h1, h2, by simp, by omega⟩, (hb.alloc hb.size _).alloc (by have := hb.size; simp; omega) _⟩

set_option maxRecDepth 100000 in
set_option maxHeartbeats 8000000 in
theorem moves_main (w : World) {A A2 : Option Addr} {n c m c2 : Nat} {zs xs : List Int} (hb : Src w No2 A n c zs) (ha : Src w No2 A2 m c2 xs) (hx : Byt xs) (q : Nat) (hq : q < 65536) (hn : n ≤ 5000) (hm : m ≤ 200) :
    Calls Try.prog 8 #[.slice A n c, .slice A2 m c2, .int .u16 (q : Int)] w fun e w' => e = .returned (.bool true) ∧ Below w.heap.size w w' := by
  have b1 : decide ((5000 : Int) < (n : Int)) = false := by simp; omega
  have b2 : decide ((200 : Int) < (m : Int)) = false := by simp; omega
  have wq : wrap64 (q : Int) = (q : Int) := by unfold wrap64; omega
  have HA := Lib.hid (And.intro hb (And.intro ha (And.intro hx (And.intro hn hm))))
  have hzl := hb.len
  clear hb ha hx
  go_enter Try.func8, Try.ntmps8
  go_wp2_with (go_at_call 24; refine (alive_any _).mono ?_; rintro e w0 ⟨rfl, hb0⟩; have HB0 := Lib.hid hb0; clear hb0)
  obtain ⟨tw, hbV⟩ := two_new HB0.out
  obtain ⟨V, hV⟩ : ∃ V, V = (w0.alloc (.cells #[.pointer none, .pointer none, .int .i64 0] 29)).alloc (.cells #[.pointer none, .pointer none, .int .i64 0] 29) := ⟨_, rfl⟩
  rw [← hV] at tw hbV ⊢
  obtain ⟨ca, hca⟩ : ∃ x, x = w0.heap.size := ⟨_, rfl⟩
  obtain ⟨da, hda⟩ : ∃ x, x = w0.heap.size + 1 := ⟨_, rfl⟩
  rw [← hda, ← hca] at tw ⊢
  refine (cutl_any HA.out.1 (HA.out.2.1.below hbV (fun _ _ e => e.elim)) HA.out.2.2.1 (by omega)).mono ?_
  rintro e w3 ⟨v, ps, rfl, h1, h2, h3, h4, h5⟩
  have hap : ∀ k i, F2 ca [] da [] k i → v.ownBlock ≠ some k := fun k i hf e => by
    have h6 := (RowK.own_lt h1 e).2
    rcases hf with hf | hf
    · have := tw.cc.lt hf; omega
    · have := tw.dd.lt hf; omega
  have hk3 : Kept (fun _ => False) V w3 := ⟨h5.os, h5.tape, h5.output, h5.size, fun k hk _ => h5.block k hk⟩
  have H3 := Lib.hid (show MvI w ca [] da [] v ps [] w3 from ⟨tw.kept hk3, rfl, ⟨_, h1⟩, hap, hbV.trans (h5.mono hbV.size)⟩)
  have HP := Lib.hid (And.intro h2 (And.intro h3 h4))
  obtain ⟨Ap, cp, rfl, hsh, _, hcp⟩ := RowK.own_shows h1
  have HS := Lib.hid hcp
  clear h1 h2 h3 h4 h5 tw hbV hV hca hda hap hk3 hsh hcp
  go_wp2_with fail
  go_loopw [40] (fun i wr => ∃ (k : Nat) (L : List Lk), i = .int .i64 (k : Int) ∧ k ≤ ps.length ∧ MvI w ca L da [] (.slice Ap ps.length cp) ps (gps (ps.take k)) wr) (fun i _ => ps.length - (intOf i).toNat)
  case atStart => exact ⟨0, [], rfl, by omega, H3.out⟩
  case round =>
    obtain ⟨k, L, rfl, hk, hM⟩ := hrel
    by_cases hlt : k < ps.length
    · obtain ⟨B0, ho⟩ := hM.own
      obtain ⟨A1, c1, e1, hsh, _, _⟩ := RowK.own_shows ho
      cases e1
      obtain ⟨g, off, rfl, hg, hl⟩ := hsh (by omega)
      obtain ⟨p, hp⟩ : ∃ p, ps[k]? = some p := ⟨_, List.getElem?_eq_getElem hlt⟩
      have cz := hl k p hp 0 (by decide)
      rw [show off + (k * RP.n + 0) = off + k by simp [RP]] at cz
      replace cz : wr.cell? ⟨g, off + k, none⟩ = some (.slice p.A p.n p.c) := cz
      have hpo := HP.out.1 p (List.mem_of_getElem? hp)
      have hlen : p.n + (flat L).length ≤ 1048576 := by
        have e1 := gps_mem hp
        rw [HP.out.2.1] at e1
        have e2 := hpo.len
        have := HA.out.2.2.2.1
        rw [hM.fl]; omega
      have HAd := Lib.hid (add_yes hM.two.cc (hM.src hpo) hlen)
      have HM := Lib.hid (And.intro hM (And.intro hp hk))
      have d1 : (k : Int) < (ps.length : Int) := by omega
      have kb : (ps.length : Int) ≤ 301 := by have := HP.out.2.2; omega
      clear hM hp hk ho hsh hl hpo hlen
      go_wp2_with fail
      refine HAd.out.mono ?_
      rintro e w4 ⟨rfl, L', g1, g2, g3⟩
      have HE := Lib.hid (HM.out.1.step (ys := p.zs) g1 (by rw [g2, HM.out.1.fl]) g3)
      clear g1 g2 g3
      go_wp2_with fail
      refine ⟨⟨k + 1, L', by go_num, hlt, by rw [gps_take HM.out.2.1]; exact HE.out⟩, by simp [intOf]; omega⟩
    · obtain rfl : k = ps.length := by omega
      have hM2 : MvI w ca L da [] (.slice Ap ps.length cp) ps zs wr := by rw [List.take_length, HP.out.2.1] at hM; exact hM
      have HM := Lib.hid hM2
      have d1 : ¬ ((ps.length : Int) < (ps.length : Int)) := by omega
      obtain ⟨y, hy⟩ : ∃ y, y = min q n := ⟨_, rfl⟩
      have HV : Calls Try.prog 20 #[.pointer (some ⟨ca, 0, none⟩), .pointer (some ⟨da, 0, none⟩), .int .i64 (q : Int)] wr fun e w' => e = .returned (.tuple #[.int .i64 (y : Int), .int .i64 0]) ∧ ∃ L' M', Two w' w.heap.size ca L' da M' ∧ flat L' = zs.drop y ∧ flat M' = zs.take y ∧ Below w.heap.size w w' := by
        refine (move_yes HM.out.two q (by omega) (by have e := HM.out.fl; have := HA.out.2.2.2.1; rw [e]; simp [flat]; omega)).mono ?_
        rintro e w' ⟨rfl, L', M', h1, h2, h3, h4⟩
        have e := HM.out.fl
        rw [e, hzl, ← hy]
        refine ⟨rfl, L', M', h1, ?_, ?_, HM.out.bel.trans (h4.below (fun _ _ e => F2.low HM.out.two e) HM.out.two.cc.base)⟩
        · rw [h2, e, hy]
          by_cases e : q ≤ n
          · rw [Nat.min_eq_left e]
          · rw [Nat.min_eq_right (by omega), List.drop_of_length_le (by omega), List.drop_of_length_le (by omega)]
        · rw [h3, e, hy]
          by_cases e : q ≤ n
          · rw [Nat.min_eq_left e]; simp [flat]
          · rw [Nat.min_eq_right (by omega), List.take_of_length_le (by omega), List.take_of_length_le (by omega)]; simp [flat]
      have HV := Lib.hid HV
      obtain ⟨r1, s1⟩ := HA.out.1.left (m := y) (by omega)
      obtain ⟨A'', r2, s2⟩ := HA.out.1.right (m := y) (by omega)
      obtain ⟨T1, hT1⟩ : ∃ T, strOfNums (zs.take y) = T := ⟨_, rfl⟩
      obtain ⟨T2, hT2⟩ : ∃ T, strOfNums (zs.drop y) = T := ⟨_, rfl⟩
      obtain ⟨T, hT⟩ : ∃ T, strOfNums zs = T := ⟨_, rfl⟩
      have HB1 := Lib.hid (fun W (hW : Below w.heap.size w W) => hT1 ▸ (s1.below (D := No2) hW (fun _ _ e => e.elim)).str)
      have HB2 := Lib.hid (fun W (hW : Below w.heap.size w W) => hT2 ▸ (s2.below (D := No2) hW (fun _ _ e => e.elim)).str)
      have HB3 := Lib.hid (fun W (hW : Below w.heap.size w W) => hT ▸ (HA.out.1.below (D := No2) hW (fun _ _ e => e.elim)).str)
      have HT := Lib.hid (And.intro hT1 (And.intro hT2 hT))
      have hn5 := HA.out.2.2.2.1
      have HCd := Lib.hid (show ∀ W M', Cn W w.heap.size 29 da M' → flat M' = zs.take y → Calls Try.prog 26 #[.pointer (some ⟨da, 0, none⟩), .int .i64 0, .int .i64 ((n : Int) + 1)] W fun e w' => ∃ v, e = .returned v ∧ (convert 31 9 v).run Try.prog w' = .ok (.string T1) w' ∧ Kept (fun _ => False) W w' from fun W M' h e => by
        refine (copy_any h 0 (n + 1 : Int) (by omega) (by omega)).mono ?_
        rintro e2 w' ⟨v, rfl, h1, h2⟩
        have e3 : cpy (flat M') 0 (n + 1 : Int) = zs.take y := by
          unfold cpy; rw [if_neg (by omega), e, show ((0 : Int).toNat) = 0 from rfl, List.drop_zero, List.take_of_length_le (by rw [List.length_take]; omega)]
        rw [e3] at h1
        exact ⟨v, rfl, hT1 ▸ rowB_str h1 (by rw [List.length_take]; omega), h2⟩)
      have HCc := Lib.hid (show ∀ W L', Cn W w.heap.size 29 ca L' → flat L' = zs.drop y → Calls Try.prog 26 #[.pointer (some ⟨ca, 0, none⟩), .int .i64 0, .int .i64 ((n : Int) + 1)] W fun e w' => ∃ v, e = .returned v ∧ (convert 31 9 v).run Try.prog w' = .ok (.string T2) w' ∧ Kept (fun _ => False) W w' from fun W M' h e => by
        refine (copy_any h 0 (n + 1 : Int) (by omega) (by omega)).mono ?_
        rintro e2 w' ⟨v, rfl, h1, h2⟩
        have e3 : cpy (flat M') 0 (n + 1 : Int) = zs.drop y := by
          unfold cpy; rw [if_neg (by omega), e, show ((0 : Int).toNat) = 0 from rfl, List.drop_zero, List.take_of_length_le (by rw [List.length_drop]; omega)]
        rw [e3] at h1
        exact ⟨v, rfl, hT2 ▸ rowB_str h1 (by rw [List.length_drop]; omega), h2⟩)
      have HM2 := Lib.hid (show ∀ W L' M', Two W w.heap.size ca L' da M' → flat L' = zs.drop y → flat M' = zs.take y → Below w.heap.size w W → Calls Try.prog 20 #[.pointer (some ⟨ca, 0, none⟩), .pointer (some ⟨da, 0, none⟩), .int .i64 (n : Int)] W fun e w' => e = .returned (.tuple #[.int .i64 ((n : Int) - (y : Int)), .int .i64 0]) ∧ ∃ L2 M2, Two w' w.heap.size ca L2 da M2 ∧ flat L2 = [] ∧ flat M2 = zs ∧ Below w.heap.size w w' from fun W L' M' t e1 e2 hb => by
        refine (move_yes t n (by omega) (by rw [e1, e2, List.length_take, List.length_drop]; omega)).mono ?_
        rintro e w' ⟨rfl, L2, M2, h1, h2, h3, h4⟩
        refine ⟨by rw [e1, List.length_drop, show min n (zs.length - y) = n - y by omega, Int.ofNat_sub (by omega)], L2, M2, h1, ?_, ?_, hb.trans (h4.below (fun _ _ e => F2.low t e) t.cc.base)⟩
        · rw [h2, e1, List.drop_of_length_le (by rw [List.length_drop]; omega)]
        · rw [h3, e1, e2, List.take_of_length_le (l := zs.drop y) (by rw [List.length_drop]; omega), List.take_append_drop])
      have HTk := Lib.hid (show ∀ W L' M', Two W w.heap.size ca L' da M' → flat M' = zs → Below w.heap.size w W → Calls Try.prog 25 #[.pointer (some ⟨da, 0, none⟩), .int .i64 ((n : Int) + 1)] W fun e w' => ∃ v, e = .returned v ∧ (convert 31 9 v).run Try.prog w' = .ok (.string T) w' ∧ ∃ M2, Cn w' w.heap.size 29 da M2 ∧ flat M2 = [] ∧ Below w.heap.size w w' from fun W L' M' t e1 hb => by
        refine (take_any t.dd (n + 1 : Int) (by omega)).mono ?_
        rintro e w' ⟨v, rfl, h1, M2, h2, h3, h4, _⟩
        rw [e1, List.take_of_length_le (by omega)] at h1
        exact ⟨v, rfl, hT ▸ rowB_str h1 (by omega), M2, h2, by rw [h3, e1, List.drop_of_length_le (by omega)], hb.trans (h4.below (fun _ _ e => F2.low t (.inr e)) t.dd.base)⟩)
      clear hM hM2 hk hlt s1 s2 hT1 hT2 hT hzl
      have hm1 : (if n < q then n else q) = y := by split <;> omega
      have hm2 : (if n < q then (n : Int) else (q : Int)) = (y : Int) := by split <;> omega
      have hm3 : (if (n : Int) < (q : Int) then (n : Int) else (q : Int)) = (y : Int) := by split <;> omega
      have hyn : y ≤ n := by omega
      have hyq := Lib.hid hy
      clear hy
      go_wp2_with fail
      refine HV.out.mono ?_
      rintro e w5 ⟨rfl, L5, M5, t5, f5, f6, bel5⟩
      have H5 := Lib.hid (And.intro t5 (And.intro f5 (And.intro f6 bel5)))
      have HC := Lib.hid (And.intro (HB1.out w5.drew bel5.drew) (HB2.out w5.drew bel5.drew))
      have wn1 : IntKind.i64.wrap ((n : Int) + 1) = (n : Int) + 1 := IntWalk.i64_in _ (by have := HA.out.2.2.2.1; omega)
      have wn2 : IntKind.i64.wrap ((n : Int) - (y : Int)) = (n : Int) - (y : Int) := IntWalk.i64_in _ (by have := HA.out.2.2.2.1; omega)
      clear t5 f5 f6 bel5
      go_wp2_with fail
      refine wp_region_held_drew (S := (fun W => (convert 31 9 (.slice A y c)).run Try.prog W = .ok (.string T1) W ∧ (convert 31 9 ((.slice A'' (n - y) (c - y)))).run Try.prog W = .ok (.string T2) W)) (by kernel_rfl) HC.out (fun hHeld => ?_)
      refine wpAnyH_take (i := 0) (oi := { dst := some 63, op := Op.move (Operand.tmp 13), type := 3, pos := "outright.go:179", after := #[], guard := none }) (v := .int .i64 (y : Int)) rfl (by kernel_rfl) (by kernel_rfl) (by kernel_rfl) (fun _ _ _ h => h) (Or.inl ⟨by rfl, by intro w hSw; (try dsimp only at hSw); go_simp⟩) (by assumption) ?_
      try simp only [Act.put, List.setIfInBounds_toArray, List.set_cons_zero, List.set_cons_succ]
      refine wpAnyH_take (i := 1) (oi := { dst := some 64, op := Op.move (Operand.tmp 12), type := 3, pos := "outright.go:179", after := #[], guard := none }) (v := .int .i64 (y : Int)) rfl (by kernel_rfl) (by kernel_rfl) (by kernel_rfl) (fun _ _ _ h => h) (Or.inl ⟨by rfl, by intro w hSw; (try dsimp only at hSw); go_simp⟩) (by assumption) ?_
      try simp only [Act.put, List.setIfInBounds_toArray, List.set_cons_zero, List.set_cons_succ]
      refine wpAnyH_take (i := 2) (oi := { dst := some 65, op := Op.binOp BinOp.neq 3 (Operand.tmp 63) (Operand.tmp 64) 3, type := 4, pos := "outright.go:179", after := #[{ on := 0, ground := Ground.data }, { on := 1, ground := Ground.data }], guard := none }) (v := .bool false) rfl (by kernel_rfl) (by kernel_rfl) (by kernel_rfl) (fun _ _ _ h => h) (Or.inl ⟨by rfl, by intro w hSw; (try dsimp only at hSw); go_simp⟩) (by assumption) ?_
      try simp only [Act.put, List.setIfInBounds_toArray, List.set_cons_zero, List.set_cons_succ]
      refine wpAnyH_take (i := 3) (oi := { dst := some 66, op := Op.move (Operand.tmp 65), type := 4, pos := "outright.go:179", after := #[{ on := 2, ground := Ground.data }], guard := none }) (v := .bool false) rfl (by kernel_rfl) (by kernel_rfl) (by kernel_rfl) (fun _ _ _ h => h) (Or.inl ⟨by rfl, by intro w hSw; (try dsimp only at hSw); go_simp⟩) (by assumption) ?_
      try simp only [Act.put, List.setIfInBounds_toArray, List.set_cons_zero, List.set_cons_succ]
      refine wpAnyH_take (i := 4) (oi := { dst := some 67, op := Op.move (Operand.tmp 14), type := 42, pos := "outright.go:179", after := #[{ on := 3, ground := Ground.guard }], guard := some (3, false) }) (v := .int .i64 0) rfl (by kernel_rfl) (by kernel_rfl) (by kernel_rfl) (fun _ _ _ h => h) (Or.inl ⟨by rfl, by intro w hSw; (try dsimp only at hSw); go_simp⟩) (by assumption) ?_
      try simp only [Act.put, List.setIfInBounds_toArray, List.set_cons_zero, List.set_cons_succ]
      refine wpAnyH_take (i := 5) (oi := { dst := some 68, op := Op.binOp BinOp.neq 42 (Operand.tmp 67) (Operand.const (Value.int IntKind.i64 0)) 42, type := 4, pos := "outright.go:179", after := #[{ on := 4, ground := Ground.data }, { on := 3, ground := Ground.guard }], guard := some (3, false) }) (v := .bool false) rfl (by kernel_rfl) (by kernel_rfl) (by kernel_rfl) (fun _ _ _ h => h) (Or.inl ⟨by rfl, by intro w hSw; (try dsimp only at hSw); go_simp⟩) (by assumption) ?_
      try simp only [Act.put, List.setIfInBounds_toArray, List.set_cons_zero, List.set_cons_succ]
      refine wpAnyH_take (i := 6) (oi := { dst := some 69, op := Op.pick (Operand.tmp 66) (Operand.const (Value.bool true)) (Operand.tmp 68), type := 4, pos := "outright.go:179", after := #[{ on := 3, ground := Ground.data }, { on := 5, ground := Ground.data }], guard := none }) (v := .bool false) rfl (by kernel_rfl) (by kernel_rfl) (by kernel_rfl) (fun _ _ _ h => h) (Or.inl ⟨by rfl, by intro w hSw; (try dsimp only at hSw); go_simp⟩) (by assumption) ?_
      try simp only [Act.put, List.setIfInBounds_toArray, List.set_cons_zero, List.set_cons_succ]
      refine wpAnyH_take (i := 7) (oi := { dst := some 70, op := Op.move (Operand.tmp 69), type := 4, pos := "outright.go:179", after := #[{ on := 6, ground := Ground.data }, { on := 3, ground := Ground.chain }], guard := none }) (v := .bool false) rfl (by kernel_rfl) (by kernel_rfl) (by kernel_rfl) (fun _ _ _ h => h) (Or.inl ⟨by rfl, by intro w hSw; (try dsimp only at hSw); go_simp⟩) (by assumption) ?_
      try simp only [Act.put, List.setIfInBounds_toArray, List.set_cons_zero, List.set_cons_succ]
      refine wpAnyH_take (i := 8) (oi := { dst := some 71, op := Op.move (Operand.tmp 9), type := 24, pos := "outright.go:179", after := #[{ on := 7, ground := Ground.guard }], guard := some (7, false) }) (v := .pointer (some ⟨da, 0, none⟩)) rfl (by kernel_rfl) (by kernel_rfl) (by kernel_rfl) (fun _ _ _ h => h) (Or.inl ⟨by rfl, by intro w hSw; (try dsimp only at hSw); go_simp⟩) (by assumption) ?_
      try simp only [Act.put, List.setIfInBounds_toArray, List.set_cons_zero, List.set_cons_succ]
      refine wpAnyH_take (i := 9) (oi := { dst := some 72, op := Op.move (Operand.tmp 0), type := 31, pos := "outright.go:179", after := #[{ on := 7, ground := Ground.guard }], guard := some (7, false) }) (v := .slice A n c) rfl (by kernel_rfl) (by kernel_rfl) (by kernel_rfl) (fun _ _ _ h => h) (Or.inl ⟨by rfl, by intro w hSw; (try dsimp only at hSw); go_simp⟩) (by assumption) ?_
      try simp only [Act.put, List.setIfInBounds_toArray, List.set_cons_zero, List.set_cons_succ]
      refine wpAnyH_take (i := 10) (oi := { dst := some 73, op := Op.call { callee := Callee.builtin Builtin.len, args := #[Operand.tmp 72], argTypes := #[31] }, type := 3, pos := "outright.go:179", after := #[{ on := 9, ground := Ground.data }, { on := 7, ground := Ground.guard }], guard := some (7, false) }) (v := .int .i64 (n : Int)) rfl (by kernel_rfl) (by kernel_rfl) (by kernel_rfl) (fun _ _ _ h => h) (Or.inl ⟨by rfl, by intro w hSw; (try dsimp only at hSw); go_simp⟩) (by assumption) ?_
      try simp only [Act.put, List.setIfInBounds_toArray, List.set_cons_zero, List.set_cons_succ]
      refine wpAnyH_take (i := 11) (oi := { dst := some 74, op := Op.binOp BinOp.add 3 (Operand.tmp 73) (Operand.const (Value.int IntKind.i64 1)) 3, type := 3, pos := "outright.go:179", after := #[{ on := 10, ground := Ground.data }, { on := 7, ground := Ground.guard }], guard := some (7, false) }) (v := .int .i64 ((n : Int) + 1)) rfl (by kernel_rfl) (by kernel_rfl) (by kernel_rfl) (fun _ _ _ h => h) (Or.inl ⟨by rfl, by intro w hSw; (try dsimp only at hSw); go_simp⟩) (by assumption) ?_
      try simp only [Act.put, List.setIfInBounds_toArray, List.set_cons_zero, List.set_cons_succ]
      refine wpAnyH_take (i := 14) (oi := { dst := some 77, op := Op.move (Operand.tmp 0), type := 31, pos := "outright.go:179", after := #[{ on := 7, ground := Ground.guard }], guard := some (7, false) }) (v := .slice A n c) rfl (by kernel_rfl) (by kernel_rfl) (by kernel_rfl) (fun _ _ _ h => h) (Or.inl ⟨by rfl, by intro w hSw; (try dsimp only at hSw); go_simp⟩) (by assumption) ?_
      try simp only [Act.put, List.setIfInBounds_toArray, List.set_cons_zero, List.set_cons_succ]
      refine wpAnyH_take (i := 15) (oi := { dst := some 78, op := Op.move (Operand.tmp 12), type := 3, pos := "outright.go:179", after := #[{ on := 7, ground := Ground.guard }], guard := some (7, false) }) (v := .int .i64 (y : Int)) rfl (by kernel_rfl) (by kernel_rfl) (by kernel_rfl) (fun _ _ _ h => h) (Or.inl ⟨by rfl, by intro w hSw; (try dsimp only at hSw); go_simp⟩) (by assumption) ?_
      try simp only [Act.put, List.setIfInBounds_toArray, List.set_cons_zero, List.set_cons_succ]
      refine wpAnyH_take (i := 16) (oi := { dst := some 79, op := Op.slice 31 (Operand.tmp 77) none (some (Operand.tmp 78)) none, type := 31, pos := "outright.go:179", after := #[{ on := 14, ground := Ground.data }, { on := 15, ground := Ground.data }, { on := 7, ground := Ground.guard }], guard := some (7, false) }) (v := .slice A y c) rfl (by kernel_rfl) (by kernel_rfl) (by kernel_rfl) (fun _ _ _ h => h) (Or.inl ⟨by rfl, by intro w hSw; (try dsimp only at hSw); go_simp⟩) (by assumption) ?_
      try simp only [Act.put, List.setIfInBounds_toArray, List.set_cons_zero, List.set_cons_succ]
      refine wpAnyH_take (i := 17) (oi := { dst := some 80, op := Op.convert 31 9 (Operand.tmp 79), type := 9, pos := "outright.go:179", after := #[{ on := 16, ground := Ground.data }, { on := 7, ground := Ground.guard }], guard := some (7, false) }) (v := .string T1) rfl (by kernel_rfl) (by kernel_rfl) (by kernel_rfl) (fun _ _ _ h => h) (Or.inl ⟨by rfl, by intro w hSw; (try dsimp only at hSw); go_simp⟩) (by assumption) ?_
      try simp only [Act.put, List.setIfInBounds_toArray, List.set_cons_zero, List.set_cons_succ]
      refine wpAnyH_ready (rs := [12]) (by kernel_rfl) (by simp) ?_
      refine AllReadyH.cons (o := { dst := some 75, op := Op.call { callee := Callee.value (Operand.func 26), args := #[Operand.tmp 71, Operand.const (Value.int IntKind.i64 0), Operand.tmp 74], argTypes := #[24, 3, 3] }, type := 31, pos := "outright.go:179", after := #[{ on := 8, ground := Ground.data }, { on := 11, ground := Ground.data }, { on := 7, ground := Ground.chain }, { on := 7, ground := Ground.guard }], guard := some (7, false) }) rfl (fun K hK => ?_) AllReadyH.nil
      go_simp
      refine (HCd.out _ _ (H5.out.1.dd.kept (Kept.refl _ _).drew) H5.out.2.2.1).mono ?_
      rintro e w6 ⟨v6, rfl, hs6, hk6⟩
      have H6 := Lib.hid (And.intro (H5.out.1.kept ((Kept.refl _ _).drew.trans hk6)) (law_quiet H5.out.2.2.2.drew H5.out.1.cc.base hk6))
      have HC := Lib.hid (And.intro (HB1.out w6 H6.out.2) (HB2.out w6 H6.out.2))
      clear hk6
      first | refine hK.out _ _ HC.out (fun hHeld2 => ?_) | (go_wp2_with fail; refine hK.out _ _ HC.out (fun hHeld2 => ?_))
      clear hK K hHeld
      have hHeld := hHeld2
      clear hHeld2
      try simp only [Act.put, List.setIfInBounds_toArray, List.set_cons_zero, List.set_cons_succ]
      refine wpAnyH_ready (rs := [13]) (by kernel_rfl) (by simp) ?_
      refine AllReadyH.cons (o := { dst := some 76, op := Op.convert 31 9 (Operand.tmp 75), type := 9, pos := "outright.go:179", after := #[{ on := 12, ground := Ground.data }, { on := 7, ground := Ground.guard }], guard := some (7, false) }) rfl (fun K hK => ?_) AllReadyH.nil
      go_simp
      first | refine hK.out _ _ HC.out (fun hHeld2 => ?_) | (go_wp2_with fail; refine hK.out _ _ HC.out (fun hHeld2 => ?_))
      clear hK K hHeld
      have hHeld := hHeld2
      clear hHeld2
      try simp only [Act.put, List.setIfInBounds_toArray, List.set_cons_zero, List.set_cons_succ]
      refine wpAnyH_take (i := 18) (oi := { dst := some 81, op := Op.binOp BinOp.neq 9 (Operand.tmp 76) (Operand.tmp 80) 9, type := 4, pos := "outright.go:179", after := #[{ on := 13, ground := Ground.data }, { on := 17, ground := Ground.data }, { on := 7, ground := Ground.guard }], guard := some (7, false) }) (v := .bool false) rfl (by kernel_rfl) (by kernel_rfl) (by kernel_rfl) (fun _ _ _ h => h) (Or.inl ⟨by rfl, by intro w hSw; (try dsimp only at hSw); go_simp⟩) (by assumption) ?_
      try simp only [Act.put, List.setIfInBounds_toArray, List.set_cons_zero, List.set_cons_succ]
      refine wpAnyH_take (i := 19) (oi := { dst := some 82, op := Op.pick (Operand.tmp 70) (Operand.const (Value.bool true)) (Operand.tmp 81), type := 4, pos := "outright.go:179", after := #[{ on := 7, ground := Ground.data }, { on := 18, ground := Ground.data }], guard := none }) (v := .bool false) rfl (by kernel_rfl) (by kernel_rfl) (by kernel_rfl) (fun _ _ _ h => h) (Or.inl ⟨by rfl, by intro w hSw; (try dsimp only at hSw); go_simp⟩) (by assumption) ?_
      try simp only [Act.put, List.setIfInBounds_toArray, List.set_cons_zero, List.set_cons_succ]
      refine wpAnyH_take (i := 20) (oi := { dst := some 83, op := Op.move (Operand.tmp 82), type := 4, pos := "outright.go:179", after := #[{ on := 19, ground := Ground.data }, { on := 12, ground := Ground.chain }], guard := none }) (v := .bool false) rfl (by kernel_rfl) (by kernel_rfl) (by kernel_rfl) (fun _ _ _ h => h) (Or.inl ⟨by rfl, by intro w hSw; (try dsimp only at hSw); go_simp⟩) (by assumption) ?_
      try simp only [Act.put, List.setIfInBounds_toArray, List.set_cons_zero, List.set_cons_succ]
      refine wpAnyH_take (i := 21) (oi := { dst := some 84, op := Op.move (Operand.tmp 8), type := 24, pos := "outright.go:179", after := #[{ on := 20, ground := Ground.guard }], guard := some (20, false) }) (v := .pointer (some ⟨ca, 0, none⟩)) rfl (by kernel_rfl) (by kernel_rfl) (by kernel_rfl) (fun _ _ _ h => h) (Or.inl ⟨by rfl, by intro w hSw; (try dsimp only at hSw); go_simp⟩) (by assumption) ?_
      try simp only [Act.put, List.setIfInBounds_toArray, List.set_cons_zero, List.set_cons_succ]
      refine wpAnyH_take (i := 22) (oi := { dst := some 85, op := Op.move (Operand.tmp 0), type := 31, pos := "outright.go:179", after := #[{ on := 20, ground := Ground.guard }], guard := some (20, false) }) (v := .slice A n c) rfl (by kernel_rfl) (by kernel_rfl) (by kernel_rfl) (fun _ _ _ h => h) (Or.inl ⟨by rfl, by intro w hSw; (try dsimp only at hSw); go_simp⟩) (by assumption) ?_
      try simp only [Act.put, List.setIfInBounds_toArray, List.set_cons_zero, List.set_cons_succ]
      refine wpAnyH_take (i := 23) (oi := { dst := some 86, op := Op.call { callee := Callee.builtin Builtin.len, args := #[Operand.tmp 85], argTypes := #[31] }, type := 3, pos := "outright.go:179", after := #[{ on := 22, ground := Ground.data }, { on := 20, ground := Ground.guard }], guard := some (20, false) }) (v := .int .i64 (n : Int)) rfl (by kernel_rfl) (by kernel_rfl) (by kernel_rfl) (fun _ _ _ h => h) (Or.inl ⟨by rfl, by intro w hSw; (try dsimp only at hSw); go_simp⟩) (by assumption) ?_
      try simp only [Act.put, List.setIfInBounds_toArray, List.set_cons_zero, List.set_cons_succ]
      refine wpAnyH_take (i := 24) (oi := { dst := some 87, op := Op.binOp BinOp.add 3 (Operand.tmp 86) (Operand.const (Value.int IntKind.i64 1)) 3, type := 3, pos := "outright.go:179", after := #[{ on := 23, ground := Ground.data }, { on := 20, ground := Ground.guard }], guard := some (20, false) }) (v := .int .i64 ((n : Int) + 1)) rfl (by kernel_rfl) (by kernel_rfl) (by kernel_rfl) (fun _ _ _ h => h) (Or.inl ⟨by rfl, by intro w hSw; (try dsimp only at hSw); go_simp⟩) (by assumption) ?_
      try simp only [Act.put, List.setIfInBounds_toArray, List.set_cons_zero, List.set_cons_succ]
      refine wpAnyH_take (i := 27) (oi := { dst := some 90, op := Op.move (Operand.tmp 0), type := 31, pos := "outright.go:179", after := #[{ on := 20, ground := Ground.guard }], guard := some (20, false) }) (v := .slice A n c) rfl (by kernel_rfl) (by kernel_rfl) (by kernel_rfl) (fun _ _ _ h => h) (Or.inl ⟨by rfl, by intro w hSw; (try dsimp only at hSw); go_simp⟩) (by assumption) ?_
      try simp only [Act.put, List.setIfInBounds_toArray, List.set_cons_zero, List.set_cons_succ]
      refine wpAnyH_take (i := 28) (oi := { dst := some 91, op := Op.move (Operand.tmp 12), type := 3, pos := "outright.go:179", after := #[{ on := 20, ground := Ground.guard }], guard := some (20, false) }) (v := .int .i64 (y : Int)) rfl (by kernel_rfl) (by kernel_rfl) (by kernel_rfl) (fun _ _ _ h => h) (Or.inl ⟨by rfl, by intro w hSw; (try dsimp only at hSw); go_simp⟩) (by assumption) ?_
      try simp only [Act.put, List.setIfInBounds_toArray, List.set_cons_zero, List.set_cons_succ]
      refine wpAnyH_take (i := 29) (oi := { dst := some 92, op := Op.slice 31 (Operand.tmp 90) (some (Operand.tmp 91)) none none, type := 31, pos := "outright.go:179", after := #[{ on := 27, ground := Ground.data }, { on := 28, ground := Ground.data }, { on := 20, ground := Ground.guard }], guard := some (20, false) }) (v := (.slice A'' (n - y) (c - y))) rfl (by kernel_rfl) (by kernel_rfl) (by kernel_rfl) (fun _ _ _ h => h) (Or.inl ⟨by rfl, by intro w hSw; (try dsimp only at hSw); go_simp⟩) (by assumption) ?_
      try simp only [Act.put, List.setIfInBounds_toArray, List.set_cons_zero, List.set_cons_succ]
      refine wpAnyH_take (i := 30) (oi := { dst := some 93, op := Op.convert 31 9 (Operand.tmp 92), type := 9, pos := "outright.go:179", after := #[{ on := 29, ground := Ground.data }, { on := 20, ground := Ground.guard }], guard := some (20, false) }) (v := .string T2) rfl (by kernel_rfl) (by kernel_rfl) (by kernel_rfl) (fun _ _ _ h => h) (Or.inl ⟨by rfl, by intro w hSw; (try dsimp only at hSw); go_simp⟩) (by assumption) ?_
      try simp only [Act.put, List.setIfInBounds_toArray, List.set_cons_zero, List.set_cons_succ]
      refine wpAnyH_ready (rs := [25]) (by kernel_rfl) (by simp) ?_
      refine AllReadyH.cons (o := { dst := some 88, op := Op.call { callee := Callee.value (Operand.func 26), args := #[Operand.tmp 84, Operand.const (Value.int IntKind.i64 0), Operand.tmp 87], argTypes := #[24, 3, 3] }, type := 31, pos := "outright.go:179", after := #[{ on := 21, ground := Ground.data }, { on := 24, ground := Ground.data }, { on := 20, ground := Ground.chain }, { on := 20, ground := Ground.guard }], guard := some (20, false) }) rfl (fun K hK => ?_) AllReadyH.nil
      go_simp
      refine (HCc.out _ _ H6.out.1.cc H5.out.2.1).mono ?_
      rintro e w7 ⟨v7, rfl, hs7, hk7⟩
      have H7 := Lib.hid (And.intro (H6.out.1.kept hk7) (law_quiet H6.out.2 H6.out.1.cc.base hk7))
      have HC := Lib.hid (And.intro (HB1.out w7 H7.out.2) (HB2.out w7 H7.out.2))
      clear hk7
      first | refine hK.out _ _ HC.out (fun hHeld2 => ?_) | (go_wp2_with fail; refine hK.out _ _ HC.out (fun hHeld2 => ?_))
      clear hK K hHeld
      have hHeld := hHeld2
      clear hHeld2
      try simp only [Act.put, List.setIfInBounds_toArray, List.set_cons_zero, List.set_cons_succ]
      refine wpAnyH_ready (rs := [26]) (by kernel_rfl) (by simp) ?_
      refine AllReadyH.cons (o := { dst := some 89, op := Op.convert 31 9 (Operand.tmp 88), type := 9, pos := "outright.go:179", after := #[{ on := 25, ground := Ground.data }, { on := 20, ground := Ground.guard }], guard := some (20, false) }) rfl (fun K hK => ?_) AllReadyH.nil
      go_simp
      first | refine hK.out _ _ HC.out (fun hHeld2 => ?_) | (go_wp2_with fail; refine hK.out _ _ HC.out (fun hHeld2 => ?_))
      clear hK K hHeld
      have hHeld := hHeld2
      clear hHeld2
      try simp only [Act.put, List.setIfInBounds_toArray, List.set_cons_zero, List.set_cons_succ]
      refine wpAnyH_take (i := 31) (oi := { dst := some 94, op := Op.binOp BinOp.neq 9 (Operand.tmp 89) (Operand.tmp 93) 9, type := 4, pos := "outright.go:179", after := #[{ on := 26, ground := Ground.data }, { on := 30, ground := Ground.data }, { on := 20, ground := Ground.guard }], guard := some (20, false) }) (v := .bool false) rfl (by kernel_rfl) (by kernel_rfl) (by kernel_rfl) (fun _ _ _ h => h) (Or.inl ⟨by rfl, by intro w hSw; (try dsimp only at hSw); go_simp⟩) (by assumption) ?_
      try simp only [Act.put, List.setIfInBounds_toArray, List.set_cons_zero, List.set_cons_succ]
      refine wpAnyH_take (i := 32) (oi := { dst := some 95, op := Op.pick (Operand.tmp 83) (Operand.const (Value.bool true)) (Operand.tmp 94), type := 4, pos := "outright.go:179", after := #[{ on := 20, ground := Ground.data }, { on := 31, ground := Ground.data }], guard := none }) (v := .bool false) rfl (by kernel_rfl) (by kernel_rfl) (by kernel_rfl) (fun _ _ _ h => h) (Or.inl ⟨by rfl, by intro w hSw; (try dsimp only at hSw); go_simp⟩) (by assumption) ?_
      try simp only [Act.put, List.setIfInBounds_toArray, List.set_cons_zero, List.set_cons_succ]
      refine wpAnyH_done (by kernel_rfl) ?_ _
      have HX := Lib.hid (And.intro HC (And.intro H5 H6))
      clear HC H5 H6
      go_wp2_with fail
      refine (HM2.out _ _ _ H7.out.1 HX.out.2.1.out.2.1 HX.out.2.1.out.2.2.1 H7.out.2).mono ?_
      rintro e w8 ⟨rfl, L8, M8, t8, f8, g8, b8⟩
      have H8 := Lib.hid (And.intro t8 (And.intro f8 (And.intro g8 b8)))
      have HC := Lib.hid (HB3.out w8.drew b8.drew)
      clear t8 f8 g8 b8
      go_wp2_with fail
      refine wp_region_held_drew (S := (fun W => (convert 31 9 (.slice A n c)).run Try.prog W = .ok (.string T) W)) (by kernel_rfl) HC.out (fun hHeld => ?_)
      refine wpAnyH_take (i := 0) (oi := { dst := some 104, op := Op.move (Operand.tmp 7), type := 4, pos := "outright.go:183", after := #[], guard := none }) (v := .bool true) rfl (by kernel_rfl) (by kernel_rfl) (by kernel_rfl) (fun _ _ _ h => h) (Or.inl ⟨by rfl, by intro w hSw; (try dsimp only at hSw); go_simp⟩) (by assumption) ?_
      try simp only [Act.put, List.setIfInBounds_toArray, List.set_cons_zero, List.set_cons_succ]
      refine wpAnyH_take (i := 1) (oi := { dst := some 105, op := Op.move (Operand.tmp 104), type := 4, pos := "outright.go:183", after := #[{ on := 0, ground := Ground.data }], guard := none }) (v := .bool true) rfl (by kernel_rfl) (by kernel_rfl) (by kernel_rfl) (fun _ _ _ h => h) (Or.inl ⟨by rfl, by intro w hSw; (try dsimp only at hSw); go_simp⟩) (by assumption) ?_
      try simp only [Act.put, List.setIfInBounds_toArray, List.set_cons_zero, List.set_cons_succ]
      refine wpAnyH_take (i := 2) (oi := { dst := some 106, op := Op.move (Operand.tmp 15), type := 3, pos := "outright.go:183", after := #[{ on := 1, ground := Ground.guard }], guard := some (1, true) }) (v := .int .i64 ((n : Int) - (y : Int))) rfl (by kernel_rfl) (by kernel_rfl) (by kernel_rfl) (fun _ _ _ h => h) (Or.inl ⟨by rfl, by intro w hSw; (try dsimp only at hSw); go_simp⟩) (by assumption) ?_
      try simp only [Act.put, List.setIfInBounds_toArray, List.set_cons_zero, List.set_cons_succ]
      refine wpAnyH_take (i := 3) (oi := { dst := some 107, op := Op.move (Operand.tmp 0), type := 31, pos := "outright.go:183", after := #[{ on := 1, ground := Ground.guard }], guard := some (1, true) }) (v := .slice A n c) rfl (by kernel_rfl) (by kernel_rfl) (by kernel_rfl) (fun _ _ _ h => h) (Or.inl ⟨by rfl, by intro w hSw; (try dsimp only at hSw); go_simp⟩) (by assumption) ?_
      try simp only [Act.put, List.setIfInBounds_toArray, List.set_cons_zero, List.set_cons_succ]
      refine wpAnyH_take (i := 4) (oi := { dst := some 108, op := Op.call { callee := Callee.builtin Builtin.len, args := #[Operand.tmp 107], argTypes := #[31] }, type := 3, pos := "outright.go:183", after := #[{ on := 3, ground := Ground.data }, { on := 1, ground := Ground.guard }], guard := some (1, true) }) (v := .int .i64 (n : Int)) rfl (by kernel_rfl) (by kernel_rfl) (by kernel_rfl) (fun _ _ _ h => h) (Or.inl ⟨by rfl, by intro w hSw; (try dsimp only at hSw); go_simp⟩) (by assumption) ?_
      try simp only [Act.put, List.setIfInBounds_toArray, List.set_cons_zero, List.set_cons_succ]
      refine wpAnyH_take (i := 5) (oi := { dst := some 109, op := Op.move (Operand.tmp 12), type := 3, pos := "outright.go:183", after := #[{ on := 1, ground := Ground.guard }], guard := some (1, true) }) (v := .int .i64 (y : Int)) rfl (by kernel_rfl) (by kernel_rfl) (by kernel_rfl) (fun _ _ _ h => h) (Or.inl ⟨by rfl, by intro w hSw; (try dsimp only at hSw); go_simp⟩) (by assumption) ?_
      try simp only [Act.put, List.setIfInBounds_toArray, List.set_cons_zero, List.set_cons_succ]
      refine wpAnyH_take (i := 6) (oi := { dst := some 110, op := Op.binOp BinOp.sub 3 (Operand.tmp 108) (Operand.tmp 109) 3, type := 3, pos := "outright.go:183", after := #[{ on := 4, ground := Ground.data }, { on := 5, ground := Ground.data }, { on := 1, ground := Ground.guard }], guard := some (1, true) }) (v := .int .i64 ((n : Int) - (y : Int))) rfl (by kernel_rfl) (by kernel_rfl) (by kernel_rfl) (fun _ _ _ h => h) (Or.inl ⟨by rfl, by intro w hSw; (try dsimp only at hSw); go_simp⟩) (by assumption) ?_
      try simp only [Act.put, List.setIfInBounds_toArray, List.set_cons_zero, List.set_cons_succ]
      refine wpAnyH_take (i := 7) (oi := { dst := some 111, op := Op.binOp BinOp.eql 3 (Operand.tmp 106) (Operand.tmp 110) 3, type := 4, pos := "outright.go:183", after := #[{ on := 2, ground := Ground.data }, { on := 6, ground := Ground.data }, { on := 1, ground := Ground.guard }], guard := some (1, true) }) (v := .bool true) rfl (by kernel_rfl) (by kernel_rfl) (by kernel_rfl) (fun _ _ _ h => h) (Or.inl ⟨by rfl, by intro w hSw; (try dsimp only at hSw); go_simp⟩) (by assumption) ?_
      try simp only [Act.put, List.setIfInBounds_toArray, List.set_cons_zero, List.set_cons_succ]
      refine wpAnyH_take (i := 8) (oi := { dst := some 112, op := Op.pick (Operand.tmp 105) (Operand.tmp 111) (Operand.const (Value.bool false)), type := 4, pos := "outright.go:183", after := #[{ on := 1, ground := Ground.data }, { on := 7, ground := Ground.data }], guard := none }) (v := .bool true) rfl (by kernel_rfl) (by kernel_rfl) (by kernel_rfl) (fun _ _ _ h => h) (Or.inl ⟨by rfl, by intro w hSw; (try dsimp only at hSw); go_simp⟩) (by assumption) ?_
      try simp only [Act.put, List.setIfInBounds_toArray, List.set_cons_zero, List.set_cons_succ]
      refine wpAnyH_take (i := 9) (oi := { dst := some 113, op := Op.move (Operand.tmp 112), type := 4, pos := "outright.go:183", after := #[{ on := 8, ground := Ground.data }, { on := 1, ground := Ground.chain }], guard := none }) (v := .bool true) rfl (by kernel_rfl) (by kernel_rfl) (by kernel_rfl) (fun _ _ _ h => h) (Or.inl ⟨by rfl, by intro w hSw; (try dsimp only at hSw); go_simp⟩) (by assumption) ?_
      try simp only [Act.put, List.setIfInBounds_toArray, List.set_cons_zero, List.set_cons_succ]
      refine wpAnyH_take (i := 10) (oi := { dst := some 114, op := Op.move (Operand.tmp 16), type := 42, pos := "outright.go:183", after := #[{ on := 9, ground := Ground.guard }], guard := some (9, true) }) (v := .int .i64 0) rfl (by kernel_rfl) (by kernel_rfl) (by kernel_rfl) (fun _ _ _ h => h) (Or.inl ⟨by rfl, by intro w hSw; (try dsimp only at hSw); go_simp⟩) (by assumption) ?_
      try simp only [Act.put, List.setIfInBounds_toArray, List.set_cons_zero, List.set_cons_succ]
      refine wpAnyH_take (i := 11) (oi := { dst := some 115, op := Op.binOp BinOp.eql 42 (Operand.tmp 114) (Operand.const (Value.int IntKind.i64 0)) 42, type := 4, pos := "outright.go:183", after := #[{ on := 10, ground := Ground.data }, { on := 9, ground := Ground.guard }], guard := some (9, true) }) (v := .bool true) rfl (by kernel_rfl) (by kernel_rfl) (by kernel_rfl) (fun _ _ _ h => h) (Or.inl ⟨by rfl, by intro w hSw; (try dsimp only at hSw); go_simp⟩) (by assumption) ?_
      try simp only [Act.put, List.setIfInBounds_toArray, List.set_cons_zero, List.set_cons_succ]
      refine wpAnyH_take (i := 12) (oi := { dst := some 116, op := Op.pick (Operand.tmp 113) (Operand.tmp 115) (Operand.const (Value.bool false)), type := 4, pos := "outright.go:183", after := #[{ on := 9, ground := Ground.data }, { on := 11, ground := Ground.data }], guard := none }) (v := .bool true) rfl (by kernel_rfl) (by kernel_rfl) (by kernel_rfl) (fun _ _ _ h => h) (Or.inl ⟨by rfl, by intro w hSw; (try dsimp only at hSw); go_simp⟩) (by assumption) ?_
      try simp only [Act.put, List.setIfInBounds_toArray, List.set_cons_zero, List.set_cons_succ]
      refine wpAnyH_take (i := 13) (oi := { dst := some 117, op := Op.move (Operand.tmp 116), type := 4, pos := "outright.go:183", after := #[{ on := 12, ground := Ground.data }, { on := 9, ground := Ground.chain }], guard := none }) (v := .bool true) rfl (by kernel_rfl) (by kernel_rfl) (by kernel_rfl) (fun _ _ _ h => h) (Or.inl ⟨by rfl, by intro w hSw; (try dsimp only at hSw); go_simp⟩) (by assumption) ?_
      try simp only [Act.put, List.setIfInBounds_toArray, List.set_cons_zero, List.set_cons_succ]
      refine wpAnyH_take (i := 14) (oi := { dst := some 118, op := Op.move (Operand.tmp 8), type := 24, pos := "outright.go:183", after := #[{ on := 13, ground := Ground.guard }], guard := some (13, true) }) (v := .pointer (some ⟨ca, 0, none⟩)) rfl (by kernel_rfl) (by kernel_rfl) (by kernel_rfl) (fun _ _ _ h => h) (Or.inl ⟨by rfl, by intro w hSw; (try dsimp only at hSw); go_simp⟩) (by assumption) ?_
      try simp only [Act.put, List.setIfInBounds_toArray, List.set_cons_zero, List.set_cons_succ]
      refine wpAnyH_ready (rs := [15]) (by kernel_rfl) (by simp) ?_
      refine AllReadyH.cons (o := { dst := some 119, op := Op.call { callee := Callee.value (Operand.func 12), args := #[Operand.tmp 118], argTypes := #[24] }, type := 3, pos := "outright.go:183", after := #[{ on := 14, ground := Ground.data }, { on := 13, ground := Ground.chain }, { on := 13, ground := Ground.guard }], guard := some (13, true) }) rfl (fun K hK => ?_) AllReadyH.nil
      go_simp
      refine (len_zero (H8.out.1.cc.kept (Kept.refl _ _).drew) H8.out.2.1).mono ?_
      rintro e w' ⟨rfl, rfl⟩
      first | refine hK.out _ _ HC.out (fun hHeld2 => ?_) | (go_wp2_with fail; refine hK.out _ _ HC.out (fun hHeld2 => ?_))
      clear hK K hHeld
      have hHeld := hHeld2
      clear hHeld2
      try simp only [Act.put, List.setIfInBounds_toArray, List.set_cons_zero, List.set_cons_succ]
      refine wpAnyH_take (i := 16) (oi := { dst := some 120, op := Op.binOp BinOp.eql 3 (Operand.tmp 119) (Operand.const (Value.int IntKind.i64 0)) 3, type := 4, pos := "outright.go:183", after := #[{ on := 15, ground := Ground.data }, { on := 13, ground := Ground.guard }], guard := some (13, true) }) (v := .bool true) rfl (by kernel_rfl) (by kernel_rfl) (by kernel_rfl) (fun _ _ _ h => h) (Or.inl ⟨by rfl, by intro w hSw; (try dsimp only at hSw); go_simp⟩) (by assumption) ?_
      try simp only [Act.put, List.setIfInBounds_toArray, List.set_cons_zero, List.set_cons_succ]
      refine wpAnyH_take (i := 17) (oi := { dst := some 121, op := Op.pick (Operand.tmp 117) (Operand.tmp 120) (Operand.const (Value.bool false)), type := 4, pos := "outright.go:183", after := #[{ on := 13, ground := Ground.data }, { on := 16, ground := Ground.data }], guard := none }) (v := .bool true) rfl (by kernel_rfl) (by kernel_rfl) (by kernel_rfl) (fun _ _ _ h => h) (Or.inl ⟨by rfl, by intro w hSw; (try dsimp only at hSw); go_simp⟩) (by assumption) ?_
      try simp only [Act.put, List.setIfInBounds_toArray, List.set_cons_zero, List.set_cons_succ]
      refine wpAnyH_take (i := 18) (oi := { dst := some 122, op := Op.move (Operand.tmp 121), type := 4, pos := "outright.go:183", after := #[{ on := 17, ground := Ground.data }, { on := 15, ground := Ground.chain }], guard := none }) (v := .bool true) rfl (by kernel_rfl) (by kernel_rfl) (by kernel_rfl) (fun _ _ _ h => h) (Or.inl ⟨by rfl, by intro w hSw; (try dsimp only at hSw); go_simp⟩) (by assumption) ?_
      try simp only [Act.put, List.setIfInBounds_toArray, List.set_cons_zero, List.set_cons_succ]
      refine wpAnyH_take (i := 19) (oi := { dst := some 123, op := Op.move (Operand.tmp 9), type := 24, pos := "outright.go:183", after := #[{ on := 18, ground := Ground.guard }], guard := some (18, true) }) (v := .pointer (some ⟨da, 0, none⟩)) rfl (by kernel_rfl) (by kernel_rfl) (by kernel_rfl) (fun _ _ _ h => h) (Or.inl ⟨by rfl, by intro w hSw; (try dsimp only at hSw); go_simp⟩) (by assumption) ?_
      try simp only [Act.put, List.setIfInBounds_toArray, List.set_cons_zero, List.set_cons_succ]
      refine wpAnyH_take (i := 20) (oi := { dst := some 124, op := Op.move (Operand.tmp 0), type := 31, pos := "outright.go:183", after := #[{ on := 18, ground := Ground.guard }], guard := some (18, true) }) (v := .slice A n c) rfl (by kernel_rfl) (by kernel_rfl) (by kernel_rfl) (fun _ _ _ h => h) (Or.inl ⟨by rfl, by intro w hSw; (try dsimp only at hSw); go_simp⟩) (by assumption) ?_
      try simp only [Act.put, List.setIfInBounds_toArray, List.set_cons_zero, List.set_cons_succ]
      refine wpAnyH_take (i := 21) (oi := { dst := some 125, op := Op.call { callee := Callee.builtin Builtin.len, args := #[Operand.tmp 124], argTypes := #[31] }, type := 3, pos := "outright.go:183", after := #[{ on := 20, ground := Ground.data }, { on := 18, ground := Ground.guard }], guard := some (18, true) }) (v := .int .i64 (n : Int)) rfl (by kernel_rfl) (by kernel_rfl) (by kernel_rfl) (fun _ _ _ h => h) (Or.inl ⟨by rfl, by intro w hSw; (try dsimp only at hSw); go_simp⟩) (by assumption) ?_
      try simp only [Act.put, List.setIfInBounds_toArray, List.set_cons_zero, List.set_cons_succ]
      refine wpAnyH_take (i := 22) (oi := { dst := some 126, op := Op.binOp BinOp.add 3 (Operand.tmp 125) (Operand.const (Value.int IntKind.i64 1)) 3, type := 3, pos := "outright.go:183", after := #[{ on := 21, ground := Ground.data }, { on := 18, ground := Ground.guard }], guard := some (18, true) }) (v := .int .i64 ((n : Int) + 1)) rfl (by kernel_rfl) (by kernel_rfl) (by kernel_rfl) (fun _ _ _ h => h) (Or.inl ⟨by rfl, by intro w hSw; (try dsimp only at hSw); go_simp⟩) (by assumption) ?_
      try simp only [Act.put, List.setIfInBounds_toArray, List.set_cons_zero, List.set_cons_succ]
      refine wpAnyH_take (i := 25) (oi := { dst := some 129, op := Op.move (Operand.tmp 0), type := 31, pos := "outright.go:183", after := #[{ on := 18, ground := Ground.guard }], guard := some (18, true) }) (v := .slice A n c) rfl (by kernel_rfl) (by kernel_rfl) (by kernel_rfl) (fun _ _ _ h => h) (Or.inl ⟨by rfl, by intro w hSw; (try dsimp only at hSw); go_simp⟩) (by assumption) ?_
      try simp only [Act.put, List.setIfInBounds_toArray, List.set_cons_zero, List.set_cons_succ]
      refine wpAnyH_take (i := 26) (oi := { dst := some 130, op := Op.convert 31 9 (Operand.tmp 129), type := 9, pos := "outright.go:183", after := #[{ on := 25, ground := Ground.data }, { on := 18, ground := Ground.guard }], guard := some (18, true) }) (v := .string T) rfl (by kernel_rfl) (by kernel_rfl) (by kernel_rfl) (fun _ _ _ h => h) (Or.inl ⟨by rfl, by intro w hSw; (try dsimp only at hSw); go_simp⟩) (by assumption) ?_
      try simp only [Act.put, List.setIfInBounds_toArray, List.set_cons_zero, List.set_cons_succ]
      refine wpAnyH_ready (rs := [23]) (by kernel_rfl) (by simp) ?_
      refine AllReadyH.cons (o := { dst := some 127, op := Op.call { callee := Callee.value (Operand.func 25), args := #[Operand.tmp 123, Operand.tmp 126], argTypes := #[24, 3] }, type := 31, pos := "outright.go:183", after := #[{ on := 19, ground := Ground.data }, { on := 22, ground := Ground.data }, { on := 18, ground := Ground.chain }, { on := 18, ground := Ground.guard }], guard := some (18, true) }) rfl (fun K hK => ?_) AllReadyH.nil
      go_simp
      refine (HTk.out _ _ _ (H8.out.1.kept (Kept.refl _ _).drew) H8.out.2.2.1 H8.out.2.2.2.drew).mono ?_
      rintro e w9 ⟨v9, rfl, hs9, M9, h9, f9, b9⟩
      have H9 := Lib.hid (And.intro h9 (And.intro f9 b9))
      have HC := Lib.hid (HB3.out w9 b9)
      clear h9 f9 b9
      first | refine hK.out _ _ HC.out (fun hHeld2 => ?_) | (go_wp2_with fail; refine hK.out _ _ HC.out (fun hHeld2 => ?_))
      clear hK K hHeld
      have hHeld := hHeld2
      clear hHeld2
      try simp only [Act.put, List.setIfInBounds_toArray, List.set_cons_zero, List.set_cons_succ]
      refine wpAnyH_ready (rs := [24]) (by kernel_rfl) (by simp) ?_
      refine AllReadyH.cons (o := { dst := some 128, op := Op.convert 31 9 (Operand.tmp 127), type := 9, pos := "outright.go:183", after := #[{ on := 23, ground := Ground.data }, { on := 18, ground := Ground.guard }], guard := some (18, true) }) rfl (fun K hK => ?_) AllReadyH.nil
      go_simp
      first | refine hK.out _ _ HC.out (fun hHeld2 => ?_) | (go_wp2_with fail; refine hK.out _ _ HC.out (fun hHeld2 => ?_))
      clear hK K hHeld
      have hHeld := hHeld2
      clear hHeld2
      try simp only [Act.put, List.setIfInBounds_toArray, List.set_cons_zero, List.set_cons_succ]
      refine wpAnyH_take (i := 27) (oi := { dst := some 131, op := Op.binOp BinOp.eql 9 (Operand.tmp 128) (Operand.tmp 130) 9, type := 4, pos := "outright.go:183", after := #[{ on := 24, ground := Ground.data }, { on := 26, ground := Ground.data }, { on := 18, ground := Ground.guard }], guard := some (18, true) }) (v := .bool true) rfl (by kernel_rfl) (by kernel_rfl) (by kernel_rfl) (fun _ _ _ h => h) (Or.inl ⟨by rfl, by intro w hSw; (try dsimp only at hSw); go_simp⟩) (by assumption) ?_
      try simp only [Act.put, List.setIfInBounds_toArray, List.set_cons_zero, List.set_cons_succ]
      refine wpAnyH_take (i := 28) (oi := { dst := some 132, op := Op.pick (Operand.tmp 122) (Operand.tmp 131) (Operand.const (Value.bool false)), type := 4, pos := "outright.go:183", after := #[{ on := 18, ground := Ground.data }, { on := 27, ground := Ground.data }], guard := none }) (v := .bool true) rfl (by kernel_rfl) (by kernel_rfl) (by kernel_rfl) (fun _ _ _ h => h) (Or.inl ⟨by rfl, by intro w hSw; (try dsimp only at hSw); go_simp⟩) (by assumption) ?_
      try simp only [Act.put, List.setIfInBounds_toArray, List.set_cons_zero, List.set_cons_succ]
      refine wpAnyH_take (i := 29) (oi := { dst := some 133, op := Op.move (Operand.tmp 132), type := 4, pos := "outright.go:183", after := #[{ on := 28, ground := Ground.data }, { on := 23, ground := Ground.chain }], guard := none }) (v := .bool true) rfl (by kernel_rfl) (by kernel_rfl) (by kernel_rfl) (fun _ _ _ h => h) (Or.inl ⟨by rfl, by intro w hSw; (try dsimp only at hSw); go_simp⟩) (by assumption) ?_
      try simp only [Act.put, List.setIfInBounds_toArray, List.set_cons_zero, List.set_cons_succ]
      refine wpAnyH_take (i := 30) (oi := { dst := some 134, op := Op.move (Operand.tmp 9), type := 24, pos := "outright.go:183", after := #[{ on := 29, ground := Ground.guard }], guard := some (29, true) }) (v := .pointer (some ⟨da, 0, none⟩)) rfl (by kernel_rfl) (by kernel_rfl) (by kernel_rfl) (fun _ _ _ h => h) (Or.inl ⟨by rfl, by intro w hSw; (try dsimp only at hSw); go_simp⟩) (by assumption) ?_
      try simp only [Act.put, List.setIfInBounds_toArray, List.set_cons_zero, List.set_cons_succ]
      refine wpAnyH_ready (rs := [31]) (by kernel_rfl) (by simp) ?_
      refine AllReadyH.cons (o := { dst := some 135, op := Op.call { callee := Callee.value (Operand.func 12), args := #[Operand.tmp 134], argTypes := #[24] }, type := 3, pos := "outright.go:183", after := #[{ on := 30, ground := Ground.data }, { on := 29, ground := Ground.chain }, { on := 29, ground := Ground.guard }], guard := some (29, true) }) rfl (fun K hK => ?_) AllReadyH.nil
      go_simp
      refine (len_zero H9.out.1 H9.out.2.1).mono ?_
      rintro e w' ⟨rfl, rfl⟩
      first | refine hK.out _ _ HC.out (fun hHeld2 => ?_) | (go_wp2_with fail; refine hK.out _ _ HC.out (fun hHeld2 => ?_))
      clear hK K hHeld
      have hHeld := hHeld2
      clear hHeld2
      try simp only [Act.put, List.setIfInBounds_toArray, List.set_cons_zero, List.set_cons_succ]
      refine wpAnyH_take (i := 32) (oi := { dst := some 136, op := Op.binOp BinOp.eql 3 (Operand.tmp 135) (Operand.const (Value.int IntKind.i64 0)) 3, type := 4, pos := "outright.go:183", after := #[{ on := 31, ground := Ground.data }, { on := 29, ground := Ground.guard }], guard := some (29, true) }) (v := .bool true) rfl (by kernel_rfl) (by kernel_rfl) (by kernel_rfl) (fun _ _ _ h => h) (Or.inl ⟨by rfl, by intro w hSw; (try dsimp only at hSw); go_simp⟩) (by assumption) ?_
      try simp only [Act.put, List.setIfInBounds_toArray, List.set_cons_zero, List.set_cons_succ]
      refine wpAnyH_take (i := 33) (oi := { dst := some 137, op := Op.pick (Operand.tmp 133) (Operand.tmp 136) (Operand.const (Value.bool false)), type := 4, pos := "outright.go:183", after := #[{ on := 29, ground := Ground.data }, { on := 32, ground := Ground.data }], guard := none }) (v := .bool true) rfl (by kernel_rfl) (by kernel_rfl) (by kernel_rfl) (fun _ _ _ h => h) (Or.inl ⟨by rfl, by intro w hSw; (try dsimp only at hSw); go_simp⟩) (by assumption) ?_
      try simp only [Act.put, List.setIfInBounds_toArray, List.set_cons_zero, List.set_cons_succ]
      refine wpAnyH_take (i := 34) (oi := { dst := some 6, op := Op.assign (Operand.tmp 137), type := 4, pos := "outright.go:183", after := #[{ on := 33, ground := Ground.data }, { on := 31, ground := Ground.chain }, { on := 0, ground := Ground.phase }, { on := 1, ground := Ground.phase }, { on := 2, ground := Ground.phase }, { on := 3, ground := Ground.phase }, { on := 4, ground := Ground.phase }, { on := 5, ground := Ground.phase }, { on := 6, ground := Ground.phase }, { on := 7, ground := Ground.phase }, { on := 8, ground := Ground.phase }, { on := 9, ground := Ground.phase }, { on := 10, ground := Ground.phase }, { on := 11, ground := Ground.phase }, { on := 12, ground := Ground.phase }, { on := 13, ground := Ground.phase }, { on := 14, ground := Ground.phase }, { on := 15, ground := Ground.phase }, { on := 16, ground := Ground.phase }, { on := 17, ground := Ground.phase }, { on := 18, ground := Ground.phase }, { on := 19, ground := Ground.phase }, { on := 20, ground := Ground.phase }, { on := 21, ground := Ground.phase }, { on := 22, ground := Ground.phase }, { on := 23, ground := Ground.phase }, { on := 24, ground := Ground.phase }, { on := 25, ground := Ground.phase }, { on := 26, ground := Ground.phase }, { on := 27, ground := Ground.phase }, { on := 28, ground := Ground.phase }, { on := 29, ground := Ground.phase }, { on := 30, ground := Ground.phase }, { on := 31, ground := Ground.phase }, { on := 32, ground := Ground.phase }, { on := 33, ground := Ground.phase }], guard := none }) (v := .bool true) rfl (by kernel_rfl) (by kernel_rfl) (by kernel_rfl) (fun _ _ _ h => h) (Or.inl ⟨by rfl, by intro w hSw; (try dsimp only at hSw); go_simp⟩) (by assumption) ?_
      try simp only [Act.put, List.setIfInBounds_toArray, List.set_cons_zero, List.set_cons_succ]
      refine wpAnyH_done (by kernel_rfl) ?_ _
      go_wp2_with fail
      go_ret
      exact ⟨rfl, H9.out.2.2⟩
set_option maxRecDepth 100000 in
set_option maxHeartbeats 4000000 in
theorem moves_any (w : World) {A A2 : Option Addr} {n c m c2 : Nat} {zs xs : List Int} (hb : Src w No2 A n c zs) (ha : Src w No2 A2 m c2 xs) (hx : Byt xs) (q : Nat) (hq : q < 65536) :
    Calls Try.prog 8 #[.slice A n c, .slice A2 m c2, .int .u16 (q : Int)] w fun e w' => e = .returned (.bool true) ∧ Below w.heap.size w w' := by
  by_cases hn : n ≤ 5000
  · by_cases hm : m ≤ 200
    · exact moves_main w hb ha hx q hq hn hm
    · have b1 : decide ((5000 : Int) < (n : Int)) = false := by simp; omega
      have b2 : decide ((200 : Int) < (m : Int)) = true := by simp; omega
      clear hb ha hx
      go_enter Try.func8, Try.ntmps8
      go_wp2_with (go_at_call 24; refine (alive_any _).mono ?_; rintro e w0 ⟨rfl, hb0⟩; have HB0 := Lib.hid hb0; clear hb0)
      go_ret
      exact ⟨rfl, HB0.out⟩
  · have b1 : decide ((5000 : Int) < (n : Int)) = true := by simp; omega
    clear hb ha hx
    go_enter Try.func8, Try.ntmps8
    go_wp2_with (go_at_call 24; refine (alive_any _).mono ?_; rintro e w0 ⟨rfl, hb0⟩; have HB0 := Lib.hid hb0; clear hb0)
    go_ret
    exact ⟨rfl, HB0.out⟩
theorem moves_law (w : World) {A A2 : Option Addr} {n c m c2 : Nat} {zs xs : List Int} (hb : Src w No2 A n c zs) (ha : Src w No2 A2 m c2 xs) (hx : Byt xs) (z : Int) (h0 : 0 ≤ z) (h1 : z < 65536) :
    Calls Try.prog 8 #[.slice A n c, .slice A2 m c2, .int .u16 z] w fun e w' => e = .returned (.bool true) ∧ Below w.heap.size w w' := by
  obtain ⟨q, rfl⟩ : ∃ q : Nat, z = (q : Int) := ⟨z.toNat, by omega⟩
  exact moves_any w hb ha hx q (by omega)
end Go.Proofs.Ytkhkhjkacibocaa
