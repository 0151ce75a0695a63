/-
  For the laws over chains: is a chain in chunks that are right, and has it these bytes?
-/
import Derived.Test.YtkhkhjkacibocaaChChunks
import Derived.Test.YtkhkhjkacibocaaChLaw
namespace Go.Proofs.Ytkhkhjkacibocaa
open Go.RowKit Go.Shelf Go.Maps Go.ChangeMaps

def zsum (l : List Int) : Int := l.foldr (· + ·) 0
theorem zsum_nil : zsum [] = 0 := rfl
theorem zsum_snoc (l : List Int) (z : Int) : zsum (l ++ [z]) = zsum l + z := by
  unfold zsum
  induction l with
  | nil => simp
  | cons a l ih => simp [ih]; omega
theorem zsum_lens : ∀ L : List Lk, zsum (L.map fun x => (x.bs.length : Int)) = ((flat L).length : Int)
  | [] => rfl
  | x :: L => by
    have := zsum_lens L
    rw [flat_cons, List.length_append, List.map_cons]
    unfold zsum at this ⊢
    rw [List.foldr_cons, this]; omega
theorem zsum_take (L : List Lk) (k : Nat) : zsum ((L.map fun x => (x.bs.length : Int)).take k) = ((flat (L.take k)).length : Int) := by
  rw [← List.map_take]; exact zsum_lens _

set_option maxRecDepth 100000 in
set_option maxHeartbeats 8000000 in
theorem whole_yes {w : World} {B c n cp : Nat} {L : List Lk} {A : Option Addr} (h : Cn w B 29 c L) (hs : Src w No2 A n cp (flat L)) :
    Calls Try.prog 13 #[.pointer (some ⟨c, 0, none⟩), .slice A n cp] w fun e w' => e = .returned (.bool true) ∧ Kept (fun _ => False) w w' := by
  have hle := h.le
  have hfn := hs.len
  obtain ⟨T, hT⟩ : ∃ T, strOfNums (flat L) = T := ⟨_, rfl⟩
  have HX := Lib.hid (chunks_any h)
  have H := Lib.hid (And.intro h (And.intro hs hT))
  clear h hs hT
  go_enter Try.func13, Try.ntmps13
  go_wp2_with fail
  refine HX.out.mono ?_
  rintro e w1 ⟨v, rfl, ho, hb⟩
  have hk1 : Kept (fun _ => False) w w1 := ⟨hb.os, hb.tape, hb.output, hb.size, fun k hk _ => hb.block k hk⟩
  obtain ⟨Av, cv, rfl, hsh, _, hcv⟩ := RowK.own_shows ho
  obtain ⟨m, hm⟩ : ∃ m, m = L.length := ⟨_, rfl⟩
  have hml : (L.map fun x => (x.bs.length : Int)).length = m := by rw [hm]; simp
  rw [hml] at hcv ⊢
  have hmle : m ≤ 1048576 := by
    have : ∀ M : List Lk, (∀ x ∈ M, 0 < x.bs.length) → M.length ≤ (flat M).length := fun M => by
      induction M with
      | nil => simp [flat]
      | cons x M ih =>
        intro hp
        have := ih fun y hy => hp y (List.mem_cons_of_mem _ hy)
        have := hp x (List.mem_cons_self ..)
        rw [flat_cons, List.length_append, List.length_cons]; omega
    have := this L H.out.1.lks.pos
    omega
  have HB := Lib.hid (fun W (hW : Kept (fun _ => False) w1 W) => H.out.2.2 ▸ (H.out.2.1.kept (hk1.trans hW)).str)
  have HLn := Lib.hid (fun W (hW : Kept (fun _ => False) w1 W) => hfn ▸ len_any (H.out.1.kept (hk1.trans hW)))
  have HCp := Lib.hid (show ∀ W, Kept (fun _ => False) w1 W → Calls Try.prog 26 #[.pointer (some ⟨c, 0, none⟩), .int .i64 0, .int .i64 (n : Int)] W fun e w' => ∃ v, e = .returned v ∧ (convert 31 9 v).run Try.prog w' = .ok (.string T) w' ∧ Kept (fun _ => False) w1 w' from fun W hW => by
    refine (copy_any (H.out.1.kept (hk1.trans hW)) 0 (n : Int) (by omega) (by omega)).mono ?_
    rintro e2 w' ⟨v, rfl, h1, h2⟩
    have e3 : cpy (flat L) 0 (n : Int) = flat L := by
      unfold cpy; rw [if_neg (by omega), show ((0 : Int).toNat) = 0 from rfl, List.drop_zero, List.take_of_length_le (by omega)]
    rw [e3] at h1
    exact ⟨v, rfl, H.out.2.2 ▸ rowB_str h1 (by omega), hW.trans h2⟩)
  have HS := Lib.hid (And.intro hsh (And.intro hk1 (And.intro hm hmle)))
  clear hsh ho hb hk1 hml hm
  go_wp2_with fail
  go_loop [5, 12] (fun s i => ∃ k : Nat, k ≤ m ∧ i = .int .i64 (k : Int) ∧ s = .int .i64 (((flat (L.take k)).length : Nat) : Int)) (fun _ i => m - (intOf i).toNat)
  case atStart => exact ⟨0, by omega, rfl, rfl⟩
  case round =>
    obtain ⟨k, hk, rfl, rfl⟩ := hrel
    by_cases hlt : k < m
    · obtain ⟨hsh, hk1, hm, hmle2⟩ := HS.out
      obtain ⟨g, off, rfl, hg, hl⟩ := hsh (by rw [List.length_map]; omega)
      obtain ⟨x, hx⟩ : ∃ x, L[k]? = some x := ⟨_, List.getElem?_eq_getElem (by omega)⟩
      have cz := hl k (x.bs.length : Int) (by rw [List.getElem?_map, hx]; rfl) 0 (by decide)
      rw [show off + (k * RN.n + 0) = off + k by simp [RN]] at cz
      replace cz : w1.cell? ⟨g, off + k, none⟩ = some (.int .i64 (x.bs.length : Int)) := cz
      have hpx := H.out.1.lks.pos x (List.mem_of_getElem? hx)
      have hsum : (flat (L.take (k + 1))).length = (flat (L.take k)).length + x.bs.length := by
        rw [List.take_add_one, hx, flat_append, List.length_append]; simp [flat]
      have hle2 : (flat (L.take (k + 1))).length ≤ (flat L).length := by
        have : flat L = flat (L.take (k + 1)) ++ flat (L.drop (k + 1)) := by rw [← flat_append, List.take_append_drop]
        rw [this, List.length_append]; omega
      obtain ⟨xl, hxl⟩ : ∃ xl, xl = x.bs.length := ⟨_, rfl⟩
      obtain ⟨sk, hsk⟩ : ∃ sk, sk = (flat (L.take k)).length := ⟨_, rfl⟩
      rw [← hxl] at cz hsum hpx
      rw [← hsk] at hsum ⊢
      have b1 : (k : Int) < (m : Int) := by omega
      have b2 : decide ((xl : Int) < 1) = false := by simp; omega
      have b3 : IntKind.i64.wrap ((sk : Int) + (xl : Int)) = (sk : Int) + (xl : Int) := IntWalk.i64_in _ (by omega)
      have HQ := Lib.hid (And.intro hsum hlt)
      clear hsh hm hl hx hxl hsk hlt hsum hk1
      go_wp2_with fail
      refine ⟨⟨k + 1, HQ.out.2, by go_num, by rw [HQ.out.1]; go_num⟩, by have := HQ.out.2; simp [intOf]; omega⟩
    · obtain rfl : k = m := by omega
      have e1 : (flat (L.take k)).length = n := by rw [HS.out.2.2.1, List.take_length, hfn]
      rw [e1]
      have hfnH := Lib.hid hfn
      clear hfn e1 hlt
      have b1 : ¬ ((k : Int) < (k : Int)) := by omega
      have HC := Lib.hid (HB.out w1.drew (Kept.refl _ _).drew)
      go_wp2_with fail
      refine wp_region_held_drew (S := (fun W => (convert 31 9 (.slice A n cp)).run Try.prog W = .ok (.string T) W)) (by kernel_rfl) HC.out (fun hHeld => ?_)
      refine wpAnyH_take (i := 0) (oi := { dst := some 27, op := Op.move (Operand.tmp 5), type := 3, pos := "law.go:55", after := #[], guard := none }) (v := .int .i64 (n : Int)) rfl (by kernel_rfl) (by kernel_rfl) (by kernel_rfl) (fun _ _ _ h => h) (Or.inl ⟨by rfl, by intro w hSw; (try dsimp only at hSw); go_simp⟩) (by assumption) ?_
      try simp only [Act.put, List.setIfInBounds_toArray, List.set_cons_zero, List.set_cons_succ]
      refine wpAnyH_take (i := 1) (oi := { dst := some 28, op := Op.move (Operand.tmp 1), type := 31, pos := "law.go:55", after := #[], guard := none }) (v := .slice A n cp) rfl (by kernel_rfl) (by kernel_rfl) (by kernel_rfl) (fun _ _ _ h => h) (Or.inl ⟨by rfl, by intro w hSw; (try dsimp only at hSw); go_simp⟩) (by assumption) ?_
      try simp only [Act.put, List.setIfInBounds_toArray, List.set_cons_zero, List.set_cons_succ]
      refine wpAnyH_take (i := 2) (oi := { dst := some 29, op := Op.call { callee := Callee.builtin Builtin.len, args := #[Operand.tmp 28], argTypes := #[31] }, type := 3, pos := "law.go:55", after := #[{ on := 1, ground := Ground.data }], guard := none }) (v := .int .i64 (n : Int)) rfl (by kernel_rfl) (by kernel_rfl) (by kernel_rfl) (fun _ _ _ h => h) (Or.inl ⟨by rfl, by intro w hSw; (try dsimp only at hSw); go_simp⟩) (by assumption) ?_
      try simp only [Act.put, List.setIfInBounds_toArray, List.set_cons_zero, List.set_cons_succ]
      refine wpAnyH_take (i := 3) (oi := { dst := some 30, op := Op.binOp BinOp.eql 3 (Operand.tmp 27) (Operand.tmp 29) 3, type := 4, pos := "law.go:55", after := #[{ on := 0, ground := Ground.data }, { on := 2, ground := Ground.data }], guard := none }) (v := .bool true) rfl (by kernel_rfl) (by kernel_rfl) (by kernel_rfl) (fun _ _ _ h => h) (Or.inl ⟨by rfl, by intro w hSw; (try dsimp only at hSw); go_simp⟩) (by assumption) ?_
      try simp only [Act.put, List.setIfInBounds_toArray, List.set_cons_zero, List.set_cons_succ]
      refine wpAnyH_take (i := 4) (oi := { dst := some 31, op := Op.move (Operand.tmp 30), type := 4, pos := "law.go:55", after := #[{ on := 3, ground := Ground.data }], guard := none }) (v := .bool true) rfl (by kernel_rfl) (by kernel_rfl) (by kernel_rfl) (fun _ _ _ h => h) (Or.inl ⟨by rfl, by intro w hSw; (try dsimp only at hSw); go_simp⟩) (by assumption) ?_
      try simp only [Act.put, List.setIfInBounds_toArray, List.set_cons_zero, List.set_cons_succ]
      refine wpAnyH_take (i := 5) (oi := { dst := some 32, op := Op.move (Operand.tmp 0), type := 24, pos := "law.go:55", after := #[{ on := 4, ground := Ground.guard }], guard := some (4, true) }) (v := .pointer (some ⟨c, 0, none⟩)) rfl (by kernel_rfl) (by kernel_rfl) (by kernel_rfl) (fun _ _ _ h => h) (Or.inl ⟨by rfl, by intro w hSw; (try dsimp only at hSw); go_simp⟩) (by assumption) ?_
      try simp only [Act.put, List.setIfInBounds_toArray, List.set_cons_zero, List.set_cons_succ]
      refine wpAnyH_take (i := 7) (oi := { dst := some 34, op := Op.move (Operand.tmp 1), type := 31, pos := "law.go:55", after := #[{ on := 4, ground := Ground.guard }], guard := some (4, true) }) (v := .slice A n cp) rfl (by kernel_rfl) (by kernel_rfl) (by kernel_rfl) (fun _ _ _ h => h) (Or.inl ⟨by rfl, by intro w hSw; (try dsimp only at hSw); go_simp⟩) (by assumption) ?_
      try simp only [Act.put, List.setIfInBounds_toArray, List.set_cons_zero, List.set_cons_succ]
      refine wpAnyH_take (i := 8) (oi := { dst := some 35, op := Op.call { callee := Callee.builtin Builtin.len, args := #[Operand.tmp 34], argTypes := #[31] }, type := 3, pos := "law.go:55", after := #[{ on := 7, ground := Ground.data }, { on := 4, ground := Ground.guard }], guard := some (4, true) }) (v := .int .i64 (n : Int)) rfl (by kernel_rfl) (by kernel_rfl) (by kernel_rfl) (fun _ _ _ h => h) (Or.inl ⟨by rfl, by intro w hSw; (try dsimp only at hSw); go_simp⟩) (by assumption) ?_
      try simp only [Act.put, List.setIfInBounds_toArray, List.set_cons_zero, List.set_cons_succ]
      refine wpAnyH_ready (rs := [6]) (by kernel_rfl) (by simp) ?_
      refine AllReadyH.cons (o := { dst := some 33, op := Op.call { callee := Callee.value (Operand.func 12), args := #[Operand.tmp 32], argTypes := #[24] }, type := 3, pos := "law.go:55", after := #[{ on := 5, ground := Ground.data }, { on := 4, ground := Ground.chain }, { on := 4, ground := Ground.guard }], guard := some (4, true) }) rfl (fun K hK => ?_) AllReadyH.nil
      go_simp
      refine (HLn.out _ (Kept.refl _ _).drew).mono ?_
      rintro e w' ⟨rfl, rfl⟩
      first | refine hK.out _ _ HC.out (fun hHeld2 => ?_) | (go_wp2_with fail; refine hK.out _ _ HC.out (fun hHeld2 => ?_))
      clear hK K hHeld
      have hHeld := hHeld2
      clear hHeld2
      try simp only [Act.put, List.setIfInBounds_toArray, List.set_cons_zero, List.set_cons_succ]
      refine wpAnyH_take (i := 9) (oi := { dst := some 36, op := Op.binOp BinOp.eql 3 (Operand.tmp 33) (Operand.tmp 35) 3, type := 4, pos := "law.go:55", after := #[{ on := 6, ground := Ground.data }, { on := 8, ground := Ground.data }, { on := 4, ground := Ground.guard }], guard := some (4, true) }) (v := .bool true) rfl (by kernel_rfl) (by kernel_rfl) (by kernel_rfl) (fun _ _ _ h => h) (Or.inl ⟨by rfl, by intro w hSw; (try dsimp only at hSw); go_simp⟩) (by assumption) ?_
      try simp only [Act.put, List.setIfInBounds_toArray, List.set_cons_zero, List.set_cons_succ]
      refine wpAnyH_take (i := 10) (oi := { dst := some 37, op := Op.pick (Operand.tmp 31) (Operand.tmp 36) (Operand.const (Value.bool false)), type := 4, pos := "law.go:55", after := #[{ on := 4, ground := Ground.data }, { on := 9, ground := Ground.data }], guard := none }) (v := .bool true) rfl (by kernel_rfl) (by kernel_rfl) (by kernel_rfl) (fun _ _ _ h => h) (Or.inl ⟨by rfl, by intro w hSw; (try dsimp only at hSw); go_simp⟩) (by assumption) ?_
      try simp only [Act.put, List.setIfInBounds_toArray, List.set_cons_zero, List.set_cons_succ]
      refine wpAnyH_take (i := 11) (oi := { dst := some 38, op := Op.move (Operand.tmp 37), type := 4, pos := "law.go:55", after := #[{ on := 10, ground := Ground.data }, { on := 6, ground := Ground.chain }], guard := none }) (v := .bool true) rfl (by kernel_rfl) (by kernel_rfl) (by kernel_rfl) (fun _ _ _ h => h) (Or.inl ⟨by rfl, by intro w hSw; (try dsimp only at hSw); go_simp⟩) (by assumption) ?_
      try simp only [Act.put, List.setIfInBounds_toArray, List.set_cons_zero, List.set_cons_succ]
      refine wpAnyH_take (i := 12) (oi := { dst := some 39, op := Op.move (Operand.tmp 0), type := 24, pos := "law.go:55", after := #[{ on := 11, ground := Ground.guard }], guard := some (11, true) }) (v := .pointer (some ⟨c, 0, none⟩)) rfl (by kernel_rfl) (by kernel_rfl) (by kernel_rfl) (fun _ _ _ h => h) (Or.inl ⟨by rfl, by intro w hSw; (try dsimp only at hSw); go_simp⟩) (by assumption) ?_
      try simp only [Act.put, List.setIfInBounds_toArray, List.set_cons_zero, List.set_cons_succ]
      refine wpAnyH_take (i := 13) (oi := { dst := some 40, op := Op.move (Operand.tmp 1), type := 31, pos := "law.go:55", after := #[{ on := 11, ground := Ground.guard }], guard := some (11, true) }) (v := .slice A n cp) rfl (by kernel_rfl) (by kernel_rfl) (by kernel_rfl) (fun _ _ _ h => h) (Or.inl ⟨by rfl, by intro w hSw; (try dsimp only at hSw); go_simp⟩) (by assumption) ?_
      try simp only [Act.put, List.setIfInBounds_toArray, List.set_cons_zero, List.set_cons_succ]
      refine wpAnyH_take (i := 14) (oi := { dst := some 41, op := Op.call { callee := Callee.builtin Builtin.len, args := #[Operand.tmp 40], argTypes := #[31] }, type := 3, pos := "law.go:55", after := #[{ on := 13, ground := Ground.data }, { on := 11, ground := Ground.guard }], guard := some (11, true) }) (v := .int .i64 (n : Int)) rfl (by kernel_rfl) (by kernel_rfl) (by kernel_rfl) (fun _ _ _ h => h) (Or.inl ⟨by rfl, by intro w hSw; (try dsimp only at hSw); go_simp⟩) (by assumption) ?_
      try simp only [Act.put, List.setIfInBounds_toArray, List.set_cons_zero, List.set_cons_succ]
      refine wpAnyH_take (i := 17) (oi := { dst := some 44, op := Op.move (Operand.tmp 1), type := 31, pos := "law.go:55", after := #[{ on := 11, ground := Ground.guard }], guard := some (11, true) }) (v := .slice A n cp) rfl (by kernel_rfl) (by kernel_rfl) (by kernel_rfl) (fun _ _ _ h => h) (Or.inl ⟨by rfl, by intro w hSw; (try dsimp only at hSw); go_simp⟩) (by assumption) ?_
      try simp only [Act.put, List.setIfInBounds_toArray, List.set_cons_zero, List.set_cons_succ]
      refine wpAnyH_take (i := 18) (oi := { dst := some 45, op := Op.convert 31 9 (Operand.tmp 44), type := 9, pos := "law.go:55", after := #[{ on := 17, ground := Ground.data }, { on := 11, ground := Ground.guard }], guard := some (11, true) }) (v := .string T) rfl (by kernel_rfl) (by kernel_rfl) (by kernel_rfl) (fun _ _ _ h => h) (Or.inl ⟨by rfl, by intro w hSw; (try dsimp only at hSw); go_simp⟩) (by assumption) ?_
      try simp only [Act.put, List.setIfInBounds_toArray, List.set_cons_zero, List.set_cons_succ]
      refine wpAnyH_ready (rs := [15]) (by kernel_rfl) (by simp) ?_
      refine AllReadyH.cons (o := { dst := some 42, op := Op.call { callee := Callee.value (Operand.func 26), args := #[Operand.tmp 39, Operand.const (Value.int IntKind.i64 0), Operand.tmp 41], argTypes := #[24, 3, 3] }, type := 31, pos := "law.go:55", after := #[{ on := 12, ground := Ground.data }, { on := 14, ground := Ground.data }, { on := 11, ground := Ground.chain }, { on := 11, ground := Ground.guard }], guard := some (11, true) }) rfl (fun K hK => ?_) AllReadyH.nil
      go_simp
      refine (HCp.out _ (Kept.refl _ _).drew).mono ?_
      rintro e w2 ⟨v2, rfl, hs2, hk2⟩
      have HK := Lib.hid hk2
      have HC := Lib.hid (HB.out w2 hk2)
      clear hk2
      first | refine hK.out _ _ HC.out (fun hHeld2 => ?_) | (go_wp2_with fail; refine hK.out _ _ HC.out (fun hHeld2 => ?_))
      clear hK K hHeld
      have hHeld := hHeld2
      clear hHeld2
      try simp only [Act.put, List.setIfInBounds_toArray, List.set_cons_zero, List.set_cons_succ]
      refine wpAnyH_ready (rs := [16]) (by kernel_rfl) (by simp) ?_
      refine AllReadyH.cons (o := { dst := some 43, op := Op.convert 31 9 (Operand.tmp 42), type := 9, pos := "law.go:55", after := #[{ on := 15, ground := Ground.data }, { on := 11, ground := Ground.guard }], guard := some (11, true) }) rfl (fun K hK => ?_) AllReadyH.nil
      go_simp
      first | refine hK.out _ _ HC.out (fun hHeld2 => ?_) | (go_wp2_with fail; refine hK.out _ _ HC.out (fun hHeld2 => ?_))
      clear hK K hHeld
      have hHeld := hHeld2
      clear hHeld2
      try simp only [Act.put, List.setIfInBounds_toArray, List.set_cons_zero, List.set_cons_succ]
      refine wpAnyH_take (i := 19) (oi := { dst := some 46, op := Op.binOp BinOp.eql 9 (Operand.tmp 43) (Operand.tmp 45) 9, type := 4, pos := "law.go:55", after := #[{ on := 16, ground := Ground.data }, { on := 18, ground := Ground.data }, { on := 11, ground := Ground.guard }], guard := some (11, true) }) (v := .bool true) rfl (by kernel_rfl) (by kernel_rfl) (by kernel_rfl) (fun _ _ _ h => h) (Or.inl ⟨by rfl, by intro w hSw; (try dsimp only at hSw); go_simp⟩) (by assumption) ?_
      try simp only [Act.put, List.setIfInBounds_toArray, List.set_cons_zero, List.set_cons_succ]
      refine wpAnyH_take (i := 20) (oi := { dst := some 47, op := Op.pick (Operand.tmp 38) (Operand.tmp 46) (Operand.const (Value.bool false)), type := 4, pos := "law.go:55", after := #[{ on := 11, ground := Ground.data }, { on := 19, ground := Ground.data }], guard := none }) (v := .bool true) rfl (by kernel_rfl) (by kernel_rfl) (by kernel_rfl) (fun _ _ _ h => h) (Or.inl ⟨by rfl, by intro w hSw; (try dsimp only at hSw); go_simp⟩) (by assumption) ?_
      try simp only [Act.put, List.setIfInBounds_toArray, List.set_cons_zero, List.set_cons_succ]
      refine wpAnyH_take (i := 21) (oi := { dst := some 4, op := Op.assign (Operand.tmp 47), type := 4, pos := "law.go:55", after := #[{ on := 20, ground := Ground.data }, { on := 15, ground := Ground.chain }, { on := 0, ground := Ground.phase }, { on := 1, ground := Ground.phase }, { on := 2, ground := Ground.phase }, { on := 3, ground := Ground.phase }, { on := 4, ground := Ground.phase }, { on := 5, ground := Ground.phase }, { on := 6, ground := Ground.phase }, { on := 7, ground := Ground.phase }, { on := 8, ground := Ground.phase }, { on := 9, ground := Ground.phase }, { on := 10, ground := Ground.phase }, { on := 11, ground := Ground.phase }, { on := 12, ground := Ground.phase }, { on := 13, ground := Ground.phase }, { on := 14, ground := Ground.phase }, { on := 15, ground := Ground.phase }, { on := 16, ground := Ground.phase }, { on := 17, ground := Ground.phase }, { on := 18, ground := Ground.phase }, { on := 19, ground := Ground.phase }, { on := 20, ground := Ground.phase }], guard := none }) (v := .bool true) rfl (by kernel_rfl) (by kernel_rfl) (by kernel_rfl) (fun _ _ _ h => h) (Or.inl ⟨by rfl, by intro w hSw; (try dsimp only at hSw); go_simp⟩) (by assumption) ?_
      try simp only [Act.put, List.setIfInBounds_toArray, List.set_cons_zero, List.set_cons_succ]
      refine wpAnyH_done (by kernel_rfl) ?_ _
      go_wp2_with fail
      go_ret
      exact ⟨rfl, HS.out.2.1.trans HK.out⟩
end Go.Proofs.Ytkhkhjkacibocaa
