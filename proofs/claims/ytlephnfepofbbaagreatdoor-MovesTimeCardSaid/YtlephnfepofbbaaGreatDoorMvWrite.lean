/-
  The program's writer: a step's text behind what was written.
-/
import Derived.Test.YtlephnfepofbbaaGreatDoorMvApp
import Derived.Test.YtlephnfepofbbaaGreatDoorMtBase
import Derived.Deep.QuietTactic
import Derived.BigQuiet
import Derived.WalkSmall
import Derived.StillTailTactics
import Derived.Deep.RegionWith
namespace Go.Proofs.YtlephnfepofbbaaGreatDoor
open Go.RowKit
variable {E : Prop}

theorem appUint_any (B : Nat) (v : Value) (bs : List UInt8) (u : Nat) (hu : u ≤ 18446744073709551615) (w : World) (hown : OwB B w v bs) (hB : B ≤ w.heap.size) (hl : bs.length + 20 ≤ 70368744177664) (hE : EnvP E B w) :
    Calls Tryz.prog 87 #[v, .int .u64 (u : Int), .int .i64 10] w (AppP B w bs (Lib.decDigits u)) := by
  have HC := Lib.hid (Tryz.internal_strconv_AppendUint_10 B bs.length u (by omega) v (Lib.byteCells bs) w hown hB (by omega) hE.p.here)
  clear hown hl hE
  go_enter Tryz.func87, Tryz.ntmps87
  go_wp2_with (go_at_call 118; refine HC.out.mono ?_; rintro e w' ⟨v', rfl, h1, hb, h3⟩; have hb := Frb.mk hb h3)
  go_ret
  refine ⟨v', rfl, ?_, hb⟩
  unfold OwB
  have e2 : Lib.byteCells (bs ++ Lib.decDigits u) = Lib.byteCells bs ++ Lib.byteCells (Lib.decDigits u) := by simp [Lib.byteCells]
  rw [List.length_append, e2]; exact h1
theorem appInt_any (B : Nat) (v : Value) (bs : List UInt8) (i : Int) (h0 : 0 ≤ i) (h1 : i ≤ 999) (w : World) (hown : OwB B w v bs) (hB : B ≤ w.heap.size) (hl : bs.length + 21 ≤ 70368744177664) (hE : EnvP E B w) :
    Calls Tryz.prog 119 #[v, .int .i64 i, .int .i64 10] w (AppP B w bs (decI i)) :=
  (Tryz.strconv_AppendInt_10 B bs.length i (by omega) (by omega) v (Lib.byteCells bs) w hown hB (by omega) hE.p).mono fun e w' ⟨v', he, hh, hb, ho⟩ => by
    have e1 : Lib.itoa i = decI i := by unfold Lib.itoa decI; rw [if_neg (by omega)]
    rw [e1] at hh
    refine ⟨v', he, ?_, hb, ho⟩
    unfold OwB
    have e2 : Lib.byteCells (bs ++ decI i) = Lib.byteCells bs ++ Lib.byteCells (decI i) := by simp [Lib.byteCells]
    rw [List.length_append, e2]; exact hh
theorem itoa_any {N : Nat} (n : Int) (h0 : 0 ≤ n) (h1 : n ≤ 9223372036854775807) (w : World) (hE : EnvP E N w) : Calls Tryz.prog 99 #[.int .i64 n] w fun e w' => e = .returned (.string ⟨(decI n).toArray⟩) ∧ Below w.heap.size w w' :=
  (Tryz.strconv_Itoa n (by omega) h1 w hE.p.here).mono fun e w' ⟨he, k, os, hw⟩ => by
    have e1 : Lib.itoa n = decI n := by unfold Lib.itoa decI; rw [if_neg (by omega)]
    rw [e1] at he
    exact ⟨he, by rw [hw]; exact Lib.below_grow w.heap.size w (Nat.le_refl _) k os⟩

theorem ordB_snoc : ∀ (l : List Int) (n : Int), l ≠ [] → ordB (l ++ [n]) = ordB l ++ 44 :: decI n
  | [], _, h => absurd rfl h
  | [m], n, _ => rfl
  | m :: k :: l, n, _ => by
    have ih := ordB_snoc (k :: l) n (by simp)
    unfold ordB at ih ⊢
    rw [List.cons_append, List.map_cons, List.map_cons, List.map_cons, join_cons 44 _ (by simp), join_cons 44 _ (by simp)]
    rw [List.map_cons] at ih
    rw [ih]; simp
theorem decI_len {n : Int} (h0 : 0 ≤ n) (h1 : n ≤ 9223372036854775807) : (decI n).length ≤ 20 := dec_len _ (by omega)
theorem ordB_len : ∀ l : List Int, (∀ n ∈ l, 0 ≤ n ∧ n ≤ 999) → (ordB l).length ≤ 21 * l.length
  | [], _ => by simp [ordB, joinW]
  | [n], h => by have := decI_len (n := n) (h n (by simp)).1 (by have := (h n (by simp)).2; omega); show (decI n).length ≤ _; simp; omega
  | n :: k :: l, h => by
    have ih := ordB_len (k :: l) (fun x hx => h x (List.mem_cons_of_mem _ hx))
    have := decI_len (n := n) (h n (by simp)).1 (by have := (h n (by simp)).2; omega)
    unfold ordB at ih ⊢
    rw [List.map_cons, List.map_cons, join_cons 44 _ (by simp), List.length_append, List.length_cons]
    rw [List.map_cons] at ih
    simp only [List.length_cons] at ih ⊢
    omega

set_option maxHeartbeats 4000000 in
theorem appendOrder_any (B : Nat) (v ov : Value) (bs : List UInt8) (l : List Int) (hne : l ≠ []) (w : World) (hown : OwB B w v bs) (hB : B ≤ w.heap.size) (hE : EnvP E B w) (hx : SrcI (Lt B) w ov l) (hlen : l.length ≤ 50) (hok : ∀ n ∈ l, 0 ≤ n ∧ n ≤ 999) (hl : bs.length ≤ 60000000) :
    Calls Tryz.prog 89 #[v, ov] w (AppP B w bs (32 :: ordB l)) := by
  obtain ⟨A, c, rfl, a1, a2, a3⟩ := hx.form
  have HX := Lib.hid hx
  have HE := Lib.hid hE
  have HOK := Lib.hid hok
  have HNE := Lib.hid hne
  have HB := Lib.hid hB
  obtain ⟨n, hn⟩ : ∃ n, l.length = n := ⟨_, rfl⟩
  rw [hn] at a1 hlen ⊢
  have HN := Lib.hid hn
  have HOW := Lib.hid hown
  have HL := Lib.hid hl
  clear hx hE hn hok hne hB hown hl a3
  go_enter Tryz.func89, Tryz.ntmps89
  go_wp2_with fail
  go_loopw [0, 5, 10] (fun o m i wr => ∃ (j : Nat) (t : List UInt8) (b : UInt8), j ≤ n ∧ i = .int .i64 j ∧ m = .int .u8 (b.toNat : Int) ∧ Hid (b = if j = 0 then 32 else 44) ∧ Hid (t = if j = 0 then [] else 32 :: ordB (l.take j)) ∧ Hid (OwB B wr o (bs ++ t)) ∧ Hid (Frb B w wr)) (fun _ _ i _ => n - (intOf i).toNat)
  case atStart => exact ⟨0, [], 32, Nat.zero_le _, rfl, rfl, Lib.hid rfl, Lib.hid rfl, Lib.hid (by rw [List.append_nil]; exact HOW.out), Lib.hid (Frb.refl _ _)⟩
  case round =>
    obtain ⟨j, t, b, hj, rfl, rfl, HBB, HTT, HO, HBW⟩ := hrel
    by_cases hlt : j < n
    · have hlt' : (j : Int) < (n : Int) := by omega
      have hjl : j < l.length := by have := HN.out; omega
      obtain ⟨g, off, rfl, hg, hg2, hc⟩ := HX.out.at_ (k := j) hjl
      have hc := (HBW.out.b.cell (p := ⟨g, off + j, none⟩) hg).trans hc
      obtain ⟨z, hz⟩ : ∃ z, l[j] = z := ⟨_, rfl⟩
      rw [hz] at hc
      have HZZ := Lib.hid hz
      have HZ2 := Lib.hid (HOK.out z (by rw [← hz]; exact List.getElem_mem _))
      have htl : t.length ≤ 1100 := by
        rw [HTT.out]
        split
        · simp
        · have := ordB_len (l.take j) (fun x hx => HOK.out x (List.mem_of_mem_take hx))
          rw [List.length_cons]
          have h2 : (l.take j).length ≤ j := List.length_take_le _ _
          omega
      have HTL := Lib.hid htl
      clear hz hg hg2 htl
      have HT2 : Hid (t ++ (b :: decI z) = (if j + 1 = 0 then [] else 32 :: ordB (l.take (j + 1)))) := Lib.hid (by
        rw [if_neg (by omega), HTT.out, HBB.out, List.take_add_one, List.getElem?_eq_getElem hjl, HZZ.out]
        by_cases h0 : j = 0
        · subst h0; simp [ordB, joinW]
        · rw [if_neg h0, if_neg h0, Option.toList_some, ordB_snoc _ _ (fun e => by have := congrArg List.length e; rw [List.length_take, Nat.min_eq_left (by omega)] at this; exact h0 this)]
          simp)
      go_wp2_with (first
        | (at_builtin; refine app_one rfl _ _ rfl B _ _ rfl (HO.out.alloc _) b wr.heap.size rfl (cell_of_row _ _ 0 _ _ (0, 0) (heap_alloc_new wr _)) (by have := HTL.out; have := HL.out; simp; omega) (by have := HBW.out.b.size; have := HB.out; simp; omega) ?_; intro v1 w1 h1 hb1; have H1 := Lib.hid h1; have HB1 := Lib.hid (HBW.out.trans (((Frb.refl B wr).alloc (Nat.le_trans HB.out HBW.out.b.size) _).trans hb1)); clear h1 hb1)
        | (go_at_call 119; refine (appInt_any B v1 _ z HZ2.out.1 HZ2.out.2 w1 H1.out (HE.out.below HB1.out.b).le (by have := HTL.out; have := HL.out; simp; omega) (HE.out.below HB1.out.b)).mono ?_; rintro e w2 ⟨v2, rfl, h2, hb2⟩; have H2 := Lib.hid h2; have HB2 := Lib.hid (HB1.out.trans hb2); clear h2 hb2))
      go_roundw
      case rel => exact ⟨j + 1, t ++ (b :: decI z), 44, by omega, by go_num, rfl, Lib.hid (by rw [if_neg (by omega)]), HT2, Lib.hid (by have := H2.out; simpa using this), HB2⟩
      case measure => simp [intOf]; omega
    · obtain rfl : j = n := by omega
      have hlt' : ¬ (j : Int) < (j : Int) := by omega
      have HT2 : Hid (t = 32 :: ordB l) := Lib.hid (by
        rw [HTT.out, if_neg (fun e => by have h := HN.out; rw [e] at h; exact HNE.out (List.eq_nil_of_length_eq_zero h)), List.take_of_length_le (by have := HN.out; omega)])
      go_wp2_with fail
      go_ret
      exact ⟨_, rfl, by rw [← HT2.out]; exact HO.out, HBW.out⟩
theorem TabW.at_ {W : World} (h : TabW W) {op : Int} (h0 : 0 ≤ op) (h7 : op ≤ 7) : W.cell? ⟨1, op.toNat, none⟩ = some (.string ⟨(wordI op).toArray⟩) := by
  have hc : op = 0 ∨ op = 1 ∨ op = 2 ∨ op = 3 ∨ op = 4 ∨ op = 5 ∨ op = 6 ∨ op = 7 := by omega
  rcases hc with rfl | rfl | rfl | rfl | rfl | rfl | rfl | rfl
  · exact h.c0
  · exact h.c1
  · exact h.c2
  · exact h.c3
  · exact h.c4
  · exact h.c5
  · exact h.c6
  · exact h.c7
theorem hexB_snoc (l : List UInt8) (b : UInt8) : hexB (l ++ [b]) = hexB l ++ [hexd (b.toNat / 16), hexd (b.toNat % 16)] := by simp [hexB]

def RB : RowK Tryz.prog UInt8 where
  e := 5
  s := 23
  n := 1
  bytes := 1
  zero := .int .u8 0
  enc := fun b => [.int .u8 (b.toNat : Int)]
  pos := by decide
  by_ := by decide
  len := fun _ => rfl
  one := fun x u hu => by have : u = .int .u8 (x.toNat : Int) := by simpa using hu
                          rw [this]; rfl
  und := Tryz.underlying23
  info := infoBy
  zs := rfl
theorem rb_all (bs : List UInt8) : RB.all bs = Lib.byteCells bs := by
  unfold RowK.all Lib.byteCells
  induction bs with
  | nil => rfl
  | cons b bs ih => rw [List.flatMap_cons, ih]; rfl
theorem rb_own {B : Nat} {W : World} {v : Value} {bs : List UInt8} : RB.own W B v bs ↔ OwB B W v bs := by
  unfold RowK.own OwB; rw [rb_all]; exact Iff.rfl
def hexT : ByteArray := ⟨#[48, 49, 50, 51, 52, 53, 54, 55, 56, 57, 97, 98, 99, 100, 101, 102]⟩
set_option maxRecDepth 100000 in
theorem digits_run (k : Nat) (hk : k < 16) (x : Int) (hx : x = (k : Int)) (V : World) : (Instr.index 9 (.string ⟨#[48, 49, 50, 51, 52, 53, 54, 55, 56, 57, 97, 98, 99, 100, 101, 102]⟩) (.int .u8 x)).run Tryz.prog V = .ok (.int .u8 ((hexd k).toNat : Int)) V := by
  subst hx
  have hc : k = 0 ∨ k = 1 ∨ k = 2 ∨ k = 3 ∨ k = 4 ∨ k = 5 ∨ k = 6 ∨ k = 7 ∨ k = 8 ∨ k = 9 ∨ k = 10 ∨ k = 11 ∨ k = 12 ∨ k = 13 ∨ k = 14 ∨ k = 15 := by omega
  rcases hc with rfl | rfl | rfl | rfl | rfl | rfl | rfl | rfl | rfl | rfl | rfl | rfl | rfl | rfl | rfl | rfl <;> rfl
theorem and15 (z : UInt8) : bits .and .u8 (z.toNat : Int) 15 = ((z.toNat % 16 : Nat) : Int) := by
  have h : ∀ n : Fin 256, bits .and .u8 (n.val : Int) 15 = ((n.val % 16 : Nat) : Int) := by decide +kernel
  exact h ⟨z.toNat, UInt8.toNat_lt z⟩
/-- A writer's state: its row, a block of its own that it reads, what it reads of variables. -/
structure Wrt (E : Prop) (B g : Nat) (t : TypeId) (cs : Array Value) (w W : World) (v : Value) (bs : List UInt8) : Prop where
  fr : Frb B w W
  own : OwB B W v bs
  blk : Blk W g t cs
  env : EnvP E B W
section
variable {B g : Nat} {t : TypeId} {cs : Array Value} {w W W' : World} {v v' : Value} {bs ts : List UInt8}
theorem Wrt.app (h : Wrt E B g t cs w W v bs) (ht : t ≠ 5) (ho : OwB B W' v' (bs ++ ts)) (hf : Frb B W W') : Wrt E B g t cs w W' v' (bs ++ ts) := ⟨h.fr.trans hf, ho, hf.blk h.blk ht, h.env.below hf.b⟩
theorem Wrt.quiet (h : Wrt E B g t cs w W v bs) (hb : Below W.heap.size W W') : Wrt E B g t cs w W' v bs :=
  ⟨h.fr.trans (Frb.of hb h.env.le), h.own.below hb, h.blk.same (hb.block _ h.blk.lt), h.env.below (hb.mono h.env.le)⟩
theorem Wrt.alloc (h : Wrt E B g t cs w W v bs) (o : Obj) : Wrt E B g t cs w (W.alloc o) v bs := h.quiet ((Below.refl _ _).alloc (Nat.le_refl _) _)
theorem Wrt.drewN (h : Wrt E B g t cs w W v bs) (n : Nat) : Wrt E B g t cs w (W.drewN n) v bs := h.quiet (below_drewN (Below.refl _ _) n)
theorem Wrt.drew (h : Wrt E B g t cs w W v bs) : Wrt E B g t cs w W.drew v bs := h.quiet ⟨rfl, rfl, rfl, Nat.le_refl _, fun _ _ => rfl⟩
theorem Wrt.word (h : Wrt E B g t cs w W v bs) (ht : t ≠ 5) (s : ByteArray) (l : List UInt8) (hs : s.data.toList = l) (hl : bs.length + l.length + 1 ≤ 70368744177664) :
    Calls Tryz.prog 88 #[v, .string s] W fun e W' => ∃ v', e = .returned v' ∧ Wrt E B g t cs w W' v' (bs ++ 32 :: l) := by
  subst hs
  exact (appendWord_any B v bs s W h.own h.env.le (by rw [Lib.size_eq]; exact hl)).mono fun e W' ⟨v', he, ho, hf⟩ => ⟨v', he, h.app ht ho hf⟩
theorem Wrt.itoa (h : Wrt E B g t cs w W v bs) (n : Int) (h0 : 0 ≤ n) (h1 : n ≤ 9223372036854775807) (l : List UInt8) (hl : decI n = l) :
    Calls Tryz.prog 99 #[.int .i64 n] W fun e W' => e = .returned (.string ⟨l.toArray⟩) ∧ Wrt E B g t cs w W' v bs := by
  subst hl
  exact (itoa_any n h0 h1 W h.env).mono fun e W' ⟨he, hb⟩ => ⟨he, h.quiet hb⟩
theorem Wrt.flds (h : Wrt E B g t cs w W v bs) (op : Int) : Calls Tryz.prog 57 #[.int .i64 op] W fun e W' => e = .returned (.int .i64 (fldF op)) ∧ W = W' := fields_any op W h.env.f
end
theorem wr_new {B : Nat} {w : World} {v : Value} {bs : List UInt8} (hown : OwB B w v bs) (hE : EnvP E B w) (t : TypeId) (cs : Array Value) : Wrt E B w.heap.size t cs w (w.alloc (.cells cs t)) v bs :=
  ⟨(Frb.refl _ _).alloc hE.le _, hown.alloc _, Blk.new _ _ _, hE.below ((Below.refl _ _).alloc hE.le _)⟩

set_option maxRecDepth 100000 in
set_option maxHeartbeats 4000000 in
theorem appendMove_data (B : Nat) (v dv : Value) (bs : List UInt8) (m : Mo) (hop : m.op = 1) (hok : mvOk m = true) (hw1 : m.wire ≤ 9223372036854775807) (w : World) (hown : OwB B w v bs) (hE : EnvP E B w) (hx : SrcB (Lt B) w dv m.b) (hl : bs.length ≤ 60000000) :
    Calls Tryz.prog 90 #[v, .agg #[.int .i64 m.op, .int .i64 m.wire, .int .i64 m.n, dv]] w (AppP B w bs (sp (moveWs m))) := by
  obtain ⟨A, c, rfl, a1, a2, a3⟩ := hx.form
  obtain ⟨_, hw0, _, hb1000, _, hn0, _, _⟩ := mvOk_parts hok
  have hnz := hn0 (by rw [hop]; rfl)
  have HX := Lib.hid hx
  obtain ⟨op, wire, nn, b⟩ := m
  simp only [] at hop hnz hw0 hw1 hb1000 a1 ⊢
  subst hop hnz
  obtain ⟨n, hn⟩ : ∃ n, b.length = n := ⟨_, rfl⟩
  rw [hn] at a1 hb1000 ⊢
  have HN := Lib.hid hn
  obtain ⟨dw, hdw⟩ : ∃ dw, decI wire = dw := ⟨_, rfl⟩
  have HM : Hid (sp (moveWs ⟨1, wire, 0, b⟩) = (32 :: [112, 117, 116]) ++ ((32 :: dw) ++ (32 :: hexB b))) := Lib.hid (by
    simp [sp, moveWs, wordI, wordN, hdw, show hasW 1 = true from rfl, show hasN 1 = false from rfl])
  generalize sp (moveWs ⟨1, wire, 0, b⟩) = R at HM ⊢
  have hS := wr_new hown hE 25 #[.int .i64 1, .int .i64 wire, .int .i64 0, .slice A n c]
  obtain ⟨W, hW⟩ : ∃ W, w.alloc (.cells #[.int .i64 1, .int .i64 wire, .int .i64 0, .slice A n c] 25) = W := ⟨_, rfl⟩
  rw [hW] at hS
  have k0 := hS.blk.cell 0
  simp at k0
  have cw := hS.env.w.c1
  have hdl : dw.length ≤ 20 := by rw [← hdw]; exact decI_len hw0 hw1
  have HF := Lib.hid (hS.flds 1)
  have HA := Lib.hid (hS.word (by decide) ⟨#[112, 117, 116]⟩ [112, 117, 116] rfl (by simp; omega))
  have HW := Lib.hid hW
  have HL := Lib.hid hl
  have HDL := Lib.hid hdl
  have HDW := Lib.hid hdw
  have HIN := Lib.hid (And.intro hw0 hw1)
  clear hx hn hown hE hl hW hS a3 hok hdl hdw hn0 hw0 hw1
  go_enter Tryz.func90, Tryz.ntmps90
  go_wp2_with fail
  rw [HW.out]
  refine HF.out.mono ?_
  rintro e w' ⟨rfl, rfl⟩
  have f5 : fldF 1 = 5 := rfl
  have f1 : (bits .and .i64 5 1 != 0) = true := by kernel_rfl
  have f2 : (bits .and .i64 5 2 != 0) = false := by kernel_rfl
  have f4 : (bits .and .i64 5 4 != 0) = true := by kernel_rfl
  rw [f5]
  clear f5
  go_wp2_with fail
  refine HA.out.mono ?_
  rintro e w1 ⟨v1, rfl, h1⟩
  have k1 := h1.blk.cell 1
  simp at k1
  have HIT := Lib.hid (h1.itoa wire HIN.out.1 HIN.out.2 dw HDW.out)
  clear h1 cw k0
  go_wp2_with fail
  refine HIT.out.mono ?_
  rintro e w2 ⟨rfl, h2⟩
  have HA2 := Lib.hid (h2.word (by decide) ⟨dw.toArray⟩ dw rfl (by have := HL.out; have := HDL.out; simp; omega))
  clear h2 k1
  go_wp2_with fail
  refine HA2.out.mono ?_
  rintro e w3 ⟨v3, rfl, h3⟩
  have k3 := (h3.alloc (.cells #[.int .u8 32] 5)).blk.cell 3
  simp at k3
  have H3 := Lib.hid h3
  clear h3
  go_wp2_with (at_builtin; refine app_one rfl _ _ rfl B _ _ rfl (H3.out.alloc _).own 32 w3.heap.size rfl (cell_of_row _ _ 0 _ _ (0, 0) (heap_alloc_new w3 _)) (by have := HL.out; have := HDL.out; simp; omega) (H3.out.alloc _).env.le ?_; intro v4 w4 h4 hb4; have h4 := (H3.out.alloc _).app (by decide) h4 hb4; have k4 := h4.blk.cell 3; simp at k4; have H4 := Lib.hid h4; clear h4 hb4 k3)
  go_loopw [0, 42] (fun o i wr => ∃ (j : Nat) (t : List UInt8), j ≤ n ∧ i = .int .i64 j ∧ Hid (t = hexB (b.take j)) ∧ Hid (Wrt E B w.heap.size 25 #[.int .i64 1, .int .i64 wire, .int .i64 0, .slice A n c] w wr o ((((bs ++ (32 :: [112, 117, 116])) ++ (32 :: dw)) ++ [32]) ++ t))) (fun _ i _ => n - (intOf i).toNat)
  case atStart => exact ⟨0, [], Nat.zero_le _, rfl, Lib.hid rfl, Lib.hid (by rw [List.append_nil]; exact H4.out)⟩
  case round =>
    obtain ⟨j, t, hj, rfl, HT, HS⟩ := hrel
    by_cases hlt : j < n
    · have hlt' : (j : Int) < (n : Int) := by omega
      have hjl : j < b.length := by have := HN.out; omega
      obtain ⟨g, off, rfl, hg, hg2, hc⟩ := HX.out.at_ (k := j) hjl
      have hc := (HS.out.fr.b.cell (p := ⟨g, off + j, none⟩) hg).trans hc
      obtain ⟨z, hz⟩ : ∃ z, b[j] = z := ⟨_, rfl⟩
      rw [hz] at hc
      have htl : t.length ≤ 2000 := by
        rw [HT.out, hex_len]
        have h2 : (b.take j).length ≤ j := List.length_take_le _ _
        omega
      have HTL := Lib.hid htl
      have HT2 : Hid (t ++ [hexd (z.toNat / 16), hexd (z.toNat % 16)] = hexB (b.take (j + 1))) := Lib.hid (by
        rw [List.take_add_one, List.getElem?_eq_getElem hjl, hz, Option.toList_some, hexB_snoc, HT.out])
      clear hz hg hg2 htl k4
      obtain ⟨x1, hx1⟩ : ∃ x, hexd (z.toNat / 16) = x := ⟨_, rfl⟩
      obtain ⟨x2, hx2⟩ : ∃ x, hexd (z.toNat % 16) = x := ⟨_, rfl⟩
      have i1 := digits_run (z.toNat / 16) (by have := UInt8.toNat_lt z; omega) ((z.toNat : Int) / 16) (by omega)
      have i2 := digits_run (z.toNat % 16) (by omega) _ (and15 z)
      rw [hx1] at i1 HT2
      rw [hx2] at i2 HT2
      clear hx1 hx2
      go_wp2_with fail
      have hS5 := (HS.out.alloc (.cells #[.int .u8 (x1.toNat : Int), .int .u8 (x2.toNat : Int)] 5)).drew
      have hbk : Blk ((wr.alloc (.cells #[.int .u8 (x1.toNat : Int), .int .u8 (x2.toNat : Int)] 5)).drew) wr.heap.size 5 #[.int .u8 (x1.toNat : Int), .int .u8 (x2.toNat : Int)] := (Blk.new wr _ _)
      have HS5 := Lib.hid hS5
      have HBK := Lib.hid hbk
      clear hS5 hbk
      have hsh : RB.shows ((wr.alloc (.cells #[.int .u8 (x1.toNat : Int), .int .u8 (x2.toNat : Int)] 5)).drew) (some ⟨wr.heap.size, 0, none⟩) [x1, x2] := fun _ => ⟨wr.heap.size, 0, rfl, HBK.out.lt, fun i x hx k hk => by
        obtain rfl : k = 0 := by have : k < 1 := hk; omega
        have h1 := HBK.out.cell i
        match i, hx with
        | 0, hx => have : x1 = x := by simpa using hx
                   rw [← this]; exact h1
        | 1, hx => have : x2 = x := by simpa using hx
                   rw [← this]; exact h1⟩
      have HSH := Lib.hid hsh
      clear hsh
      go_region_law ((refine RowK.step_append (R := RB) (by rfl) _ _ (by rfl) B u0 _ [x1, x2] (by rfl) (rb_own.2 HS5.out.own) ⟨wr.heap.size, 0, none⟩ 2 2 rfl (by rfl) HSH.out (by omega) (by have := HL.out; have := HDL.out; have := HTL.out; simp; omega) HS5.out.env.le (wr.heap.size + 1) (by simp) ?_
                      intro gg cap w6 h6 hgrow hat hlt6
                      have H6 := Lib.hid (HS5.out.app (by decide) (rb_own.1 h6) (own_grown HS5.out.own HS5.out.env.le hgrow))))
      clear i1 i2
      all_goals
        go_wp2_with fail
        go_roundw
        case rel => exact ⟨j + 1, t ++ [x1, x2], by omega, by go_num, HT2, Lib.hid (by have := H6.out; simpa using this)⟩
        case measure => simp [intOf]; omega
    · obtain rfl : j = n := by omega
      have hlt' : ¬ (j : Int) < (j : Int) := by omega
      have HT2 : Hid (t = hexB b) := Lib.hid (by rw [HT.out, List.take_of_length_le (by have := HN.out; omega)])
      clear k4
      go_wp2_with fail
      go_ret
      exact ⟨_, rfl, by have := HS.out.own; rw [HT2.out] at this; rw [HM.out]; simpa using this, HS.out.fr⟩
theorem fld_nb (op : Int) (h : 1 ≤ op ∧ op ≤ 7) (h1 : op ≠ 1) : ∃ f p q, fldF op = f ∧ (bits .and .i64 f 1 != 0) = p ∧ (bits .and .i64 f 2 != 0) = q ∧ (bits .and .i64 f 4 != 0) = false ∧ hasW op = p ∧ hasN op = q := by
  have hc : op = 2 ∨ op = 3 ∨ op = 4 ∨ op = 5 ∨ op = 6 ∨ op = 7 := by omega
  rcases hc with rfl | rfl | rfl | rfl | rfl | rfl
  · exact ⟨3, true, true, rfl, by kernel_rfl, by kernel_rfl, by kernel_rfl, rfl, rfl⟩
  · exact ⟨1, true, false, rfl, by kernel_rfl, by kernel_rfl, by kernel_rfl, rfl, rfl⟩
  · exact ⟨1, true, false, rfl, by kernel_rfl, by kernel_rfl, by kernel_rfl, rfl, rfl⟩
  · exact ⟨1, true, false, rfl, by kernel_rfl, by kernel_rfl, by kernel_rfl, rfl, rfl⟩
  · exact ⟨3, true, true, rfl, by kernel_rfl, by kernel_rfl, by kernel_rfl, rfl, rfl⟩
  · exact ⟨2, false, true, rfl, by kernel_rfl, by kernel_rfl, by kernel_rfl, rfl, rfl⟩
theorem word_size (op : Int) : (wordI op).length ≤ 7 := word_len _

set_option maxRecDepth 100000 in
set_option maxHeartbeats 8000000 in
theorem appendMove_rest (B : Nat) (v dv : Value) (bs : List UInt8) (m : Mo) (hop : m.op ≠ 1) (hok : mvOk m = true) (hw1 : m.wire ≤ 9223372036854775807) (hn1 : m.n ≤ 9223372036854775807) (w : World) (hown : OwB B w v bs) (hE : EnvP E B w) (hx : SrcB (Lt B) w dv m.b) (hl : bs.length ≤ 60000000) :
    Calls Tryz.prog 90 #[v, .agg #[.int .i64 m.op, .int .i64 m.wire, .int .i64 m.n, dv]] w (AppP B w bs (sp (moveWs m))) := by
  obtain ⟨A, c, rfl, a1, a2, a3⟩ := hx.form
  obtain ⟨hop17, hw0, hn0, hb1000, _, _, _, _⟩ := mvOk_parts hok
  obtain ⟨f, p, q, hf, z1, z2, z3, hp, hq⟩ := fld_nb m.op hop17 hop
  obtain ⟨op, wire, nn, b⟩ := m
  simp only [] at hop hop17 hw0 hw1 hn0 hn1 hb1000 a1 hp hq hf ⊢
  obtain ⟨n, hn⟩ : ∃ n, b.length = n := ⟨_, rfl⟩
  rw [hn] at a1 hb1000 ⊢
  obtain ⟨dw, hdw⟩ : ∃ dw, decI wire = dw := ⟨_, rfl⟩
  obtain ⟨dn, hdn⟩ : ∃ dn, decI nn = dn := ⟨_, rfl⟩
  obtain ⟨wd, hwd⟩ : ∃ wd, wordI op = wd := ⟨_, rfl⟩
  have HM : Hid (sp (moveWs ⟨op, wire, nn, b⟩) = (32 :: wd) ++ ((if p then 32 :: dw else []) ++ (if q then 32 :: dn else []))) := Lib.hid (by
    simp only [sp, moveWs, hdw, hdn, hp, hq, hwd]
    rw [if_neg hop]
    cases p <;> cases q <;> simp)
  generalize sp (moveWs ⟨op, wire, nn, b⟩) = R at HM ⊢
  have hS := wr_new hown hE 25 #[.int .i64 op, .int .i64 wire, .int .i64 nn, .slice A n c]
  obtain ⟨W, hW⟩ : ∃ W, w.alloc (.cells #[.int .i64 op, .int .i64 wire, .int .i64 nn, .slice A n c] 25) = W := ⟨_, rfl⟩
  rw [hW] at hS
  have k0 := hS.blk.cell 0
  simp at k0
  have cw := hS.env.w.at_ (op := op) (by omega) (by omega)
  rw [hwd] at cw
  have hdl : dw.length ≤ 20 := by rw [← hdw]; exact decI_len hw0 hw1
  have hnl : dn.length ≤ 20 := by rw [← hdn]; exact decI_len hn0 hn1
  have hwl : wd.length ≤ 7 := by rw [← hwd]; exact word_size _
  have HF := Lib.hid (hf ▸ hS.flds op)
  have HA := Lib.hid (hS.word (by decide) ⟨wd.toArray⟩ wd rfl (by omega))
  have HW := Lib.hid hW
  have HL := Lib.hid (And.intro hl (And.intro hdl (And.intro hnl hwl)))
  have HDW := Lib.hid (And.intro hdw hdn)
  have HIN := Lib.hid (And.intro (And.intro hw0 hw1) (And.intro hn0 hn1))
  have o1 : 0 ≤ op := by omega
  have o2 : op < 8 := by omega
  clear hx hn hown hE hl hW hS a3 hok hdl hnl hwl hdw hdn hwd hp hq hn0 hw0 hw1 hn1 hf hop17 hop
  cases p <;> cases q
  · go_enter Tryz.func90, Tryz.ntmps90
    go_wp2_with fail
    rw [HW.out]
    refine HF.out.mono ?_
    rintro e w' ⟨rfl, rfl⟩
    go_wp2_with fail
    refine HA.out.mono ?_
    rintro e w1 ⟨v1, rfl, h1⟩
    have H1 := Lib.hid h1
    clear h1 cw k0
    go_wp2_with fail
    go_ret
    exact ⟨_, rfl, by have := H1.out.own; rw [HM.out]; simpa using this, H1.out.fr⟩
  · go_enter Tryz.func90, Tryz.ntmps90
    go_wp2_with fail
    rw [HW.out]
    refine HF.out.mono ?_
    rintro e w' ⟨rfl, rfl⟩
    go_wp2_with fail
    refine HA.out.mono ?_
    rintro e w1 ⟨v1, rfl, h1⟩
    have k2 := h1.blk.cell 2
    simp at k2
    have HIT := Lib.hid (h1.itoa nn HIN.out.2.1 HIN.out.2.2 dn HDW.out.2)
    clear h1 cw k0
    go_wp2_with fail
    refine HIT.out.mono ?_
    rintro e w2 ⟨rfl, h2⟩
    have HA2 := Lib.hid (h2.word (by decide) ⟨dn.toArray⟩ dn rfl (by have := HL.out; simp; omega))
    clear h2 k2
    go_wp2_with fail
    refine HA2.out.mono ?_
    rintro e w3 ⟨v3, rfl, h3⟩
    have H3 := Lib.hid h3
    clear h3
    go_wp2_with fail
    go_ret
    exact ⟨_, rfl, by have := H3.out.own; rw [HM.out]; simpa using this, H3.out.fr⟩
  · go_enter Tryz.func90, Tryz.ntmps90
    go_wp2_with fail
    rw [HW.out]
    refine HF.out.mono ?_
    rintro e w' ⟨rfl, rfl⟩
    go_wp2_with fail
    refine HA.out.mono ?_
    rintro e w1 ⟨v1, rfl, h1⟩
    have k1 := h1.blk.cell 1
    simp at k1
    have HIT := Lib.hid (h1.itoa wire HIN.out.1.1 HIN.out.1.2 dw HDW.out.1)
    clear h1 cw k0
    go_wp2_with fail
    refine HIT.out.mono ?_
    rintro e w2 ⟨rfl, h2⟩
    have HA2 := Lib.hid (h2.word (by decide) ⟨dw.toArray⟩ dw rfl (by have := HL.out; simp; omega))
    clear h2 k1
    go_wp2_with fail
    refine HA2.out.mono ?_
    rintro e w3 ⟨v3, rfl, h3⟩
    have H3 := Lib.hid h3
    clear h3
    go_wp2_with fail
    go_ret
    exact ⟨_, rfl, by have := H3.out.own; rw [HM.out]; simpa using this, H3.out.fr⟩
  · go_enter Tryz.func90, Tryz.ntmps90
    go_wp2_with fail
    rw [HW.out]
    refine HF.out.mono ?_
    rintro e w' ⟨rfl, rfl⟩
    go_wp2_with fail
    refine HA.out.mono ?_
    rintro e w1 ⟨v1, rfl, h1⟩
    have k1 := h1.blk.cell 1
    simp at k1
    have HIT := Lib.hid (h1.itoa wire HIN.out.1.1 HIN.out.1.2 dw HDW.out.1)
    clear h1 cw k0
    go_wp2_with fail
    refine HIT.out.mono ?_
    rintro e w2 ⟨rfl, h2⟩
    have HA2 := Lib.hid (h2.word (by decide) ⟨dw.toArray⟩ dw rfl (by have := HL.out; simp; omega))
    clear h2 k1
    go_wp2_with fail
    refine HA2.out.mono ?_
    rintro e w3 ⟨v3, rfl, h3⟩
    have k2 := h3.blk.cell 2
    simp at k2
    have HIT2 := Lib.hid (h3.itoa nn HIN.out.2.1 HIN.out.2.2 dn HDW.out.2)
    clear h3
    go_wp2_with fail
    refine HIT2.out.mono ?_
    rintro e w4 ⟨rfl, h4⟩
    have HA4 := Lib.hid (h4.word (by decide) ⟨dn.toArray⟩ dn rfl (by have := HL.out; simp; omega))
    clear h4 k2
    go_wp2_with fail
    refine HA4.out.mono ?_
    rintro e w5 ⟨v5, rfl, h5⟩
    have H5 := Lib.hid h5
    clear h5
    go_wp2_with fail
    go_ret
    exact ⟨_, rfl, by have := H5.out.own; rw [HM.out]; simpa using this, H5.out.fr⟩
theorem appendMove_any (B : Nat) (v dv : Value) (bs : List UInt8) (m : Mo) (hok : mvOk m = true) (hwf : m.Wf) (w : World) (hown : OwB B w v bs) (hE : EnvP E B w) (hx : SrcB (Lt B) w dv m.b) (hl : bs.length ≤ 60000000) :
    Calls Tryz.prog 90 #[v, .agg #[.int .i64 m.op, .int .i64 m.wire, .int .i64 m.n, dv]] w (AppP B w bs (sp (moveWs m))) := by
  by_cases h : m.op = 1
  · exact appendMove_data B v dv bs m h hok hwf.2.1.2 w hown hE hx hl
  · exact appendMove_rest B v dv bs m h hok hwf.2.1.2 hwf.2.2.2 w hown hE hx hl
end Go.Proofs.YtlephnfepofbbaaGreatDoor
