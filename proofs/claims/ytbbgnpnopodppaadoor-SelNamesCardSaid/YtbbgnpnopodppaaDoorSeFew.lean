/-
  The law's small world; it lives.
-/
import Derived.Test.YtbbgnpnopodppaaDoorSeOps
import Derived.Test.YtbbgnpnopodppaaDoorKwOps
namespace Go.Proofs.YtbbgnpnopodppaaDoor
open Go.RowKit Go.Shelf Go.Maps Go.ChangeMaps

theorem Below.al {w X : World} {o : Obj} (h : Below w.heap.size w X) : Below w.heap.size w (X.alloc o) := h.alloc h.size o
theorem Below.end_ {w X Y : World} (h : Below w.heap.size w X) (k : Below X.heap.size X Y) : Below w.heap.size w Y := h.trans (k.mono h.size)
def Sf0 : Ws := ((Ws.new.two 4 1).2.2.2.outM 4).2.2.2
def Sf1 : Ws := (Sf0.close 1).2
theorem Sf0_len : Sf0.ws.length = 2 := rfl
theorem few_any {B : Nat} {W w : World} (hB : B ≤ w.heap.size) (hb : Below B W w) : Calls Tryd.prog 4 #[] w fun e w' => ∃ p, e = .returned (.pointer (some ⟨p, 0, none⟩)) ∧ Od B W p Sf0 0 (fun _ => False) w' := by
  have HN := Lib.hid (Od.new hB hb)
  clear hb
  go_enter Tryd.func4, Tryd.ntmps4
  go_wp2_with fail
  refine HN.out.mono ?_
  rintro e w1 ⟨p, rfl, hO⟩
  have HT := Lib.hid (hO.two_pipe (by decide) 4)
  clear hO
  go_wp2_with fail
  refine HT.out.mono ?_
  rintro e w2 ⟨rfl, hO, _⟩
  have HU := Lib.hid (hO.outM_any (by decide) 4)
  clear hO
  go_wp2_with fail
  refine HU.out.mono ?_
  rintro e w3 ⟨rfl, hO, _⟩
  have HO := Lib.hid hO
  clear hO
  go_wp2_with fail
  go_ret
  exact ⟨p, rfl, HO.out⟩
theorem isL_nil (w : World) : Fs.IsL w (.slice none 0 0) [] := ⟨none, 0, rfl, Nat.zero_le _, fun _ => rfl, .inl rfl⟩
theorem isL_one (X : World) (i : Int) : Fs.IsL (X.alloc (.cells #[.int .i64 i] 3)) (.slice (some ⟨X.heap.size, 0, none⟩) 1 1) [i] :=
  ⟨_, 1, rfl, by unfold maxLen; simp, (fun e => by cases e), .inr ⟨_, 0, rfl, by simp, fun j hj => by
    have := (Blk.new X 3 #[.int .i64 i]).cell (0 + j)
    simp at hj
    subst hj
    exact this⟩⟩
theorem isL_two (X : World) (i k : Int) : Fs.IsL (X.alloc (.cells #[.int .i64 i, .int .i64 k] 3)) (.slice (some ⟨X.heap.size, 0, none⟩) 2 2) [i, k] :=
  ⟨_, 2, rfl, by unfold maxLen; simp, (fun e => by cases e), .inr ⟨_, 0, rfl, by simp, fun j hj => by
    have := (Blk.new X 3 #[.int .i64 i, .int .i64 k]).cell (0 + j)
    simp at hj
    rcases (show j = 0 ∨ j = 1 by omega) with rfl | rfl <;> exact this⟩⟩
def RetV (w : World) (v : Value) (e : Ending) (w' : World) : Prop := e = .returned v ∧ Below w.heap.size w w'
theorem set0 (w : World) : Calls Tryd.prog 7 #[.slice none 0 0] w (RetV w (.agg #[.int .u32 0, .int .u32 0])) := (set_any w _ [] (isL_nil w) (by decide)).mono fun e w' h => ⟨h.1.trans (by rfl), h.2⟩
theorem set1_0 (X : World) (g : Nat) (hg : g = X.heap.size) : Calls Tryd.prog 7 #[.slice (some ⟨g, 0, none⟩) 1 1] (X.alloc (.cells #[.int .i64 0] 3)) (RetV (X.alloc (.cells #[.int .i64 0] 3)) (.agg #[.int .u32 1, .int .u32 0])) := by
  subst hg
  exact (set_any _ _ [0] (isL_one X 0) (by decide)).mono fun e w' h => ⟨h.1.trans (by rfl), h.2⟩
theorem set1_1 (X : World) (g : Nat) (hg : g = X.heap.size) : Calls Tryd.prog 7 #[.slice (some ⟨g, 0, none⟩) 1 1] (X.alloc (.cells #[.int .i64 1] 3)) (RetV (X.alloc (.cells #[.int .i64 1] 3)) (.agg #[.int .u32 2, .int .u32 0])) := by
  subst hg
  exact (set_any _ _ [1] (isL_one X 1) (by decide)).mono fun e w' h => ⟨h.1.trans (by rfl), h.2⟩
theorem set2_02 (X : World) (g : Nat) (hg : g = X.heap.size) : Calls Tryd.prog 7 #[.slice (some ⟨g, 0, none⟩) 2 2] (X.alloc (.cells #[.int .i64 0, .int .i64 2] 3)) (RetV (X.alloc (.cells #[.int .i64 0, .int .i64 2] 3)) (.agg #[.int .u32 5, .int .u32 0])) := by
  subst hg
  exact (set_any _ _ [0, 2] (isL_two X 0 2) (by decide)).mono fun e w' h => ⟨h.1.trans (by rfl), h.2⟩
theorem set2_12 (X : World) (g : Nat) (hg : g = X.heap.size) : Calls Tryd.prog 7 #[.slice (some ⟨g, 0, none⟩) 2 2] (X.alloc (.cells #[.int .i64 1, .int .i64 2] 3)) (RetV (X.alloc (.cells #[.int .i64 1, .int .i64 2] 3)) (.agg #[.int .u32 6, .int .u32 0])) := by
  subst hg
  exact (set_any _ _ [1, 2] (isL_two X 1 2) (by decide)).mono fun e w' h => ⟨h.1.trans (by rfl), h.2⟩
theorem len0 (w : World) : Calls Tryd.prog 10 #[.agg #[.int .u32 0, .int .u32 0]] w (RetV w (.int .i64 0)) := (Fs.len_any 0 0 w (by decide) (by decide)).mono fun e w' h => ⟨h.1.trans (by rfl), h.2⟩
theorem len1 (w : World) : Calls Tryd.prog 10 #[.agg #[.int .u32 1, .int .u32 0]] w (RetV w (.int .i64 1)) := (Fs.len_any 1 0 w (by decide) (by decide)).mono fun e w' h => ⟨h.1.trans (by rfl), h.2⟩
theorem len6 (w : World) : Calls Tryd.prog 10 #[.agg #[.int .u32 6, .int .u32 0]] w (RetV w (.int .i64 2)) := (Fs.len_any 6 0 w (by decide) (by decide)).mono fun e w' h => ⟨h.1.trans (by rfl), h.2⟩
theorem has61 (w : World) : Calls Tryd.prog 9 #[.agg #[.int .u32 6, .int .u32 0], .int .i64 1] w (RetV w (.bool true)) := (Fs.has_in 6 0 1 w (by decide) (by decide) (by decide)).mono fun e w' h => ⟨h.1.trans (by rfl), h.2⟩
theorem has62 (w : World) : Calls Tryd.prog 9 #[.agg #[.int .u32 6, .int .u32 0], .int .i64 2] w (RetV w (.bool true)) := (Fs.has_in 6 0 2 w (by decide) (by decide) (by decide)).mono fun e w' h => ⟨h.1.trans (by rfl), h.2⟩
theorem has10 (w : World) : Calls Tryd.prog 9 #[.agg #[.int .u32 1, .int .u32 0], .int .i64 0] w (RetV w (.bool true)) := (Fs.has_in 1 0 0 w (by decide) (by decide) (by decide)).mono fun e w' h => ⟨h.1.trans (by rfl), h.2⟩
theorem sel_a : selP Sf0.rdyAt 3 5 0 6 0 = (⟨0, 0, 6, 0⟩, 2, 0) := rfl
theorem sel_b : selP Sf1.rdyAt 3 5 0 6 0 = (⟨0, 0, 0, 0⟩, 0, 110) := rfl
theorem sel_c : selP Sf1.rdyAt 1 5 0 6 0 = (⟨1, 0, 0, 0⟩, 1, 0) := rfl
theorem sel_d : selP Sf1.rdyAt 65 1 0 0 0 = (⟨0, 0, 0, 0⟩, 0, 2) := rfl
theorem sel_e : selP Sf1.rdyAt (-1) 1 0 0 0 = (⟨0, 0, 0, 0⟩, 0, 2) := rfl
theorem sel_f : selP Sf1.rdyAt 1 1 0 0 0 = (⟨1, 0, 0, 0⟩, 1, 0) := rfl
theorem sel_g : selP Sf0.rdyAt 1 1 0 0 0 = (⟨0, 0, 0, 0⟩, 0, 0) := rfl
theorem tab_below {w w' : World} (h : Fs.Tab w ∧ 0 < w.heap.size) (hb : Below w.heap.size w w') : Fs.Tab w' ∧ 0 < w'.heap.size := ⟨h.1.below h.2 hb, Nat.lt_of_lt_of_le h.2 hb.size⟩
/-- Select, of a world whose answer is known. -/
theorem Od.selK {B : Nat} {W w w' : World} {p : Nat} {S : Ws} {N : Nat} {D : Nat → Prop} (h : Od B W p S N D w) (hT : Fs.Tab w ∧ 0 < w.heap.size) (hb : Below w.heap.size w w') (top : Int) {a b c d : Nat} (hl : a < 4294967296 ∧ b < 4294967296 ∧ c < 4294967296 ∧ d < 4294967296) {r : Acc × Nat × Nat} (hr : selP S.rdyAt top a b c d = r) :
    Calls Tryd.prog 6 #[.pointer (some ⟨p, 0, none⟩), .int .i64 top, setV a b, setV c d] w' (RetV w' (tupS r)) := by
  have hT2 := tab_below hT hb
  refine ((h.below hb).sel top hl.1 hl.2.1 hl.2.2.1 hl.2.2.2 hT2.1 hT2.2).mono ?_
  rintro e w2 ⟨rfl, _, hb2⟩
  exact ⟨by rw [hr], hb2⟩
theorem blk_two (w : World) (o : Obj) (t : TypeId) (cs : Array Value) : Blk ((w.alloc o).alloc (.cells cs t)) (w.heap.size + 1) t cs := by
  have := Blk.new (w.alloc o) t cs
  rwa [World.size_alloc] at this
set_option maxRecDepth 100000 in
set_option maxHeartbeats 4000000 in
theorem salive_any (w : World) (hT : Fs.Tab w ∧ 0 < w.heap.size) : Calls Tryd.prog 8 #[] w (RetV w (.bool true)) := by
  have HF := Lib.hid (few_any (Nat.le_refl _) (Below.refl w.heap.size w))
  have HT := Lib.hid hT
  clear hT
  go_enter Tryd.func8, Tryd.ntmps8
  go_wp2_with fail
  refine HF.out.mono ?_
  rintro e w1 ⟨p, rfl, hO⟩
  have HO := Lib.hid hO
  have H1 := Lib.hid hO.bel
  clear hO
  go_wp2_with fail
  refine (set2_02 _ _ (by simp)).mono ?_
  rintro e w2 ⟨rfl, hb⟩
  have H2 := Lib.hid (Below.end_ (Below.al (Below.refl _ w1)) hb)
  clear hb
  go_wp2_with fail
  refine (set2_12 _ _ (by simp)).mono ?_
  rintro e w3 ⟨rfl, hb⟩
  have H3 := Lib.hid (Below.end_ (Below.al H2.out) hb)
  clear hb
  have HS := Lib.hid (HO.out.selK (tab_below HT.out H1.out) H3.out 3 (a := 5) (b := 0) (c := 6) (d := 0) (by decide) sel_a)
  go_wp2_with fail
  refine HS.out.mono ?_
  rintro e w4 ⟨rfl, hb⟩
  have H4 := Lib.hid (Below.end_ H3.out hb)
  clear hb
  go_wp2_with fail
  refine (len0 _).mono ?_
  rintro e w5 ⟨rfl, hb⟩
  have B5 := Lib.hid ((blk_two w4 (.cells #[.int .u32 0, .int .u32 0] 28) 28 #[.int .u32 6, .int .u32 0]).same (hb.block _ ((blk_two w4 (.cells #[.int .u32 0, .int .u32 0] 28) 28 #[.int .u32 6, .int .u32 0])).lt))
  have k0 := B5.out.cell 0
  have k1 := B5.out.cell 1
  simp at k0 k1
  have l0 := B5.out.lt
  have H5 := Lib.hid (Below.end_ (Below.al (Below.al H4.out)) hb)
  clear hb
  go_wp2_with fail
  clear k0 k1 l0
  refine (len6 _).mono ?_
  rintro e w6 ⟨rfl, hb⟩
  have B6 := Lib.hid (B5.out.same (hb.block _ (B5.out).lt))
  have k0 := B6.out.cell 0
  have k1 := B6.out.cell 1
  simp at k0 k1
  have l0 := B6.out.lt
  have H6 := Lib.hid (Below.end_ H5.out hb)
  clear hb
  go_wp2_with fail
  clear k0 k1 l0
  refine (has61 _).mono ?_
  rintro e w7 ⟨rfl, hb⟩
  have B7 := Lib.hid (B6.out.same (hb.block _ (B6.out).lt))
  have k0 := B7.out.cell 0
  have k1 := B7.out.cell 1
  simp at k0 k1
  have l0 := B7.out.lt
  have H7 := Lib.hid (Below.end_ H6.out hb)
  clear hb
  go_wp2_with fail
  clear k0 k1 l0
  refine (has62 _).mono ?_
  rintro e w8 ⟨rfl, hb⟩
  have B8 := Lib.hid (B7.out.same (hb.block _ (B7.out).lt))
  have k0 := B8.out.cell 0
  have k1 := B8.out.cell 1
  simp at k0 k1
  have l0 := B8.out.lt
  have H8 := Lib.hid (Below.end_ H7.out hb)
  clear hb
  go_wp2_with fail
  go_ret
  exact ⟨rfl, Below.end_ H1.out H8.out⟩
end Go.Proofs.YtbbgnpnopodppaaDoor
