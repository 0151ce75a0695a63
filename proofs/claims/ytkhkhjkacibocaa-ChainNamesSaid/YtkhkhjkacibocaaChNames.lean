/-
  ChainNames.
-/
import Derived.Test.YtkhkhjkacibocaaChMoves
import Derived.Test.YtkhkhjkacibocaaChChunks
namespace Go.Proofs.Ytkhkhjkacibocaa
open Go.RowKit Go.Shelf Go.Maps Go.ChangeMaps

/-- A row of bytes, or of numbers, that no chain of D's owns. -/
def Ra (D : Nat → Nat → Prop) (v : Value) (ps : List Int) (w : World) : Prop := (∃ B, RowB w B v ps) ∧ ∀ k i, D k i → v.ownBlock ≠ some k
def Rn (D : Nat → Nat → Prop) (v : Value) (ps : List Int) (w : World) : Prop := (∃ B, RN.own w B v ps) ∧ ∀ k i, D k i → v.ownBlock ≠ some k
section
variable {D D' : Nat → Nat → Prop} {v : Value} {ps : List Int} {w w' w0 : World} {c d : Nat} {L : List Lk}
theorem Ra.step (h : Ra D v ps w) (m : Mc w w' D D') : Ra D' v ps w' := by
  obtain ⟨⟨B, h⟩, a⟩ := h
  refine ⟨⟨B, h.same fun k e => m.k.same (h.lt e).1 fun j hd => a k j hd e⟩, fun k i hd e => ?_⟩
  rcases m.o k i hd with h1 | h1
  · exact a k i h1 e
  · have := (h.lt e).1; omega
theorem Rn.step (h : Rn D v ps w) (m : Mc w w' D D') : Rn D' v ps w' := by
  obtain ⟨⟨B, h⟩, a⟩ := h
  refine ⟨⟨B, RowK.own_same h fun k e => m.k.same (RowK.own_lt h e).1 fun j hd => a k j hd e⟩, fun k i hd e => ?_⟩
  rcases m.o k i hd with h1 | h1
  · exact a k i h1 e
  · have := (RowK.own_lt h e).1; omega
theorem Ra.new (h : RowB w' w.heap.size v ps) (hD : ∀ k i, D k i → k < w.heap.size) : Ra D v ps w' := ⟨⟨_, h⟩, fun k i hd e => by have := hD k i hd; have := (h.lt e).2; omega⟩
theorem Rn.new (h : RN.own w' w.heap.size v ps) (hD : ∀ k i, D k i → k < w.heap.size) : Rn D v ps w' := ⟨⟨_, h⟩, fun k i hd e => by have := hD k i hd; have := (RowK.own_lt h e).2; omega⟩
/-- A chain, and a new one. -/
theorem two_more (h : Cn w w0.heap.size 29 c L) (hb : Below w0.heap.size w0 w) :
    Two (w.alloc (.cells #[.pointer none, .pointer none, .int .i64 0] 29)) w0.heap.size c L w.heap.size [] ∧ Mc w (w.alloc (.cells #[.pointer none, .pointer none, .int .i64 0] 29)) (Fc c L) (F2 c L w.heap.size []) := by
  refine ⟨⟨h.alloc _, (cn_new w).more hb.size, by rw [List.append_nil]; exact h.sep, ?_⟩, (Kc.refl _ _).alloc _, fun k i hf => ?_⟩
  · have := h.blk.lt; omega
  · rcases hf with hf | hf | ⟨x, hx, _⟩
    · exact .inl hf
    · exact .inr (by omega)
    · simp at hx
end
theorem src_row (w : World) {D : Nat → Nat → Prop} (hD : ∀ k i, D k i → k < w.heap.size) (zs : List Int) {n : Nat} (hn : zs.length = n) (hl : n ≤ 9223372036854775807) (sh : Nat × Nat) : Src (w.alloc (.cells (encB zs).toArray 5 sh)) D (some ⟨w.heap.size, 0, none⟩) n n zs :=
  ⟨hn, Nat.le_refl _, hl, (fun e => by cases e), (fun a e _ => by cases e; rfl), fun _ => ⟨w.heap.size, 0, rfl, by simp, fun i z hz => ⟨fun hd => Nat.lt_irrefl _ (hD _ _ hd), by
    have hb : (w.alloc (.cells (encB zs).toArray 5 sh)).heap[w.heap.size]? = some (.cells (encB zs).toArray 5 sh) := World.alloc_heap_new w _
    rw [Nat.zero_add, cell_of_row _ _ _ _ _ _ hb]
    simp [encB, hz]⟩⟩⟩
theorem drain_neg {w : World} {B c : Nat} {L : List Lk} (h : Cn w B 29 c L) (n : Int) (hn : -9223372036854775808 ≤ n ∧ n < 0) : Calls Try.prog 22 #[.pointer (some ⟨c, 0, none⟩), .int .i64 n] w fun e w' =>
    e = .returned (.int .i64 0) ∧ ∃ L', Cn w' B 29 c L' ∧ flat L' = flat L ∧ Mc w w' (Fc c L) (Fc c L') := by
  refine (drain_any h n (by omega)).mono ?_
  rintro e w' ⟨rfl, L', h1, h2, h3⟩
  have e : n.toNat = 0 := by omega
  rw [e] at h2 ⊢
  exact ⟨rfl, L', h1, h2, h3⟩
theorem drain_all {w : World} {B c : Nat} {L : List Lk} (h : Cn w B 29 c L) (n : Int) {m : Nat} (hm : (flat L).length = m) (hn : (m : Int) ≤ n ∧ n ≤ 9223372036854775807) : Calls Try.prog 22 #[.pointer (some ⟨c, 0, none⟩), .int .i64 n] w fun e w' =>
    e = .returned (.int .i64 (m : Int)) ∧ ∃ L', Cn w' B 29 c L' ∧ flat L' = [] ∧ Mc w w' (Fc c L) (Fc c L') := by
  refine (drain_any h n (by omega)).mono ?_
  rintro e w' ⟨rfl, L', h1, h2, h3⟩
  rw [List.drop_of_length_le (by omega)] at h2
  rw [List.take_of_length_le (by omega), hm]
  exact ⟨rfl, L', h1, h2, h3⟩
theorem below_kept {B : Nat} {w0 w w' : World} (hb : Below B w0 w) (hB : B ≤ w.heap.size) (k : Kept (fun _ => False) w w') : Below B w0 w' := law_quiet hb hB k

set_option maxRecDepth 100000 in
set_option maxHeartbeats 16000000 in
theorem names_any (w : World) : Calls Try.prog 4 #[] w fun e w' => e = .returned (.bool true) ∧ Below w.heap.size w w' := by
  have kc := fun (w : World) (C : Array Value) (n c : Nat) => Lib.run_convert_bytes_const (P := Try.prog) w 31 5 C n c Try.underlying31 Try.underlying5
  go_enter Try.func4, Try.ntmps4
  go_wp2_with fail
  refine (some_any w).mono ?_
  rintro e w1 ⟨c, L, rfl, hc, hf, hb⟩
  have H1 := Lib.hid (And.intro hc (And.intro hf hb))
  clear hc hf hb
  have HF1 := Lib.hid (finds_yes H1.out.1 ⟨#[]⟩ 5 5 (by decide) (by decide) (by rw [H1.out.2.1]; unfold FindA; rw [if_neg (by decide), if_pos (by rfl)]; rfl))
  go_wp2_with fail
  refine HF1.out.mono ?_
  rintro e w2 ⟨rfl, k2⟩
  have HK2 := Lib.hid k2
  clear k2 HF1
  have HF2 := Lib.hid (finds_no (H1.out.1.kept HK2.out) ⟨#[]⟩ 6 (by decide) (by decide) (by rw [H1.out.2.1]; unfold FindA; rw [if_neg (by decide), if_pos (by rfl)]; rfl))
  go_wp2_with fail
  refine HF2.out.mono ?_
  rintro e w3 ⟨rfl, k3⟩
  have HK3 := Lib.hid (HK2.out.trans k3)
  clear k3 HF2 HK2
  have HF3 := Lib.hid (finds_no (H1.out.1.kept HK3.out) ⟨#[]⟩ (-1) (by decide) (by decide) (by rw [H1.out.2.1]; unfold FindA; rw [if_pos (by decide)]))
  go_wp2_with fail
  refine HF3.out.mono ?_
  rintro e w4 ⟨rfl, k4⟩
  have HK4 := Lib.hid (HK3.out.trans k4)
  clear k4 HF3 HK3
  have HF4 := Lib.hid (finds_yes (H1.out.1.kept HK4.out) ⟨#[120, 97, 98, 99, 100]⟩ 0 0 (by decide) (by decide) (by rw [H1.out.2.1]; exact fsome (by decide) (by decide +kernel) (by decide) (by decide +kernel) (by decide +kernel)))
  go_wp2_with fail
  refine HF4.out.mono ?_
  rintro e w5 ⟨rfl, k5⟩
  have hk5 := HK4.out.trans k5
  have H5 := Lib.hid (And.intro (H1.out.1.kept hk5) (And.intro H1.out.2.1 (law_quiet H1.out.2.2 H1.out.1.base hk5)))
  clear k5 hk5 HF4 HK4 H1
  have HP := Lib.hid (pull_yes H5.out.1 4 (by rw [H5.out.2.1]; decide))
  go_wp2_with fail
  refine HP.out.mono ?_
  rintro e w6 ⟨v, rfl, g1, L6, g2, g3, g4, g5, g6⟩
  obtain ⟨x6, T6, e6, g7⟩ := g5 (by decide)
  have H6 := Lib.hid (And.intro g2 (And.intro (g3.trans H5.out.2.1) (And.intro (law_step H5.out.1 H5.out.2.2 g4) (show Ra (Fc c L6) v [120, 97, 98, 99] w6 from ⟨⟨_, by rw [H5.out.2.1] at g1; exact g1⟩, g6⟩))))
  have HX := Lib.hid (And.intro e6 g7)
  clear g1 g2 g3 g4 g5 g6 e6 g7 HP H5
  have HP2 := Lib.hid (pull_no H6.out.1 6 (.inr (by rw [H6.out.2.1]; decide)))
  have HP3 := Lib.hid (pull_no H6.out.1 (-1) (.inl (by decide)))
  go_wp2_with fail
  refine HP2.out.mono ?_
  rintro e w7 ⟨rfl, rfl⟩
  go_wp2_with fail
  refine HP3.out.mono ?_
  rintro e w7 ⟨rfl, rfl⟩
  clear HP2 HP3
  have HCh := Lib.hid (chunks_any H6.out.1)
  go_wp2_with fail
  refine HCh.out.mono ?_
  rintro e w7 ⟨l, rfl, g1, g2⟩
  have hk7 : Kept (fun _ => False) w6 w7 := ⟨g2.os, g2.tape, g2.output, g2.size, fun k hk _ => g2.block k hk⟩
  have H7 := Lib.hid (And.intro (H6.out.1.kept hk7) (And.intro H6.out.2.1 (And.intro (law_quiet H6.out.2.2.1 H6.out.1.base hk7) (And.intro (H6.out.2.2.2.step (Mc.of_kept hk7)) (Rn.new (D := Fc c L6) g1 fun k i e => H6.out.1.lt e)))))
  clear g1 g2 hk7 HCh H6
  have HA := Lib.hid (add_const H7.out.1 [108, 10, 109] (by rw [H7.out.2.1]; decide) (M := [120, 97, 98, 99, 100, 108, 10, 109]) (by rw [H7.out.2.1]; rfl))
  go_wp2_with fail
  refine HA.out.mono ?_
  rintro e w8 ⟨rfl, L8, g1, g2, g3⟩
  have H8 := Lib.hid (And.intro g1 (And.intro g2 (And.intro (law_step H7.out.1 H7.out.2.2.1 g3) (And.intro (H7.out.2.2.2.1.step g3) (H7.out.2.2.2.2.step g3)))))
  clear g1 g2 g3 HA H7
  have HL := Lib.hid (line_own H8.out.1)
  go_wp2_with fail
  refine HL.out.mono ?_
  rintro e w9 ⟨r, g1, g2⟩
  have hr : r = some 6 := g1.unique (by rw [H8.out.2.1]; exact ⟨by decide, by decide +kernel, fun j hj hi => (by decide +kernel : ∀ j, j < 6 → ¬ Occ [120, 97, 98, 99, 100, 108, 10, 109] [10] j) j hi⟩)
  subst hr
  obtain ⟨y, rfl, q1, L9, q2, q3, q4, q5⟩ := g2
  rw [H8.out.2.1] at q1 q3
  have H9 := Lib.hid (And.intro q2 (And.intro (show flat L9 = [109] from q3) (And.intro (law_step H8.out.1 H8.out.2.2.1 q4) (And.intro (H8.out.2.2.2.1.step q4) (And.intro (H8.out.2.2.2.2.step q4) (show Ra (Fc c L9) y [120, 97, 98, 99, 100, 108] w9 from ⟨⟨_, q1⟩, q5⟩))))))
  clear g1 q1 q2 q3 q4 q5 HL H8
  obtain ⟨tw, mw⟩ := two_more H9.out.1 H9.out.2.2.1
  obtain ⟨V, hV⟩ : ∃ V, V = w9.alloc (.cells #[.pointer none, .pointer none, .int .i64 0] 29) := ⟨_, rfl⟩
  obtain ⟨d, hd⟩ : ∃ d, d = w9.heap.size := ⟨_, rfl⟩
  rw [← hV] at tw mw
  rw [← hd] at tw mw
  have HV := Lib.hid hV
  have HD := Lib.hid hd
  have Ha := Lib.hid (And.intro tw (And.intro (H9.out.2.2.1.trans (mw.below (fun _ _ e => H9.out.1.low e) H9.out.1.base)) (And.intro (H9.out.2.2.2.1.step mw) (And.intro (H9.out.2.2.2.2.1.step mw) (H9.out.2.2.2.2.2.step mw)))))
  have HM := Lib.hid (move_yes Ha.out.1 1 (by decide) (by rw [H9.out.2.1]; decide))
  have e1 : min 1 (flat L9).length = 1 := by rw [H9.out.2.1]; rfl
  rw [e1] at HM
  clear tw mw hV hd e1
  go_wp2_with fail
  rw [← HV.out, ← HD.out]
  refine HM.out.mono ?_
  rintro e wb ⟨rfl, Lb, Mb, t1, f1, f2, m1⟩
  have Hb := Lib.hid (And.intro t1 (And.intro (show flat Lb = [] by rw [f1, H9.out.2.1]; rfl) (And.intro (show flat Mb = [109] by rw [f2, H9.out.2.1]; rfl) (And.intro (Ha.out.2.1.trans (m1.below (fun _ _ e => F2.low Ha.out.1 e) Ha.out.1.cc.base)) (And.intro (Ha.out.2.2.1.step m1) (And.intro (Ha.out.2.2.2.1.step m1) (Ha.out.2.2.2.2.step m1)))))))
  clear t1 f1 f2 m1 HM Ha H9
  have HM1 := Lib.hid (move_self wb c 0)
  have HM2 := Lib.hid (move_to_nil wb c 0)
  have HM3 := Lib.hid (move_neg Hb.out.1 (-1) (by decide))
  have HL2 := Lib.hid (line_own Hb.out.1.cc)
  go_wp2_with fail
  refine HM1.out.mono ?_
  rintro e wc ⟨rfl, rfl⟩
  go_wp2_with fail
  refine HM2.out.mono ?_
  rintro e wc ⟨rfl, rfl⟩
  go_wp2_with fail
  refine HM3.out.mono ?_
  rintro e wc ⟨rfl, rfl⟩
  clear HM1 HM2 HM3
  go_wp2_with fail
  refine HL2.out.mono ?_
  rintro e wc ⟨r, g1, g2⟩
  have hr : r = none := g1.unique (by rw [Hb.out.2.1]; intro i _ ho; have := ho.le (by decide); simp at this)
  subst hr
  obtain ⟨rfl, q1, q2⟩ := g2
  have Hc := Lib.hid (And.intro (Hb.out.1.kept q2) (And.intro (law_quiet Hb.out.2.2.2.1 Hb.out.1.cc.base q2) (And.intro (Hb.out.2.2.2.2.1.step (Mc.of_kept q2)) (And.intro (Hb.out.2.2.2.2.2.1.step (Mc.of_kept q2)) (Hb.out.2.2.2.2.2.2.step (Mc.of_kept q2))))))
  clear g1 q1 q2 HL2
  have HN1 := Lib.hid (len_any Hc.out.1.cc)
  have HN2 := Lib.hid (len_any Hc.out.1.dd)
  rw [Hb.out.2.1] at HN1
  rw [Hb.out.2.2.1] at HN2
  obtain ⟨B1, r1⟩ := Hc.out.2.2.1.1
  obtain ⟨B2, r2⟩ := Hc.out.2.2.2.1.1
  obtain ⟨B3, r3⟩ := Hc.out.2.2.2.2.1
  have s1 := rowB_str r1 (by decide)
  have s3 := rowB_str r3 (by decide)
  have t1 : ((strOfNums [120, 97, 98, 99]).toList == [120, 97, 98, 99]) = true := by decide +kernel
  have t3 : ((strOfNums [120, 97, 98, 99, 100, 108]).toList == [120, 97, 98, 99, 100, 108]) = true := by decide +kernel
  obtain ⟨A2, c2, rfl, hsh, _, hcl⟩ := RowK.own_shows r2
  obtain ⟨q, hq⟩ : ∃ q, q = (L6.map fun x => (x.bs.length : Int)).length := ⟨_, rfl⟩
  have hq0 : 0 < q := by rw [hq, HX.out.1]; simp
  obtain ⟨g, o, rfl, hg, hl⟩ := hsh (by rw [← hq]; exact hq0)
  have hl0 := hl 0 (x6.bs.length : Int) (by rw [HX.out.1]; rfl) 0 (by decide)
  obtain ⟨m6, hm6⟩ : ∃ m, m = x6.bs.length := ⟨_, rfl⟩
  have hx6 := HX.out.2
  rw [← hm6] at hl0 hx6
  have c0 : wc.cell? ⟨g, o, none⟩ = some (.int .i64 (m6 : Int)) := hl0
  rw [← hq] at hcl ⊢
  have b1 : (0 : Int) < (q : Int) := by omega
  have b2 : decide ((0 : Int) < (q : Int)) = true := by simpa using b1
  have b3 : (4 : Int) ≤ (m6 : Int) := by omega
  have b4 : decide ((4 : Int) ≤ (m6 : Int)) = true := by simpa using b3
  have HfM := Lib.hid Hb.out.2.2.1
  clear r1 r2 r3 hsh hl hl0 hm6 hq Hb HX HV HD
  go_wp2_with (first
    | (go_at_call_of 12 (Value.pointer (some ⟨c, 0, none⟩)); refine HN1.out.mono ?_; rintro e w' ⟨rfl, rfl⟩)
    | (go_at_call 12; refine HN2.out.mono ?_; rintro e w' ⟨rfl, rfl⟩))
  obtain ⟨z1, hz1, hm1⟩ : ∃ z : List Int, z.length = 1048576 ∧ ∀ U : World, (Instr.makeSlice 31 (.int .i64 1048576) (.int .i64 1048576)).run Try.prog U = .ok (.slice (some ⟨U.heap.size, 0, none⟩) 1048576 1048576) (U.alloc (.cells (encB z).toArray 5)) := ⟨_, List.length_replicate, fun U => make_run 1048576 1048576 (Nat.le_refl _) (by omega) U⟩
  obtain ⟨z2, hz2, hm2⟩ : ∃ z : List Int, z.length = 1048575 ∧ ∀ U : World, (Instr.makeSlice 31 (.int .i64 1048575) (.int .i64 1048575)).run Try.prog U = .ok (.slice (some ⟨U.heap.size, 0, none⟩) 1048575 1048575) (U.alloc (.cells (encB z).toArray 5)) := ⟨_, List.length_replicate, fun U => make_run 1048575 1048575 (Nat.le_refl _) (by omega) U⟩
  have tb := Hc.out.1.kept ((Kept.refl _ wc).alloc (.cells (encB z1).toArray 5))
  have bb := (Hc.out.2.1.alloc Hc.out.1.cc.base (.cells (encB z1).toArray 5))
  have Hb := Lib.hid (And.intro tb bb)
  clear tb bb
  have HA1 := Lib.hid (add_no (A := some ⟨wc.heap.size, 0, none⟩) (n := 1048576) (cp := 1048576) Hb.out.1.dd (by rw [HfM.out]; decide))
  have hm1 := hm1 wc
  clear c0 b1 b2 b3 b4 hq0 hx6 hcl s1 s3 t1 t3 hg HN1
  go_wp2_with fail
  rw [hm1]
  go_wp2_with fail
  refine HA1.out.mono ?_
  rintro e wd ⟨rfl, rfl⟩
  obtain ⟨U, hU⟩ : ∃ U, U = wc.alloc (.cells (encB z1).toArray 5) := ⟨_, rfl⟩
  have hUs : U.heap.size = wc.heap.size + 1 := by rw [hU]; simp
  have hm2 := hm2 U
  have HA2 := Lib.hid (add_yes (Hb.out.1.dd.kept ((Kept.refl _ _).alloc (.cells (encB z2).toArray 5))) (src_row _ (fun _ _ e => Hb.out.1.dd.lt e) z2 hz2 (by decide) (0, 0)) (by rw [HfM.out]; decide))
  rw [← hU] at HA2
  have HH2 := Lib.hid (And.intro hm2 (And.intro hU (And.intro hUs hz2)))
  rw [← hU]
  clear hm1 hz1 HA1 hm2 hU hUs hz2
  go_wp2_with fail
  refine HA2.out.mono ?_
  rintro e we ⟨rfl, M2, g1, g2, g3⟩
  have hfl : (flat M2).length = 1048576 := by rw [g2, HfM.out, List.length_append, HH2.out.2.2.2]; rfl
  have He := Lib.hid (show (∃ U : World, Two U w.heap.size c Lb d Mb ∧ Below w.heap.size w U ∧ Mc U we (Fc d Mb) (Fc d M2)) ∧ Cn we w.heap.size 29 d M2 ∧ (flat M2).length = 1048576 from ⟨⟨_, Hb.out.1.kept ((Kept.refl _ _).alloc (.cells (encB z2).toArray 5)), Hb.out.2.alloc Hb.out.1.cc.base _, by rw [HH2.out.2.1] at g3; exact g3⟩, g1, hfl⟩)
  clear g1 g2 g3 hfl HA2 HH2 Hb
  obtain ⟨⟨U2, t2, b2, m2⟩, hM2, hf2⟩ := He.out
  have bel := law_step t2.dd b2 m2
  obtain ⟨t3, _⟩ := t2.symm.step hM2 m2
  have Hf := Lib.hid (And.intro t3 (And.intro bel hf2))
  clear t2 b2 m2 bel t3 hM2 hf2 He
  have HA3 := Lib.hid (fun o : Obj => ahead_no (A := some ⟨we.heap.size, 0, none⟩) (n := 1) (cp := 1) (Hf.out.1.cc.alloc o) (by rw [Hf.out.2.2]; decide))
  go_wp2_with fail
  refine (HA3.out _).mono ?_
  rintro e wf ⟨rfl, rfl⟩
  have HD1 := Lib.hid (fun o : Obj => drain_neg (Hf.out.1.cc.alloc o) (-1) (by decide))
  go_wp2_with fail
  refine (HD1.out _).mono ?_
  rintro e wg ⟨rfl, L7, g1, g2, g3⟩
  have t0 := Hf.out.1.kept ((Kept.refl _ we).alloc (.cells #[.int .u8 1] 5))
  have b0 := Hf.out.2.1.alloc Hf.out.1.cc.base (.cells #[.int .u8 1] 5)
  have Hg := Lib.hid (And.intro (t0.step g1 g3).1 (And.intro (g2 ▸ Hf.out.2.2 : (flat L7).length = 1048576) (law_step t0.cc b0 g3)))
  clear g1 g2 g3 t0 b0 HD1 HA3 Hf
  have HD2 := Lib.hid (drain_all Hg.out.1.cc 4611686018427387904 Hg.out.2.1 (by decide))
  go_wp2_with fail
  refine HD2.out.mono ?_
  rintro e wh ⟨rfl, L8', g1, g2, g3⟩
  have Hh := Lib.hid (And.intro (Hg.out.1.step g1 g3).1 (And.intro g2 (law_step Hg.out.1.cc Hg.out.2.2 g3)))
  clear g1 g2 g3 HD2 Hg
  have HL3 := Lib.hid (len_zero Hh.out.1.cc Hh.out.2.1)
  have HC3 := Lib.hid (chunks_any Hh.out.1.cc)
  have hLn : L8' = [] := Hh.out.1.cc.nil.2 (by rw [Hh.out.2.1]; rfl)
  rw [hLn] at HC3
  have HLn := Lib.hid hLn
  clear hLn
  go_wp2_with (first
    | (go_at_call 12; refine HL3.out.mono ?_; rintro e w' ⟨rfl, rfl⟩)
    | (go_at_call 17; refine HC3.out.mono ?_; rintro e wi ⟨l2, rfl, g1, g2⟩
       obtain ⟨A3, c3, hl2, _, _, _⟩ := RowK.own_shows g1
       have hl3 : l2 = .slice A3 0 c3 := hl2
       subst hl3
       have Hi := Lib.hid (Hh.out.2.2.trans (g2.mono Hh.out.1.cc.base))
       clear g1 g2 hl2))
  refine (pull_nil _ 0).mono ?_
  rintro e wj ⟨rfl, rfl⟩
  go_wp2_with fail
  refine (move_nil _ _ 0).mono ?_
  rintro e wj ⟨rfl, rfl⟩
  go_wp2_with fail
  refine (find_nil _ none 0 0 0).mono ?_
  rintro e wj ⟨rfl, rfl⟩
  simp only [ansF]
  go_wp2_with fail
  refine (line_nil _).mono ?_
  rintro e wj ⟨rfl, kj⟩
  have Hj := Lib.hid (show Below w.heap.size w wj from Hi.out.trans (kj.below (fun _ e => e.elim) Hi.out.size))
  clear kj
  go_wp2_with (first
    | (go_at_call 24; refine (alive_any _).mono ?_; rintro e wk ⟨rfl, bk⟩; have Hk := Lib.hid (Hj.out.trans (bk.mono Hj.out.size)); clear bk)
    | (go_at_call 18; refine (add_nil _ none 0 0).mono ?_; rintro e w' ⟨rfl, rfl⟩)
    | (go_at_call 21; refine (ahead_nil _ none 0 0).mono ?_; rintro e w' ⟨rfl, rfl⟩)
    | (go_at_call 12; refine (len_nil _).mono ?_; rintro e w' ⟨rfl, rfl⟩)
    | (go_at_call 22; refine (drain_nil _ 1 (by decide)).mono ?_; rintro e w' ⟨rfl, rfl⟩)
    | (go_at_call 25; refine (take_nil _ 1 (by decide)).mono ?_; rintro e w' ⟨rfl, rfl⟩)
    | (go_at_call 26; refine (copy_nil _ 0 1 (by decide) (by decide)).mono ?_; rintro e w' ⟨rfl, rfl⟩)
    | (go_at_call 17; refine (chunks_nil _).mono ?_; rintro e wl ⟨rfl, kl⟩; have Hl := Lib.hid (show Below w.heap.size w wl from Hk.out.trans (kl.below (fun _ e => e.elim) Hk.out.size)); clear kl))
  go_ret
  exact ⟨rfl, Hl.out⟩
end Go.Proofs.Ytkhkhjkacibocaa
