/-
  The chapter's first examples.
-/
import Derived.Test.YtlephnfepofbbaaGreatDoorMsNew
import Derived.Test.YtlephnfepofbbaaGreatDoorMvTextW
import Derived.Lib.SmallJoins
namespace Go.Proofs.YtlephnfepofbbaaGreatDoor
open Go.RowKit Go.Shelf Go.Maps Go.ChangeMaps
variable {E : Prop}

theorem sh_blk {W : World} {g : Nat} {zs : List Value} {t : TypeId} {mk : Nat × Nat} (h : W.heap[g]? = some (.cells zs.toArray t mk)) (n : Nat) (hn : n ≤ 9223372036854775807) : Sh (Lt W.heap.size) W (.slice (some ⟨g, 0, none⟩) n n) n zs := by
  have hl := (Array.getElem?_eq_some_iff.1 h).1
  refine ⟨_, n, rfl, Nat.le_refl _, hn, (fun e => by cases e), fun _ => ⟨g, 0, rfl, hl, hl, fun j u hu => ?_⟩⟩
  have := cell_of_row W g (0 + j) _ t mk h
  rw [this, Nat.zero_add]
  simpa using hu
/-- Scripts whose steps make no moves. -/
def P0 (B0 : Nat) (W0 X : World) (p N : Nat) (D D2 : Nat → Prop) (kb : Nat) (l : List St) (o : List Int) (S : Ws) (w : World) : Prop := Sk D kb w l o ∧ Od B0 W0 p S N D2 w ∧ (∀ x ∈ l, x.mv = [] ∧ x.t ≤ 18446744073709551615) ∧ S.now ≤ 18446744073709551615 ∧ ∀ b, D2 b → ¬ D b → w.heap[b]? = X.heap[b]?
theorem cx0 {B0 : Nat} {W0 X : World} {p N : Nat} {D D2 : Nat → Prop} {kb hk : Nat} {hv : Value} (hD : ∀ b, D b → D2 b) (hB : ∀ b, D b → B0 ≤ b) (h1 : D2 hk) (h2 : ¬ D hk) (hX : Blk X hk 44 #[hv]) : Cx kb p hk hv (fun S _ => S) (P0 B0 W0 X p N D D2 kb) where
  sk := fun h => ⟨D, h.1⟩
  nums := fun h x hx => (h.2.2.1 x hx).2
  hold := fun h => (hX.same (h.2.2.2.2 hk h1 h2)).cell 0
  pass := fun {l o S w} h n hn hl => by
    obtain ⟨a1, a2, a3, a4, a5⟩ := h
    refine (kpass_any a1 a2 hD hB n hn a4 (fun x hx => ⟨hl x hx, (a3 x (List.mem_of_mem_head? hx)).2⟩)).mono ?_
    rintro e w' ⟨rfl, b1, b2, b3⟩
    refine ⟨rfl, b2, b1, ?_, ?_, fun b u v => (b3 b u v).trans (a5 b u v)⟩
    · cases l with
      | nil => exact a3
      | cons x r =>
        intro y hy
        rcases List.mem_cons.1 hy with rfl | hy
        · have := a3 x (by simp)
          exact ⟨this.1, by have := this.2; simp; omega⟩
        · exact a3 y (by simp [hy])
    · unfold Ws.pass; simp; omega
  take := fun {x r o S w} h => by
    obtain ⟨a1, a2, a3, a4, a5⟩ := h
    refine (take0_any a1 a2 hD hB (a3 x (by simp)).1 _).mono ?_
    rintro e w' ⟨rfl, b1, b2, b3⟩
    exact ⟨rfl, b2, b1, fun y hy => a3 y (by simp [hy]), a4, fun b u v => (b3 b u v).trans (a5 b u v)⟩
theorem od_new {B : Nat} {W w : World} (hB : B ≤ w.heap.size) (hb : Below B W w) {D : Nat → Prop} (hD : ∀ b, D b → b < w.heap.size) : Calls Tryz.prog 7 #[] w fun e w' => ∃ p, e = .returned (.pointer (some ⟨p, 0, none⟩)) ∧ Od B W p Ws.new 0 D w' ∧ Below w.heap.size w w' := by
  refine (wNew_any w B hB).mono ?_
  rintro e w' ⟨L, rfl, h1, h2, h3⟩
  exact ⟨L.p, rfl, ⟨L, rfl, h1, hb.trans (h2.mono hB), fun i x hx => by simp [Ws.new] at hx, fun b e => ⟨Nat.lt_of_lt_of_le (hD b e) h2.size, fun f => by have := hD b e; have := h3 b f; omega⟩⟩, h2⟩
/-- A script of steps that make no moves sleeps in a new world. -/
theorem sleep0 {B0 : Nat} {W0 : World} {p N : Nat} {S : Ws} {D D2 : Nat → Prop} {sb kb : Nat} {w : World} {hv : Value} {b : Bool} {l : List St} {o : List Int} (h : Blk w sb 88 #[.pointer (some ⟨kb, 0, none⟩)]) (hs : Sk D kb w l o) (ho : Od B0 W0 p S N D2 w) (hD : ∀ b, D b → D2 b) (hB : ∀ b, D b → B0 ≤ b) (hsb : D2 sb ∧ ¬ D sb)
    (hl : ∀ x ∈ l, x.mv = [] ∧ x.t ≤ 18446744073709551615) (hn : S.now ≤ 18446744073709551615) (hh : hv = .nilFunc ∨ ∃ f x y, hv = .func f x y) (hA : Ans hv b) (fo : Bool) (rest : Nat) (hr : rest ≤ 18446744073709551615) :
    Calls Tryz.prog 12 #[.pointer (some ⟨sb, 0, none⟩), .pointer (some ⟨p, 0, none⟩), .int .u64 (rest : Int), .bool fo, hv] w fun e w' => ∃ i l' o' S', slL (fun S _ => S) b fo rest l o S = (i, l', o', S') ∧ e = .returned (.int .i64 (i : Int)) ∧ Sk D kb w' l' o' ∧ Od B0 W0 p S' N D2 w' ∧ (∀ b, D2 b → ¬ D b → w'.heap[b]? = w.heap[b]?) ∧ Blk w' sb 88 #[.pointer (some ⟨kb, 0, none⟩)] ∧ S'.now ≤ 18446744073709551615 := by
  have hal : ∀ j, D2 j → (w.alloc (.cells #[hv] 44)).heap[j]? = w.heap[j]? := fun j hj => Below.heap_alloc _ _ _ (ho.lt hj)
  have hne : ¬ D w.heap.size := fun e => by have := ho.lt (hD _ e); omega
  refine (sleep_any h ho (cx0 (B0 := B0) (W0 := W0) (X := w.alloc (.cells #[hv] 44)) (N := N) (D := D) (D2 := fun b => b = w.heap.size ∨ D2 b) (fun b hb => Or.inr (hD b hb)) hB (Or.inl rfl) hne (Blk.new _ _ _)) hh hA fo rest hr ⟨hs.same (fun j hj => hal j (hD j hj)), ho.alloc _, hl, hn, fun _ _ _ => rfl⟩).mono ?_
  rintro e w' ⟨i, l', o', S', he, rfl, a1, a2, a3, a4, a5⟩
  have hk : ∀ b, D2 b → ¬ D b → w'.heap[b]? = w.heap[b]? := fun j hj hn => (a5 j (Or.inr hj) hn).trans (hal j hj)
  exact ⟨i, l', o', S', he, rfl, a1, a2.less (fun j hj => Or.inr hj), hk, h.same (hk sb hsb.1 hsb.2), a4⟩
theorem push4 (A : Array Obj) (a b c d : Obj) : ((((A.push a).push b).push c).push d)[A.size]? = some a ∧ ((((A.push a).push b).push c).push d)[A.size + 1]? = some b ∧ ((((A.push a).push b).push c).push d)[A.size + 1 + 1]? = some c ∧ ((((A.push a).push b).push c).push d)[A.size + 1 + 1 + 1]? = some d := by
  refine ⟨?_, ?_, ?_, ?_⟩
  all_goals
    simp only [Array.getElem?_push, Array.size_push]
    repeat' split
    all_goals first | rfl | omega | (rename_i h; exact absurd trivial h) | (exact absurd trivial (by assumption))
def xA : St := ⟨5, true, [2, 0], [⟨1, 0, 0, [97, 98]⟩, ⟨7, 0, 3, []⟩]⟩
def wA (w : World) : World := (((w.alloc (.cells #[.int .i64 2, .int .i64 0] 3)).alloc (.cells #[.int .u8 97, .int .u8 98] 5 (2, 3))).alloc (.cells #[.int .i64 1, .int .i64 0, .int .i64 0, .slice (some ⟨w.heap.size + 1, 0, none⟩) 2 2, .int .i64 7, .int .i64 0, .int .i64 3, .slice none 0 0] 25)).alloc (.cells #[.int .u64 5, .bool true, .slice (some ⟨w.heap.size, 0, none⟩) 2 2, .slice (some ⟨w.heap.size + 1 + 1, 0, none⟩) 2 2] 36)
theorem wA_src (w : World) : SrcS (Lt (wA w).heap.size) (wA w) (.slice (some ⟨w.heap.size + 1 + 1 + 1, 0, none⟩) 1 1) [xA] ∧ Below w.heap.size w (wA w) := by
  have h0 : (wA w).heap[w.heap.size]? = some (.cells [Value.int .i64 2, .int .i64 0].toArray 3 (0, 0)) := (push4 w.heap _ _ _ _).1
  have h1 : (wA w).heap[w.heap.size + 1]? = some (.cells [Value.int .u8 97, .int .u8 98].toArray 5 (2, 3)) := (push4 w.heap _ _ _ _).2.1
  have h2 : (wA w).heap[w.heap.size + 1 + 1]? = some (.cells [Value.int .i64 1, .int .i64 0, .int .i64 0, .slice (some ⟨w.heap.size + 1, 0, none⟩) 2 2, .int .i64 7, .int .i64 0, .int .i64 3, .slice none 0 0].toArray 25 (0, 0)) := (push4 w.heap _ _ _ _).2.2.1
  have h3 : (wA w).heap[w.heap.size + 1 + 1 + 1]? = some (.cells [Value.int .u64 5, .bool true, .slice (some ⟨w.heap.size, 0, none⟩) 2 2, .slice (some ⟨w.heap.size + 1 + 1, 0, none⟩) 2 2].toArray 36 (0, 0)) := (push4 w.heap _ _ _ _).2.2.2
  refine ⟨⟨[(xA, .slice (some ⟨w.heap.size, 0, none⟩) 2 2, .slice (some ⟨w.heap.size + 1 + 1, 0, none⟩) 2 2)], rfl, sh_blk h3 1 (by decide), fun p hp => ?_⟩, ((((Below.refl _ w).alloc (Nat.le_refl _) _).alloc (by simp) _).alloc (by simp; omega) _).alloc (by simp; omega) _⟩
  obtain rfl := List.mem_singleton.1 hp
  refine ⟨sh_blk h0 2 (by decide), [(⟨1, 0, 0, [97, 98]⟩, .slice (some ⟨w.heap.size + 1, 0, none⟩) 2 2), (⟨7, 0, 3, []⟩, .slice none 0 0)], rfl, sh_blk h2 2 (by decide), fun q hq => ?_⟩
  rcases List.mem_cons.1 hq with rfl | hq
  · exact sh_blk h1 2 (by decide)
  · obtain rfl := List.mem_singleton.1 hq
    exact Sh.nil _ _
theorem text_first (w : World) (hE : EnvP E w.heap.size w) : Calls Tryz.prog 14 #[.slice (some ⟨w.heap.size + 1 + 1 + 1, 0, none⟩) 1 1] (wA w) fun e w' => e = .returned (.tuple #[.string ⟨#[115, 116, 101, 112, 32, 53, 32, 105, 110, 116, 114, 32, 111, 114, 100, 101, 114, 32, 50, 44, 48, 32, 112, 117, 116, 32, 48, 32, 54, 49, 54, 50, 32, 114, 97, 105, 115, 101, 32, 51, 10]⟩, .int .i64 0]) ∧ Below w.heap.size w w' := by
  obtain ⟨h1, h2⟩ := wA_src w
  have e1 : (textB [xA]).toArray = #[115, 116, 101, 112, 32, 53, 32, 105, 110, 116, 114, 32, 111, 114, 100, 101, 114, 32, 50, 44, 48, 32, 112, 117, 116, 32, 48, 32, 54, 49, 54, 50, 32, 114, 97, 105, 115, 101, 32, 51, 10] := by decide +kernel
  have := text_yes [xA] _ (wA w) ((hE.below h2).more h2.size (Nat.le_refl _)) h1 (fun x hx => by obtain rfl := List.mem_singleton.1 hx; unfold St.Wf Mo.Wf I64 xA; simp) (by decide +kernel) (by decide +kernel)
  rw [e1] at this
  exact this.mono fun e w' h => ⟨h.1, h2.trans (h.2.mono h2.size)⟩
def wB (w : World) : World := w.alloc (.cells #[.int .u64 0, .bool false, .slice none 0 0, .slice none 0 0, .int .u64 3, .bool false, .slice none 0 0, .slice none 0 0, .int .u64 4, .bool false, .slice none 0 0, .slice none 0 0] 36)
def lB : List St := [⟨0, false, [], []⟩, ⟨3, false, [], []⟩, ⟨4, false, [], []⟩]
theorem wB_src (w : World) : SrcS (Lt (wB w).heap.size) (wB w) (.slice (some ⟨w.heap.size, 0, none⟩) 3 3) lB ∧ Below w.heap.size w (wB w) := by
  have h0 : (wB w).heap[w.heap.size]? = some (.cells [Value.int .u64 0, .bool false, .slice none 0 0, .slice none 0 0, .int .u64 3, .bool false, .slice none 0 0, .slice none 0 0, .int .u64 4, .bool false, .slice none 0 0, .slice none 0 0].toArray 36 (0, 0)) := by show (Array.push w.heap _)[_]? = _; simp
  refine ⟨⟨[(⟨0, false, [], []⟩, .slice none 0 0, .slice none 0 0), (⟨3, false, [], []⟩, .slice none 0 0, .slice none 0 0), (⟨4, false, [], []⟩, .slice none 0 0, .slice none 0 0)], rfl, sh_blk h0 3 (by decide), fun p hp => ?_⟩, (Below.refl _ w).alloc (Nat.le_refl _) _⟩
  have : p.2.1 = .slice none 0 0 ∧ p.2.2 = .slice none 0 0 ∧ p.1.ord = [] ∧ p.1.mv = [] := by
    simp only [List.mem_cons, List.not_mem_nil, or_false] at hp
    rcases hp with rfl | rfl | rfl <;> exact ⟨rfl, rfl, rfl, rfl⟩
  obtain ⟨e1, e2, e3, e4⟩ := this
  unfold StepV
  rw [e1, e2, e3, e4]
  exact ⟨Sh.nil _ _, [], rfl, Sh.nil _ _, fun q hq => by cases hq⟩
theorem new_first (w : World) (hT : TabF w) : Calls Tryz.prog 11 #[.slice (some ⟨w.heap.size, 0, none⟩) 3 3] (wB w) fun e w' => ∃ kb sb D, e = .returned (.tuple #[.pointer (some ⟨sb, 0, none⟩), .int .i64 0]) ∧ Blk w' sb 88 #[.pointer (some ⟨kb, 0, none⟩)] ∧ Sk D kb w' lB [] ∧ (∀ b, D b → w.heap.size ≤ b ∧ b < w'.heap.size) ∧ ¬ D sb ∧ Below w.heap.size w w' := by
  obtain ⟨h1, h2⟩ := wB_src w
  refine (snew_any lB _ (wB w) (hT.below h2) h1 (by decide +kernel)).mono ?_
  rintro e w' ⟨kb, sb, D, rfl, a1, a2, a3, a4, a5, a6⟩
  exact ⟨kb, sb, D, rfl, a1, a2, fun b hb => ⟨Nat.le_trans h2.size (a3 b hb).1, (a3 b hb).2⟩, a5, h2.trans (a6.mono h2.size)⟩
theorem slB (S : Ws) : slL (fun S _ => S) false false 5 lB [] S = (2, [⟨2, false, [], []⟩], [], (S.pass 3).pass 2) := by
  simp [slL, dueL, mainL, lB]
/-- What alive does with its script. -/
theorem sleep_first {B : Nat} {W w : World} {p sb kb : Nat} {D : Nat → Prop} (h : Blk w sb 88 #[.pointer (some ⟨kb, 0, none⟩)]) (hs : Sk D kb w lB []) (ho : Od B W p Ws.new 0 (fun b => D b ∨ b = sb) w) (hB : ∀ b, D b → B ≤ b) (hsb : ¬ D sb) :
    Calls Tryz.prog 12 #[.pointer (some ⟨sb, 0, none⟩), .pointer (some ⟨p, 0, none⟩), .int .u64 5, .bool false, .nilFunc] w fun e w' => e = .returned (.int .i64 2) ∧ Sk D kb w' [⟨2, false, [], []⟩] [] ∧ Od B W p ((Ws.new.pass 3).pass 2) 0 (fun b => D b ∨ b = sb) w' ∧ Blk w' sb 88 #[.pointer (some ⟨kb, 0, none⟩)] := by
  refine (sleep0 (hv := .nilFunc) (b := false) h hs ho (fun b hb => Or.inl hb) hB ⟨Or.inr rfl, hsb⟩ (fun x hx => ?_) (by decide) (Or.inl rfl) ans_nil false 5 (by decide)).mono ?_
  · unfold lB at hx
    simp only [List.mem_cons, List.not_mem_nil, or_false] at hx
    rcases hx with rfl | rfl | rfl <;> simp
  · rintro e w' ⟨i, l', o', S', he, rfl, a1, a2, a3, a4, _⟩
    rw [slB] at he
    injection he with e1 he
    injection he with e2 he
    injection he with e3 he
    subst e1 e2 e3 he
    exact ⟨rfl, a1, a2, a4⟩
set_option maxRecDepth 100000 in
set_option maxHeartbeats 8000000 in
theorem malive_any (w : World) (hE : EnvP E w.heap.size w) : Calls Tryz.prog 15 #[] w fun e w' => e = .returned (.bool true) ∧ Below w.heap.size w w' := by
  have HT := Lib.hid (text_first w hE)
  have HE := Lib.hid hE
  clear hE
  have e1 : (w.alloc (.cells #[.int .i64 2, .int .i64 0] 3)).heap.size = w.heap.size + 1 := by simp
  have kc := fun (C : Array Value) (n c : Nat) => Joins.run_convert_bytes_const_at (P := Tryz.prog) (w.alloc (.cells #[.int .i64 2, .int .i64 0] 3)) 23 5 C n c (w.heap.size + 1) e1.symm Tryz.underlying23 Tryz.underlying5
  clear e1
  go_enter Tryz.func15, Tryz.ntmps15
  go_wp2_with fail
  refine HT.out.mono ?_
  rintro e w1 ⟨rfl, hb1⟩
  clear kc HT
  have HN := Lib.hid (new_first w1 (HE.out.f.below hb1))
  have HB1 := Lib.hid hb1
  clear hb1
  go_wp2_with fail
  refine HN.out.mono ?_
  rintro e w2 ⟨kb, sb, D, rfl, h1, h2, h3, h4, hb2⟩
  have HO := Lib.hid (od_new (B := w1.heap.size) (W := w1) (w := w2) hb2.size hb2 (D := fun b => D b ∨ b = sb) (fun b hb => by
    rcases hb with hb | rfl
    · exact (h3 b hb).2
    · exact h1.lt))
  have HS := Lib.hid (And.intro h1 (And.intro h2 (And.intro h3 (And.intro h4 hb2))))
  clear HN h1 h2 h3 h4 hb2
  go_wp2_with fail
  refine HO.out.mono ?_
  rintro e w3 ⟨p, rfl, ho, hb3⟩
  clear HO
  have HSL := Lib.hid (sleep_first (HS.out.1.same (hb3.block _ HS.out.1.lt)) (HS.out.2.1.same (fun b hb => hb3.block b (HS.out.2.2.1 b hb).2)) ho (fun b hb => (HS.out.2.2.1 b hb).1) HS.out.2.2.2.1)
  clear ho hb3
  go_wp2_with fail
  refine HSL.out.mono ?_
  rintro e w4 ⟨rfl, h2, ho, h1⟩
  have HL := Lib.hid (left_any h1 h2 (fits_of (by decide +kernel)))
  have HO4 := Lib.hid ho
  clear h1 h2 ho HSL
  go_wp2_with fail
  refine HL.out.mono ?_
  rintro e w5 ⟨v, ps, rfl, hp, hm, hb5⟩
  have hsrc := hp.src
  rw [hm] at hsrc
  obtain ⟨A, c, rfl, _, _, _⟩ := hsrc.form
  obtain ⟨g, off, ov, mv, rfl, hg, hg2, ⟨k0, _⟩, _⟩ := hsrc.at_ (k := 0) (by simp)
  have HO5 := Lib.hid (HO4.out.below hb5)
  have k0' : w5.cell? ⟨g, off, none⟩ = some (.int .u64 2) := by simpa using k0
  have e5 : ((Ws.new.pass 3).pass 2).now = 5 := rfl
  have hnw := HO5.out.now
  rw [e5] at hnw
  have HNW := Lib.hid hnw
  clear k0 e5 hnw
  have HBL := Lib.hid (HB1.out.trans (HO5.out.bel.mono HB1.out.size))
  clear hp hm hb5 hsrc hg HL HO4
  go_wp2_with (go_at_call 16; refine HNW.out.mono ?_; rintro e w6 ⟨rfl, rfl⟩)
  go_ret
  exact ⟨rfl, HBL.out⟩
end Go.Proofs.YtlephnfepofbbaaGreatDoor
