/-
  Put, Has, Cut, Move.
-/
import Derived.Test.YtlkmmbondelheaaPrOps
namespace Go.Proofs.Ytlkmmbondelheaa
open Go.RowKit Go.Maps Go.ChangeMaps

section
variable {w : World} {B h many : Nat} {Own : Nat → Prop} {L : List It}
/-- Behind a call on the rows. -/
theorem Qu.mk' {w' : World} {r g m : Nat} {F G F' G' : Nd → Nd} {L' : List It} (h1 : Blk w h 65 #[.pointer (some ⟨r, 0, none⟩)]) (h2 : Rw w r g m many F G L) (h3 : ∀ k, Own k ↔ k = h ∨ Fw r g m L k) (h4 : ∀ k, Own k → B ≤ k) (h5 : B ≤ w.heap.size)
    (ha : ¬ Fw r g m L h) (h2' : Rw w' r g m many F' G' L') (hk : Kept (Fw r g m L) w w') (hn : ∀ x ∈ L', (∃ y ∈ L, y.bk = x.bk) ∨ w.heap.size ≤ x.bk) :
    ∃ Own', Qu w' B h Own' many L' ∧ Mv w w' Own Own' := by
  refine ⟨fun k => k = h ∨ Fw r g m L' k, ⟨r, g, m, F', G', h1.kept hk ha, h2', fun k => Iff.rfl, fun k hk' => ?_, Nat.le_trans h5 hk.size⟩, hk.mono fun k _ e => (h3 k).2 (.inr e), fun k hk' => ?_⟩
  · rcases hk' with rfl | rfl | rfl | rfl | ⟨x, hx, rfl⟩
    · exact h4 _ ((h3 _).2 (.inl rfl))
    · exact h4 _ ((h3 _).2 (.inr (.inl rfl)))
    · exact h4 _ ((h3 _).2 (.inr (.inr (.inl rfl))))
    · exact h4 _ ((h3 _).2 (.inr (.inr (.inr (.inl rfl)))))
    · rcases hn x hx with ⟨y, hy, e⟩ | e
      · rw [← e]; exact h4 _ ((h3 _).2 (.inr (.inr (.inr (.inr ⟨y, hy, rfl⟩)))))
      · omega
  · rcases hk' with rfl | rfl | rfl | rfl | ⟨x, hx, rfl⟩
    · exact .inl ((h3 _).2 (.inl rfl))
    · exact .inl ((h3 _).2 (.inr (.inl rfl)))
    · exact .inl ((h3 _).2 (.inr (.inr (.inl rfl))))
    · exact .inl ((h3 _).2 (.inr (.inr (.inr (.inl rfl)))))
    · rcases hn x hx with ⟨y, hy, e⟩ | e
      · exact .inl ((h3 _).2 (.inr (.inr (.inr (.inr ⟨y, hy, e⟩)))))
      · exact .inr e

theorem has_bad (H : Qu w B h Own many L) (p : Int) (h1 : p < 0 ∨ (many : Int) ≤ p) : Calls Try.prog 30 #[.pointer (some ⟨h, 0, none⟩), .int .i64 p] w fun e w' => e = .returned (.bool false) ∧ w = w' := has_no H p h1

set_option maxHeartbeats 1000000 in
theorem put_bad (H : Qu w B h Own many L) (p k fl c : Int) (hb : (p < 0 ∨ (many : Int) ≤ p) ∨ k < 0 ∨ fl < 0 ∨ c < 0) :
    Calls Try.prog 10 #[.pointer (some ⟨h, 0, none⟩), .int .i64 p, .int .i64 k, .int .i64 fl, .int .i64 c] w fun e w' => e = .returned (.int .i64 2) ∧ w = w' := by
  obtain ⟨r, g, m, F, G, h1, h2, h3, h4, h5⟩ := id H
  have c0 := h1.cell 0
  simp at c0
  have hM := Lib.hid (made_yes w h r c0)
  clear h1 h2 h3 h4 h5 c0
  by_cases hp : p < 0 ∨ (many : Int) ≤ p
  · have hH := Lib.hid (has_no H p hp)
    clear H hb hp
    go_enter Try.func10, Try.ntmps10
    go_wp2_with (first
      | (go_at_call 29; refine hM.out.mono ?_; rintro e w' ⟨rfl, rfl⟩)
      | (go_at_call 30; refine hH.out.mono ?_; rintro e w' ⟨rfl, rfl⟩))
    go_ret
    exact ⟨rfl, rfl⟩
  · have hH := Lib.hid (has_yes H p (by omega) (by omega))
    replace hb := hb.resolve_left hp
    clear H hp
    by_cases hk : k < 0
    · clear hb
      go_enter Try.func10, Try.ntmps10
      go_wp2_with (first
        | (go_at_call 29; refine hM.out.mono ?_; rintro e w' ⟨rfl, rfl⟩)
        | (go_at_call 30; refine hH.out.mono ?_; rintro e w' ⟨rfl, rfl⟩))
      go_ret
      exact ⟨rfl, rfl⟩
    · have hk' : 0 ≤ k := by omega
      by_cases hf : fl < 0
      · clear hb hk
        go_enter Try.func10, Try.ntmps10
        go_wp2_with (first
          | (go_at_call 29; refine hM.out.mono ?_; rintro e w' ⟨rfl, rfl⟩)
          | (go_at_call 30; refine hH.out.mono ?_; rintro e w' ⟨rfl, rfl⟩))
        go_ret
        exact ⟨rfl, rfl⟩
      · have hf' : 0 ≤ fl := by omega
        have hc : c < 0 := by omega
        clear hb hk hf
        go_enter Try.func10, Try.ntmps10
        go_wp2_with (first
          | (go_at_call 29; refine hM.out.mono ?_; rintro e w' ⟨rfl, rfl⟩)
          | (go_at_call 30; refine hH.out.mono ?_; rintro e w' ⟨rfl, rfl⟩))
        go_ret
        exact ⟨rfl, rfl⟩

theorem put_nil (w : World) (p k fl c : Int) : Calls Try.prog 10 #[.pointer none, .int .i64 p, .int .i64 k, .int .i64 fl, .int .i64 c] w fun e w' => e = .returned (.int .i64 1) ∧ w = w' := by
  go_enter Try.func10, Try.ntmps10
  go_wp2_with (go_at_call 29; refine (made_nil w).mono ?_; rintro e w' ⟨rfl, rfl⟩)
  go_ret
  exact ⟨rfl, rfl⟩

set_option maxHeartbeats 4000000 in
set_option maxRecDepth 100000 in
theorem put_yes (H : Qu w B h Own many L) (p : Nat) (k fl c : Int) (hp : p < many) (hk0 : 0 ≤ k) (hk1 : k ≤ 9223372036854775807) (hf0 : 0 ≤ fl) (hf1 : fl ≤ 9223372036854775807) (hc0 : 0 ≤ c) (hc1 : c ≤ 9223372036854775807) (hl : L.length < 100000) :
    Calls Try.prog 10 #[.pointer (some ⟨h, 0, none⟩), .int .i64 (p : Int), .int .i64 k, .int .i64 fl, .int .i64 c] w fun e w' =>
      e = .returned (.int .i64 0) ∧ ∃ bk Own', Qu w' B h Own' many (putL L p k fl c bk) ∧ Mv w w' Own Own' := by
  obtain ⟨r, g, m, F, G, h1, h2, h3, h4, h5⟩ := id H
  have ha := H.apart h1 h2
  have c0 := h1.cell 0
  have d1 := h2.rb.cell 1
  simp at c0 d1
  have hM := Lib.hid (made_yes w h r c0)
  have hH := Lib.hid (has_yes H (p : Int) (by omega) (by omega))
  have hlk := h2.pm.look (k := k) ⟨by omega, hk1⟩
  have l1 := h1.lt
  have l2 := h2.rb.lt
  have HH := Lib.hid (And.intro h1 (And.intro h2 (And.intro h3 (And.intro h4 (And.intro h5 ha)))))
  cases hh : hasI L k with
  | true =>
    obtain ⟨M, x, N, rfl, rfl⟩ := split_id hh
    rw [place_split h2.ids] at hlk
    have hx := h2.cellx
    have hok := h2.ok x (mem_split M N x)
    have hMo := Lib.hid (more_any w x.bk x.id x.fl x.ct _ _ _ hx fl c hok.ct.1 hok.ct.2 hc0 hc1)
    have lx := hx.lt
    simp only [ptrO, Option.isSome_some] at hlk
    clear h1 h2 h3 h4 h5 ha hh H hx hl
    go_enter Try.func10, Try.ntmps10
    go_wp2_with (first
      | (go_at_call 29; refine hM.out.mono ?_; rintro e w' ⟨rfl, rfl⟩)
      | (go_at_call 30; refine hH.out.mono ?_; rintro e w' ⟨rfl, rfl⟩)
      | fail)
    refine hMo.out.mono ?_
    rintro e w1 ⟨rfl, hb1, hk1⟩
    have H1 := Lib.hid (And.intro hb1 hk1)
    clear hb1 hk1
    go_wp2_with fail
    go_ret
    obtain ⟨hb1, hk1⟩ := H1.out
    obtain ⟨h1, h2, h3, h4, h5, ha⟩ := HH.out
    refine ⟨rfl, 0, ?_⟩
    rw [put_split h2.ids]
    have hac := addC_bounds hok.ct.1 hok.ct.2 hc0
    refine Qu.mk' h1 h2 h3 h4 h5 ha (h2.up (upIt fl c x) rfl rfl rfl ⟨hok.id, bor_bounds _ _, hac, hok.pr⟩ hb1 hk1) (hk1.mono fun k _ e => .inr (.inr (.inr ⟨x, mem_split M N x, e.symm⟩))) (fun y hy => .inl ?_)
    rcases List.mem_append.1 hy with hy | hy
    · exact ⟨y, by simp [hy], rfl⟩
    · rcases List.mem_cons.1 hy with rfl | hy
      · exact ⟨x, mem_split M N x, rfl⟩
      · exact ⟨y, by simp [hy], rfl⟩
  | false =>
    rw [place_none hh] at hlk
    have HK := Lib.hid hk1
    have hA := Lib.hid (add_any h2 p k hp ⟨by omega, hk1⟩ hl hh)
    simp only [ptrO, Option.isSome_none] at hlk
    have HN := Lib.hid hh
    clear h1 h2 h3 h4 h5 ha hh H
    go_enter Try.func10, Try.ntmps10
    go_wp2_with (first
      | (go_at_call 29; refine hM.out.mono ?_; rintro e w' ⟨rfl, rfl⟩)
      | (go_at_call 30; refine hH.out.mono ?_; rintro e w' ⟨rfl, rfl⟩)
      | fail)
    refine hA.out.mono ?_
    rintro e w1 ⟨rfl, ⟨F1, G1, h21⟩, hk1⟩
    have hx := h21.nds.its ⟨k, 0, 0, p, w.heap.size⟩ (by simp)
    have lx := hx.lt
    have hMo := Lib.hid (more_any w1 w.heap.size k 0 0 _ _ _ hx fl c (by omega) (by omega) hc0 hc1)
    have H1 := Lib.hid (And.intro h21 hk1)
    clear h21 hk1 hx
    dsimp only at lx
    go_wp2_with fail
    refine hMo.out.mono ?_
    rintro e w2 ⟨rfl, hb2, hk2⟩
    have H2 := Lib.hid (And.intro hb2 hk2)
    clear hb2 hk2
    go_wp2_with fail
    go_ret
    obtain ⟨h21, hk1⟩ := H1.out
    obtain ⟨hb2, hk2⟩ := H2.out
    obtain ⟨h1, h2, h3, h4, h5, ha⟩ := HH.out
    refine ⟨rfl, w.heap.size, ?_⟩
    rw [put_new HN.out]
    have hac := addC_bounds (ct := 0) (by omega) (by omega) hc0
    have h22 := h21.up (N := []) (upIt fl c ⟨k, 0, 0, p, w.heap.size⟩) rfl rfl rfl ⟨⟨by show -9223372036854775808 ≤ k; omega, HK.out⟩, bor_bounds _ _, hac, hp⟩ hb2 hk2
    refine Qu.mk' h1 h2 h3 h4 h5 ha h22 (hk1.andThen hk2 fun i hi e => by omega) (fun y hy => ?_)
    rcases List.mem_append.1 hy with hy | hy
    · exact .inl ⟨y, hy, rfl⟩
    · simp at hy; subst hy; exact .inr (Nat.le_refl _)

set_option maxHeartbeats 2000000 in
theorem has_some (H : Qu w B h Own many L) {x : It} (hx : x ∈ L) : Calls Try.prog 19 #[.pointer (some ⟨h, 0, none⟩), .int .i64 x.id] w fun e w' =>
    e = .returned (.tuple #[.agg #[.int .i64 x.id, .int .i64 x.fl, .int .i64 x.ct], .int .i64 (x.pr : Int), .bool true]) ∧ Below w.heap.size w w' := by
  obtain ⟨r, g, m, F, G, h1, h2, h3, h4, h5⟩ := H
  obtain ⟨M, N, rfl⟩ := List.append_of_mem hx
  have hM := Lib.hid (fun o => made_yes (w.alloc o) h r (by have := (h1.alloc o).cell 0; simpa using this))
  have c0 := h1.cell 0
  have d1 := h2.rb.cell 1
  simp at c0 d1
  have l1 := h1.lt
  have l2 := h2.rb.lt
  have hb := h2.cellx
  have x0 := hb.cell 0
  have x1 := hb.cell 1
  have x2 := hb.cell 2
  have x3 := hb.cell 3
  unfold encPl at x0 x1 x2 x3
  simp at x0 x1 x2 x3
  have lx := hb.lt
  have hlk : ∀ o, (Instr.lookup 69 (.map (some m)) (.int .i64 x.id) true).run Try.prog (w.alloc o) = .ok (.tuple #[.pointer (some ⟨x.bk, 0, none⟩), .bool true]) (w.alloc o) := fun o => by
    have := (h2.pm.alloc o).look (h2.ok x hx).id
    rw [place_split h2.ids] at this
    exact this
  clear h1 h2 h3 h4 h5 hb hx
  go_enter Try.func19, Try.ntmps19
  go_wp2_with (go_at_call 29; refine (hM.out _).mono ?_; rintro e w' ⟨rfl, rfl⟩)
  go_region
  go_wp2
  exact bodyPost_ret (v := .tuple #[.agg #[.int .i64 x.id, .int .i64 x.fl, .int .i64 x.ct], .int .i64 (x.pr : Int), .bool true]) (by simp [results, Try.results19, go_sem]) rfl ⟨rfl, ((Below.refl _ w).alloc (Nat.le_refl _) _).drew⟩
set_option maxHeartbeats 2000000 in
theorem has_none (H : Qu w B h Own many L) {k : Int} (hk : -9223372036854775808 ≤ k ∧ k ≤ 9223372036854775807) (hn : hasI L k = false) : Calls Try.prog 19 #[.pointer (some ⟨h, 0, none⟩), .int .i64 k] w fun e w' =>
    e = .returned (.tuple #[.agg #[.int .i64 0, .int .i64 0, .int .i64 0], .int .i64 0, .bool false]) ∧ Below w.heap.size w w' := by
  obtain ⟨r, g, m, F, G, h1, h2, h3, h4, h5⟩ := H
  have hM := Lib.hid (fun o => made_yes (w.alloc o) h r (by have := (h1.alloc o).cell 0; simpa using this))
  have c0 := h1.cell 0
  have d1 := h2.rb.cell 1
  simp at c0 d1
  have l1 := h1.lt
  have l2 := h2.rb.lt
  have hlk : ∀ o, (Instr.lookup 69 (.map (some m)) (.int .i64 k) true).run Try.prog (w.alloc o) = .ok (.tuple #[.pointer none, .bool false]) (w.alloc o) := fun o => by
    have := (h2.pm.alloc o).look hk
    rw [place_none hn] at this
    exact this
  clear h1 h2 h3 h4 h5 hn
  go_enter Try.func19, Try.ntmps19
  go_wp2_with (go_at_call 29; refine (hM.out _).mono ?_; rintro e w' ⟨rfl, rfl⟩)
  exact bodyPost_ret (v := .tuple #[.agg #[.int .i64 0, .int .i64 0, .int .i64 0], .int .i64 0, .bool false]) (by simp [results, Try.results19, go_sem]) rfl ⟨rfl, (Below.refl _ w).alloc (Nat.le_refl _) _⟩

set_option maxHeartbeats 2000000 in
theorem cut_yes (H : Qu w B h Own many L) {k : Int} (hh : hasI L k = true) : Calls Try.prog 12 #[.pointer (some ⟨h, 0, none⟩), .int .i64 k] w fun e w' =>
    e = .returned (.bool true) ∧ ∃ Own', Qu w' B h Own' many (cutL L k) ∧ Mv w w' Own Own' := by
  obtain ⟨r, g, m, F, G, h1, h2, h3, h4, h5⟩ := id H
  have ha := H.apart h1 h2
  obtain ⟨M, x, N, rfl, rfl⟩ := split_id hh
  have hx := mem_split M N x
  have hlk := h2.pm.look (h2.ok x hx).id
  rw [place_split h2.ids] at hlk
  have c0 := h1.cell 0
  have d1 := h2.rb.cell 1
  simp at c0 d1
  simp only [ptrO, Option.isSome_some] at hlk
  have hM := Lib.hid (made_yes w h r c0)
  have hR := Lib.hid (remove_any h2)
  have l1 := h1.lt
  have l2 := h2.rb.lt
  have HH := Lib.hid (And.intro h1 (And.intro h2 (And.intro h3 (And.intro h4 (And.intro h5 ha)))))
  clear h1 h2 h3 h4 h5 ha hh H hx
  go_enter Try.func12, Try.ntmps12
  go_wp2_with (first
    | (go_at_call 29; refine hM.out.mono ?_; rintro e w' ⟨rfl, rfl⟩)
    | fail)
  refine hR.out.mono ?_
  rintro e w1 ⟨rfl, ⟨F1, G1, h21⟩, hk1⟩
  have H1 := Lib.hid (And.intro h21 hk1)
  clear h21 hk1
  go_wp2_with fail
  go_ret
  obtain ⟨h21, hk1⟩ := H1.out
  obtain ⟨h1, h2, h3, h4, h5, ha⟩ := HH.out
  refine ⟨rfl, ?_⟩
  rw [cut_split h2.ids]
  exact Qu.mk' h1 h2 h3 h4 h5 ha h21 hk1 (fun y hy => .inl ⟨y, by rcases List.mem_append.1 hy with hy | hy <;> simp [hy], rfl⟩)
theorem cut_no (H : Qu w B h Own many L) {k : Int} (hk : -9223372036854775808 ≤ k ∧ k ≤ 9223372036854775807) (hh : hasI L k = false) : Calls Try.prog 12 #[.pointer (some ⟨h, 0, none⟩), .int .i64 k] w fun e w' =>
    e = .returned (.bool false) ∧ w = w' := by
  obtain ⟨r, g, m, F, G, h1, h2, h3, h4, h5⟩ := H
  have hlk := h2.pm.look hk
  rw [place_none hh] at hlk
  have c0 := h1.cell 0
  have d1 := h2.rb.cell 1
  simp at c0 d1
  simp only [ptrO, Option.isSome_none] at hlk
  have hM := Lib.hid (made_yes w h r c0)
  have l1 := h1.lt
  have l2 := h2.rb.lt
  clear h1 h2 h3 h4 h5 hh
  go_enter Try.func12, Try.ntmps12
  go_wp2_with (go_at_call 29; refine hM.out.mono ?_; rintro e w' ⟨rfl, rfl⟩)
  go_ret
  exact ⟨rfl, rfl⟩

set_option maxHeartbeats 2000000 in
theorem move_bad (H : Qu w B h Own many L) {k p : Int} (hk : -9223372036854775808 ≤ k ∧ k ≤ 9223372036854775807) (hb : hasI L k = false ∨ (p < 0 ∨ (many : Int) ≤ p)) : Calls Try.prog 14 #[.pointer (some ⟨h, 0, none⟩), .int .i64 k, .int .i64 p] w fun e w' =>
    e = .returned (.int .i64 2) ∧ w = w' := by
  obtain ⟨r, g, m, F, G, h1, h2, h3, h4, h5⟩ := id H
  have hlk := h2.pm.look hk
  have c0 := h1.cell 0
  have d1 := h2.rb.cell 1
  simp at c0 d1
  have hM := Lib.hid (made_yes w h r c0)
  have l1 := h1.lt
  have l2 := h2.rb.lt
  cases hh : hasI L k with
  | false =>
    rw [place_none hh] at hlk
    simp only [ptrO, Option.isSome_none] at hlk
    clear h1 h2 h3 h4 h5 hh hb H
    go_enter Try.func14, Try.ntmps14
    go_wp2_with (go_at_call 29; refine hM.out.mono ?_; rintro e w' ⟨rfl, rfl⟩)
    go_ret
    exact ⟨rfl, rfl⟩
  | true =>
    obtain ⟨M, x, N, rfl, rfl⟩ := split_id hh
    rw [place_split h2.ids] at hlk
    simp only [ptrO, Option.isSome_some] at hlk
    have hH := Lib.hid (has_no H p (hb.resolve_left (by rw [hh]; simp)))
    clear h1 h2 h3 h4 h5 hh hb H
    go_enter Try.func14, Try.ntmps14
    go_wp2_with (first
      | (go_at_call 29; refine hM.out.mono ?_; rintro e w' ⟨rfl, rfl⟩)
      | (go_at_call 30; refine hH.out.mono ?_; rintro e w' ⟨rfl, rfl⟩))
    go_ret
    exact ⟨rfl, rfl⟩
set_option maxHeartbeats 2000000 in
theorem move_yes (H : Qu w B h Own many L) {k : Int} {p : Nat} (hh : hasI L k = true) (hp : p < many) : Calls Try.prog 14 #[.pointer (some ⟨h, 0, none⟩), .int .i64 k, .int .i64 (p : Int)] w fun e w' =>
    e = .returned (.int .i64 0) ∧ ∃ Own', Qu w' B h Own' many (moveL L k p) ∧ Mv w w' Own Own' := by
  obtain ⟨r, g, m, F, G, h1, h2, h3, h4, h5⟩ := id H
  have ha := H.apart h1 h2
  obtain ⟨M, x, N, rfl, rfl⟩ := split_id hh
  have hx := mem_split M N x
  have hlk := h2.pm.look (h2.ok x hx).id
  rw [place_split h2.ids] at hlk
  rw [move_split h2.ids]
  have c0 := h1.cell 0
  have d1 := h2.rb.cell 1
  simp at c0 d1
  simp only [ptrO, Option.isSome_some] at hlk
  have hM := Lib.hid (made_yes w h r c0)
  have hH := Lib.hid (has_yes H (p : Int) (by omega) (by omega))
  have hR := Lib.hid (move_rows h2 p hp)
  have l1 := h1.lt
  have l2 := h2.rb.lt
  have hb := h2.cellx
  have x3 := hb.cell 3
  unfold encPl at x3
  simp at x3
  have lx := hb.lt
  have HH := Lib.hid (And.intro H (And.intro h1 (And.intro h2 (And.intro h3 (And.intro h4 (And.intro h5 ha))))))
  clear h1 h2 h3 h4 h5 ha hh H hx hb
  by_cases e : x.pr = p
  · rw [if_pos e]
    have hpp : ((x.pr : Int) == (p : Int)) = true := by simp [e]
    have hpq : ((x.pr : Int) != (p : Int)) = false := by simp [e]
    have e := Lib.hid e
    go_enter Try.func14, Try.ntmps14
    go_wp2_with (first
      | (go_at_call 29; refine hM.out.mono ?_; rintro e w' ⟨rfl, rfl⟩)
      | (go_at_call 30; refine hH.out.mono ?_; rintro e w' ⟨rfl, rfl⟩))
    go_ret
    exact ⟨rfl, Own, HH.out.1, Mv.of_kept (Kept.refl _ _)⟩
  · rw [if_neg e]
    have hpp : ((x.pr : Int) == (p : Int)) = false := by simp; omega
    have hpq : ((x.pr : Int) != (p : Int)) = true := by simp; omega
    clear e
    go_enter Try.func14, Try.ntmps14
    go_wp2_with (first
      | (go_at_call 29; refine hM.out.mono ?_; rintro e w' ⟨rfl, rfl⟩)
      | (go_at_call 30; refine hH.out.mono ?_; rintro e w' ⟨rfl, rfl⟩)
      | fail)
    refine hR.out.mono ?_
    rintro e w1 ⟨rfl, ⟨F1, G1, h21⟩, hk1⟩
    have H1 := Lib.hid (And.intro h21 hk1)
    clear h21 hk1
    go_wp2_with fail
    go_ret
    obtain ⟨h21, hk1⟩ := H1.out
    obtain ⟨_, h1, h2, h3, h4, h5, ha⟩ := HH.out
    refine ⟨rfl, ?_⟩
    refine Qu.mk' h1 h2 h3 h4 h5 ha h21 hk1 (fun y hy => .inl ?_)
    rcases List.mem_append.1 hy with hy | hy
    · exact ⟨y, by rcases List.mem_append.1 hy with hy | hy <;> simp [hy], rfl⟩
    · simp at hy; subst hy; exact ⟨x, mem_split M N x, rfl⟩
end
end Go.Proofs.Ytlkmmbondelheaa
