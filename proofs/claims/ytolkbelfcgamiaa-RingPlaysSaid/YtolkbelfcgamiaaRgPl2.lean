/-
  RingPlays: what each call does to both rings.
-/
import Derived.Test.YtolkbelfcgamiaaRgPl
namespace Go.Proofs.Ytolkbelfcgamiaa
open Go.RowKit Go.Shelf Go.Maps Go.ChangeMaps

/-- Both rings, the round's own, and the bytes of the call as they came. -/
structure Pq (w W : World) (r rb xk : Nat) (F : Nat → Prop) (cap : Nat) (bs : List Int) (inn out cap2 : Nat) (A : Option Addr) (c : Nat) (bs2 : List Int) (in2 out2 : Nat) (kd n : Int) (xv own : Value) (xb : List Int) : Prop where
  m : Md w W r rb F cap bs inn out cap2 A c bs2 in2 out2
  x : Xo w W rb xk F kd n xv own xb
  s : Src w (fun _ => False) xv xb
section
variable {w W W' : World} {r rb xk cap inn out cap2 in2 out2 c cap' inn' out' c' cap2' in2' out2' : Nat} {F F' : Nat → Prop} {A A' : Option Addr} {bs bs2 bs' bs2' xb zs : List Int} {v own xv : Value} {kd n : Int}

theorem conv_at {G : Nat → Prop} (h : Src W G v zs) : (convert 28 9 v).run Try.prog W = .ok (.string (strOfNums zs)) W := by
  obtain ⟨A, c, rfl, _, _, hc⟩ := h
  by_cases h0 : zs.length = 0
  · have : zs = [] := List.eq_nil_of_length_eq_zero h0
    subst this
    exact conv_zero W A c
  · obtain ⟨b, o, rfl, hl, _, hcell⟩ := hc (by omega)
    refine run_convert_bytes_arg W 28 5 Try.underlying28 Try.underlying5 b o zs.length c zs rfl (fun i hi => ?_) 9 Try.underlying9
    rw [hcell i _ (List.getElem?_eq_getElem hi)]
    simp [List.getD, List.getElem?_eq_getElem hi]

theorem Pq.quiet (h : Pq w W r rb xk F cap bs inn out cap2 A c bs2 in2 out2 kd n xv own xb) (k : Kept (fun _ => False) W W') : Pq w W' r rb xk F cap bs inn out cap2 A c bs2 in2 out2 kd n xv own xb := ⟨h.m.quiet k, h.x.quiet k, h.s⟩
theorem Pq.drewN (h : Pq w W r rb xk F cap bs inn out cap2 A c bs2 in2 out2 kd n xv own xb) (q : Nat) : Pq w (W.drewN q) r rb xk F cap bs inn out cap2 A c bs2 in2 out2 kd n xv own xb := h.quiet ((Kept.refl _ W).drewN q)
theorem Pq.drew (h : Pq w W r rb xk F cap bs inn out cap2 A c bs2 in2 out2 kd n xv own xb) : Pq w W.drew r rb xk F cap bs inn out cap2 A c bs2 in2 out2 kd n xv own xb := h.drewN 1
/-- What the round's loads read. -/
theorem Pq.cells (h : Pq w W r rb xk F cap bs inn out cap2 A c bs2 in2 out2 kd n xv own xb) : W.cell? ⟨xk, 1, none⟩ = some (.int .i64 n) ∧ W.cell? ⟨xk, 2, none⟩ = some xv ∧ W.cell? ⟨rb, 0, none⟩ = some (.int .i64 (cap2 : Int)) ∧ W.cell? ⟨rb, 1, none⟩ = some (.slice A bs2.length c) ∧ W.cell? ⟨rb, 2, none⟩ = some (.int .u64 (in2 : Int)) ∧ W.cell? ⟨rb, 3, none⟩ = some (.int .u64 (out2 : Int)) := by
  obtain ⟨_, x1, x2, _⟩ := h.x.cells
  obtain ⟨m0, m1, m2, m3, _⟩ := h.m.cells
  exact ⟨x1, x2, m0, m1, m2, m3⟩

/-- The set that no readable row of the round's may touch. -/
theorem Pq.srcR {B : Nat} (h : Pq w W r rb xk F cap bs inn out cap2 A c bs2 in2 out2 kd n xv own xb) (hr : RowB W' W.heap.size v zs) (hl : zs.length ≤ 9223372036854775807) : Src W' (fun k => k = rb ∨ Ex w F k) v zs := by
  refine hr.src (fun k e => ?_) hl
  have hk := (hr.lt e).2
  rintro (e | e | e)
  · have := h.m.rf.blk.lt; omega
  · have := h.m.st.base; omega
  · have := (h.m.st.1.lt e).1; omega
theorem Pq.srcO (h : Pq w W r rb xk F cap bs inn out cap2 A c bs2 in2 out2 kd n xv own xb) (hr : W'.ownsRow W.heap.size 5 1 v zs.length (encB zs)) (hl : zs.length ≤ 9223372036854775807) : Src W' (fun k => k = rb ∨ Ex w F k) v zs := by
  refine (own_src (n := 0) hr hl).1.weak (fun k e => ?_)
  rcases e with e | e | e
  · have := h.m.rf.blk.lt; omega
  · have := h.m.st.base; omega
  · exact (h.m.st.1.lt e).1

theorem pq_put (h : Pq w W r rb xk F cap bs inn out cap2 A c bs2 in2 out2 kd n xv own xb) (hin : inn + min xb.length (cap - bs.length) ≤ 1000000000) {m : Nat} (hm : min xb.length (cap - bs.length) = m) :
    Calls Try.prog 12 #[.pointer (some ⟨r, 0, none⟩), own] W fun e w' => e = .returned (.int .i64 (m : Int)) ∧ ∃ F', Pq w w' r rb xk F' cap (bs ++ xb.take m) (inn + m) out cap2 A c bs2 in2 out2 kd n xv own xb := by
  refine (st_put h.m.st (h.x.ow.weak (fun i e => .inr (.inr e))) hin hm rfl rfl).mono ?_
  rintro e w' ⟨rfl, F', s, mv⟩
  exact ⟨rfl, F', h.m.ring s mv, h.x.mv mv, h.s⟩
theorem pq_rput (h : Pq w W r rb xk F cap bs inn out cap2 A c bs2 in2 out2 kd n xv own xb) (hl : bs2.length ≤ cap2) (hcap : cap2 ≤ 65536) (hin : in2 + min xb.length (cap2 - bs2.length) ≤ 1000000000) (hz : xb.length ≤ 9223372036854775807) {m : Nat} (hm : min xb.length (cap2 - bs2.length) = m) :
    Calls Try.prog 13 #[.pointer (some ⟨rb, 0, none⟩), xv] W fun e w' => e = .returned (.int .i64 (m : Int)) ∧ ∃ A' c', Pq w w' r rb xk F cap bs inn out cap2 A' c' (bs2 ++ xb.take m) (in2 + m) out2 kd n xv own xb := by
  subst hm
  refine (rput_any h.m.rf hl hcap xv xb (h.s.at_ h.m.st.2 (fun i e => by have := h.m.rB; omega)) hz hin).mono ?_
  rintro e w' ⟨A', c', rfl, f, k⟩
  exact ⟨rfl, A', c', h.m.ref f k, h.x.ref k, h.s⟩
theorem pq_take (h : Pq w W r rb xk F cap bs inn out cap2 A c bs2 in2 out2 kd n xv own xb) (z : Int) (hz : -9223372036854775808 ≤ z ∧ z ≤ 9223372036854775807) {xs bs' : List Int} {o' : Nat} (h1 : bs.take z.toNat = xs) (h2 : bs.drop z.toNat = bs') (h3 : out + xs.length = o') (hl : bs.length ≤ 65536) :
    Calls Try.prog 14 #[.pointer (some ⟨r, 0, none⟩), .int .i64 z] W fun e w' => ∃ v, e = .returned v ∧ Src w' (fun k => k = rb ∨ Ex w F k) v xs ∧ Pq w w' r rb xk F cap bs' inn o' cap2 A c bs2 in2 out2 kd n xv own xb := by
  have hxl : xs.length ≤ 9223372036854775807 := by rw [← h1, List.length_take]; omega
  refine (take_num h.m.st.1 z hz h1 h2 h3).mono ?_
  rintro e w' ⟨v, rfl, g1, g2, g3⟩
  exact ⟨v, rfl, h.srcR (B := 0) g1 hxl, h.m.ringK ⟨g2, law_keep h.m.st.1 h.m.st.2 g3⟩ g3, h.x.mvK g3, h.s⟩
theorem pq_look (h : Pq w W r rb xk F cap bs inn out cap2 A c bs2 in2 out2 kd n xv own xb) (z : Int) (hz : -9223372036854775808 ≤ z ∧ z ≤ 9223372036854775807) {xs : List Int} (h1 : bs.take z.toNat = xs) (hl : bs.length ≤ 65536) :
    Calls Try.prog 16 #[.pointer (some ⟨r, 0, none⟩), .int .i64 z] W fun e w' => ∃ v, e = .returned v ∧ Src w' (fun k => k = rb ∨ Ex w F k) v xs ∧ Pq w w' r rb xk F cap bs inn out cap2 A c bs2 in2 out2 kd n xv own xb := by
  have hxl : xs.length ≤ 9223372036854775807 := by rw [← h1, List.length_take]; omega
  refine (look_num h.m.st.1 z hz h1).mono ?_
  rintro e w' ⟨v, rfl, g1, g3⟩
  exact ⟨v, rfl, h.srcR (B := 0) g1 hxl, h.quiet g3⟩
theorem pq_rtake (h : Pq w W r rb xk F cap bs inn out cap2 A c bs2 in2 out2 kd n xv own xb) (hl : bs2.length ≤ 65536) (ho : out2 + bs2.length ≤ 1000000000) (z : Int) (hz : -9223372036854775808 ≤ z ∧ z ≤ 9223372036854775807) {xs bs' : List Int} {o' : Nat} (h1 : bs2.take z.toNat = xs) (h2 : bs2.drop z.toNat = bs') (h3 : out2 + xs.length = o') :
    Calls Try.prog 15 #[.pointer (some ⟨rb, 0, none⟩), .int .i64 z] W fun e w' => ∃ B g A' c', e = .returned (.slice B xs.length g) ∧ Src w' (fun k => k = rb ∨ Ex w F k) (.slice B xs.length g) xs ∧ Kept (fun i => i = rb) W w' ∧ Pq w w' r rb xk F cap bs inn out cap2 A' c' bs' in2 o' kd n xv own xb := by
  subst h1; subst h2; subst h3
  have hxl : (bs2.take z.toNat).length ≤ 9223372036854775807 := by rw [List.length_take]; omega
  refine (rtake_any h.m.rf hl ho z hz).mono ?_
  rintro e w' ⟨v, A', c', rfl, g1, g2, g3⟩
  have hs := h.srcO g1 hxl
  obtain ⟨B, g, e, _⟩ := id hs
  rw [e] at hs
  exact ⟨B, g, A', c', by rw [e], hs, g3, h.m.ref g2 g3, h.x.ref g3, h.s⟩
theorem pq_rlook (h : Pq w W r rb xk F cap bs inn out cap2 A c bs2 in2 out2 kd n xv own xb) (hl : bs2.length ≤ 65536) (z : Int) (hz : -9223372036854775808 ≤ z ∧ z ≤ 9223372036854775807) {xs : List Int} (h1 : bs2.take z.toNat = xs) :
    Calls Try.prog 17 #[.pointer (some ⟨rb, 0, none⟩), .int .i64 z] W fun e w' => ∃ v, e = .returned v ∧ Src w' (fun k => k = rb ∨ Ex w F k) v xs ∧ Kept (fun _ => False) W w' ∧ Pq w w' r rb xk F cap bs inn out cap2 A c bs2 in2 out2 kd n xv own xb := by
  subst h1
  have hxl : (bs2.take z.toNat).length ≤ 9223372036854775807 := by rw [List.length_take]; omega
  refine (rlook_any h.m.rf hl z hz).mono ?_
  rintro e w' ⟨v, rfl, g1, g3⟩
  exact ⟨v, rfl, h.srcO g1 hxl, g3, h.quiet g3⟩
theorem pq_clear (h : Pq w W r rb xk F cap bs inn out cap2 A c bs2 in2 out2 kd n xv own xb) :
    Calls Try.prog 20 #[.pointer (some ⟨r, 0, none⟩)] W fun e w' => e = .returned (.int .i64 (bs.length : Int)) ∧ Pq w w' r rb xk F cap [] inn (out + bs.length) cap2 A c bs2 in2 out2 kd n xv own xb := by
  refine (clear_any h.m.st.1).mono ?_
  rintro e w' ⟨rfl, g2, g3⟩
  exact ⟨rfl, h.m.ringK ⟨g2, law_keep h.m.st.1 h.m.st.2 g3⟩ g3, h.x.mvK g3, h.s⟩
theorem pq_grow_no (h : Pq w W r rb xk F cap bs inn out cap2 A c bs2 in2 out2 kd n xv own xb) (z : Int) (hz : z < (bs.length : Int) ∨ 65536 < z) (hz2 : -9223372036854775808 ≤ z ∧ z ≤ 9223372036854775807) :
    Calls Try.prog 18 #[.pointer (some ⟨r, 0, none⟩), .int .i64 z] W fun e w' => e = .returned (.int .i64 2) ∧ Pq w w' r rb xk F cap bs inn out cap2 A c bs2 in2 out2 kd n xv own xb := by
  refine (grow_no h.m.st.1 z hz hz2).mono ?_
  rintro e w' ⟨rfl, q, rfl⟩
  exact ⟨rfl, h.drewN q⟩
theorem pq_grow_yes (h : Pq w W r rb xk F cap bs inn out cap2 A c bs2 in2 out2 kd n xv own xb) (k : Nat) (hk : bs.length ≤ k) (hk2 : k ≤ 65536) :
    Calls Try.prog 18 #[.pointer (some ⟨r, 0, none⟩), .int .i64 (k : Int)] W fun e w' => e = .returned (.int .i64 0) ∧ ∃ F', Pq w w' r rb xk F' k bs inn out cap2 A c bs2 in2 out2 kd n xv own xb := by
  refine (grow_yes h.m.st.1 k hk hk2).mono ?_
  rintro e w' ⟨rfl, F', s, mv⟩
  exact ⟨rfl, F', h.m.ring ⟨s, law_step h.m.st.1 h.m.st.2 mv⟩ mv, h.x.mv mv, h.s⟩
theorem pq_rgrow_no (h : Pq w W r rb xk F cap bs inn out cap2 A c bs2 in2 out2 kd n xv own xb) (hl : bs2.length ≤ 65536) (z : Int) (hz : z < (bs2.length : Int) ∨ 65536 < z) :
    Calls Try.prog 19 #[.pointer (some ⟨rb, 0, none⟩), .int .i64 z] W fun e w' => e = .returned (.int .i64 2) ∧ Pq w w' r rb xk F cap bs inn out cap2 A c bs2 in2 out2 kd n xv own xb := by
  refine (rgrow_no h.m.rf hl z hz).mono ?_
  rintro e w' ⟨rfl, rfl⟩
  exact ⟨rfl, h⟩
theorem pq_rgrow_yes (h : Pq w W r rb xk F cap bs inn out cap2 A c bs2 in2 out2 kd n xv own xb) (k : Nat) (hk : bs2.length ≤ k) (hk2 : k ≤ 65536) :
    Calls Try.prog 19 #[.pointer (some ⟨rb, 0, none⟩), .int .i64 (k : Int)] W fun e w' => e = .returned (.int .i64 0) ∧ Pq w w' r rb xk F cap bs inn out k A c bs2 in2 out2 kd n xv own xb := by
  refine (rgrow_yes h.m.rf k hk hk2).mono ?_
  rintro e w' ⟨rfl, f, g⟩
  exact ⟨rfl, h.m.ref f g, h.x.ref g, h.s⟩
theorem pq_counts (h : Pq w W r rb xk F cap bs inn out cap2 A c bs2 in2 out2 kd n xv own xb) : Calls Try.prog 21 #[.pointer (some ⟨r, 0, none⟩)] W fun e w' => e = .returned (.tuple #[.int .u64 (inn : Int), .int .u64 (out : Int)]) ∧ Pq w w' r rb xk F cap bs inn out cap2 A c bs2 in2 out2 kd n xv own xb := by
  refine (counts_any h.m.st.1).mono ?_
  rintro e w' ⟨rfl, q, rfl⟩
  exact ⟨rfl, h.drewN q⟩
theorem pq_len (h : Pq w W r rb xk F cap bs inn out cap2 A c bs2 in2 out2 kd n xv own xb) : Calls Try.prog 22 #[.pointer (some ⟨r, 0, none⟩)] W fun e w' => e = .returned (.int .i64 (bs.length : Int)) ∧ Pq w w' r rb xk F cap bs inn out cap2 A c bs2 in2 out2 kd n xv own xb := by
  refine (len_any h.m.st.1).mono ?_
  rintro e w' ⟨rfl, q, rfl⟩
  exact ⟨rfl, h.drewN q⟩
theorem pq_room (h : Pq w W r rb xk F cap bs inn out cap2 A c bs2 in2 out2 kd n xv own xb) : Calls Try.prog 23 #[.pointer (some ⟨r, 0, none⟩)] W fun e w' => e = .returned (.int .i64 ((cap - bs.length : Nat) : Int)) ∧ Pq w w' r rb xk F cap bs inn out cap2 A c bs2 in2 out2 kd n xv own xb := by
  refine (room_any h.m.st.1).mono ?_
  rintro e w' ⟨rfl, q, rfl⟩
  exact ⟨rfl, h.drewN q⟩
/-- What the comparison behind a call reads: cells, and three strings. -/
theorem Pq.held (h : Pq w W r rb xk F cap bs inn out cap2 A c bs2 in2 out2 kd n xv own xb) {T1 T2 : ByteArray} (e1 : strOfNums xb = T1) (e2 : strOfNums bs2 = T2) :
    W.cell? ⟨xk, 2, none⟩ = some xv ∧ W.cell? ⟨rb, 0, none⟩ = some (.int .i64 (cap2 : Int)) ∧ W.cell? ⟨rb, 1, none⟩ = some (.slice A bs2.length c) ∧ W.cell? ⟨rb, 2, none⟩ = some (.int .u64 (in2 : Int)) ∧ W.cell? ⟨rb, 3, none⟩ = some (.int .u64 (out2 : Int)) ∧
    (convert 28 9 own).run Try.prog W = .ok (.string T1) W ∧ (convert 28 9 xv).run Try.prog W = .ok (.string T1) W ∧ (convert 28 9 (.slice A bs2.length c)).run Try.prog W = .ok (.string T2) W := by
  subst e1; subst e2
  obtain ⟨_, y⟩ := h.cells
  exact ⟨y.1, y.2.1, y.2.2.1, y.2.2.2.1, y.2.2.2.2, conv_at h.x.ow, conv_at (h.s.at_ (F := fun _ => False) h.m.st.2 (fun _ e => e.elim)), conv_at h.m.rf.src⟩
end
end Go.Proofs.Ytolkbelfcgamiaa
