/-
  The reference's ring: Take and Put.
-/
import Derived.Test.YtolkbelfcgamiaaRgRef
import Derived.Laws.AppendOwnNone
namespace Go.Proofs.Ytolkbelfcgamiaa
open Go.RowKit Go.Shelf Go.Maps Go.ChangeMaps

theorem own_form {w : World} {B0 n : Nat} {v : Value} {xs : List Value} (h : w.ownsRow B0 5 1 v n xs) : ∃ A c, v = .slice A n c ∧ n ≤ c ∧ c ≤ 9223372036854775807 ∧ (A = none → c = 0) ∧ ∀ a, A = some a → a.spot = none := by
  rcases h.2 with ⟨rfl, rfl⟩ | ⟨g, cap, cur, rfl, _, _, hc, hm, _⟩
  · exact ⟨none, 0, rfl, Nat.le_refl _, by omega, fun _ => rfl, (fun a e => by cases e)⟩
  · exact ⟨_, cap, rfl, hc, by unfold maxLen at hm; omega, (fun e => by cases e), (fun a e => by cases e; rfl)⟩

theorem cut_run3 (b o n c m : Nat) (A : Option Addr) (h1 : m ≤ n) (h2 : n ≤ c) (hc : c ≤ 9223372036854775807) (hA : A = none → c = 0) (hs : 0 < n → A = some ⟨b, o, none⟩) (hsp : ∀ a, A = some a → 0 < c → a.spot = none) :
    ∃ A', (∀ W, (Instr.slice 28 (.slice A n c) (some (.int .i64 (m : Int))) none none).run Try.prog W = .ok (.slice A' (n - m) (c - m)) W) ∧ (0 < n - m → A' = some ⟨b, o + m, none⟩) ∧ (A' = none → c - m = 0) ∧ ∀ a, A' = some a → 0 < c - m → a.spot = none := by
  by_cases hc0 : 0 < c
  · obtain ⟨A', g1, g3, g2, g4, _⟩ := cut_run b o n c m A h1 h2 hc hA hs (fun a e => hsp a e hc0)
    exact ⟨A', g1, g2, g3, fun a e _ => g4 a e⟩
  · obtain ⟨A', g1, g2⟩ := cut_run2 b o n c m A h1 h2 hc hA hs hsp
    exact ⟨A', g1, g2, fun _ => by omega, fun a _ h => by omega⟩

section
variable {w : World} {E : Nat → Prop} {rb cap inn out c : Nat} {A : Option Addr} {bs : List Int}
set_option maxRecDepth 100000 in
set_option maxHeartbeats 2000000 in
theorem rtake_any (h : Rf w E rb cap A c bs inn out) (hl : bs.length ≤ 65536) (ho : out + bs.length ≤ 1000000000) (n : Int) (hn : -9223372036854775808 ≤ n ∧ n ≤ 9223372036854775807) : Calls Try.prog 15 #[.pointer (some ⟨rb, 0, none⟩), .int .i64 n] w fun e w' =>
    ∃ v A' c', e = .returned v ∧ w'.ownsRow w.heap.size 5 1 v (bs.take n.toNat).length (encB (bs.take n.toNat)) ∧ Rf w' E rb cap A' c' (bs.drop n.toNat) inn (out + (bs.take n.toNat).length) ∧ Kept (fun i => i = rb) w w' := by
  have HL := Lib.hid (rlook_any h hl n hn)
  obtain ⟨L, hL⟩ : ∃ L, (bs.take n.toNat).length = L := ⟨_, rfl⟩
  have hLb : L ≤ bs.length := by rw [← hL, List.length_take]; omega
  have hdl : (bs.drop n.toNat).length = bs.length - L := by rw [← hL, List.length_drop, List.length_take]; omega
  have hdr : bs.drop n.toNat = bs.drop L := by
    by_cases hx : n.toNat ≤ bs.length
    · rw [show L = n.toNat by rw [← hL, List.length_take]; omega]
    · rw [List.drop_of_length_le (by omega), List.drop_of_length_le (by rw [← hL, List.length_take]; omega)]
  obtain ⟨A0, c0, e0, hc1, hc2, hcell⟩ := id h.src
  cases e0
  have hrb := h.blk.lt
  have hcL : c - L ≤ 9223372036854775807 := Nat.le_trans (Nat.sub_le _ _) hc2
  have hbL : bs.length - L ≤ c - L := Nat.sub_le_sub_right hc1 L
  have hcut : ∃ A', (∀ W, (Instr.slice 28 (.slice A bs.length c) (some (.int .i64 (L : Int))) none none).run Try.prog W = .ok (.slice A' (bs.length - L) (c - L)) W) ∧ (A' = none → c - L = 0) ∧ (∀ a, A' = some a → 0 < c - L → a.spot = none) ∧
      ∀ w', (∀ k, k < w.heap.size → k ≠ rb → w'.heap[k]? = w.heap[k]?) → w.heap.size ≤ w'.heap.size → Src w' (fun k => k = rb ∨ E k) (.slice A' (bs.length - L) (c - L)) (bs.drop L) := by
    by_cases h0 : 0 < bs.length
    · obtain ⟨b, o, rfl, hbl, hbf, hcc⟩ := hcell h0
      obtain ⟨A', g1, g2, g3, g4⟩ := cut_run3 b o bs.length c L _ hLb hc1 hc2 h.cA (fun _ => rfl) h.sp
      refine ⟨A', g1, g3, g4, fun w' hk hz => ⟨A', c - L, by rw [List.length_drop], by rw [List.length_drop]; exact hbL, hcL, fun h1 => ?_⟩⟩
      rw [List.length_drop] at h1
      refine ⟨b, o + L, g2 h1, Nat.lt_of_lt_of_le hbl hz, hbf, fun i z hz => ?_⟩
      rw [List.getElem?_drop] at hz
      rw [Nat.add_assoc]
      exact (World.cell?_of_block (a := ⟨b, _, none⟩) (hk b hbl (fun e => hbf (.inl e)))).trans (hcc _ z hz)
    · obtain ⟨A', g1, g2, g3, g4⟩ := cut_run3 0 0 bs.length c L A hLb hc1 hc2 h.cA (fun h => absurd h h0) h.sp
      exact ⟨A', g1, g3, g4, fun w' hk hz => ⟨A', c - L, by rw [List.length_drop], by rw [List.length_drop]; exact hbL, hcL, fun h1 => by rw [List.length_drop] at h1; clear hcell; omega⟩⟩
  obtain ⟨A', hcr, hA1, hA2, hA3⟩ := hcut
  have e1 : IntKind.u64.wrap (L : Int) = (L : Int) := IntWalk.u64_in _ (by omega)
  have e2 : IntKind.u64.wrap ((out : Int) + (L : Int)) = (out : Int) + (L : Int) := IntWalk.u64_in _ (by omega)
  have HX := Lib.hid (And.intro h (And.intro hL (And.intro hdl (And.intro hdr (And.intro hA1 (And.intro hA2 hA3))))))
  clear h hL hdl hdr hcell hA1 hA2 hA3 hc1 hc2
  go_enter Try.func15, Try.ntmps15
  go_wp2_with fail
  refine HL.out.mono ?_
  rintro e w1 ⟨v, rfl, hrow, hk⟩
  rw [HX.out.2.1] at hrow
  obtain ⟨Av, cv, hv, _⟩ := own_form hrow
  have h1 := HX.out.1.kept hk (fun e => e) (fun _ e => e.elim)
  have c1 := h1.blk.cell 1
  have c3 := h1.blk.cell 3
  simp at c1 c3
  have f1 := h1.blk.frozen 1
  have f3 := h1.blk.frozen 3
  have l1 := h1.blk.lt
  obtain ⟨w2, hw2⟩ : ∃ w2, (w1.setCell ⟨rb, 1, none⟩ (.slice A' (bs.length - L) (c - L))).setCell ⟨rb, 3, none⟩ (.int .u64 ((out : Int) + (L : Int))) = w2 := ⟨_, rfl⟩
  have hk2 : Kept (fun i => i = rb) w1 w2 := by rw [← hw2]; exact ((Kept.refl (fun i => i = rb) w1).setCell (p := ⟨rb, 1, none⟩) rfl _).setCell (p := ⟨rb, 3, none⟩) rfl _
  have b2 : Blk w2 rb 31 #[.int .i64 (cap : Int), .slice A' (bs.length - L) (c - L), .int .u64 (inn : Int), .int .u64 ((out + L : Nat) : Int)] := by
    rw [← hw2]
    have := (h1.blk.set_ 1 (.slice A' (bs.length - L) (c - L))).set_ 3 (.int .u64 ((out : Int) + (L : Int)))
    rw [show ((out + L : Nat) : Int) = (out : Int) + (L : Int) by omega]
    simpa using this
  have HE := Lib.hid (show w2.ownsRow w.heap.size 5 1 v (bs.take n.toNat).length (encB (bs.take n.toNat)) ∧ Rf w2 E rb cap A' (c - L) (bs.drop n.toNat) inn (out + (bs.take n.toNat).length) ∧ Kept (fun i => i = rb) w w2 from by
    obtain ⟨h0, hL, hdl, hdr, hA1, hA2, hA3⟩ := HX.out
    rw [hL]
    refine ⟨?_, ⟨by rw [hdl]; exact b2, fun i e => Nat.lt_of_lt_of_le (h0.hE i e) (Nat.le_trans hk.size hk2.size), ?_, hA1, hA2⟩, (hk.mono fun _ _ e => e.elim).trans hk2⟩
    · have hlt := hrow.lt
      rcases hrow.2 with ⟨e, e'⟩ | ⟨g, cp, cur, rfl, hg, hh, r⟩
      · exact ⟨hrow.1, .inl ⟨e, e'⟩⟩
      · exact ⟨hrow.1, .inr ⟨g, cp, cur, rfl, hg, (hk2.block g (hlt g rfl).2 (by omega)).trans hh, r⟩⟩
    · have := hA3 w2 (fun k hkk hne => (hk2.block k (Nat.lt_of_lt_of_le hkk hk.size) hne).trans (hk.block k hkk (fun e => e))) (Nat.le_trans hk.size hk2.size)
      rwa [hdr, List.length_drop])
  have HV := Lib.hid hv
  have HW2 := Lib.hid hw2
  subst hv
  clear hrow h1 hk hk2 b2 hw2
  go_wp2_with fail
  go_ret
  rw [HW2.out]
  exact ⟨_, _, _, rfl, HE.out⟩
end

/-- An append, to a row of its own, of bytes that may be read. -/
theorem app_src {w : World} {ops : Array Oper} {rest : List Oper} {o : Oper} {a : Act} {Q : Exit → Act → World → Prop} (hgd : o.guard = none) (s x : Operand)
    (ho : o.op = .call { callee := .builtin .append, args := #[s, x], argTypes := #[28, 28] }) (B0 : Nat) (v : Value) (xs zs : List Int) (hs : a.eval s = v) (hown : w.ownsRow B0 5 1 v xs.length (encB xs))
    (A : Option Addr) (c : Nat) (F : Nat → Prop) (hx : a.eval x = .slice A zs.length c) (hsrc : Src w F (.slice A zs.length c) zs) (hcA : A = none → c = 0) (hb : xs.length + zs.length ≤ 140737488355328) (hB : B0 ≤ w.heap.size)
    (h : ∀ v' w', w'.ownsRow B0 5 1 v' (xs ++ zs).length (encB (xs ++ zs)) → w.grownBy w' v.ownBlock → wpList Try.prog ops Q rest (a.put o.dst v') w') : wpList Try.prog ops Q (o :: rest) a w := by
  obtain ⟨i0, hi, hz0, hz1, hz2⟩ := info_parts infoB3
  obtain ⟨A', c', e, _, _, hc⟩ := hsrc
  cases e
  have henc : encB xs ++ encB zs = encB (xs ++ zs) := by simp [encB]
  cases A with
  | none =>
    have hc0 := hcA rfl
    subst hc0
    have hz : zs = [] := by
      by_cases h0 : 0 < zs.length
      · obtain ⟨b, o, e, _⟩ := hc h0; cases e
      · exact List.eq_nil_of_length_eq_zero (by omega)
    subst hz
    refine wpList_append_own_none hgd s x _ ho B0 _ i0 1 Try.underlying28 hi v xs.length _ hs hown hx (h v w ?_ (World.grownBy.refl w _))
    rw [List.append_nil]; exact hown
  | some ad =>
    refine wpList_append_own w hgd s x _ ho B0 _ i0 _ 1 1 Try.underlying28 hi hz0 hz1 hz2 rfl (by decide) v xs.length _ hs hown ad zs.length c (encB zs) hx (by rw [encB_length]; omega) (fun j u hu => ?_) (encB_one zs) (by unfold maxLen; omega) (by omega) hB (fun v' w' h1 h2 _ => h v' w' (by rw [List.length_append, ← henc]; exact h1) h2)
    rw [encB_get] at hu
    cases hz : zs[j]? with
    | none => rw [hz] at hu; cases hu
    | some z =>
      rw [hz] at hu; cases hu
      have hj := (List.getElem?_eq_some_iff.1 hz).1
      obtain ⟨b, o, e, _, _, hcc⟩ := hc (by omega)
      cases e
      rw [add_plain]
      exact hcc j z hz

section
variable {w : World} {E : Nat → Prop} {rb cap inn out c : Nat} {A : Option Addr} {bs : List Int}
set_option maxRecDepth 100000 in
set_option maxHeartbeats 4000000 in
theorem rput_any (h : Rf w E rb cap A c bs inn out) (hl : bs.length ≤ cap) (hcap : cap ≤ 65536) (v : Value) (zs : List Int) (hs : Src w (fun k => k = rb) v zs) (hzl : zs.length ≤ 9223372036854775807) (hin : inn + min zs.length (cap - bs.length) ≤ 1000000000) :
    Calls Try.prog 13 #[.pointer (some ⟨rb, 0, none⟩), v] w fun e w' =>
    ∃ A' c', e = .returned (.int .i64 ((min zs.length (cap - bs.length) : Nat) : Int)) ∧ Rf w' E rb cap A' c' (bs ++ zs.take (min zs.length (cap - bs.length))) (inn + min zs.length (cap - bs.length)) out ∧ Kept (fun i => i = rb) w w' := by
  obtain ⟨T, hT⟩ : ∃ T, min zs.length (cap - bs.length) = T := ⟨_, rfl⟩
  rw [hT] at hin ⊢
  obtain ⟨i0, hi, hz0, hz1, hz2⟩ := info_parts infoB3
  obtain ⟨Az, cz, rfl, hz5, hz6, hzc⟩ := hs
  have c0 := h.blk.cell 0
  have c1 := h.blk.cell 1
  simp at c0 c1
  have l1 := h.blk.lt
  have hTz : T ≤ zs.length := by omega
  have hTc : bs.length + T ≤ cap := by omega
  have hTe : T = zs.length ∨ bs.length + T = cap := by omega
  have HH := Lib.hid (And.intro h (And.intro hzc hT))
  have hbb : bs.length ≤ 65536 := by omega
  clear h hzc hT
  go_enter Try.func13, Try.ntmps13
  go_wp2_with (at_builtin; refine app_src rfl _ _ rfl w.heap.size _ [] bs rfl (World.ownsRow_nil _ _ _ _) A c (fun k => k = rb ∨ E k) rfl HH.out.1.src HH.out.1.cA (by simp; omega) (Nat.le_refl _) ?_; intro v1 w1 hown1 hgrow1)
  rw [List.nil_append] at hown1
  have hk1 : Kept (fun _ => False) w w1 := (Kept.refl (fun _ => False) w).grown hgrow1 (fun k e _ => by cases e)
  have HO1 := Lib.hid (And.intro hown1 hk1)
  clear hown1 hgrow1 hk1 c0 c1
  go_wp2_with fail
  go_loopw [5, 6] (fun i s wr => ∃ k : Nat, k ≤ T ∧ i = .int .i64 (k : Int) ∧ wr.ownsRow w.heap.size 5 1 s (bs ++ zs.take k).length (encB (bs ++ zs.take k)) ∧ Kept (fun _ => False) w wr) (fun i _ _ => T - (intOf i).toNat)
  case atStart => exact ⟨0, Nat.zero_le _, rfl, by rw [List.take_zero, List.append_nil]; exact HO1.out.1, HO1.out.2⟩
  case round =>
    obtain ⟨k, hk, rfl, hrow, hkw⟩ := hrel
    obtain ⟨As, cs, hv, hs1, hs2, hs3, hs4⟩ := own_form hrow
    have hln : (bs ++ zs.take k).length = bs.length + k := by rw [List.length_append, List.length_take]; omega
    rw [hln] at hv
    have R := HH.out.1.kept hkw (fun e => e) (fun _ e => e.elim)
    have c0 := R.blk.cell 0
    have c1 := R.blk.cell 1
    have c2 := R.blk.cell 2
    simp at c0 c1 c2
    have l2 := R.blk.lt
    have f1 := R.blk.frozen 1
    have f2 := R.blk.frozen 2
    by_cases hlt : k < T
    · have b0 : decide (k < zs.length) = true := by simp; omega
      have b1 : decide (bs.length + k < cap) = true := by simp; omega
      have b1' : decide ((bs.length : Int) + (k : Int) < (cap : Int)) = true := by simp; omega
      have b2 : (k : Int) < (zs.length : Int) := by omega
      have b3 : (0 : Int) ≤ (k : Int) := by omega
      have b5 : 0 < zs.length := by omega
      have b6 : k < zs.length := by omega
      obtain ⟨z, hz⟩ : ∃ z, zs[k]? = some z := ⟨_, List.getElem?_eq_getElem b6⟩
      obtain ⟨b, o, hAz, hbl, hbf, hcc⟩ := HH.out.2.1 b5
      have c3 := (World.cell?_of_block (a := ⟨b, o + k, none⟩) (hkw.block b hbl (fun e => e))).trans (hcc k z hz)
      have hbl2 : b < wr.heap.size := Nat.lt_of_lt_of_le hbl hkw.size
      have HAz := Lib.hid hAz
      subst hAz
      have HS := Lib.hid (show encB (bs ++ zs.take k) ++ [.int .u8 z] = encB (bs ++ zs.take (k + 1)) by
        rw [List.take_add_one, hz, ← List.append_assoc]; simp [encB])
      have HL := Lib.hid (show (bs ++ zs.take k).length + 1 = (bs ++ zs.take (k + 1)).length by rw [List.length_append, List.length_append, List.length_take, List.length_take]; omega)
      have HK := Lib.hid hkw
      have hsz := hkw.size
      have HV := Lib.hid hv
      have hlb : (bs ++ zs.take k).length ≤ 65536 := by rw [hln]; omega
      subst hv
      clear R hcc hz hkw hln hs1 hs2 hs3 hs4 hbf hbl
      go_wp2_with (at_builtin; refine wpList_append_own _ rfl _ _ 28 rfl w.heap.size 5 i0 _ 1 1 Try.underlying28 hi hz0 hz1 hz2 rfl (by decide) _ _ _ rfl (World.ownsRow.alloc hrow _) ⟨wr.heap.size, 0, none⟩ 1 1 [.int .u8 z] rfl rfl (World.news_of_block (cs := #[.int .u8 z]) (heap_alloc_new wr _)) (by simp [Value.oneCell']) (by unfold maxLen; omega) (by omega) (by simp; omega) ?_; intro v' w1 hown' hgrow _)
      rw [HS.out, HL.out] at hown'
      have HE := Lib.hid (And.intro hown' (show Kept (fun _ => False) w w1 from (HK.out.alloc _).grown hgrow (fun i e hi => by
        have := (hrow.lt i e).1; omega)))
      clear hown' hgrow hrow
      go_wp2_with fail
      go_roundw
      case rel => exact ⟨k + 1, by omega, by go_num, HE.out.1, HE.out.2⟩
      case measure => simp [intOf]; omega
    · obtain rfl : k = T := by omega
      obtain ⟨w2, hw2⟩ : ∃ w2, (wr.setCell ⟨rb, 1, none⟩ (.slice As (bs.length + k) cs)).setCell ⟨rb, 2, none⟩ (.int .u64 ((inn : Int) + (k : Int))) = w2 := ⟨_, rfl⟩
      have hk2 : Kept (fun i => i = rb) wr w2 := by rw [← hw2]; exact ((Kept.refl (fun i => i = rb) wr).setCell (p := ⟨rb, 1, none⟩) rfl _).setCell (p := ⟨rb, 2, none⟩) rfl _
      have b2 : Blk w2 rb 31 #[.int .i64 (cap : Int), .slice As (bs.length + k) cs, .int .u64 ((inn + k : Nat) : Int), .int .u64 (out : Int)] := by
        rw [← hw2]
        have := (R.blk.set_ 1 (.slice As (bs.length + k) cs)).set_ 2 (.int .u64 ((inn : Int) + (k : Int)))
        rw [show ((inn + k : Nat) : Int) = (inn : Int) + (k : Int) by omega]
        simpa using this
      have hsr := (own_src (n := 0) hrow (by rw [hln]; omega)).1
      have HE := Lib.hid (show Rf w2 E rb cap As cs (bs ++ zs.take k) (inn + k) out ∧ Kept (fun i => i = rb) w w2 from
        ⟨⟨by rw [hln]; exact b2, fun i e => Nat.lt_of_lt_of_le (HH.out.1.hE i e) (Nat.le_trans hkw.size hk2.size), by
          rw [hln, ← hv]
          refine Src.weak (hsr.keep hk2 (fun i e => .inl ?_)) (fun i e => ?_)
          · rw [e]; exact l1
          · rcases e with e | e
            · rw [e]; exact l1
            · exact HH.out.1.hE i e, hs3, fun a e _ => hs4 a e⟩, (hkw.mono fun _ _ e => e.elim).trans hk2⟩)
      have e1 : IntKind.u64.wrap (k : Int) = (k : Int) := IntWalk.u64_in _ (by omega)
      have e2 : IntKind.u64.wrap ((inn : Int) + (k : Int)) = (inn : Int) + (k : Int) := IntWalk.u64_in _ (by omega)
      have HW2 := Lib.hid hw2
      by_cases hkz : k < zs.length
      · have b0 : decide (k < zs.length) = true := by simpa using hkz
        have b1 : decide (bs.length + k < cap) = false := by simp; omega
        have b1' : decide ((bs.length : Int) + (k : Int) < (cap : Int)) = false := by simp; omega
        have HV := Lib.hid hv
        subst hv
        clear hrow R hTe hw2 hk2 b2 hsr hkw hs1 hs2 hs3 hs4 hln
        go_wp2_with fail
        go_ret
        rw [HW2.out]
        first | exact ⟨rfl, ⟨_, _, HE.out.1⟩, HE.out.2⟩ | exact ⟨_, _, rfl, HE.out⟩
      · have b0 : decide (k < zs.length) = false := by simpa using hkz
        have HV := Lib.hid hv
        subst hv
        clear hrow R hTe hw2 hk2 b2 hsr hkw hs1 hs2 hs3 hs4 hln
        go_wp2_with fail
        go_ret
        rw [HW2.out]
        first | exact ⟨rfl, ⟨_, _, HE.out.1⟩, HE.out.2⟩ | exact ⟨_, _, rfl, HE.out⟩
end
end Go.Proofs.Ytolkbelfcgamiaa
