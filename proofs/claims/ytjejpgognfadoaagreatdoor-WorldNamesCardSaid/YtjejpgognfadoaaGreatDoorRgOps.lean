/-
  Look, Take, Put, Grow and Clear of a ring.
-/
import Derived.Test.YtjejpgognfadoaaGreatDoorRgRing
namespace Go.Proofs.YtjejpgognfadoaaGreatDoor
open Go.RowKit Go.Shelf Go.Maps Go.ChangeMaps

/-- A slice of bytes that may be read: v names zs, apart from the blocks of F. -/
def Src (W : World) (F : Nat → Prop) (v : Value) (zs : List Int) : Prop :=
  ∃ A c, v = .slice A zs.length c ∧ zs.length ≤ c ∧ c ≤ 9223372036854775807 ∧ (0 < zs.length → ∃ b o, A = some ⟨b, o, none⟩ ∧ b < W.heap.size ∧ ¬ F b ∧ ∀ i z, zs[i]? = some z → W.cell? ⟨b, o + i, none⟩ = some (.int .u8 z))

section
variable {w w' : World} {B r cb cap cap' inn out inn' out' : Nat} {F : Nat → Prop} {bs bs' ps ps' : List Int} {v v' : Value}
theorem rg_sep (h1 : Blk w r 102 #[.pointer (some ⟨cb, 0, none⟩)]) (h4 : Cst w B cb cap v ps bs inn out) : ¬ Fr cb v r := by
  unfold Blk at h1
  rintro (e | e)
  · subst e
    have hq := h4.blk
    unfold Blk at hq
    rw [h1] at hq
    injection hq with hq; injection hq with _ ht; revert ht; decide
  · rcases h4.row with ⟨rfl, _⟩ | ⟨g, rfl, _, hg⟩
    · cases e
    · cases e
      rw [h1] at hg
      injection hg with hq; injection hq with _ ht; revert ht; decide
theorem rg_turn (h1 : Blk w r 102 #[.pointer (some ⟨cb, 0, none⟩)]) (h2 : B ≤ r) (h3 : B ≤ w.heap.size) (h4 : Cst w B cb cap v ps bs inn out) (h5 : ∀ k, F k ↔ (k = r ∨ Fr cb v k))
    (h6 : Cst w' B cb cap' v' ps' bs' inn' out') (m : Rm w w' cb v v') : ∃ F', Rg w' B r F' cap' bs' inn' out' ∧ Mv w w' F F' := by
  refine ⟨fun k => k = r ∨ Fr cb v' k, ⟨cb, v', ps', h1.kept m.k (rg_sep h1 h4), h2, Nat.le_trans h3 m.k.size, h6, fun _ => Iff.rfl⟩, ⟨m.k.mono fun k _ e => (h5 k).2 (.inr e), fun i hi => ?_⟩⟩
  rcases hi with rfl | rfl | e
  · exact .inl ((h5 _).2 (.inl rfl))
  · exact .inl ((h5 _).2 (.inr (.inl rfl)))
  · rcases m.o with ho | ho
    · exact .inl ((h5 _).2 (.inr (.inr (ho ▸ e))))
    · exact .inr (ho i e)
theorem rg_stay (h1 : Blk w r 102 #[.pointer (some ⟨cb, 0, none⟩)]) (h2 : B ≤ r) (h3 : B ≤ w.heap.size) (h4 : Cst w B cb cap v ps bs inn out) (h5 : ∀ k, F k ↔ (k = r ∨ Fr cb v k))
    (h6 : Cst w' B cb cap' v ps' bs' inn' out') (m : Rm w w' cb v v) : Rg w' B r F cap' bs' inn' out' ∧ Kept F w w' :=
  ⟨⟨cb, v, ps', h1.kept m.k (rg_sep h1 h4), h2, Nat.le_trans h3 m.k.size, h6, h5⟩, m.k.mono fun k _ e => (h5 k).2 (.inr e)⟩
end

section
variable {w : World} {B r cap inn out : Nat} {F : Nat → Prop} {bs : List Int}
set_option maxHeartbeats 1000000 in
theorem look_any (h : Rg w B r F cap bs inn out) (n : Int) (hn : -9223372036854775808 ≤ n ∧ n ≤ 9223372036854775807) : Calls Tryz.prog 84 #[.pointer (some ⟨r, 0, none⟩), .int .i64 n] w fun e w' =>
    ∃ v, e = .returned v ∧ RowB w' w.heap.size v (bs.take n.toNat) ∧ Kept (fun _ => False) w w' := by
  have HL := Lib.hid (len_any h)
  obtain ⟨cb, v, ps, h1, h2, h3, h4, h5⟩ := h
  have hfit := h4.fit
  have hbig := h4.big
  have c0 := h1.cell 0
  simp at c0
  have l1 := h1.lt
  by_cases hk : 1 ≤ n ∧ 1 ≤ bs.length
  · obtain ⟨k, hkk⟩ : ∃ k, k = min n.toNat bs.length := ⟨_, rfl⟩
    have e1 : (if (bs.length : Int) < n then (bs.length : Int) else n) = (k : Int) := by split <;> omega
    have b1 : ¬ (k : Int) < 1 := by omega
    have ht : bs.take n.toNat = bs.take k := by
      by_cases hx : n.toNat ≤ bs.length
      · rw [show k = n.toNat by omega]
      · rw [show k = bs.length by omega, List.take_of_length_le (by omega), List.take_of_length_le (by omega)]
    have HF := Lib.hid (fun q => first_any (h4.drewN q) k (by omega) (by omega))
    have HT := Lib.hid ht
    have hkl : k ≤ bs.length := by omega
    clear h1 h4 h5 hkk hk ht
    go_enter Tryz.func84, Tryz.ntmps84
    go_wp2_with (go_at_call 39; refine HL.out.mono ?_; rintro e w' ⟨rfl, q, rfl⟩)
    refine (HF.out q).mono ?_
    rintro e w2 ⟨gb, rfl, g1, g2, g3⟩
    have HE := Lib.hid (show RowB w2 w.heap.size (.slice (some ⟨gb, 0, none⟩) k k) (bs.take n.toNat) ∧ Kept (fun _ => False) w w2 from ⟨.inr ⟨gb, by rw [HT.out, List.length_take, Nat.min_eq_left hkl], g1, by rw [HT.out]; exact g2⟩, ((Kept.refl _ w).drewN q).trans g3⟩)
    clear g1 g2 g3
    go_wp2_with fail
    go_ret
    exact ⟨_, rfl, HE.out⟩
  · obtain ⟨k, hkk⟩ : ∃ k : Int, k = min n (bs.length : Int) := ⟨_, rfl⟩
    have e1 : (if (bs.length : Int) < n then (bs.length : Int) else n) = k := by split <;> omega
    have b1 : k < 1 := by omega
    have ht : bs.take n.toNat = [] := by
      by_cases hx : n < 1
      · rw [show n.toNat = 0 by omega]; rfl
      · rw [List.eq_nil_of_length_eq_zero (show bs.length = 0 by omega)]; simp
    have HT := Lib.hid ht
    clear h1 h4 h5 hkk hk ht
    go_enter Tryz.func84, Tryz.ntmps84
    go_wp2_with (go_at_call 39; refine HL.out.mono ?_; rintro e w' ⟨rfl, q, rfl⟩)
    go_ret
    exact ⟨_, rfl, .inl ⟨rfl, HT.out⟩, (Kept.refl _ w).drewN q⟩

set_option maxHeartbeats 1000000 in
theorem take_any (h : Rg w B r F cap bs inn out) (n : Int) (hn : -9223372036854775808 ≤ n ∧ n ≤ 9223372036854775807) : Calls Tryz.prog 71 #[.pointer (some ⟨r, 0, none⟩), .int .i64 n] w fun e w' =>
    ∃ v, e = .returned v ∧ RowB w' w.heap.size v (bs.take n.toNat) ∧ Rg w' B r F cap (bs.drop n.toNat) inn (out + (bs.take n.toNat).length) ∧ Kept F w w' := by
  have HL := Lib.hid (look_any h n hn)
  have HR := Lib.hid h
  have hlen : (bs.take n.toNat).length ≤ bs.length := by rw [List.length_take]; omega
  clear h
  go_enter Tryz.func71, Tryz.ntmps71
  go_wp2_with fail
  refine HL.out.mono ?_
  rintro e w1 ⟨v, rfl, hrow, hk⟩
  have hR1 := HR.out.kept hk (fun _ _ e => e)
  obtain ⟨A, hv, hAv⟩ := hrow.form
  by_cases h0 : 0 < (bs.take n.toNat).length
  · obtain ⟨cb, u, ps, h1, h2, h3, h4, h5⟩ := id hR1
    have c0 := h1.cell 0
    simp at c0
    have l1 := h1.lt
    have hd0 := drop_any h4 (bs.take n.toNat).length hlen
    have HC := Lib.hid h4
    have HD := Lib.hid hd0
    have hdr : bs.drop (bs.take n.toNat).length = bs.drop n.toNat := by
      rw [List.length_take]
      by_cases hx : n.toNat ≤ bs.length
      · rw [Nat.min_eq_left hx]
      · rw [Nat.min_eq_right (by omega), List.drop_of_length_le (by omega), List.drop_of_length_le (by omega)]
    have HF := Lib.hid (And.intro hrow (And.intro hk (And.intro h1 (And.intro h2 (And.intro h3 (And.intro h5 (And.intro hdr hv)))))))
    have b1 : decide ((0 : Int) < ((bs.take n.toNat).length : Int)) = true := by simp; simpa using h0
    have b2 : decide (0 < (bs.take n.toNat).length) = true := by simpa using h0
    obtain ⟨L, hL⟩ : ∃ L, L = (bs.take n.toNat).length := ⟨_, rfl⟩
    rw [← hL] at hv HD b1 b2
    have HLn := Lib.hid hL
    have HV := Lib.hid hv
    subst hv
    clear hrow hk h1 h2 h3 h4 h5 hd0 hdr hR1 h0 hL hlen
    go_wp2_with fail
    refine HD.out.mono ?_
    rintro e w2 ⟨rfl, h6, h7⟩
    obtain ⟨hrow, hk, h1, h2, h3, h5, hdr, hv⟩ := HF.out
    have HE := Lib.hid (show RowB w2 w.heap.size (.slice A L L) (bs.take n.toNat) ∧ Rg w2 B r F cap (bs.drop n.toNat) inn (out + (bs.take n.toNat).length) ∧ Kept F w w2 from by
      rw [HLn.out, hdr] at h6
      obtain ⟨x1, x2⟩ := rg_stay h1 h2 h3 (HC.out) h5 h6 h7
      refine ⟨hrow.same (fun k e => h7.k.block k (hrow.lt e).1 (fun e2 => ?_)), x1, (hk.mono fun _ _ e => e.elim).trans x2⟩
      have := (HR.out.lt ((h5 k).2 (.inr e2))).1
      have := (hrow.lt e).2
      omega)
    have HV2 := Lib.hid hv
    clear hrow hk h1 h2 h3 h5 hdr hv h6 h7
    go_wp2_with fail
    go_ret
    exact ⟨_, rfl, HE.out⟩
  · have hz : (bs.take n.toNat).length = 0 := by omega
    have he : bs.take n.toNat = [] := List.eq_nil_of_length_eq_zero hz
    have hdr : bs.drop n.toNat = bs := by
      rw [List.length_take] at hz
      by_cases hx : n.toNat = 0
      · rw [hx]; rfl
      · rw [List.eq_nil_of_length_eq_zero (show bs.length = 0 by omega)]; simp
    have HE := Lib.hid (show RowB w1 w.heap.size v (bs.take n.toNat) ∧ Rg w1 B r F cap (bs.drop n.toNat) inn (out + (bs.take n.toNat).length) ∧ Kept F w w1 from by
      rw [hz, hdr]; exact ⟨hrow, hR1, hk.mono fun _ _ e => e.elim⟩)
    rw [hz] at hv
    subst hv
    clear hrow hk hR1 hz he hdr h0 hlen
    go_wp2_with fail
    go_ret
    exact ⟨_, rfl, HE.out⟩

set_option maxHeartbeats 1000000 in
theorem clear_any (h : Rg w B r F cap bs inn out) : Calls Tryz.prog 77 #[.pointer (some ⟨r, 0, none⟩)] w fun e w' =>
    e = .returned (.int .i64 (bs.length : Int)) ∧ Rg w' B r F cap [] inn (out + bs.length) ∧ Kept F w w' := by
  have HL := Lib.hid (len_any h)
  obtain ⟨cb, u, ps, h1, h2, h3, h4, h5⟩ := id h
  have c0 := h1.cell 0
  simp at c0
  have l1 := h1.lt
  by_cases h0 : 0 < bs.length
  · have HD := Lib.hid (fun q => drop_any (h4.drewN q) bs.length (Nat.le_refl _))
    have b1 : decide (0 < bs.length) = true := by simpa using h0
    have b2 : decide ((0 : Int) < (bs.length : Int)) = true := by simpa using h0
    have HC := Lib.hid (fun q => And.intro (show Blk (w.drewN q) r 102 #[.pointer (some ⟨cb, 0, none⟩)] from h1) (And.intro h2 (And.intro h3 (And.intro (h4.drewN q) h5))))
    clear h h1 h2 h3 h4 h5 h0
    go_enter Tryz.func77, Tryz.ntmps77
    go_wp2_with (go_at_call 39; refine HL.out.mono ?_; rintro e w' ⟨rfl, q, rfl⟩)
    refine (HD.out q).mono ?_
    rintro e w2 ⟨rfl, h6, h7⟩
    have HE := Lib.hid (show Rg w2 B r F cap [] inn (out + bs.length) ∧ Kept F w w2 from by
      obtain ⟨h1, h2, h3, h4, h5⟩ := HC.out q
      rw [List.drop_length] at h6
      obtain ⟨x1, x2⟩ := rg_stay h1 h2 h3 h4 h5 h6 h7
      exact ⟨x1, ((Kept.refl F w).drewN q).trans x2⟩)
    clear h6 h7
    go_wp2_with fail
    go_ret
    exact ⟨rfl, HE.out⟩
  · obtain rfl : bs = [] := List.eq_nil_of_length_eq_zero (by omega)
    have HE := Lib.hid (fun q => show Rg (w.drewN q) B r F cap [] inn (out + 0) ∧ Kept F w (w.drewN q) from ⟨h.drewN q, (Kept.refl F w).drewN q⟩)
    clear h h1 h2 h3 h4 h5 h0
    go_enter Tryz.func77, Tryz.ntmps77
    go_wp2_with (go_at_call 39; refine HL.out.mono ?_; rintro e w' ⟨rfl, q, rfl⟩)
    go_ret
    exact ⟨rfl, HE.out q⟩

set_option maxRecDepth 100000 in
set_option maxHeartbeats 1000000 in
theorem put_any (h : Rg w B r F cap bs inn out) (v : Value) (zs : List Int) (hs : Src w F v zs) (hin : inn + min zs.length (cap - bs.length) ≤ 1000000000) : Calls Tryz.prog 67 #[.pointer (some ⟨r, 0, none⟩), v] w fun e w' =>
    e = .returned (.int .i64 ((min zs.length (cap - bs.length) : Nat) : Int)) ∧ ∃ F', Rg w' B r F' cap (bs ++ zs.take (min zs.length (cap - bs.length))) (inn + min zs.length (cap - bs.length)) out ∧ Mv w w' F F' := by
  have HL := Lib.hid (room_any h)
  have hf := h.facts
  obtain ⟨A, c, rfl, hc1, hc2, hsrc⟩ := hs
  obtain ⟨cb, u, ps, h1, h2, h3, h4, h5⟩ := id h
  have c0 := h1.cell 0
  simp at c0
  have l1 := h1.lt
  obtain ⟨R, hR⟩ : ∃ R, R = cap - bs.length := ⟨_, rfl⟩
  rw [← hR] at HL hin ⊢
  obtain ⟨m, hm⟩ : ∃ m, m = min zs.length R := ⟨_, rfl⟩
  rw [← hm] at hin ⊢
  have e1 : (if R < zs.length then (R : Int) else (zs.length : Int)) = (m : Int) := by split <;> omega
  by_cases h0 : 0 < m
  · obtain ⟨b, o, rfl, hbl, hbf, hcell⟩ := hsrc (by omega)
    have hlm : (zs.take m).length = m := by rw [List.length_take]; omega
    have HP := Lib.hid (fun q => show Calls Tryz.prog 83 #[.pointer (some ⟨cb, 0, none⟩), .slice (some ⟨b, o, none⟩) m c] (w.drewN q) _ from hlm ▸ cput_any (h4.drewN q) h3 (zs.take m) b o c (by omega) (by omega) (by omega) (by omega) hc2 (fun e => hbf ((h5 b).2 (.inr e))) hbl (fun i z hz => by
      rw [List.getElem?_take] at hz
      split at hz
      · exact hcell i z hz
      · cases hz))
    have b0 : (0 : Int) < (m : Int) := by omega
    have b1 : (m : Int) ≤ (c : Int) := by omega
    have b2 : m ≤ c := by omega
    have b3 : (c : Int) ≤ 9223372036854775807 := by omega
    have b4 : decide ((0 : Int) < (m : Int)) = true := by simpa using h0
    have HC := Lib.hid (fun q => And.intro (show Blk (w.drewN q) r 102 #[.pointer (some ⟨cb, 0, none⟩)] from h1) (And.intro h2 (And.intro h3 (And.intro (h4.drewN q) h5))))
    clear h h1 h2 h3 h4 h5 hf hR hm h0 hsrc hcell hlm
    go_enter Tryz.func67, Tryz.ntmps67
    go_wp2_with (go_at_call 44; refine HL.out.mono ?_; rintro e w' ⟨rfl, q, rfl⟩)
    refine wp_still_tail 7 (by kernel_rfl) (by kernel_rfl) ?_
    simp only [List.take_succ_cons, List.take_zero, List.drop_succ_cons, List.drop_zero]
    repeat still_step
    refine wpStill_nil ?_
    go_wp2_with fail
    refine (HP.out (q + 1)).mono ?_
    rintro e w2 ⟨rfl, v', ps', h6, h7⟩
    have HE := Lib.hid (show ∃ F', Rg w2 B r F' cap (bs ++ zs.take m) (inn + m) out ∧ Mv w w2 F F' from by
      obtain ⟨h1, h2, h3, h4, h5⟩ := HC.out (q + 1)
      obtain ⟨F', x1, x2⟩ := rg_turn h1 h2 h3 h4 h5 h6 h7
      exact ⟨F', x1, ((Kept.refl F w).drewN (q + 1)).trans x2.k, x2.o⟩)
    clear h6 h7
    go_wp2_with fail
    go_ret
    exact ⟨rfl, HE.out⟩
  · have hm0 : m = 0 := by omega
    have b4 : decide ((0 : Int) < (m : Int)) = false := by simpa using hm0
    have HE := Lib.hid (fun q => show ∃ F', Rg (w.drewN q) B r F' cap (bs ++ zs.take m) (inn + m) out ∧ Mv w (w.drewN q) F F' from ⟨F, by rw [hm0, List.take_zero, List.append_nil]; exact h.drewN q, ((Kept.refl F w).drewN q), fun _ e => .inl e⟩)
    have b0 : (m : Int) ≤ 0 := by omega
    clear h h1 h2 h3 h4 h5 hf hR hm h0 hsrc hm0
    go_enter Tryz.func67, Tryz.ntmps67
    go_wp2_with (go_at_call 44; refine HL.out.mono ?_; rintro e w' ⟨rfl, q, rfl⟩)
    go_ret
    exact ⟨rfl, HE.out q⟩
end
end Go.Proofs.YtjejpgognfadoaaGreatDoor
