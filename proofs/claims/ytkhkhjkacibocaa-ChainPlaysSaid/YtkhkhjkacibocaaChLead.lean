/-
  lead, ahead: chunks that come ahead of a chain.
-/
import Derived.Test.YtkhkhjkacibocaaChCut
import Derived.Test.YtkhkhjkacibocaaChBytes
namespace Go.Proofs.Ytkhkhjkacibocaa
open Go.RowKit Go.Maps Go.ChangeMaps

section
variable {w : World} {B c : Nat} {t : TypeId} {L : List Lk}

/-- *l = front. -/
theorem Cn.take_over {W W' : World} {f : Nat} {u : TypeId} {v : List Lk} (h : Cn W B t c L) (hf : Cn W B u f v) (hb : Blk W' c t #[ptrO (hdO v), ptrO (ltO v), .int .i64 ((flat v).length : Int)]) (k : Kc (fun k _ => k = c) W W') : Cn W' B t c v := by
  have hc := own_ne h.blk h.ht hf.lks
  refine ⟨hb, h.ht, hf.lks.kc k fun k i hk e => ?_, hf.sep, ⟨h.lo.1, hf.lo.2⟩, hf.le⟩
  subst e; exact hc i hk

set_option maxRecDepth 100000 in
set_option maxHeartbeats 4000000 in
theorem lead_any (h : Cn w B t c L) {A : Option Addr} {n cp : Nat} {zs : List Int} (hs : Src w (Fc c L) A n cp zs) (h0 : 0 < n) (hn : n + (flat L).length ≤ 1048576) :
    Calls Try.prog 38 #[.pointer (some ⟨c, 0, none⟩), .slice A n cp] w fun e w' => e = .returned (.tuple #[]) ∧ ∃ x, x.bs = zs ∧ Cn w' B t c (x :: L) ∧ Mc w w' (Fc c L) (Fc c (x :: L)) := by
  have hlen := hs.len
  have hB := h.base
  have hle := h.le
  have hcl := h.blk.lt
  obtain ⟨W1, hW1⟩ : ∃ W1, W1 = w.alloc (.cells (encB (List.replicate n 0)).toArray 5) := ⟨_, rfl⟩
  have hk1 : Kept (fun _ => False) w W1 := by rw [hW1]; exact (Kept.refl _ w).alloc _
  have hb1 : Blk W1 w.heap.size 5 (encB (List.replicate n 0)).toArray := by rw [hW1]; exact Blk.new w _ _
  have hz1 : W1.heap.size = w.heap.size + 1 := by rw [hW1]; simp
  obtain ⟨W2, hcp, hb2, hk2, hz2, hd2⟩ := copy_row (cap := n) hb1 (by simp [encB_length]) h0 (hs.kept hk1)
  have hcpi := hcp 3
  have hk02 : Kept (fun _ => False) w W2 := ((hk1.mono fun _ _ e => e.elim).trans hk2).mono fun k hk e => by
    have : k = w.heap.size := e
    omega
  have hmk := make_run n n (Nat.le_refl _) (by omega) w
  rw [← hW1] at hmk
  have h2 := h.kept hk02
  have hlt0 : ∀ k i, Fl L k i → k < w.heap.size := fun k i hk => h.lks.lt hk
  have HL0 := Lib.hid hlt0
  have HH := Lib.hid (And.intro h2 (And.intro hb2 (And.intro hk02 (And.intro hlen (And.intro h0 hn)))))
  have HZ := Lib.hid (And.intro hz1 hz2)
  clear h hs hb1 hk1 hcp hb2 hk2 hz2 hd2 hk02 h2 hlen h0 hz1 hW1 hlt0
  go_enter Try.func38, Try.ntmps38
  go_wp2_with fail
  refine (single_any W2 _ n _ n rfl).mono ?_
  rintro e W3 ⟨rfl, k1, k2, k3⟩
  obtain ⟨h2, hb2, hk02, hlen, h0, hn⟩ := HH.out
  obtain ⟨hz1, hz2⟩ := HZ.out
  have h3 := h2.kept k2
  obtain ⟨W4, hW4⟩ : ∃ W4, W4 = W3.alloc (.cells #[.pointer (some ⟨W2.heap.size + 1, 0, none⟩), .pointer (some ⟨W2.heap.size + 1, 0, none⟩), .int .i64 (n : Int)] 27) := ⟨_, rfl⟩
  have hk34 : Kept (fun _ => False) W3 W4 := by rw [hW4]; exact (Kept.refl _ W3).alloc _
  have h4 := h3.kept hk34
  obtain ⟨x, hx⟩ : ∃ x : Lk, x = ⟨W2.heap.size + 1, w.heap.size, 0, n, zs⟩ := ⟨_, rfl⟩
  have hf4 : Cn W4 B 27 W3.heap.size [x] := by
    subst hx
    refine ⟨?_, .inl rfl, ⟨⟨?_, by show 0 < zs.length; omega, by show zs.length ≤ n; omega, by show n ≤ _; omega, (encB zs).toArray, (hb2.kept k2 (fun e => e)).kept hk34 (fun e => e), by simp [encB_length, hlen], fun i z hz => by
      rw [Nat.zero_add]; simp only at hz; simp [encB, hz]⟩, trivial⟩, by simp, ⟨by have := k2.size; have := hk02.size; omega, fun y hy => ?_⟩, by simp [flat]; omega⟩
    · rw [hW4]
      have := Blk.new W3 27 #[.pointer (some ⟨W2.heap.size + 1, 0, none⟩), .pointer (some ⟨W2.heap.size + 1, 0, none⟩), .int .i64 (n : Int)]
      simpa [hdO, ltO, ptrO, flat, hlen] using this
    · have := k1.kept hk34 (fun e => e)
      simp only [hlen]; exact this
    · simp at hy; subst hy
      have := hk02.size
      exact ⟨by show B ≤ W2.heap.size + 1; omega, by show B ≤ w.heap.size; omega⟩
  have hsep : ([x] ++ L).Pairwise Apart := by
    refine List.pairwise_cons.2 ⟨fun y hy k i ho ho2 => ?_, h4.sep⟩
    have hlt := HL0.out _ _ ⟨y, hy, ho2⟩
    have := hk02.size
    subst hx
    rcases ho with e | ⟨e, _, _⟩ <;> simp only at e <;> omega
  have HJ := Lib.hid (join_any hf4 ⟨h4.lks, h4.sep, h4.lo.2⟩ hsep (by subst hx; simp [flat] at hn ⊢; omega))
  unfold linksV at HJ
  obtain ⟨m, hm⟩ : ∃ m, m = (flat L).length := ⟨_, rfl⟩
  have c0 := h3.blk.cell 0
  have c1 := h3.blk.cell 1
  have c2 := h3.blk.cell 2
  simp at c0 c1 c2
  rw [← hm] at c2 HJ
  have l4 := h3.blk.lt
  obtain ⟨p0, hp0⟩ := ptrO_ptr (hdO L)
  obtain ⟨p1, hp1⟩ := ptrO_ptr (ltO L)
  rw [hp0] at c0 HJ
  rw [hp1] at c1 HJ
  have hkk : Kept (fun _ => False) w W4 := (hk02.trans k2).trans hk34
  have HX := Lib.hid (And.intro h4 (And.intro hf4 (And.intro hkk (And.intro hx (And.intro hsep (And.intro hm hn))))))
  have HZ4 := Lib.hid hz2
  have hfc : W3.heap.size ≠ c := by have := h3.blk.lt; omega
  have HS := Lib.hid k3
  have HW := Lib.hid hW4
  clear h2 hb2 hk02 hlen h0 hn hz1 hz2 h3 hk34 h4 hx hf4 hsep hm hp0 hp1 hkk k1 k2 k3 hW4
  go_wp2_with fail
  rw [← HW.out]
  refine HJ.out.mono ?_
  rintro e W5 ⟨rfl, j1, j2⟩
  obtain ⟨h4, hf4, hkk, hx, hsep, hm, hn⟩ := HX.out
  have hcX := own_ne h4.blk h4.ht hf4.lks
  have hc5 : Blk W5 c t #[ptrO (hdO L), ptrO (ltO L), .int .i64 ((flat L).length : Int)] := h4.blk.kc j2 fun j e => by
    rcases e with e | e
    · exact hfc e.symm
    · exact hcX 0 ⟨x, by simp, .inl (Option.some.inj e).symm⟩
  have f0 := j1.blk.cell 0
  have f1 := j1.blk.cell 1
  have f2 := j1.blk.cell 2
  have l5 := j1.blk.lt
  have d0 := hc5.cell 0
  have d1 := hc5.cell 1
  have d2 := hc5.cell 2
  have g0 := hc5.frozen 0
  have g1 := hc5.frozen 1
  have g2 := hc5.frozen 2
  have l6 := hc5.lt
  simp at f0 f1 f2 d0 d1 d2
  obtain ⟨q0, hq0⟩ := ptrO_ptr (hdO (x :: L))
  obtain ⟨q1, hq1⟩ := ptrO_ptr (ltO (x :: L))
  obtain ⟨k, hk⟩ : ∃ k, k = (flat (x :: L)).length := ⟨_, rfl⟩
  rw [hq0] at f0
  rw [hq1] at f1
  rw [← hk] at f2
  have HE := Lib.hid (show ∀ W', W' = ((W5.setCell ⟨c, 0, none⟩ (.pointer q0)).setCell ⟨c, 1, none⟩ (.pointer q1)).setCell ⟨c, 2, none⟩ (.int .i64 (k : Int)) → ∃ x, x.bs = zs ∧ Cn W' B t c (x :: L) ∧ Mc w W' (Fc c L) (Fc c (x :: L)) from fun W' e => by
    subst e
    obtain ⟨s1, s2⟩ := set3 (a' := .pointer q0) (b' := .pointer q1) (d' := .int .i64 (k : Int)) hc5
    have hold : Cn W4 B t c L := h4
    have h5 : Cn W5 B t c L := h4.kc j2 fun k i hk e => by
      rcases e with e | e
      · subst e
        rcases hk with e | hk
        · exact hfc e
        · exact own_ne hf4.blk hf4.ht h4.lks i hk
      · have e : x.lb = k := Option.some.inj e
        subst e
        rcases hk with e | ⟨y, hy, ho⟩
        · exact hcX 0 ⟨x, by simp, .inl e.symm⟩
        · exact (List.pairwise_cons.1 hsep).1 y hy _ i (.inl rfl) ho
    refine ⟨x, by rw [hx], h5.take_over j1 (by rw [hq0, hq1, ← hk]; exact s1) s2, ⟨?_, fun k i hf => ?_⟩⟩
    · refine ((Kc.of_kept hkk).andThen j2 fun i j hi e => ?_).andThen s2 fun i j hi e => .inl e
      have := HS.out
      have := hkk.size
      have := HZ4.out
      have hz1 := HZ.out.1
      rcases e with e | e
      · omega
      · have e : x.lb = i := Option.some.inj e
        rw [hx] at e; simp only at e; omega
    · rcases hf with e | ⟨y, hy, ho⟩
      · exact .inl (.inl e)
      · rcases List.mem_cons.1 hy with rfl | hy
        · right
          have hz1 := HZ.out.1
          have := HZ4.out
          rw [hx] at ho
          rcases ho with e | ⟨e, _, _⟩ <;> simp only at e <;> omega
        · exact .inl (.inr ⟨y, hy, ho⟩))
  clear h4 hf4 hkk hx hsep hm hn hcX hc5 j1 j2 hq0 hq1 hk
  go_wp2_with fail
  go_end0
  exact ⟨rfl, HE.out _ rfl⟩

theorem mid_drop (zs : List Int) {r p : Nat} (h : r ≤ p) (hp : p ≤ zs.length) : (zs.take p).drop r ++ zs.drop p = zs.drop r := by
  conv => rhs; rw [← List.take_append_drop p zs, List.drop_append_of_le_length (by rw [List.length_take]; omega)]
/-- What lies between two rounds of ahead. -/
structure AheadI (w : World) (B : Nat) (t : TypeId) (c : Nat) (L : List Lk) (zs : List Int) (A : Option Addr) (cp p : Nat) (W : World) : Prop where
  ch : ∃ L', Cn W B t c L' ∧ flat L' = zs.drop p ++ flat L ∧ Mc w W (Fc c L) (Fc c L') ∧ Src W (Fc c L') A p cp (zs.take p)
  le : p ≤ zs.length

set_option maxRecDepth 100000 in
set_option maxHeartbeats 4000000 in
theorem aheadL_any (h : Cn w B t c L) {A : Option Addr} {n cp : Nat} {zs : List Int} (hs : Src w (Fc c L) A n cp zs) (hn : n + (flat L).length ≤ 1048576) :
    Calls Try.prog 44 #[.pointer (some ⟨c, 0, none⟩), .slice A n cp] w fun e w' => e = .returned (.tuple #[]) ∧ ∃ L', Cn w' B t c L' ∧ flat L' = zs ++ flat L ∧ Mc w w' (Fc c L) (Fc c L') := by
  have hlen := hs.len
  have H0 : AheadI w B t c L zs A cp n w := ⟨⟨L, h, by rw [← hlen, List.drop_length, List.nil_append], Mc.refl _ _, by rw [← hlen, List.take_length, hlen]; exact hs⟩, by omega⟩
  have H0 := Lib.hid H0
  have HN := Lib.hid (And.intro hlen hn)
  clear h hs hlen
  go_enter Try.func44, Try.ntmps44
  go_wp2_with fail
  go_loopw [1] (fun v wr => ∃ p : Nat, v = .slice A p cp ∧ AheadI w B t c L zs A cp p wr) (fun v _ => match v with | .slice _ p _ => p | _ => 0)
  case atStart => exact ⟨n, rfl, H0.out⟩
  case round =>
    obtain ⟨p, rfl, ⟨L', i1, i2, i3, i4⟩, i5⟩ := hrel
    obtain ⟨hlen, hn⟩ := HN.out
    by_cases h0 : 0 < p
    · obtain ⟨r, hr⟩ : ∃ r, r = p - 256 := ⟨_, rfl⟩
      obtain ⟨A', hcut, hsrc⟩ := i4.right (m := r) (by omega)
      obtain ⟨hcut2, hsrc2⟩ := i4.left (m := r) (by omega)
      have hfl : (flat L').length = n - p + (flat L).length := by rw [i2, List.length_append, List.length_drop, hlen]
      have HLd := Lib.hid (lead_any i1 hsrc (by omega) (by omega))
      obtain ⟨d, hd⟩ : ∃ d, d = (p : Int) - 256 := ⟨_, rfl⟩
      have e1 : IntKind.i64.wrap ((p : Int) - 256) = d := by rw [IntWalk.i64_in _ (by omega), hd]
      have e2 : (if (0 : Int) < d then d else 0) = (r : Int) := by split <;> omega
      have b1 : (0 : Int) < (p : Int) := by omega
      have b2 : decide ((0 : Int) < (p : Int)) = true := by simpa using h0
      have hc1 := hcut wr
      have HI := Lib.hid (And.intro i2 (And.intro i3 (And.intro i5 (And.intro hsrc2 (And.intro hr h0)))))
      have HC2 := Lib.hid hcut2
      clear i1 i2 i3 i4 i5 hcut hcut2 hsrc hsrc2 hfl hr hlen hn h0 hd
      go_wp2_with fail
      refine HLd.out.mono ?_
      rintro e w1 ⟨rfl, x, g1, g2, g3⟩
      have hc2 := HC2.out w1
      obtain ⟨i2, i3, i5, i4, hr, h0⟩ := HI.out
      have HE := Lib.hid (show AheadI w B t c L zs A cp r w1 from ⟨⟨x :: L', g2, by
        rw [flat_cons, g1, i2, ← List.append_assoc, mid_drop zs (by omega) i5], i3.trans g3, by rw [List.take_take, Nat.min_eq_left (by omega)] at i4; exact i4.mc g3⟩, by omega⟩)
      have HR := Lib.hid (And.intro hr h0)
      clear g1 g2 g3 i2 i3 i5 i4 hr h0 hc1 e1 e2
      go_wp2_with fail
      go_roundw
      case rel => exact ⟨r, rfl, HE.out⟩
      case measure => have := HR.out; simp; omega
    · obtain rfl : p = 0 := by omega
      have HE := Lib.hid (show ∃ L', Cn wr B t c L' ∧ flat L' = zs ++ flat L ∧ Mc w wr (Fc c L) (Fc c L') from ⟨L', i1, by simpa using i2, i3⟩)
      clear i1 i2 i3 i4 i5 h0 hlen hn
      go_wp2_with fail
      go_end0
      exact ⟨rfl, HE.out⟩
end
end Go.Proofs.Ytkhkhjkacibocaa
