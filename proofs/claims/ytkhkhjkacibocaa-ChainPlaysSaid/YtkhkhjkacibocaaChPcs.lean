/-
  pieces: the bytes from an index on, chunk by chunk.
-/
import Derived.Test.YtkhkhjkacibocaaChNest
namespace Go.Proofs.Ytkhkhjkacibocaa
open Go.RowKit Go.Maps Go.ChangeMaps Go.Shelf

attribute [local go_sem] Oper.semAt_some

def encQ (p : Pc) : Array Value := #[.int .i64 (p.at_ : Int), .slice (some ⟨p.g, p.off, none⟩) p.bs.length p.bs.length]

theorem pieces_call (w : World) (c : Nat) (f : Nat) : Calls Try.prog 39 #[.pointer (some ⟨c, 0, none⟩), .int .i64 (f : Int)] w fun e w' =>
    e = .returned (.func (.func 50) #[] #[.pointer (some ⟨w.heap.size, 0, none⟩), .pointer (some ⟨w.heap.size + 1, 0, none⟩)]) ∧
      w' = (w.alloc (.cells #[.pointer (some ⟨c, 0, none⟩)] 82)).alloc (.cells #[.int .i64 (f : Int)] 3) := by
  go_enter Try.func39, Try.ntmps39
  go_wp2
  go_ret
  exact ⟨rfl, rfl⟩

/-- What the iterator reads: of a chain its block, and its links. -/
def Hold (W : World) (c : Nat) (t : TypeId) (L : List Lk) : Prop :=
  Blk W c t #[ptrO (hdO L), ptrO (ltO L), .int .i64 ((flat L).length : Int)] ∧
  ∀ L1 x L2, L = L1 ++ x :: L2 → Blk W x.lb 72 #[.slice (some ⟨x.g, x.off, none⟩) x.bs.length x.cap, ptrO (hdO L2)] ∧ 0 < x.bs.length ∧ x.bs.length ≤ x.cap ∧ x.cap ≤ 1048576
theorem Hold.of {W : World} {B c : Nat} {t : TypeId} {L : List Lk} (h : Cn W B t c L) : Hold W c t L := ⟨h.blk, fun L1 x L2 e => by
  have hl := h.lks
  rw [e] at hl
  have h1 := Lks.drop hl
  exact ⟨h1.1.blk, h1.1.pos, h1.1.fit, h1.1.big⟩⟩
/-- The blocks that it reads. -/
def Fh (c : Nat) (L : List Lk) (k : Nat) : Prop := k = c ∨ ∃ x ∈ L, x.lb = k
theorem Hold.lt {W : World} {c : Nat} {t : TypeId} {L : List Lk} (h : Hold W c t L) {k : Nat} (hk : Fh c L k) : k < W.heap.size := by
  rcases hk with rfl | ⟨x, hx, rfl⟩
  · exact h.1.lt
  · obtain ⟨L1, L2, e⟩ := List.append_of_mem hx
    exact (h.2 L1 x L2 e).1.lt
theorem Hold.same {W W' : World} {c : Nat} {t : TypeId} {L : List Lk} (h : Hold W c t L) (e : ∀ k, Fh c L k → W'.heap[k]? = W.heap[k]?) : Hold W' c t L :=
  ⟨h.1.same (e c (.inl rfl)), fun L1 x L2 e1 => by obtain ⟨h1, h2⟩ := h.2 L1 x L2 e1; exact ⟨h1.same (e _ (.inr ⟨x, by rw [e1]; simp, rfl⟩)), h2⟩⟩

/-- Between two chunks. -/
structure ItP (J : List Pc → World → Prop) (N bL bF c f : Nat) (t : TypeId) (L : List Lk) (s : List Pc) (W : World) : Prop where
  j : J s W
  h : Hold W c t L
  boL : Boxed W bL 82 (.pointer (some ⟨c, 0, none⟩))
  boF : Boxed W bF 3 (.int .i64 (f : Int))
  sz : N + 2 ≤ W.heap.size

theorem pcs_cons (f a : Nat) (x : Lk) (L : List Lk) : pcs f a (x :: L) = if f - a < x.bs.length then ⟨a + (f - a), x.g, x.off + (f - a), x.bs.drop (f - a)⟩ :: pcs f (a + x.bs.length) L else pcs f (a + x.bs.length) L := rfl
theorem pcs_append (f : Nat) : ∀ (L M : List Lk) (a : Nat), pcs f a (L ++ M) = pcs f a L ++ pcs f (a + (flat L).length) M
  | [], M, a => by simp [pcs, flat]
  | x :: L, M, a => by
    have ih := pcs_append f L M (a + x.bs.length)
    have e : a + x.bs.length + (flat L).length = a + (flat (x :: L)).length := by rw [flat_cons, List.length_append]; omega
    rw [List.cons_append, pcs_cons, pcs_cons, ih, e]
    split
    · rw [List.cons_append]
    · rfl
theorem ItP.kept {J : List Pc → World → Prop} {N bL bF c f : Nat} {t : TypeId} {L : List Lk} {s : List Pc} {X Y : World} (h : ItP J N bL bF c f t L s X) (hJ : ∀ s A A', J s A → ChO N A A' → J s A') (k : Kept (fun _ => False) X Y) : ItP J N bL bF c f t L s Y :=
  ⟨hJ _ _ _ h.j (ChO.of_kept k), h.h.same fun i hi => k.block i (h.h.lt hi) (fun e => e), (k.block _ h.boL.lt (fun e => e)).trans h.boL, (k.block _ h.boF.lt (fun e => e)).trans h.boF, Nat.le_trans h.sz k.size⟩
theorem ItP.kp {J : List Pc → World → Prop} {N bL bF c f : Nat} {t : TypeId} {L : List Lk} {s s' : List Pc} {X Y : World} {T : Obj → Prop} {Pr : Nat → Prop} (h : ItP J N bL bF c f t L s X) (k : KpO T N Pr X Y) (hj : J s' Y) (h1 : bL < N ∧ Pr bL) (h2 : bF < N ∧ Pr bF) (h3 : ∀ k, Fh c L k → k < N ∧ Pr k) : ItP J N bL bF c f t L s' Y :=
  ⟨hj, h.h.same fun i hi => k.low i (h3 i hi).1 (h.h.lt hi) (h3 i hi).2, (k.low _ h1.1 h.boL.lt h1.2).trans h.boL, (k.low _ h2.1 h.boF.lt h2.2).trans h.boF, Nat.le_trans h.sz k.size⟩

set_option maxRecDepth 100000 in
set_option maxHeartbeats 8000000 in
theorem pieces_o (n : Nat) (hn : 4 ≤ n) {w : World} {c f : Nat} {t : TypeId} {L : List Lk} (h : Hold w c t L) (bL bF : Nat) (hL : Boxed w bL 82 (.pointer (some ⟨c, 0, none⟩))) (hF : Boxed w bF 3 (.int .i64 (f : Int))) (hf : f ≤ 1048576) (hle : (flat L).length ≤ 1048576)
    (T : Obj → Prop) (Pr : Nat → Prop) (N : Nat) (h1 : bL < N ∧ Pr bL) (h2 : bF < N ∧ Pr bF) (h3 : ∀ k, Fh c L k → k < N ∧ Pr k) :
    SeqO n Try.prog 50 #[.pointer (some ⟨bL, 0, none⟩), .pointer (some ⟨bF, 0, none⟩)] encQ T Pr (fun xs => xs = pcs f 0 L) (fun pre => ∃ r, pre ++ r = pcs f 0 L) (fun pre x => ∃ r, pre ++ x :: r = pcs f 0 L) N w := by
  intro l J Jx W hz hW hJ hJx hY h0
  have H0 : ItP J N bL bF c f t L [] W := ⟨h0, h.same fun k hk => hW k (h3 k hk).1, (hW bL h1.1).trans hL, (hW bF h2.1).trans hF, hz⟩
  have cL := H0.boL.cell
  have lL := H0.boL.lt
  have c0 := H0.h.1.cell 0
  simp at c0
  have lc := H0.h.1.lt
  have H0 := Lib.hid H0
  have HJ := Lib.hid (And.intro hJ hJx)
  have HY := Lib.hid hY
  have HP := Lib.hid (And.intro h1 (And.intro h2 h3))
  clear hY h0 hW hL hF hJ hJx h1 h2 h3 h
  refine callsIn_of_wp Try.func50 rfl trivial ?_ rfl
  simp only [Try.ntmps50, List.size_toArray, List.length_cons, List.length_nil, Nat.reduceAdd, Nat.reduceSub, Array.replicate_succ, Array.replicate_zero, List.push_toArray, List.append_toArray, List.nil_append, List.cons_append]
  gi_wp2_with fail
  gi_loopw [4, 5] (fun v p wr => ∃ L1 L2, L = L1 ++ L2 ∧ v = .int .i64 ((flat L1).length : Int) ∧ p = ptrO (hdO L2) ∧ ItP J N bL bF c f t L (pcs f 0 L1) wr) (fun v _ _ => 1048577 - (intOf v).toNat)
  case atStart => exact ⟨[], L, rfl, rfl, rfl, H0.out⟩
  case round =>
    obtain ⟨L1, L2, hLL, rfl, rfl, hI⟩ := hrel
    have cL := hI.boL.cell
    have cF := hI.boF.cell
    have lL := hI.boL.lt
    have lF := hI.boF.lt
    have c2 := hI.h.1.cell 2
    simp at c2
    have lc := hI.h.1.lt
    obtain ⟨m, hm⟩ : ∃ m, m = (flat L).length := ⟨_, rfl⟩
    obtain ⟨a, ha⟩ : ∃ a, a = (flat L1).length := ⟨_, rfl⟩
    rw [← hm] at c2 hle
    rw [← ha]
    cases L2 with
    | nil =>
      have HE := Lib.hid (show ∃ xs, xs = pcs f 0 L ∧ J xs wr from ⟨_, by rw [hLL, List.append_nil], hI.j⟩)
      clear hI
      have hpn : ptrO (hdO ([] : List Lk)) = .pointer none := rfl
      rw [hpn]
      gi_wp2_with fail
      go_end0
      exact ⟨⟨_, rfl⟩, .inl HE.out⟩
    | cons x L3 =>
      obtain ⟨hb, hpos, hfit, hbig⟩ := hI.h.2 L1 x L3 hLL
      have hall : m = a + x.bs.length + (flat L3).length := by rw [hm, hLL, flat_append, flat_cons, List.length_append, List.length_append, ha]; omega
      obtain ⟨q, hq⟩ : ∃ q, q = x.lb := ⟨_, rfl⟩
      obtain ⟨g, hg⟩ : ∃ g, g = x.g := ⟨_, rfl⟩
      obtain ⟨o, ho⟩ : ∃ o, o = x.off := ⟨_, rfl⟩
      obtain ⟨cp, hcp⟩ : ∃ cp, cp = x.cap := ⟨_, rfl⟩
      obtain ⟨ln, hln⟩ : ∃ ln, ln = x.bs.length := ⟨_, rfl⟩
      have hpx : ptrO (hdO (x :: L3)) = .pointer (some ⟨q, 0, none⟩) := by rw [hq]; rfl
      rw [hpx]
      rw [← hq, ← hg, ← ho, ← hcp, ← hln] at hb
      rw [← hln] at hpos hfit hall
      rw [← hcp] at hfit hbig
      have g0 := hb.cell 0
      have g1 := hb.cell 1
      simp at g0 g1
      have lq := hb.lt
      obtain ⟨s, hs⟩ : ∃ s, s = f - a := ⟨_, rfl⟩
      obtain ⟨d, hd⟩ : ∃ d, d = (f : Int) - (a : Int) := ⟨_, rfl⟩
      have e1 : IntKind.i64.wrap ((f : Int) - (a : Int)) = d := by rw [IntWalk.i64_in _ (by omega), hd]
      have e2 : (if (0 : Int) < d then d else 0) = (s : Int) := by split <;> omega
      have e3 : IntKind.i64.wrap ((a : Int) + (s : Int)) = ((a + s : Nat) : Int) := by rw [IntWalk.i64_in _ (by omega)]; omega
      have e4 : IntKind.i64.wrap ((a : Int) + (ln : Int)) = ((a + ln : Nat) : Int) := by rw [IntWalk.i64_in _ (by omega)]; omega
      have b1 : (a : Int) < (m : Int) := by omega
      have hpc : pcs f 0 (L1 ++ [x]) = if s < ln then pcs f 0 L1 ++ [⟨a + s, g, o + s, x.bs.drop s⟩] else pcs f 0 L1 := by
        rw [pcs_append, Nat.zero_add, ← ha, pcs_cons, ← hs, ← hln, ← hg, ← ho]
        split <;> simp [pcs]
      have hpl : ∃ r, pcs f 0 (L1 ++ [x]) ++ r = pcs f 0 L := ⟨pcs f (a + ln) L3, by rw [hLL, show L1 ++ x :: L3 = (L1 ++ [x]) ++ L3 by simp, pcs_append f (L1 ++ [x]), flat_append, List.length_append, ← ha, show (flat [x]).length = ln by rw [hln]; simp [flat], Nat.zero_add]⟩
      have hfl : (flat (L1 ++ [x])).length = a + ln := by rw [flat_append, List.length_append, ← ha, hln]; simp [flat]
      have hlq : L = (L1 ++ [x]) ++ L3 := by rw [hLL]; simp
      have HB := Lib.hid (And.intro hpc (And.intro hpl (And.intro hfl (And.intro hlq (And.intro hLL (And.intro hq (And.intro hg (And.intro ho (And.intro hcp hln)))))))))
      have HA := Lib.hid (And.intro hm (And.intro ha (And.intro hall (And.intro hpos (And.intro hle (And.intro hs hd))))))
      by_cases hsl : s < ln
      · have b2 : (s : Int) < (ln : Int) := by omega
        have b3 : decide ((s : Int) < (ln : Int)) = true := by simpa using hsl
        have b4 : (0 : Int) ≤ (s : Int) := by omega
        have b5 : (s : Int) ≤ (ln : Int) := by omega
        have b6 : (ln : Int) ≤ (cp : Int) := by omega
        have b7 : s ≤ ln := by omega
        have b8 : ln ≤ cp := by omega
        have b9 : ¬ ln = s := by omega
        have b10 : (0 : Int) ≤ (ln : Int) := by omega
        rw [if_pos hsl] at hpc
        obtain ⟨fn, tmps, assign, body, hy, hR⟩ := HY.out (pcs f 0 L1) ⟨a + s, g, o + s, x.bs.drop s⟩ wr hI.j (by obtain ⟨r, hr⟩ := hpl; exact ⟨r, by rw [← hr, hpc]; simp⟩)
        have hdl : (x.bs.drop s).length = ln - s := by rw [List.length_drop, hln]
        simp only [encQ, hdl] at hy
        rw [show ((a + s : Nat) : Int) = (a : Int) + (s : Int) by omega] at hy
        have HI := Lib.hid (And.intro hI (And.intro hpc hsl))
        clear hI hpc hsl hpl hfl hlq hLL hq hg ho hcp hln hm ha hall hpos hle hs hd hb hfit hbig hpx hdl
        gi_wp2_with fail
        refine ⟨fun _ => by omega, hR.mono ?_⟩
        rintro ex W3 ⟨hjj, hk3⟩
        obtain ⟨hI, hpc, hsl⟩ := HI.out
        obtain ⟨h1, h2, h3⟩ := HP.out
        rcases hjj with ⟨rfl, hj⟩ | ⟨rfl, hj⟩
        · rw [← hpc] at hj
          have S3 := hI.kp hk3 hj h1 h2 h3
          obtain ⟨hb3, _⟩ := S3.h.2 L1 x L3 HB.out.2.2.2.2.1
          rw [← HB.out.2.2.2.2.2.1] at hb3
          obtain ⟨p1, hp1⟩ := ptrO_ptr (hdO L3)
          have k1 := hb3.cell 1
          simp at k1
          rw [hp1] at k1
          have kl := hb3.lt
          have HE := Lib.hid (And.intro S3 hp1)
          clear hI hpc hsl hj S3 hk3 hR hy cL cF hb3 hp1 g0 g1 c2
          gi_wp2_with fail
          refine ⟨⟨L1 ++ [x], L3, HB.out.2.2.2.1, by rw [HB.out.2.2.1, show ((a + ln : Nat) : Int) = (a : Int) + (ln : Int) by omega], HE.out.2.symm, HE.out.1⟩, ?_⟩
          obtain ⟨_, _, hall, hpos, hle, _, _⟩ := HA.out
          simp [intOf]; omega
        · have HE := Lib.hid (show ∃ pre, (∃ r, pre ++ r = pcs f 0 L) ∧ Jx pre W3 from ⟨_, (by rw [← hpc]; exact HB.out.2.1), hj⟩)
          clear hI hpc hsl hj hk3 hR hy cL cF
          gi_wp2_with fail
          exact bodyPost_ret (results_none rfl _ _ _) rfl ⟨⟨_, rfl⟩, .inr HE.out⟩
      · rw [if_neg hsl] at hpc
        have b2 : decide ((s : Int) < (ln : Int)) = false := by simp; omega
        have b3 : ¬ s < ln := hsl
        have b4 : decide (s < ln) = false := by simpa using hsl
        obtain ⟨p1, hp1⟩ := ptrO_ptr (hdO L3)
        rw [hp1] at g1
        have HE := Lib.hid (show ItP J N bL bF c f t L (pcs f 0 (L1 ++ [x])) wr ∧ ptrO (hdO L3) = .pointer p1 from ⟨by rw [hpc]; exact hI, hp1⟩)
        clear hI hpc hsl hpl hfl hlq hLL hq hg ho hcp hln hm ha hall hpos hle hs hd hb hfit hbig hpx hp1
        gi_wp2_with fail
        refine ⟨fun _ h => (by cases h), ?_⟩
        gi_wp2_with fail
        refine ⟨⟨L1 ++ [x], L3, HB.out.2.2.2.1, by rw [HB.out.2.2.1, show ((a + ln : Nat) : Int) = (a : Int) + (ln : Int) by omega], HE.out.2.symm, HE.out.1⟩, ?_⟩
        obtain ⟨_, _, hall, hpos, hle, _, _⟩ := HA.out
        simp [intOf]; omega
end Go.Proofs.Ytkhkhjkacibocaa
