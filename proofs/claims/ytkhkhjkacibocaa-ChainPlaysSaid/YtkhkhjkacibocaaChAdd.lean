/-
  add: bytes go to the room that the last chunk has, and in new chunks; Add, Ahead.
-/
import Derived.Test.YtkhkhjkacibocaaChNest
namespace Go.Proofs.Ytkhkhjkacibocaa
open Go.RowKit Go.Maps Go.ChangeMaps Go.Shelf

section
variable {w w' : World} {B c : Nat} {t : TypeId} {L L0 : List Lk} {y y' : Lk} {D : Nat → Nat → Prop}

theorem Lks.last : ∀ {L0 : List Lk}, Lks w (L0 ++ [y]) → Kc D w w' → (∀ k i, D k i → Own y k i ∨ k = c) → (L0 ++ [y]).Pairwise Apart → (∀ i, ¬ Fl (L0 ++ [y]) c i) → y'.lb = y.lb → LkAt w' y' none → Lks w' (L0 ++ [y'])
  | [], h, _, _, _, _, _, hy => ⟨hy, trivial⟩
  | x :: L0, h, k, hD, hs, hc, he, hy => by
    have ih := Lks.last (L0 := L0) h.2 k hD (List.pairwise_cons.1 hs).2 (fun i ⟨z, hz, ho⟩ => hc i ⟨z, List.mem_cons_of_mem _ hz, ho⟩) he hy
    have ha := (List.pairwise_cons.1 hs).1 y (by simp)
    have hh : hdO (L0 ++ [y']) = hdO (L0 ++ [y]) := by
      cases L0 with
      | nil => show some y'.lb = some y.lb; rw [he]
      | cons z L0 => rfl
    refine ⟨?_, ih⟩
    have h1 := h.1.kc k fun j i ho hd => by
      rcases hD j i hd with h2 | rfl
      · exact ha j i ho h2
      · exact hc i ⟨x, by simp, ho⟩
    show LkAt w' x (hdO (L0 ++ [y']))
    rw [hh]; exact h1
theorem Lks.lastAt : ∀ {L0 : List Lk}, Lks w (L0 ++ [y]) → LkAt w y none
  | [], h => h.1
  | _ :: _, h => Lks.lastAt h.2
theorem ltO_snoc (L0 : List Lk) (y : Lk) : ltO (L0 ++ [y]) = some y.lb := by simp [ltO]

/-- The last chunk has more bytes. -/
theorem Cn.grown {zs : List Int} (h : Cn w B t c (L0 ++ [y])) (k : Kc D w w') (hD : ∀ k i, D k i → Own y k i ∨ k = c) (hfit : y.bs.length + zs.length ≤ y.cap) (hle : (flat (L0 ++ [y])).length + zs.length ≤ 1048576)
    (b1 : Blk w' c t #[ptrO (hdO (L0 ++ [y])), ptrO (some y.lb), .int .i64 (((flat (L0 ++ [y])).length + zs.length : Nat) : Int)])
    (b2 : Blk w' y.lb 72 #[.slice (some ⟨y.g, y.off, none⟩) (y.bs.length + zs.length) y.cap, .pointer none])
    (b3 : ∃ cs, Blk w' y.g 5 cs ∧ y.off + y.cap ≤ cs.size ∧ ∀ i z, (y.bs ++ zs)[i]? = some z → cs[y.off + i]? = some (.int .u8 z)) :
    ∃ L', Cn w' B t c L' ∧ flat L' = flat (L0 ++ [y]) ++ zs ∧ Mc w w' (Fc c (L0 ++ [y])) (Fc c L') := by
  obtain ⟨nx, hy⟩ := h.lks.mem (x := y) (by simp)
  have hp := hy.pos
  have hfl : flat (L0 ++ [⟨y.lb, y.g, y.off, y.cap, y.bs ++ zs⟩]) = flat (L0 ++ [y]) ++ zs := by simp [flat]
  have hhd : hdO (L0 ++ [⟨y.lb, y.g, y.off, y.cap, y.bs ++ zs⟩]) = hdO (L0 ++ [y]) := by cases L0 <;> rfl
  have hcc := own_ne h.blk h.ht h.lks
  have hown : ∀ k i, Own ⟨y.lb, y.g, y.off, y.cap, y.bs ++ zs⟩ k i ↔ Own y k i := fun k i => Iff.rfl
  have hFc : ∀ k i, Fc c (L0 ++ [⟨y.lb, y.g, y.off, y.cap, y.bs ++ zs⟩]) k i → Fc c (L0 ++ [y]) k i := fun k i hk => by
    rcases hk with e | ⟨z, hz, ho⟩
    · exact .inl e
    · rcases List.mem_append.1 hz with hz | hz
      · exact .inr ⟨z, List.mem_append_left _ hz, ho⟩
      · simp at hz; subst hz
        exact .inr ⟨y, by simp, ho⟩
  refine ⟨L0 ++ [⟨y.lb, y.g, y.off, y.cap, y.bs ++ zs⟩], ⟨?_, h.ht, ?_, ?_, ⟨h.lo.1, fun z hz => ?_⟩, ?_⟩, hfl, ⟨?_, fun k i hk => .inl (hFc k i hk)⟩⟩
  · rw [hfl, hhd, ltO_snoc, List.length_append]; exact b1
  · refine Lks.last (y := y) h.lks k hD h.sep hcc rfl ⟨?_, ?_, ?_, hy.big, ?_⟩
    · simp only [List.length_append]; exact b2
    · simp only [List.length_append]; omega
    · simp only [List.length_append]; exact hfit
    · exact b3
  · obtain ⟨s1, s2, s3⟩ := List.pairwise_append.1 h.sep
    refine List.pairwise_append.2 ⟨s1, by simp, fun a ha b hb k i ho ho2 => ?_⟩
    simp at hb; subst hb
    exact s3 a ha y (by simp) k i ho ho2
  · rcases List.mem_append.1 hz with hz | hz
    · exact h.lo.2 z (List.mem_append_left _ hz)
    · simp at hz; subst hz
      exact h.lo.2 y (by simp)
  · rw [hfl, List.length_append]; exact hle
  · exact k.mono fun i j _ hd => by
      rcases hD i j hd with e | e
      · exact .inr ⟨y, by simp, e⟩
      · exact .inl e

/-- slices.Chunk, 256 bytes a piece. -/
theorem chunk_call (w : World) (A : Option Addr) (n cp : Nat) : Calls Try.prog 51 #[.slice A n cp, .int .i64 256] w fun e w' =>
    e = .returned (.func (.func 53) #[] #[.pointer (some ⟨w.heap.size, 0, none⟩), .pointer (some ⟨w.heap.size + 1, 0, none⟩)]) ∧
      w' = (w.alloc (.cells #[.slice A n cp] 31)).alloc (.cells #[.int .i64 256] 3) := by
  go_enter Try.func51, Try.ntmps51
  go_wp2
  go_ret
  exact ⟨rfl, rfl⟩
end

/-- A piece of n bytes, from index i on. -/
def encK (b o n : Nat) (i : Nat) : Array Value := #[.slice (some ⟨b, o + i, none⟩) (min 256 (n - i)) (min 256 (n - i))]
/-- Between two pieces. -/
structure CkS (J : List Nat → World → Prop) (N bS bN : Nat) (A : Option Addr) (n cp : Nat) (s : List Nat) (W : World) : Prop where
  j : J s W
  boS : Boxed W bS 31 (.slice A n cp)
  boN : Boxed W bN 3 (.int .i64 256)
  sz : N + 2 ≤ W.heap.size

attribute [local go_sem] Oper.semAt_some
set_option maxRecDepth 100000 in
set_option maxHeartbeats 8000000 in
theorem chunk_o (m : Nat) (hm : 4 ≤ m) {w : World} (bS bN b o n cp : Nat) (A : Option Addr) (hS : Boxed w bS 31 (.slice A n cp)) (hN : Boxed w bN 3 (.int .i64 256)) (hA : 0 < n → A = some ⟨b, o, none⟩) (hnc : n ≤ cp) (hn : n ≤ 2097152) (hcp : cp ≤ 9223372036854775807)
    (T : Obj → Prop) (Pr : Nat → Prop) (N : Nat) (h1 : bS < N ∧ Pr bS) (h2 : bN < N ∧ Pr bN) :
    SeqO m Try.prog 53 #[.pointer (some ⟨bS, 0, none⟩), .pointer (some ⟨bN, 0, none⟩)] (encK b o n) T Pr (fun xs => n ≤ 256 * xs.length) (fun _ => True) (fun pre x => x = 256 * pre.length ∧ x < n) N w := by
  intro l J Jx W hz hW hJ hJx hY h0
  have H0 : CkS J N bS bN A n cp [] W := ⟨h0, (hW bS h1.1).trans hS, (hW bN h2.1).trans hN, hz⟩
  have H0 := Lib.hid H0
  have HJ := Lib.hid (And.intro hJ hJx)
  have HY := Lib.hid hY
  have HP := Lib.hid (And.intro h1 h2)
  have HA := Lib.hid hA
  clear hY h0 hW hS hN hJ hJx h1 h2 hA
  refine callsIn_of_wp Try.func53 rfl trivial ?_ rfl
  simp only [Try.ntmps53, List.size_toArray, List.length_cons, List.length_nil, Nat.reduceAdd, Nat.reduceSub, Array.replicate_succ, Array.replicate_zero, List.push_toArray, List.append_toArray, List.nil_append, List.cons_append]
  gi_wp2_with fail
  gi_loopw [4] (fun v wr => ∃ k : Nat, v = .int .i64 ((256 * k : Nat) : Int) ∧ 256 * k ≤ n + 255 ∧ ∃ s, s.length = k ∧ CkS J N bS bN A n cp s wr) (fun v _ => n + 256 - (intOf v).toNat)
  case atStart => exact ⟨0, rfl, by omega, [], rfl, H0.out⟩
  case round =>
    obtain ⟨k, rfl, hk, s, hsl, hI⟩ := hrel
    have cS := hI.boS.cell
    have cN := hI.boN.cell
    have lS := hI.boS.lt
    have lN := hI.boN.lt
    obtain ⟨i, hi⟩ : ∃ i, i = 256 * k := ⟨_, rfl⟩
    rw [← hi] at hk ⊢
    by_cases hlt : i < n
    · have hA := HA.out (by omega)
      obtain ⟨e, he⟩ : ∃ e, e = min 256 (n - i) := ⟨_, rfl⟩
      have e1 : (if ((n - i : Nat) : Int) < 256 then ((n - i : Nat) : Int) else 256) = (e : Int) := by split <;> omega
      have e2 : IntKind.i64.wrap ((i : Int) + (e : Int)) = ((i + e : Nat) : Int) := by rw [IntWalk.i64_in _ (by omega)]; omega
      have b1 : (i : Int) < (n : Int) := by omega
      have b2 : (0 : Int) ≤ (i : Int) := by omega
      have b3 : (i : Int) ≤ (n : Int) := by omega
      have b4 : (n : Int) ≤ (cp : Int) := by omega
      have b5 : (i : Int) ≤ (cp : Int) := by omega
      have b6 : i ≤ n := by omega
      have b7 : i ≤ cp := by omega
      have b8 : ¬ cp = i := by omega
      have b9 : ¬ n = i := by omega
      have HI := Lib.hid (And.intro hI (And.intro hsl (And.intro hi (And.intro hk (And.intro hlt he)))))
      subst hA
      clear hI hsl hi hk hlt he
      gi_wp2_with fail
      refine wpIn_wide.2 ?_
      go_quiet (fail)
      obtain ⟨q1, rfl⟩ : ∃ q1 : Nat, q1 = nq := ⟨_, rfl⟩
      obtain ⟨hI, hsl, hi, hk, hlt, he⟩ := HI.out
      have hJ1 := HJ.out.1 _ _ _ hI.j (ChO.of_kept ((Kept.refl _ wr).drewN q1))
      obtain ⟨fn, tmps, assign, body, hy, hR⟩ := HY.out s i (wr.drewN q1) hJ1 ⟨by rw [hsl]; exact hi, hlt⟩
      simp only [encK, ← he] at hy
      have b10 : (0 : Int) ≤ ((i + e : Nat) : Int) := by omega
      have b11 : (i : Int) ≤ ((i + e : Nat) : Int) := by omega
      have b12 : ((i + e : Nat) : Int) ≤ (cp : Int) := by omega
      have b13 : i ≤ i + e := by omega
      have b14 : i + e ≤ cp := by omega
      have b15 : ¬ i + e = i := by omega
      have b16 : ¬ e = 0 := by omega
      have HI2 := Lib.hid (And.intro hI (And.intro hsl (And.intro hi (And.intro hk (And.intro hlt he)))))
      clear hI hsl hi hk hlt he hJ1
      gi_wp2_with fail
      refine ⟨fun _ => by omega, hR.mono ?_⟩
      rintro ex W3 ⟨hjj, hk3⟩
      obtain ⟨hI, hsl, hi, hk, hlt, he⟩ := HI2.out
      obtain ⟨h1, h2⟩ := HP.out
      have s3 : ∀ s', J s' W3 → CkS J N bS bN (some ⟨b, o, none⟩) n cp s' W3 := fun s' hj => ⟨hj, (hk3.low _ h1.1 hI.boS.lt h1.2).trans hI.boS, (hk3.low _ h2.1 hI.boN.lt h2.2).trans hI.boN, Nat.le_trans hI.sz hk3.size⟩
      rcases hjj with ⟨rfl, hj⟩ | ⟨rfl, hj⟩
      · have S3 := s3 _ hj
        have cN3 := S3.boN.cell
        have lN3 := S3.boN.lt
        have e3 : IntKind.i64.wrap ((i : Int) + 256) = ((256 * (k + 1) : Nat) : Int) := by rw [IntWalk.i64_in _ (by omega)]; omega
        have HE := Lib.hid (And.intro S3 (And.intro hsl (And.intro hi (And.intro hk hlt))))
        clear hI hsl hi hk hlt he hj s3 S3 hk3 hR hy cS cN
        gi_wp2_with fail
        refine ⟨⟨k + 1, by rw [show ((256 * (k + 1) : Nat) : Int) = 256 * ((k : Int) + 1) by omega], by obtain ⟨_, _, hi, _, hlt⟩ := HE.out; omega, s ++ [i], by rw [List.length_append, HE.out.2.1]; rfl, HE.out.1⟩, ?_⟩
        obtain ⟨_, _, hi, _, hlt⟩ := HE.out
        simp [intOf]; omega
      · have HX := Lib.hid hj
        clear hI hsl hi hk hlt he hj s3 hk3 hR hy cS cN
        gi_wp2_with fail
        exact bodyPost_ret (results_none rfl _ _ _) rfl ⟨⟨_, rfl⟩, .inr ⟨_, trivial, HX.out⟩⟩
    · have HE := Lib.hid (show (∃ xs, n ≤ 256 * xs.length ∧ J xs wr) from ⟨s, by omega, hI.j⟩)
      have b1 : (n : Int) ≤ (i : Int) := by omega
      have b2 : ¬ (i : Int) < (n : Int) := by omega
      clear hI hsl hi hk hlt
      gi_wp2_with fail
      go_end0
      exact ⟨⟨_, rfl⟩, .inl HE.out⟩

section
variable {w : World} {B c : Nat} {t : TypeId} {L : List Lk} {A : Option Addr} {n cp : Nat} {zs : List Int}

/-- Behind the room of the last chunk. -/
structure AddM (w : World) (B : Nat) (t : TypeId) (c : Nat) (L : List Lk) (zs : List Int) (n cp n1 : Nat) (L1 : List Lk) (A1 : Option Addr) (W : World) : Prop where
  cc : Cn W B t c L1
  box : Boxed W w.heap.size 82 (.pointer (some ⟨c, 0, none⟩))
  all : flat L1 = flat L ++ zs.take n1
  le : n1 ≤ n
  m : Mc w W (Fc c L) (Fc c L1)
  src : Src W (Fc c L1) A1 (n - n1) (cp - n1) (zs.drop n1)

/-- Between two pieces. -/
structure AddR (w : World) (B : Nat) (t : TypeId) (c : Nat) (L1 : List Lk) (ys : List Int) (r rc : Nat) (L : List Lk) (A1 : Option Addr) (k : Nat) (W : World) : Prop where
  ch : ∃ L', Cn W B t c L' ∧ flat L' = flat L1 ++ ys.take (256 * k) ∧ Mc w W (Fc c L) (Fc c L') ∧ Src W (Fc c L') A1 r rc ys
  box : Boxed W w.heap.size 82 (.pointer (some ⟨c, 0, none⟩))
  sz : w.heap.size ≤ W.heap.size

theorem AddR.chR {L1 : List Lk} {ys : List Int} {r rc : Nat} {A1 : Option Addr} {k N : Nat} {X Y : World} (h : AddR w B t c L1 ys r rc L A1 k X) (hc : ChR N X Y) (hN : w.heap.size ≤ N) : AddR w B t c L1 ys r rc L A1 k Y := by
  obtain ⟨⟨L', h1, h2, h3, h4⟩, h5, h6⟩ := h
  exact ⟨⟨L', h1.chR hc, h2, h3.chR hc hN, h4.chR hc⟩, boxed_chR h5 hc, Nat.le_trans h6 hc.size⟩

set_option maxRecDepth 100000 in
set_option maxHeartbeats 8000000 in
theorem addL_any (h : Cn w B t c L) (hs : Src w (Fc c L) A n cp zs) (hn : n + (flat L).length ≤ 1048576) :
    Calls Try.prog 41 #[.pointer (some ⟨c, 0, none⟩), .slice A n cp] w fun e w' => e = .returned (.tuple #[]) ∧ ∃ L', Cn w' B t c L' ∧ flat L' = flat L ++ zs ∧ Mc w w' (Fc c L) (Fc c L') := by
  have hlen := hs.len
  have hcl := h.blk.lt
  have hB := h.base
  obtain ⟨V, hV⟩ : ∃ V, V = w.alloc (.cells #[.pointer (some ⟨c, 0, none⟩)] 82) := ⟨_, rfl⟩
  have hkV : Kept (fun _ => False) w V := by rw [hV]; exact (Kept.refl _ w).alloc _
  have hVz : V.heap.size = w.heap.size + 1 := by rw [hV]; simp
  have M0 : AddM w B t c L zs n cp 0 L A V := ⟨h.kept hkV, by rw [hV]; exact Boxed.new w _ _, by simp, Nat.zero_le _, Mc.of_kept hkV, by simpa using hs.kept hkV⟩
  have M0 := Lib.hid M0
  have HV := Lib.hid hV
  have HN := Lib.hid (And.intro hlen (And.intro hn (And.intro hs.le hs.big)))
  clear h hs hV hkV hlen
  refine (callsIn_wide (n := 5)).1 ?_
  refine callsIn_of_wp_marks Try.func41 rfl trivial ?_ rfl
  simp only [Try.ntmps41, List.size_toArray, List.length_cons, List.length_nil, Nat.reduceAdd, Nat.reduceSub, Array.replicate_succ, Array.replicate_zero, List.push_toArray, List.append_toArray, List.nil_append, List.cons_append]
  refine wpIn_wide.2 ?_
  have hb := M0.out.cc.blk
  have l1 := hb.lt
  have cb := M0.out.box.cell
  have lb := M0.out.box.lt
  rw [HV.out] at hb l1 cb lb
  have c1 := hb.cell 1
  simp at c1
  have f2 := hb.frozen 2
  have c2 := hb.cell 2
  simp at c2
  obtain ⟨p0, hp0⟩ := ptrO_ptr (ltO L)
  rw [hp0] at c1
  go_upto_if 12 with fail
  rw [← HV.out] at c1 c2 f2 cb l1 lb ⊢
  go_cut [1] from 4 (fun s1 wx => ∃ n1 L1 A1, s1 = .slice A1 (n - n1) (cp - n1) ∧ AddM w B t c L zs n cp n1 L1 A1 wx)
  case first =>
    by_cases hL : L = []
    · rw [hL] at hp0
      have hp0 : Value.pointer none = .pointer p0 := hp0
      injection hp0 with hp0
      subst hp0
      clear c1 c2 hb
      go_wp2_with fail
      go_meet
      case rel => exact ⟨0, L, A, by simp, M0.out⟩
    · obtain ⟨L0, y, rfl⟩ : ∃ L0 y, L = L0 ++ [y] := by
        rcases List.eq_nil_or_concat L with e | ⟨L0, y, e⟩
        · exact absurd e hL
        · exact ⟨L0, y, by rw [e, List.concat_eq_append]⟩
      rw [ltO_snoc] at hp0
      have hp0 : Value.pointer (some ⟨y.lb, 0, none⟩) = .pointer p0 := hp0
      injection hp0 with hp0
      subst hp0
      have hy := Lks.lastAt M0.out.cc.lks
      have hyb := hy.blk
      obtain ⟨cs, d1, d2, d3⟩ := hy.dat
      have hfit := hy.fit
      have hbig := hy.big
      obtain ⟨q, hq⟩ : ∃ q, q = y.lb := ⟨_, rfl⟩
      obtain ⟨g, hg⟩ : ∃ g, g = y.g := ⟨_, rfl⟩
      obtain ⟨o, ho⟩ : ∃ o, o = y.off := ⟨_, rfl⟩
      obtain ⟨yc, hyc⟩ : ∃ yc, yc = y.cap := ⟨_, rfl⟩
      obtain ⟨ln, hln⟩ : ∃ ln, ln = y.bs.length := ⟨_, rfl⟩
      obtain ⟨m, hm⟩ : ∃ m, m = (flat (L0 ++ [y])).length := ⟨_, rfl⟩
      obtain ⟨n1, hn1⟩ : ∃ n1, n1 = min n (yc - ln) := ⟨_, rfl⟩
      rw [← hq, ← hg, ← ho, ← hyc, ← hln] at hyb
      rw [← hq] at c1 ⊢
      rw [← hg] at d1
      rw [← ho, ← hyc] at d2
      rw [← hln, ← hyc] at hfit
      rw [← hyc] at hbig
      rw [← hm] at c2
      have g0 := hyb.cell 0
      simp at g0
      have fq := hyb.frozen 0
      have lq := hyb.lt
      have hqc : q ≠ c := fun e => by
        subst e
        exact own_ne M0.out.cc.blk M0.out.cc.ht M0.out.cc.lks 0 ⟨y, by simp, .inl hq⟩
      have hqg : q ≠ g := fun e => by rw [hq, hg] at e; exact hy.ne e
      have hgc : g ≠ c := fun e => by
        subst e
        exact own_ne M0.out.cc.blk M0.out.cc.ht M0.out.cc.lks y.off ⟨y, by simp, .inr ⟨hg, Nat.le_refl _, by have := hy.pos; have := hy.fit; omega⟩⟩
      have hmle : n + m ≤ 1048576 := by rw [hm]; exact HN.out.2.1
      have hncp := HN.out.2.2.1
      obtain ⟨hsl, hsrc⟩ := (by simpa using M0.out.src : Src V (Fc c (L0 ++ [y])) A n cp zs).left (m := n1) (by omega)
      obtain ⟨A2, hsr, hsrc2⟩ := (by simpa using M0.out.src : Src V (Fc c (L0 ++ [y])) A n cp zs).right (m := n1) (by omega)
      have e1 : IntKind.i64.wrap ((yc : Int) - (ln : Int)) = ((yc - ln : Nat) : Int) := by rw [IntWalk.i64_in _ (by omega)]; omega
      have e2 : (if yc - ln < n then ((yc - ln : Nat) : Int) else (n : Int)) = (n1 : Int) := by split <;> omega
      have HG := Lib.hid (And.intro hyb (And.intro d1 (And.intro d2 (And.intro d3 (And.intro hfit (And.intro hsrc (And.intro hsrc2 (And.intro hsl (And.intro hsr (And.intro hb hn1))))))))))
      have HQ := Lib.hid (And.intro hq (And.intro hg (And.intro ho (And.intro hyc (And.intro hln (And.intro hm (And.intro hy.pos hmle)))))))
      have HQ2 := Lib.hid (And.intro hqc (And.intro hqg hgc))
      clear hyb d1 d2 d3 hfit hsrc hsrc2 hsl hsr hn1 hq hg ho hyc hln hm hmle hncp hy hb hqg hgc hbig
      go_wp2_with fail
      go_quiet (fail)
      obtain ⟨q1, rfl⟩ : ∃ q1 : Nat, q1 = nq := ⟨_, rfl⟩
      obtain ⟨hyb, d1, d2, d3, hfit, hsrc, hsrc2, hsl, hsr, hb, hn1⟩ := HG.out
      have hkx : Kept (fun _ => False) V (V.drewN (q1 + 1)) := (Kept.refl _ V).drewN (q1 + 1)
      obtain ⟨W2, hap, hw⟩ := app_room (W := V.drewN (q1 + 1)) (g := g) (o := o) (len := ln) (cap := yc) (d1.kept hkx (fun e => e)) d2 (by omega) (hsrc.kept hkx)
      have HAp := Lib.hid hap
      have hslx := hsl (V.drewN (q1 + 1))
      have hwb : ∀ k, k < V.heap.size → k ≠ g → W2.heap[k]? = V.heap[k]? := fun k hk hne => hw.k.same hk fun j e => hne e.1
      obtain ⟨hqc, hqg, hgc⟩ := HQ2.out
      have lz := hw.size
      have hgw : w.heap.size ≠ g := fun e => by
        have := M0.out.box
        unfold Boxed at this
        have d1' := d1
        unfold Blk at d1'
        rw [← e, this] at d1'
        injection d1' with d1'; injection d1' with _ d1'; revert d1'; decide
      have hqw : w.heap.size ≠ q := fun e => by
        have h1 := M0.out.box
        have h2 := hyb
        unfold Boxed at h1
        unfold Blk at h2
        rw [e, h2] at h1
        injection h1 with h1; injection h1 with _ h1; revert h1; decide
      have hcw : w.heap.size ≠ c := by omega
      have hcq : c ≠ q := hqc.symm
      have hyb2 := hyb.same (hwb q lq hqg)
      have hbx2 : Boxed W2 w.heap.size 82 (.pointer (some ⟨c, 0, none⟩)) := (hwb _ lb hgw).trans M0.out.box
      have hcb2 := M0.out.cc.blk.same (hwb c l1 hgc.symm)
      have m0 := hyb2.cell 0
      have mf := hyb2.frozen 0
      have mb := hbx2.cell
      have mc := hcb2.cell 2
      have mcf := hcb2.frozen 2
      have ml1 := hyb2.lt
      have ml2 := hbx2.lt
      have ml3 := hcb2.lt
      simp at m0 mc
      obtain ⟨hq, hg, ho, hyc, hln, hm, hyp, hmle⟩ := HQ.out
      rw [← hm] at mc
      have hsrx := hsr
      have b1 : n1 ≤ cp := by have := HN.out.2.2.1; omega
      have b2 : (n1 : Int) ≤ (cp : Int) := by omega
      have b3 : (0 : Int) ≤ (n1 : Int) := by omega
      have HW2 := Lib.hid (And.intro hw (And.intro hwb (And.intro hyb2 (And.intro hbx2 (And.intro hcb2 lz)))))
      have e3 : IntKind.i64.wrap ((m : Int) + (n1 : Int)) = ((m + n1 : Nat) : Int) := by rw [IntWalk.i64_in _ (by omega)]; omega
      have HSr := Lib.hid hsr
      clear hyb d1 d2 d3 hfit hsrc hsrc2 hsl hsr hb hn1 hap hw hwb lz hyb2 hbx2 hcb2 hq hg ho hyc hln hm hyp hmle hkx hqg hgc hgw hsrx
      go_wp2_with fail
      refine wp_ends ?_
      go_region_law ((refine step_app_eq (w := V.drewN (q1 + 1)) (W2 := W2) (by rfl) _ _ (by rfl) (.slice (some ⟨g, o, none⟩) ln yc) (.slice A n1 cp) (.slice (some ⟨g, o, none⟩) (ln + n1) yc) (by rfl) (by rfl) HAp.out ?_))
      simp only [endsN]
      clear b1 b2 b3
      have hs6 := HSr.out
      go_wp2_with fail
      go_meet
      case rel =>
        obtain ⟨hw, hwb, hyb2, hbx2, hcb2, lz⟩ := HW2.out
        obtain ⟨hq, hg, ho, hyc, hln, hm, hyp, hmle⟩ := HQ.out
        obtain ⟨hyb, d1, d2, d3, hfit, hsrc, hsrc2, hsl, hsr, hb, hn1⟩ := HG.out
        obtain ⟨hqc, hqg, hgc⟩ := HQ2.out
        obtain ⟨hlen, _, _, _⟩ := HN.out
        have hzl : (zs.take n1).length = n1 := by rw [List.length_take]; omega
        have hcon := M0.out.cc
        have x1 := hyb2.set_ 0 (.slice (some ⟨g, o, none⟩) (ln + n1) yc)
        have x2 := x1.far (p := ⟨c, 2, none⟩) hqc (.int .i64 ((m : Int) + (n1 : Int)))
        have y1 := hcb2.far (p := ⟨q, 0, none⟩) hqc.symm (.slice (some ⟨g, o, none⟩) (ln + n1) yc)
        have y2 := y1.set_ 2 (.int .i64 ((m : Int) + (n1 : Int)))
        obtain ⟨cs', r1, r2, r3, r4⟩ := hw.row
        have z1 := (r1.far (p := ⟨q, 0, none⟩) hqg.symm (.slice (some ⟨g, o, none⟩) (ln + n1) yc)).far (p := ⟨c, 2, none⟩) hgc (.int .i64 ((m : Int) + (n1 : Int)))
        have kV : Kc (fun k i => Own y k i ∨ k = c) V W2 := ((Kc.refl _ V).drewN (q1 + 1)).trans (hw.k.mono fun i j hi e => .inl (.inr ⟨by rw [← hg]; exact e.1, by rw [← ho]; have := e.2.1; omega, by rw [← ho, ← hyc]; have := e.2.2; rw [hzl] at this; omega⟩))
        have kk := (kV.setCell (p := ⟨q, 0, none⟩) hyb2 rfl (fun _ => .inl (.inl hq)) (.slice (some ⟨g, o, none⟩) (ln + n1) yc)).setCell (p := ⟨c, 2, none⟩) y1 rfl (fun _ => .inr rfl) (.int .i64 ((m : Int) + (n1 : Int)))
        have hbx3 : Boxed ((W2.setCell ⟨q, 0, none⟩ (.slice (some ⟨g, o, none⟩) (ln + n1) yc)).setCell ⟨c, 2, none⟩ (.int .i64 ((m : Int) + (n1 : Int)))) w.heap.size 82 (.pointer (some ⟨c, 0, none⟩)) :=
          (Below.heap_setCell _ _ _ _ hcw).trans ((Below.heap_setCell _ _ _ _ hqw).trans hbx2)
        obtain ⟨L', g1, g2, g3⟩ := hcon.grown (zs := zs.take n1) kk (fun _ _ e => e) (by rw [hzl, ← hln, ← hyc]; omega) (by rw [hzl, ← hm]; omega)
          (by
            have e5 : ((((flat (L0 ++ [y])).length + (zs.take n1).length : Nat)) : Int) = (m : Int) + (n1 : Int) := by rw [hzl, ← hm]; omega
            rw [e5]
            simpa [ltO_snoc] using y2)
          (by rw [hzl, ← hq, ← hg, ← ho, ← hyc, ← hln]; simpa [ptrO] using x2)
          (by
            refine ⟨cs', by rw [← hg]; exact z1, by rw [r2, ← ho, ← hyc]; exact d2, fun i z hi => ?_⟩
            rw [← ho]
            by_cases hil : i < y.bs.length
            · rw [List.getElem?_append_left hil] at hi
              rw [r4 _ (fun e => by omega), ho]; exact d3 i z hi
            · rw [List.getElem?_append_right (by omega)] at hi
              have := r3 (i - y.bs.length) z hi
              rw [hln, show o + y.bs.length + (i - y.bs.length) = o + i by omega] at this
              exact this)
        exact ⟨n1, L', A2, rfl, ⟨g1, hbx3, g2, by omega, M0.out.m.trans g3, hsrc2.mc g3⟩⟩
  case rest =>
    obtain ⟨n1, L1, A1, rfl, M1⟩ := hcut
    obtain ⟨hlen, hn, hncp, hcp⟩ := HN.out
    obtain ⟨V1, hV1⟩ : ∃ V1, V1 = (wc.alloc (.cells #[.slice A1 (n - n1) (cp - n1)] 31)).alloc (.cells #[.int .i64 256] 3) := ⟨_, rfl⟩
    have k1 : Kept (fun _ => False) wc V1 := by rw [hV1]; exact ((Kept.refl _ wc).alloc _).alloc _
    have b1 : Boxed V1 wc.heap.size 31 (.slice A1 (n - n1) (cp - n1)) := by rw [hV1]; exact (Boxed.new wc _ _).alloc _
    have b2 : Boxed V1 (wc.heap.size + 1) 3 (.int .i64 256) := by
      rw [hV1]
      have := Boxed.new (wc.alloc (.cells #[.slice A1 (n - n1) (cp - n1)] 31)) 3 (.int .i64 256)
      simpa using this
    have hz1 : V1.heap.size = wc.heap.size + 2 := by rw [hV1]; simp
    obtain ⟨r, hr⟩ : ∃ r, r = n - n1 := ⟨_, rfl⟩
    obtain ⟨rc, hrc⟩ : ∃ rc, rc = cp - n1 := ⟨_, rfl⟩
    obtain ⟨ys, hys⟩ : ∃ ys, ys = zs.drop n1 := ⟨_, rfl⟩
    have R0 : AddR w B t c L1 ys r rc L A1 0 V1 := ⟨⟨L1, M1.cc.kept k1, by simp, M1.m.trans (Mc.of_kept k1), by rw [hr, hrc, hys]; exact M1.src.kept k1⟩, (k1.block _ M1.box.lt (fun e => e)).trans M1.box, by have := M1.box.lt; have := k1.size; omega⟩
    have hw1 : w.heap.size < wc.heap.size := M1.box.lt
    have hal : flat L1 ++ ys = flat L ++ zs := by rw [M1.all, hys, List.append_assoc, List.take_append_drop]
    have hrl : ys.length = r := by rw [hys, List.length_drop, hr, hlen]
    have hle1 : n1 ≤ n := M1.le
    have hrle : r ≤ rc := by have := M1.src.le; omega
    have hrcb : rc ≤ 9223372036854775807 := by omega
    have hfl1 : (flat L1).length + r ≤ 1048576 := by
      have := congrArg List.length hal
      rw [List.length_append, List.length_append, hlen, hrl] at this
      omega
    obtain ⟨b, o, hbo⟩ : ∃ b o, 0 < r → A1 = some ⟨b, o, none⟩ := by
      by_cases h0 : 0 < r
      · obtain ⟨b, o, e, _⟩ := M1.src.at_ (by rw [← hr]; exact h0)
        exact ⟨b, o, fun _ => e⟩
      · exact ⟨0, 0, fun h => absurd h h0⟩
    rw [← hr, ← hrc] at b1 ⊢
    rw [← hr, ← hrc] at hV1
    have HR0 := Lib.hid R0
    have HV1 := Lib.hid hV1
    have HAl := Lib.hid hal
    have HM1 := Lib.hid M1
    have HRc := Lib.hid hrc
    clear hys hr hal M1 R0 k1 hrc hV1 hle1
    go_wp2_with (go_at_call 51; refine (chunk_call _ _ _ _).mono ?_; rintro e w' ⟨rfl, rfl⟩)
    rw [← HV1.out]
    refine (wpIn_wide (n := 5)).1 ?_
    refine rangeFunc_o (n := 5) (by omega) (gf := 53) (lb := #[.pointer (some ⟨wc.heap.size, 0, none⟩), .pointer (some ⟨wc.heap.size + 1, 0, none⟩)]) rfl (enters_of Try.func53 (by kernel_rfl) rfl)
      (encs := encK b o r) TC (fun i => i = wc.heap.size ∨ i = wc.heap.size + 1) (chunk_o 4 (by omega) wc.heap.size (wc.heap.size + 1) b o r rc A1 b1 b2 hbo hrle (by omega) hrcb TC _ V1.heap.size ⟨by omega, .inl rfl⟩ ⟨by omega, .inr rfl⟩) (fun _ => rfl)
      (fun pre W => AddR w B t c L1 ys r rc L A1 pre.length W ∧ Boxed W wc.heap.size 31 (.slice A1 r rc) ∧ Boxed W (wc.heap.size + 1) 3 (.int .i64 256)) (fun _ _ _ => False)
      (fun s X Y hi hc => ⟨hi.1.chR hc (by omega), boxed_chR hi.2.1 hc, boxed_chR hi.2.2 hc⟩) (fun _ _ _ _ hi _ => hi.elim) ⟨HR0.out, b1, b2⟩ ?round ?done (fun _ _ _ _ hi _ _ => hi.elim)
    case round =>
      rintro l pre x W hz ⟨hI, hb1, hb2⟩ ⟨hx, hlt⟩
      obtain ⟨e, he⟩ : ∃ e, e = min 256 (r - x) := ⟨_, rfl⟩
      simp only [encK, ← he]
      have HX := Lib.hid (And.intro hx (And.intro hlt he))
      clear he hx hlt
      gi_wp2_with fail
      obtain ⟨hx, hlt, he⟩ := HX.out
      refine ⟨KeepsFrom.of_kc (Kc.refl No2 W), KpO.of_kc (Kc.refl No2 W) (fun _ _ _ _ e => e), fun W2 hc => ?_⟩
      have hI2 := hI.chR hc (by omega)
      replace hb1 := boxed_chR hb1 hc
      replace hb2 := boxed_chR hb2 hc
      obtain ⟨⟨L', i1, i2, i3, i4⟩, i5, i6⟩ := hI2
      have hA1 := hbo (by omega)
      subst hA1
      have hs := i4.piece (x := x) (e := e) (by omega)
      obtain ⟨ps, hps⟩ : ∃ ps, ps = (ys.drop x).take e := ⟨_, rfl⟩
      rw [← hps] at hs
      obtain ⟨Z, hZ⟩ : ∃ Z, Z = (encB (List.replicate 256 0)).toArray := ⟨_, rfl⟩
      have hmk : ∀ U : World, (Instr.makeSlice 31 (.int .i64 0) (.int .i64 256)).run Try.prog U = .ok (.slice (some ⟨U.heap.size, 0, none⟩) 0 256) (U.alloc (.cells (encB (List.replicate 256 0)).toArray 5)) := make_run 0 256 (by omega) (by omega)
      rw [← hZ] at hmk
      obtain ⟨W3, hW3⟩ : ∃ W3, W3 = (W2.alloc (.cells Z 5)).drew := ⟨_, rfl⟩
      have k3 : Kept (fun _ => False) W2 W3 := by rw [hW3]; exact ((Kept.refl _ W2).alloc _).drew
      have hbl : Blk W3 W2.heap.size 5 Z := by rw [hW3]; exact Blk.new W2 _ _
      obtain ⟨X, W4, hld, hst, hwr⟩ := app_parts (g := W2.heap.size) (o := 0) (len := 0) (cap := 256) (m := e) hbl (by rw [hZ]; simp [encB_length]) (by omega) (hs.kept k3) (by omega)
      have hlen : ps.length = e := hs.len
      have k34 : Kept (fun _ => False) W2 W4 := (Kc.quiet (hwr.k.andThen (D := fun k i => k = W2.heap.size ∧ 0 + 0 ≤ i ∧ i < 0 + 0 + ps.length) (Kc.refl No2 _) (fun _ _ _ e => e.elim) |> fun h => (Kc.of_kept k3).trans h) (fun i j hi e => by omega))
      have hcW2 := i1.blk.lt
      have hbW2 := i5.lt
      have HJ : ∀ W5, Blk W5 (W4.heap.size + 1) 72 #[.slice (some ⟨W2.heap.size, 0, none⟩) e 256, .pointer none] → Kept (fun _ => False) W4 W5 → W5.heap.size = W4.heap.size + 2 →
          Calls Try.prog 43 #[.pointer (some ⟨c, 0, none⟩), .agg #[.pointer (some ⟨W4.heap.size + 1, 0, none⟩), .pointer (some ⟨W4.heap.size + 1, 0, none⟩), .int .i64 (e : Int)]] W5 fun ex w' =>
            ex = .returned (.tuple #[]) ∧ AddR w B t c L1 ys r rc L (some ⟨b, o, none⟩) (pre.length + 1) w' ∧ (Boxed w' wc.heap.size 31 (.slice (some ⟨b, o, none⟩) r rc) ∧ Boxed w' (wc.heap.size + 1) 3 (.int .i64 256)) ∧ KeepsFrom V1.heap.size W2 w' ∧ KpO TC V1.heap.size (fun i => i = wc.heap.size ∨ i = wc.heap.size + 1) W2 w' := fun W5 g1 g2 g3 => by
        have k45 := k34.trans g2
        have j1 := i1.kept k45
        obtain ⟨y, hy⟩ : ∃ y : Lk, y = ⟨W4.heap.size + 1, W2.heap.size, 0, 256, ps⟩ := ⟨_, rfl⟩
        obtain ⟨cs', r1, r2, r3, r4⟩ := hwr.row
        have hsz4 : W4.heap.size = W2.heap.size + 1 := by rw [hwr.size, hW3]; simp
        have hfr : Free W5 B [y] := by
          subst hy
          refine ⟨⟨⟨by simp only [hlen]; exact g1, by simp only [hlen]; omega, by simp only [hlen]; omega, by simp, cs', r1.kept g2 (fun e => e), by rw [r2, hZ]; simp [encB_length], fun i z hz => ?_⟩, trivial⟩, by simp, fun z hz => ?_⟩
          · have := r3 i z hz
            simpa using this
          · simp at hz; subst hz
            have := i1.base
            exact ⟨by show B ≤ W4.heap.size + 1; omega, by show B ≤ W2.heap.size; omega⟩
        have hsp : (L' ++ [y]).Pairwise Apart := by
          refine List.pairwise_append.2 ⟨i1.sep, by simp, fun a ha z hz k i ho ho2 => ?_⟩
          have hl := i1.lks.lt ⟨a, ha, ho⟩
          simp at hz; subst hz; subst hy
          rcases ho2 with e | ⟨e, _, _⟩ <;> simp only at e <;> omega
        have hfl' : (flat L').length = (flat L1).length + (ys.take (256 * pre.length)).length := by rw [i2, List.length_append]
        have hps2 : ys.take (256 * (pre.length + 1)) = ys.take (256 * pre.length) ++ ps := by
          rw [hps, ← hx, show 256 * (pre.length + 1) = x + 256 by omega, List.take_add]
          congr 1
          by_cases h : 256 ≤ r - x
          · rw [show e = 256 by omega]
          · rw [List.take_of_length_le (by rw [List.length_drop]; omega), List.take_of_length_le (by rw [List.length_drop]; omega)]
        have hfy : flat [y] = ps := by subst hy; simp [flat]
        have hlv : linksV [y] = .agg #[.pointer (some ⟨W4.heap.size + 1, 0, none⟩), .pointer (some ⟨W4.heap.size + 1, 0, none⟩), .int .i64 (e : Int)] := by rw [linksV_one, hy]; simp only [hlen]
        have J := join_any j1 hfr hsp (by rw [hfl', hfy, hlen, List.length_take]; omega)
        rw [hlv] at J
        refine J.mono ?_
        rintro ex w' ⟨rfl, q1, q2⟩
        have hFj : ∀ k i, Fj c L' k i → Fc c L' k i := fun k i e => by
          rcases e with e | e
          · exact .inl e
          · unfold ltO at e
            cases hg : L'.getLast? with
            | none => rw [hg] at e; cases e
            | some z => rw [hg] at e; exact .inr ⟨z, List.mem_of_getLast? hg, .inl (Option.some.inj e).symm⟩
        have kk : Kc (Fj c L') W2 w' := (Kc.of_kept k45).trans q2
        have m1 : Mc W2 w' (Fc c L') (Fc c (L' ++ [y])) := ⟨kk.mono fun i j _ e => hFj i j e, fun k i e => by
          rcases e with e | ⟨z, hz, ho⟩
          · exact .inl (.inl e)
          · rcases List.mem_append.1 hz with hz | hz
            · exact .inl (.inr ⟨z, hz, ho⟩)
            · simp at hz; subst hz; subst hy
              right
              rcases ho with e | ⟨e, _, _⟩ <;> simp only at e <;> omega⟩
        have hbx : ∀ k t' v, Boxed W2 k t' v → t' ≠ 72 → k ≠ c → ∀ i, ¬ Fj c L' k i := fun k t' v hb hne hkc i e => by
          rcases e with e | e
          · exact hkc e
          · unfold ltO at e
            cases hg : L'.getLast? with
            | none => rw [hg] at e; cases e
            | some z =>
              rw [hg] at e
              have e : z.lb = k := Option.some.inj e
              obtain ⟨nx, hz⟩ := i1.lks.mem (List.mem_of_getLast? hg)
              have h1 := hz.blk
              unfold Blk at h1; unfold Boxed at hb
              rw [e, hb] at h1
              injection h1 with h1; injection h1 with _ h1; exact hne h1
        refine ⟨rfl, ⟨⟨L' ++ [y], q1, ?_, i3.trans m1, i4.mc m1⟩, ?_, Nat.le_trans i6 kk.size⟩, ⟨(kk.same hb1.lt (hbx _ _ _ hb1 (by decide) (by omega))).trans hb1, (kk.same hb2.lt (hbx _ _ _ hb2 (by decide) (by omega))).trans hb2⟩, KeepsFrom.of_kc kk, KpO.of_kc kk (fun k hk hp i e => ?_)⟩
        · rw [flat_append, i2, hfy, hps2, List.append_assoc]
        · exact (kk.same hbW2 (hbx _ _ _ i5 (by decide) (by omega))).trans i5
        · rcases hp with rfl | rfl
          · exact hbx _ _ _ hb1 (by decide) (by omega) i e
          · exact hbx _ _ _ hb2 (by decide) (by omega) i e
      have mb2 := i5.cell
      have hst2 : (storeCells ⟨W2.heap.size, 0, none⟩ X.toList).run Try.prog W3 = .ok () W4 := hst
      rw [hW3] at hst2 hld
      have mb4 := (k34.block _ hbW2 (fun e => e)).trans i5
      have HB4 := Lib.hid mb4
      have mb4 := Boxed.cell mb4
      have HJ := Lib.hid HJ
      have HB5 := Lib.hid (fun W5 (g2 : Kept (fun _ => False) W4 W5) => (show Boxed W5 w.heap.size 82 (.pointer (some ⟨c, 0, none⟩)) from (g2.block _ (Array.getElem?_eq_some_iff.1 HB4.out).1 (fun e => e)).trans HB4.out))
      have be : e ≤ 256 := by omega
      have HZ := Lib.hid hW3
      have hmx : Try.prog.follows .mixedOrders = true := by kernel_rfl
      clear i1 i2 i3 i4 i5 i6 hs hps hZ hW3 k3 hbl hst hwr k34 hI hb1 hb2 hx hlt he hc hlen
      gi_wp2_with fail
      refine wpIn_ends ?_
      gi_region_with_o (first
        | (refine ⟨trivial, ?_⟩; gi_at_call 49; refine (CallsIn.inRound l (callsIn_wide.2 (single_any W4 _ e _ 256 rfl))).mono ?_; rintro ex W5 ⟨rfl, g1, g2, g3⟩; have mb5 := (HB5.out W5 g2).cell; have HG := Lib.hid (And.intro g1 (And.intro g2 g3)); clear g1 g2 g3)
        | (refine ⟨trivial, ?_⟩; gi_at_call 43; refine (CallsIn.inRound l (callsIn_wide.2 (HJ.out W5 HG.out.1 HG.out.2.1 HG.out.2.2))).mono ?_; rintro ex W6 ⟨rfl, q1⟩; have HE := Lib.hid q1; clear q1))
      all_goals (
        simp only [endsN]
        gi_wp2_with fail
        exact ⟨HE.out.2.2.1, HE.out.2.2.2, by rw [List.length_append]; exact HE.out.1, HE.out.2.1⟩)
    case done =>
      rintro xs W hS ⟨hI, _, _⟩ hD hz
      have HE := Lib.hid (show ∀ W', ChO wc.heap.size W W' → ∃ L', Cn W' B t c L' ∧ flat L' = flat L ++ zs ∧ Mc w W' (Fc c L) (Fc c L') from fun W' hc => by
        obtain ⟨⟨L', h1, h2, h3, h4⟩, _, _⟩ := hI.chR hc.toR (by omega)
        exact ⟨L', h1, by rw [h2, List.take_of_length_le (by omega), HAl.out], h3⟩)
      clear hI
      gi_wp2_with fail
      exact leaves_marks wc.heap.size [V1.heap.size] W (by simp) (fun D hD' => by simp at hD'; subst hD'; exact ⟨by omega, hD⟩) (fun W' hc => ⟨_, results_none rfl _ _ _, rfl, HE.out W' hc⟩)
end
end Go.Proofs.Ytkhkhjkacibocaa
