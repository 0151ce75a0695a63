/-
  A world with one wire to outside; what moves make of it; two sleeps are one.
-/
import Derived.Test.YtlephnfepofbbaaGreatDoorMsAlive
import Derived.Test.YtlephnfepofbbaaGreatDoorMtBase
namespace Go.Proofs.YtlephnfepofbbaaGreatDoor
open Go.RowKit Go.Shelf Go.Maps Go.ChangeMaps

/-- What a reset makes of an end, and of a wire. -/
def Wi.lost (x : Wi) (k : Bool) : Wi := x.set k { x.e k with bs := [] }
def Wi.fails (x : Wi) (k : Bool) : Wi := ((x.lost k).rdRise k).wrRise k
def Wi.broke (x : Wi) : Wi := { x with reset := true }
def Wi.fail (x : Wi) : Wi := if x.reset = true then x else (x.broke.fails false).fails true
section
variable {x : Wi} {N : Nat}
theorem Wi.le_lost (h : x.le N) (k : Bool) : (x.lost k).le N := Wi.le_set h (h k)
theorem Wi.le_fails (h : x.le N) (k : Bool) : (x.fails k).le (N + 2) := Wi.le_wrRise (Wi.le_rdRise (Wi.le_lost h k) k) k
theorem Wi.le_fail (h : x.le N) : x.fail.le (N + 4) := by
  unfold Wi.fail
  split
  · exact h.mono (by omega)
  · exact Wi.le_fails (Wi.le_fails (show x.broke.le N from h) false) true
theorem Wi.fails_wait (x : Wi) (k : Bool) : (x.fails k).wait = x.wait := by unfold Wi.fails; rw [Wi.wr_wait, Wi.rd_wait]; rfl
theorem Wi.fail_wait (x : Wi) : x.fail.wait = x.wait := by
  unfold Wi.fail
  split
  · rfl
  · rw [Wi.fails_wait, Wi.fails_wait]; rfl
end

def bytI (b : List UInt8) : List Int := b.map fun c => (c.toNat : Int)
def Byts (zs : List Int) : Prop := ∃ us, zs = bytI us
theorem Byts.app {a b : List Int} (h : Byts a) (k : Byts b) : Byts (a ++ b) := by
  obtain ⟨u, rfl⟩ := h
  obtain ⟨v, rfl⟩ := k
  exact ⟨u ++ v, by unfold bytI; rw [List.map_append]⟩
theorem Byts.take {a : List Int} (h : Byts a) (n : Nat) : Byts (a.take n) := by
  obtain ⟨u, rfl⟩ := h
  exact ⟨u.take n, by unfold bytI; rw [List.map_take]⟩
theorem Byts.drop {a : List Int} (h : Byts a) (n : Nat) : Byts (a.drop n) := by
  obtain ⟨u, rfl⟩ := h
  exact ⟨u.drop n, by unfold bytI; rw [List.map_drop]⟩
/-- An outer wire that is open inside. -/
structure One (x : Wi) : Prop where
  can : ∀ k, (x.e k).can = true
  back : x.back = 0
  wait : x.wait = []
  cap : x.cap = 50
  i0 : (x.e false).is = 1
  i1 : (x.e true).is = 2 ∨ (x.e true).is = 3
  byt : ∀ k, Byts (x.e k).bs
section
variable {x : Wi} {k : Bool} {p : En}
theorem One.set (h : One x) (hc : p.can = true) (hi : p.is = (x.e k).is) (hb : Byts p.bs) : One (x.set k p) := by
  obtain ⟨h1, h2, h3, h4, h5, h6, h7⟩ := h
  refine ⟨fun j => ?_, h2, h3, h4, ?_, ?_, fun j => ?_⟩
  · rw [Wi.set_e]; split
    · exact hc
    · exact h1 j
  · rw [Wi.set_e]; split
    · rename_i e; subst e; rw [hi]; exact h5
    · exact h5
  · rw [Wi.set_e]; split
    · rename_i e; subst e; rw [hi]; exact h6
    · exact h6
  · rw [Wi.set_e]; split
    · exact hb
    · exact h7 j
theorem One.rd (h : One x) (k : Bool) : One (x.rdRise k) := by
  unfold Wi.rdRise; split
  · exact h.set (h.can k) rfl (h.byt k)
  · exact h
theorem One.wr (h : One x) (k : Bool) : One (x.wrRise k) := by
  unfold Wi.wrRise; split
  · exact h.set (h.can k) rfl (h.byt k)
  · exact h
theorem One.fill (h : One x) (k : Bool) {zs : List Int} (hz : Byts zs) : One (x.fill k zs) := by
  have : One (x.put k zs) := h.set (h.can k) rfl ((h.byt k).app (hz.take _))
  unfold Wi.fill; split
  · exact this.rd k
  · exact this
theorem One.drain (h : One x) (k : Bool) (n : Nat) : One (x.drain k n) := by
  have : One (x.cut k n) := h.set (h.can k) rfl ((h.byt k).drop n)
  unfold Wi.drain; split
  · exact this.wr _
  · exact this
theorem One.stop (h : One x) (k : Bool) : One (x.stop k) := by
  unfold Wi.stop; split
  · exact h
  · exact (h.set (k := k) (p := { x.e k with shut := true }) (h.can k) rfl (h.byt k)).rd _
theorem One.close (h : One x) : One (x.close true) := by
  have : One (x.mark true 3) := by
    obtain ⟨h1, h2, h3, h4, h5, h6, h7⟩ := h
    refine ⟨fun j => ?_, h2, h3, h4, h5, .inr rfl, fun j => ?_⟩
    · cases j
      · exact h1 false
      · exact h1 true
    · cases j
      · exact h7 false
      · exact h7 true
  unfold Wi.close; split
  · exact this.wr _
  · exact (this.rd _).wr _
theorem One.broke (h : One x) : One x.broke := ⟨h.can, h.back, h.wait, h.cap, h.i0, h.i1, h.byt⟩
theorem One.fails (h : One x) (k : Bool) : One (x.fails k) := ((h.set (k := k) (p := { x.e k with bs := [] }) (h.can k) rfl ⟨[], rfl⟩).rd k).wr k
theorem One.fail (h : One x) : One x.fail := by
  unfold Wi.fail; split
  · exact h
  · exact (h.broke.fails false).fails true
theorem One.putO (h : One x) {zs : List Int} (hz : Byts zs) : One (x.putO zs).2.2 := by
  unfold Wi.putO
  repeat' split
  all_goals first | exact h | exact h.fill _ hz
theorem One.takeO (h : One x) (m : Int) : One (x.takeO m).2.2 := by
  unfold Wi.takeO
  repeat' split
  all_goals first | exact h | exact h.drain _ _
end
/-- A world with one such wire, whose descriptor is 0; no signal is handled. -/
def oFd : Nat → Option (Nat × Bool) := fun f => if f = 0 then some (0, false) else none
def oneS (now : Nat) (x : Wi) : Ws := ⟨now, [x], oFd, T.new, none⟩
def OneS (S : Ws) : Prop := ∃ x, S = oneS S.now x ∧ One x
def oW : Wi := (outW 50).mark false 1
theorem one_oW : One oW := ⟨fun k => by cases k <;> rfl, rfl, rfl, rfl, rfl, .inl rfl, fun k => ⟨[], by cases k <;> rfl⟩⟩
theorem outer_oneS : (Ws.new.addW (outW 50)).opened Ws.new.ws.length false 0 = oneS 0 oW := by
  rw [Ws.opened_of (x := outW 50) rfl]
  rfl
/-- What a move makes of a world without listeners or handled signals. -/
def mkMo (S : Ws) (m : Mo) : Ws := match S.outer m.wire with
  | none => S
  | some x => if m.op = 1 then S.setW m.wire.toNat (x.putO (bytI m.b)).2.2 else if m.op = 2 then S.setW m.wire.toNat (x.takeO m.n).2.2 else if m.op = 3 then S.setW m.wire.toNat (x.stop true) else if m.op = 4 then S.setW m.wire.toNat (x.close true) else if m.op = 5 then S.setW m.wire.toNat x.fail else S
def mkL (S : Ws) (ms : List Mo) : Ws := ms.foldl mkMo S
theorem mkMo_now (S : Ws) (m : Mo) : (mkMo S m).now = S.now := by
  unfold mkMo
  split
  · rfl
  · repeat' split
    all_goals rfl
theorem mkL_now : ∀ (ms : List Mo) (S : Ws), (mkL S ms).now = S.now
  | [], _ => rfl
  | m :: ms, S => by
    show (mkL (mkMo S m) ms).now = _
    rw [mkL_now ms, mkMo_now]
theorem outer_one {now : Nat} {x y : Wi} {n : Int} (h : (oneS now x).outer n = some y) : n = 0 ∧ y = x ∧ (x.e true).is = 2 := by
  obtain ⟨i, rfl, hx, h2⟩ := Ws.outer_some h
  cases i with
  | zero =>
    have : x = y := by simpa [oneS] using hx
    subst this
    exact ⟨rfl, rfl, h2⟩
  | succ i => simp [oneS] at hx
theorem mkMo_one {S : Ws} (h : OneS S) (m : Mo) : OneS (mkMo S m) := by
  obtain ⟨x, hS, hx⟩ := h
  generalize S.now = t at hS
  subst hS
  unfold mkMo
  split
  · exact ⟨x, rfl, hx⟩
  · rename_i y hy
    obtain ⟨hn, rfl, _⟩ := outer_one hy
    rw [hn]
    have e : ∀ z, (oneS t y).setW (0 : Int).toNat z = oneS t z := fun z => rfl
    repeat' split
    · rw [e]; exact ⟨_, rfl, hx.putO ⟨_, rfl⟩⟩
    · rw [e]; exact ⟨_, rfl, hx.takeO _⟩
    · rw [e]; exact ⟨_, rfl, hx.stop _⟩
    · rw [e]; exact ⟨_, rfl, hx.close⟩
    · rw [e]; exact ⟨_, rfl, hx.fail⟩
    · exact ⟨y, rfl, hx⟩
theorem mkL_one : ∀ (ms : List Mo) {S : Ws}, OneS S → OneS (mkL S ms)
  | [], _, h => h
  | m :: ms, _, h => mkL_one ms (mkMo_one h m)
theorem OneS.pass {S : Ws} (h : OneS S) (n : Nat) : OneS (S.pass n) := by
  obtain ⟨x, hS, hx⟩ := h
  generalize hs : S.now = t at hS
  subst hS
  exact ⟨x, rfl, hx⟩

/-! Two sleeps. -/
theorem pass_pass (S : Ws) (a b : Nat) (h : S.now ≤ 18446744073709551615) : (S.pass a).pass b = S.pass (a + b) := by
  unfold Ws.pass
  have e : S.now + min a (18446744073709551615 - S.now) + min b (18446744073709551615 - (S.now + min a (18446744073709551615 - S.now))) = S.now + min (a + b) (18446744073709551615 - S.now) := by omega
  show (⟨_, _, _, _, _⟩ : Ws) = ⟨_, _, _, _, _⟩
  rw [e]
theorem pass_now (S : Ws) (n : Nat) (h : S.now + n ≤ 18446744073709551615) : (S.pass n).now = S.now + n := by
  unfold Ws.pass
  show S.now + min n (18446744073709551615 - S.now) = _
  omega
section
variable {mk : Ws → List Mo → Ws}
theorem dueL_now (hmk : ∀ S ms, (mk S ms).now = S.now) : ∀ (l : List St) (o : List Int) (S : Ws), (dueL mk l o S).2.2.2.now = S.now
  | [], _, _ => rfl
  | x :: r, o, S => by
    unfold dueL
    split
    · split
      · exact hmk _ _
      · rw [dueL_now hmk r]; exact hmk _ _
    · rfl
theorem mainL_end (hmk : ∀ S ms, (mk S ms).now = S.now) : ∀ (l : List St) (rest : Nat) (o : List Int) (S : Ws), S.now + rest ≤ 18446744073709551615 →
    (((mainL mk false false rest l o S).1 = 2 ∧ (mainL mk false false rest l o S).2.2.2.now = S.now + rest) ∨ ((mainL mk false false rest l o S).1 = 3 ∧ S.now ≤ (mainL mk false false rest l o S).2.2.2.now ∧ (mainL mk false false rest l o S).2.2.2.now ≤ S.now + rest))
  | [], rest, o, S, h => by
    unfold mainL
    by_cases h0 : rest = 0
    · simp [h0]
    · simp [h0, pass_now S rest h]
  | x :: r, rest, o, S, h => by
    unfold mainL
    by_cases h0 : rest = 0
    · simp [h0]
    · by_cases h1 : rest < x.t
      · simp [h0, h1, pass_now S rest h]
      · have e1 : (mk (S.pass x.t) x.mv).now = S.now + x.t := by rw [hmk, pass_now S x.t (by omega)]
        cases hi : x.intr with
        | true =>
          simp [h0, h1, e1]; omega
        | false =>
          have := mainL_end hmk r (rest - x.t) x.ord (mk (S.pass x.t) x.mv) (by rw [e1]; omega)
          rw [e1] at this
          simp only [h0, h1]
          simp
          rcases this with ⟨a, b⟩ | ⟨a, b, c⟩
          · exact .inl ⟨a, by rw [b]; omega⟩
          · exact .inr ⟨a, by omega, by omega⟩
theorem slL_end (hmk : ∀ S ms, (mk S ms).now = S.now) (l : List St) (rest : Nat) (o : List Int) (S : Ws) (h : S.now + rest ≤ 18446744073709551615) {i : Nat} {l' : List St} {o' : List Int} {S' : Ws} (he : slL mk false false rest l o S = (i, l', o', S')) :
    (i = 2 ∧ S'.now = S.now + rest) ∨ (i = 3 ∧ S.now ≤ S'.now ∧ S'.now ≤ S.now + rest) := by
  unfold slL at he
  have hd := dueL_now hmk l o S
  split at he
  · injection he with e1 he
    have : (dueL mk l o S).2.2.2 = S' := by rw [he]
    rw [← this, hd]
    exact .inr ⟨e1.symm, by omega, by omega⟩
  · have := mainL_end hmk (dueL mk l o S).2.1 rest (dueL mk l o S).2.2.1 (dueL mk l o S).2.2.2 (by rw [hd]; omega)
    rw [he, hd] at this
    exact this
theorem mainL_add (hmk : ∀ S ms, (mk S ms).now = S.now) : ∀ (l : List St) (a b : Nat) (o : List Int) (S : Ws), S.now + a + b ≤ 18446744073709551615 → ∀ {l1 : List St} {o1 : List Int} {S1 : Ws} {r : Nat × List St × List Int × Ws}, mainL mk false false a l o S = (2, l1, o1, S1) → (∀ x ∈ l1.head?, ¬ x.t = 0) → mainL mk false false b l1 o1 S1 = r → r.1 = 2 → mainL mk false false (a + b) l o S = r
  | [], a, b, o, S, h, l1, o1, S1, r, h1, _, h2, hr => by
    unfold mainL at h1
    by_cases h0 : a = 0
    · subst h0
      simp at h1
      obtain ⟨rfl, rfl, rfl⟩ := h1
      rw [Nat.zero_add]; exact h2
    · simp [h0] at h1
      obtain ⟨rfl, rfl, rfl⟩ := h1
      rw [← h2]
      unfold mainL
      by_cases hb : b = 0
      · subst hb; simp [h0]
      · simp [h0, hb, pass_pass S a b (by omega)]
  | x :: r0, a, b, o, S, h, l1, o1, S1, r, h1, hz, h2, hr => by
    unfold mainL at h1
    by_cases h0 : a = 0
    · subst h0
      simp at h1
      obtain ⟨rfl, rfl, rfl⟩ := h1
      rw [Nat.zero_add]; exact h2
    · by_cases hlt : a < x.t
      · simp [h0, hlt] at h1
        obtain ⟨rfl, rfl, rfl⟩ := h1
        rw [← h2] at hr ⊢
        clear h2
        unfold mainL at hr ⊢
        by_cases hb : b = 0
        · subst hb; simp [h0, hlt]
        · by_cases hlt2 : b < x.t - a
          · have e : a + b < x.t := by omega
            have e2 : x.t - a - b = x.t - (a + b) := by omega
            simp [hb, hlt2, h0, e, e2, pass_pass S a b (by omega)]
          · have e : ¬ a + b < x.t := by omega
            have e2 : a + (x.t - a) = x.t := by omega
            have e3 : b - (x.t - a) = a + b - x.t := by omega
            simp only [hb, hlt2, h0, e] at hr ⊢
            simp [pass_pass S a (x.t - a) (by omega), e2, e3, h0] at hr ⊢
      · simp only [h0, hlt] at h1
        have e : ¬ a + b < x.t := by omega
        have e0 : ¬ a + b = 0 := by omega
        cases hi : x.intr with
        | true => simp [hi] at h1
        | false =>
          simp [hi] at h1
          have ih := mainL_add hmk r0 (a - x.t) b x.ord (mk (S.pass x.t) x.mv) (by rw [hmk, pass_now S x.t (by omega)]; omega) h1 hz h2 hr
          have e3 : a + b - x.t = a - x.t + b := by omega
          rw [← ih]
          conv => lhs; unfold mainL
          simp [e, e0, hi, e3, h0]
theorem slL_add (hmk : ∀ S ms, (mk S ms).now = S.now) (l : List St) (a b : Nat) (o : List Int) (S : Ws) (h : S.now + a + b ≤ 18446744073709551615) {l1 : List St} {o1 : List Int} {S1 : Ws} {l2 : List St} {o2 : List Int} {S2 : Ws} (h1 : slL mk false false a l o S = (2, l1, o1, S1)) (hz : ∀ x ∈ l1.head?, ¬ x.t = 0) (h2 : slL mk false false b l1 o1 S1 = (2, l2, o2, S2)) : slL mk false false (a + b) l o S = (2, l2, o2, S2) := by
  have hd : dueL mk l1 o1 S1 = (false, l1, o1, S1) := by
    cases l1 with
    | nil => rfl
    | cons x r =>
      have hx : ¬ x.t = 0 := hz x (by simp)
      simp [dueL, hx]
  unfold slL at h1 h2 ⊢
  rw [hd] at h2
  split at h1
  · injection h1 with e; cases e
  · rename_i hf
    rw [if_neg hf]
    exact mainL_add hmk _ a b _ _ (by rw [dueL_now hmk]; exact h) h1 hz h2 rfl
end
end Go.Proofs.YtlephnfepofbbaaGreatDoor
