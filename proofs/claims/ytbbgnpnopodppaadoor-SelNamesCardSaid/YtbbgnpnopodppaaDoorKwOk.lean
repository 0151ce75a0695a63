/-
  What any calls keep of a world: which ends read, how many wait; and how much the counters grow.
-/
import Derived.Test.YtbbgnpnopodppaaDoorKwNotice
import Derived.Test.YtbbgnpnopodppaaDoorMtFail
import Derived.Test.YtbbgnpnopodppaaDoorWdTicks
namespace Go.Proofs.YtbbgnpnopodppaaDoor
open Go.RowKit Go.Shelf Go.Maps Go.ChangeMaps

/-- A wire as calls keep it. -/
def Wi.lk (x y : Wi) : Prop := y.back = x.back ∧ y.wait = x.wait ∧ ∀ k, (y.e k).can = (x.e k).can ∧ ((y.e k).is = (x.e k).is ∨ (y.e k).is = 1 ∨ (y.e k).is = 3)
section
variable {x y z : Wi} {k : Bool}
theorem Wi.lk.refl (x : Wi) : x.lk x := ⟨rfl, rfl, fun _ => ⟨rfl, .inl rfl⟩⟩
theorem Wi.lk.trans (h : x.lk y) (q : y.lk z) : x.lk z := ⟨q.1.trans h.1, q.2.1.trans h.2.1, fun k => ⟨(q.2.2 k).1.trans (h.2.2 k).1, by
  rcases (q.2.2 k).2 with e | e
  · rw [e]; exact (h.2.2 k).2
  · exact .inr e⟩⟩
theorem Wi.lk_set (x : Wi) (k : Bool) (p : En) (h1 : p.can = (x.e k).can) (h2 : p.is = (x.e k).is ∨ p.is = 1 ∨ p.is = 3) : x.lk (x.set k p) := ⟨rfl, rfl, fun j => by
  rw [Wi.set_e]
  split
  · rename_i e; subst e; exact ⟨h1, h2⟩
  · exact ⟨rfl, .inl rfl⟩⟩
theorem Wi.lk_rd (x : Wi) (k : Bool) : x.lk (x.rdRise k) := by
  unfold Wi.rdRise; split
  · exact Wi.lk_set x k _ rfl (.inl rfl)
  · exact .refl x
theorem Wi.lk_wr (x : Wi) (k : Bool) : x.lk (x.wrRise k) := by
  unfold Wi.wrRise; split
  · exact Wi.lk_set x k _ rfl (.inl rfl)
  · exact .refl x
theorem Wi.lk_fill (x : Wi) (k : Bool) (zs : List Int) : x.lk (x.fill k zs) := by
  have h : x.lk (x.put k zs) := Wi.lk_set x k _ rfl (.inl rfl)
  unfold Wi.fill; split
  · exact h.trans (Wi.lk_rd _ _)
  · exact h
theorem Wi.lk_drain (x : Wi) (k : Bool) (n : Nat) : x.lk (x.drain k n) := by
  have h : x.lk (x.cut k n) := Wi.lk_set x k _ rfl (.inl rfl)
  unfold Wi.drain; split
  · exact h.trans (Wi.lk_wr _ _)
  · exact h
theorem Wi.lk_stop (x : Wi) (k : Bool) : x.lk (x.stop k) := by
  unfold Wi.stop; split
  · exact .refl x
  · exact (Wi.lk_set x k { x.e k with shut := true } rfl (.inl rfl)).trans (Wi.lk_rd _ _)
theorem Wi.lk_mark1 (x : Wi) (k : Bool) : x.lk (x.mark k 1) := Wi.lk_set x k _ rfl (.inr (.inl rfl))
theorem Wi.lk_close (x : Wi) (k : Bool) : x.lk (x.close k) := by
  have h : x.lk (x.mark k 3) := Wi.lk_set x k _ rfl (.inr (.inr rfl))
  unfold Wi.close; split
  · exact h.trans (Wi.lk_wr _ _)
  · exact (h.trans (Wi.lk_rd _ _)).trans (Wi.lk_wr _ _)
theorem Wi.lk_fails (x : Wi) (k : Bool) : x.lk (x.fails k) := ((Wi.lk_set x k { x.e k with bs := [] } rfl (.inl rfl)).trans (Wi.lk_rd _ _)).trans (Wi.lk_wr _ _)
theorem Wi.lk_fail (x : Wi) : x.lk x.fail := by
  unfold Wi.fail; split
  · exact .refl x
  · exact ((show x.lk x.broke from ⟨rfl, rfl, fun _ => ⟨rfl, .inl rfl⟩⟩).trans (Wi.lk_fails _ _)).trans (Wi.lk_fails _ _)
theorem Wi.lk_write (x : Wi) (k : Bool) (zs : List Int) : x.lk (x.write k zs).2.2 := by
  unfold Wi.write
  repeat' split
  all_goals first | exact Wi.lk_fill _ _ _ | exact .refl x
theorem Wi.lk_read (x : Wi) (k : Bool) (m : Int) : x.lk (x.read k m).2.2.2 := by
  unfold Wi.read
  repeat' split
  all_goals first | exact Wi.lk_drain _ _ _ | exact .refl x
theorem Wi.lk_putO (x : Wi) (zs : List Int) : x.lk (x.putO zs).2.2 := by
  unfold Wi.putO
  repeat' split
  all_goals first | exact Wi.lk_fill _ _ _ | exact .refl x
theorem Wi.lk_takeO (x : Wi) (m : Int) : x.lk (x.takeO m).2.2 := by
  unfold Wi.takeO
  repeat' split
  all_goals first | exact Wi.lk_drain _ _ _ | exact .refl x
theorem Wi.lk_shutR (x : Wi) (k : Bool) : x.lk (x.shutR k).2 := by
  unfold Wi.shutR; split
  · exact Wi.lk_stop x k
  · exact .refl x
end

/-- A wire of a world that calls made. -/
structure Wi.Ok (x : Wi) : Prop where
  back : x.back ≤ 64
  wl : x.wait.length ≤ x.back
  out : (x.e true).is = 2 → ∀ k, (x.e k).can = true
theorem Wi.Ok.lk {x y : Wi} (h : x.Ok) (q : x.lk y) : y.Ok := ⟨by rw [q.1]; exact h.back, by rw [q.1, q.2.1]; exact h.wl, fun e k => by
  rw [(q.2.2 k).1]
  rcases (q.2.2 true).2 with e2 | e2 | e2
  · exact h.out (e2 ▸ e) k
  · rw [e2] at e; cases e
  · rw [e2] at e; cases e⟩
theorem Wi.Ok.left {x : Wi} (h : x.Ok) {l : List Nat} (hl : l.length ≤ x.wait.length) : (x.left l).Ok := ⟨h.back, Nat.le_trans hl h.wl, h.out⟩
theorem Wi.Ok.more {x : Wi} (h : x.Ok) (j : Nat) (hl : x.wait.length < x.back) : (x.more j).Ok := by
  have q : x.lk x.rose := Wi.lk_set x false _ rfl (.inl rfl)
  refine ⟨h.back, ?_, fun e k => ?_⟩
  · show (x.wait ++ [j]).length ≤ x.back
    rw [List.length_append]; exact hl
  · exact (h.lk q).out e k
theorem Wi.ok_new (cap r : Nat) : (Wi.new cap r).Ok := ⟨Nat.zero_le _, Nat.le_refl _, fun e => by cases e⟩
theorem Wi.ok_out (cap : Nat) : (outW cap).Ok := ⟨Nat.zero_le _, Nat.le_refl _, fun _ k => by cases k <;> rfl⟩
theorem Wi.ok_lis (n : Nat) (h : n ≤ 64) : (lisW n).Ok := ⟨h, Nat.zero_le _, fun e => by cases e⟩

/-- A world that calls made. -/
structure Ws.Ok (s : Ws) (N : Nat) : Prop where
  wires : ∀ (i : Nat) (x : Wi), s.ws[i]? = some x → x.Ok
  many : s.ws.length ≤ 1000
  nt : ∀ (i : Nat) (k : Bool), s.nt = some (i, k) → ∃ x, s.ws[i]? = some x ∧ (x.e k).can = true
  sg : s.sg.le N
  now : s.now ≤ 18446744073709551615
section
variable {s : Ws} {N M : Nat}
theorem Ws.Ok.more (h : s.Ok N) (hN : N ≤ M) : s.Ok M := ⟨h.wires, h.many, h.nt, fun i => Nat.le_trans (h.sg i) hN, h.now⟩
theorem Ws.Ok.ntc (h : s.Ok N) : s.ntc := fun i k x hn hx => by
  obtain ⟨y, hy, hc⟩ := h.nt i k hn
  rw [hx] at hy; cases hy; exact hc
theorem Ws.ok_new : Ws.new.Ok 0 := ⟨(fun i x hx => by simp [Ws.new] at hx), Nat.zero_le _, (fun i k e => by cases e), T.le_new 0, Nat.zero_le _⟩
theorem Ws.Ok.setW (h : s.Ok N) {i : Nat} {x y : Wi} (hx : s.ws[i]? = some x) (hy : y.Ok) (hc : ∀ k, (y.e k).can = (x.e k).can) : (s.setW i y).Ok N := by
  refine ⟨fun j z hz => ?_, by rw [Ws.setW_len]; exact h.many, fun j k hn => ?_, h.sg, h.now⟩
  · rcases Ws.setW_get hz with ⟨_, rfl⟩ | ⟨_, hz⟩
    · exact hy
    · exact h.wires j z hz
  · obtain ⟨z, hz, hcz⟩ := h.nt j k hn
    by_cases e : i = j
    · subst e
      rw [hx] at hz; cases hz
      exact ⟨y, Ws.setW_at (List.getElem?_eq_some_iff.1 hx).1 _, (hc k).trans hcz⟩
    · exact ⟨z, (Ws.setW_ne e _).trans hz, hcz⟩
theorem Ws.Ok.setL (h : s.Ok N) {i : Nat} {x y : Wi} (hx : s.ws[i]? = some x) (q : x.lk y) : (s.setW i y).Ok N := h.setW hx ((h.wires i x hx).lk q) fun k => (q.2.2 k).1
theorem Ws.Ok.addW (h : s.Ok N) (hl : s.ws.length < 1000) {x : Wi} (hx : x.Ok) : (s.addW x).Ok N := by
  refine ⟨fun j z hz => ?_, by rw [Ws.addW_len]; omega, fun j k hn => ?_, h.sg, h.now⟩
  · rcases Ws.addW_get hz with ⟨_, rfl⟩ | ⟨_, hz⟩
    · exact hx
    · exact h.wires j z hz
  · obtain ⟨z, hz, hcz⟩ := h.nt j k hn
    exact ⟨z, Ws.addW_old hz, hcz⟩
theorem Ws.Ok.opened (h : s.Ok N) (i : Nat) (k : Bool) (fd : Nat) : (s.opened i k fd).Ok N := by
  cases hx : s.ws[i]? with
  | none => unfold Ws.opened; rw [hx]; exact h
  | some x =>
    rw [Ws.opened_of hx]
    have q := h.setL hx (Wi.lk_mark1 x k)
    exact ⟨q.wires, q.many, q.nt, q.sg, q.now⟩
theorem Ws.Ok.unfd (h : s.Ok N) (n : Nat) : (s.unfd n).Ok N := ⟨h.wires, h.many, h.nt, h.sg, h.now⟩
theorem Ws.Ok.sig (h : s.Ok N) {t : T} (ht : t.le M) : (s.sig t).Ok M := ⟨h.wires, h.many, h.nt, ht, h.now⟩
theorem Ws.Ok.note (h : s.Ok N) : s.note.Ok N := by
  cases hn : s.nt with
  | none => rw [Ws.note_none hn]; exact h
  | some q =>
    obtain ⟨i, k⟩ := q
    obtain ⟨x, hx, _⟩ := h.nt i k hn
    rw [Ws.note_some hn hx]
    split
    · exact h.setL hx (Wi.lk_drain _ _ _)
    · split
      · exact h.setL hx (Wi.lk_fill _ _ _)
      · exact h
theorem Ws.le_note (h : s.le N) : s.note.le (N + 2) := by
  cases hn : s.nt with
  | none => rw [Ws.note_none hn]; exact h.mono (by omega)
  | some q =>
    obtain ⟨i, k⟩ := q
    cases hx : s.ws[i]? with
    | none => unfold Ws.note; rw [hn]; simp only [hx]; exact h.mono (by omega)
    | some x =>
      rw [Ws.note_some hn hx]
      split
      · exact Ws.le_setW (h.mono (by omega)) ((Wi.le_drain (h i x hx) k _).mono (by omega))
      · split
        · exact Ws.le_setW (h.mono (by omega)) ((Wi.le_fill (h i x hx) k [1]).mono (by simp))
        · exact h.mono (by omega)
theorem Ws.Ok.shutW (h : s.Ok N) (j : Nat) : (s.shutW j).Ok N := by
  cases hx : s.ws[j]? with
  | none => unfold Ws.shutW; rw [hx]; exact h
  | some x => rw [Ws.shutW_of hx]; exact h.setL hx (Wi.lk_close x false)
theorem Ws.Ok.shutL : ∀ (l : List Nat) {s : Ws} (_ : s.Ok N), (l.foldl Ws.shutW s).Ok N
  | [], _, h => h
  | j :: l, _, h => Ws.Ok.shutL l (h.shutW j)
theorem Ws.Ok.unwait (h : s.Ok N) (i : Nat) : (s.unwait i).Ok N := by
  cases hx : s.ws[i]? with
  | none => unfold Ws.unwait; rw [hx]; exact h
  | some x => rw [Ws.unwait_of hx]; exact h.setW hx ((h.wires i x hx).left (Nat.zero_le _)) fun _ => rfl
theorem Ws.Ok.closed (h : s.Ok N) {i : Nat} {x : Wi} (hx : s.ws[i]? = some x) (n : Nat) (k : Bool) : (s.closed n i k x).Ok N :=
  (Ws.Ok.shutL x.wait ((h.setL hx (Wi.lk_close x k)).unfd n)).unwait i
theorem Ws.Ok.two (h : s.Ok N) (n : Int) (r : Nat) : (s.two n r).2.2.2.Ok N := by
  unfold Ws.two
  split
  · rename_i h0
    obtain ⟨_, _, h3, _⟩ := Ws.room_yes h0
    have := h.many
    exact ((h.addW (by omega) (Wi.ok_new _ _)).opened _ _ _).opened _ _ _
  · exact h
theorem Ws.Ok.outM (h : s.Ok N) (n : Int) : (s.outM n).2.2.2.Ok N := by
  unfold Ws.outM
  split
  · rename_i h0
    obtain ⟨_, _, h3, _⟩ := Ws.room_yes h0
    have := h.many
    exact (h.addW (by omega) (Wi.ok_out _)).opened _ _ _
  · exact h
theorem Ws.Ok.lisM (h : s.Ok N) (n : Int) : (s.lisM n).2.2.2.Ok N := by
  unfold Ws.lisM
  split
  · rename_i h0
    obtain ⟨_, h2, h3, _⟩ := Ws.room_yes h0
    have := h.many
    exact (h.addW (by omega) (Wi.ok_lis _ (by omega))).opened _ _ _
  · exact h
theorem Ws.Ok.conn (h : s.Ok N) (n m : Int) : (s.conn n m).2.2.Ok N := by
  unfold Ws.conn
  split
  · exact h
  · rename_i x hx
    have hx2 : s.ws[n.toNat]? = some x := by
      unfold Ws.at? at hx
      split at hx
      · exact hx
      · cases hx
    have hxo := h.wires _ x hx2
    have := hxo.wl
    split
    · exact h
    · split
      · exact h
      · split
        · exact h
        · split
          · exact h
          · have hm := h.many
            have h1 := h.addW (by omega) (Wi.ok_out m.toNat)
            exact h1.setW (Ws.addW_old hx2) (hxo.more _ (by omega)) fun k => ((Wi.lk_set x false { x.e false with rd := (x.e false).rd + 1 } rfl (.inl rfl)).2.2 k).1
theorem Ws.Ok.pass (h : s.Ok N) (n : Nat) : (s.pass n).Ok N := ⟨h.wires, h.many, h.nt, h.sg, by show s.now + min n (18446744073709551615 - s.now) ≤ _; have := h.now; omega⟩
theorem Ws.Ok.notice (h : s.Ok N) (a b : Int) : (s.notice a b).2.Ok N := by
  unfold Ws.notice
  split
  · exact h.note
  · rename_i i k ha
    split
    · exact h.note
    · rename_i j kk hb
      split
      · exact h.note
      · rename_i x hx
        split
        · rename_i hc
          exact Ws.Ok.note (s := { s with nt := some (i, k) }) ⟨h.wires, h.many, (fun i' k' e => by cases e; exact ⟨x, hx, hc.2.1⟩), h.sg, h.now⟩
        · exact h.note
theorem Ws.le_notice (h : s.le N) (a b : Int) : (s.notice a b).2.le (N + 2) := by
  unfold Ws.notice
  repeat' split
  all_goals first | exact Ws.le_note h | exact Ws.le_note (show ({ s with nt := _ } : Ws).le N from h)
end
/-- What Accept answers, and leaves. -/
def Ws.acc (S : Ws) (n : Int) : Int × Int × Int × Ws := match S.fd n with
  | none => (0, 0, 110, S)
  | some (i, _) => match S.ws[i]? with
    | none => (0, 0, 110, S)
    | some x => if x.back = 0 then (0, 0, 111, S) else match x.wait with
      | [] => (0, 0, 113, S)
      | j :: l => match S.frees[0]? with
        | none => (0, 0, 112, S)
        | some a => (((a : Nat) : Int), ((j : Nat) : Int), 0, (S.setW i (x.left l)).opened j false a)
theorem Ws.Ok.acc {s : Ws} {N : Nat} (h : s.Ok N) (n : Int) : (s.acc n).2.2.2.Ok N := by
  unfold Ws.acc
  split
  · exact h
  · rename_i i k hf
    split
    · exact h
    · rename_i x hx
      split
      · exact h
      · split
        · exact h
        · rename_i j l hw
          split
          · exact h
          · exact (h.setW hx ((h.wires i x hx).left (l := l) (by rw [hw]; simp)) fun _ => rfl).opened _ _ _
end Go.Proofs.YtbbgnpnopodppaaDoor
