/-
  A script's ticks pass.
-/
import Derived.Test.YtlephnfepofbbaaGreatDoorMsMem
namespace Go.Proofs.YtlephnfepofbbaaGreatDoor
open Go.RowKit Go.Shelf Go.Maps Go.ChangeMaps

def psL (n : Nat) : List St → List St
  | [] => []
  | x :: r => { x with t := x.t - n } :: r
theorem kind_ne {W : World} {g : Nat} {t t' : TypeId} {cs c : Array Value} {fz : Nat × Nat} (h : Blk W g t cs) (hk : W.heap[g]? = some (.cells c t' fz)) : t = t' := by
  have h' : W.heap[g]? = _ := h
  rw [h'] at hk
  injection hk with hk
  injection hk
theorem notKd : ¬ Kd 36 ∧ ¬ Kd 86 := by unfold Kd; decide
/-- What a script's own writes leave: a row's cells, or the kept block's. -/
theorem RwsD.wrote {N : Nat} {D : Nat → Prop} {ov mvv dv : Value} {ord : List Int} {ms : List Mo} {b : List UInt8} {W : World} (h : RwsD N D ov mvv dv ord ms b W) {g : Nat} {t : TypeId} {cs : Array Value} (hb : Blk W g t cs) (ht : ¬ Kd t) (i : Nat) (u : Value) : RwsD N D ov mvv dv ord ms b (W.setCell ⟨g, i, none⟩ u) := h.keep fun k t' c fz _ hk hc => by
  refine Below.heap_setCell _ _ _ _ (fun e => ?_)
  have e : k = g := e
  subst e
  exact ht (kind_ne hb hc ▸ hk)
theorem ri_wrote {W : World} {v : Value} {o : List Int} (h : RIn.own W 0 v o) {g : Nat} {t : TypeId} {cs : Array Value} (hb : Blk W g t cs) (ht : t ≠ 3) (i : Nat) (u : Value) : RIn.own (W.setCell ⟨g, i, none⟩ u) 0 v o := RowK.own_set_other h (show W.heap[g]? = some (.cells cs t (0, 0)) from hb) ht i u
theorem lies_wrote {W : World} {g off i : Nat} {ps : List Ss} (h : RT.lies W g off ps) (hi : i < off) (u : Value) : RT.lies (W.setCell ⟨g, i, none⟩ u) g off ps := fun k x hx j hj => by
  have h1 := h k x hx j hj
  exact (World.cell?_setCell_other _ _ _ _ (by intro e; injection e with _ e _; omega)).trans h1
/-- Fewer ticks of the first step. -/
theorem Sk.tick {D : Nat → Prop} {kb : Nat} {W : World} {x : St} {r : List St} {o : List Int} {g off c : Nat} {cs : Array Value} {ov : Value} {A B : Option Addr} {a b : Nat} {ps : List Ss} (h1 : Blk W kb 86 #[.slice (some ⟨g, off, none⟩) (r.length + 1) c, ov]) (h2 : r.length + 1 ≤ c) (h3 : c ≤ 9223372036854775807) (h4 : D kb) (h5 : D g) (h6 : Blk W g 36 cs) (h7 : ps.map Ss.x = r)
    (k1 : W.cell? ⟨g, off + 1, none⟩ = some (.bool x.intr)) (k2 : W.cell? ⟨g, off + 2, none⟩ = some (.slice A x.ord.length a)) (k3 : W.cell? ⟨g, off + 3, none⟩ = some (.slice B x.mv.length b)) (k0 : ∃ v, W.cell? ⟨g, off, none⟩ = some v)
    (h8 : RwsD 0 D (.slice A x.ord.length a) (.slice B x.mv.length b) (.slice none 0 0) x.ord x.mv [] W) (h9 : RT.lies W g (off + 4) ps) (h10 : ∀ p ∈ ps, RwsD 0 D p.o p.m (.slice none 0 0) p.x.ord p.x.mv [] W) (h11 : RIn.own W 0 ov o) (h12 : OwnD D ov) (t : Nat) :
    Sk D kb (W.setCell ⟨g, off, none⟩ (.int .u64 (t : Int))) ({ x with t := t } :: r) o := by
  have hne : kb ≠ g := fun e => by
    subst e
    have := kind_ne h1 (show W.heap[kb]? = some (.cells cs 36 (0, 0)) from h6)
    revert this; decide
  obtain ⟨v, k0⟩ := k0
  have c0 : (W.setCell ⟨g, off, none⟩ (.int .u64 (t : Int))).cell? ⟨g, off, none⟩ = some (.int .u64 (t : Int)) := World.cell?_setCell_same _ _ _ k0
  have c1 : (W.setCell ⟨g, off, none⟩ (.int .u64 (t : Int))).cell? ⟨g, off + 1, none⟩ = some (.bool x.intr) := (World.cell?_setCell_other _ _ _ _ (by intro e; injection e with _ e _; omega)).trans k1
  have c2 : (W.setCell ⟨g, off, none⟩ (.int .u64 (t : Int))).cell? ⟨g, off + 2, none⟩ = some (.slice A x.ord.length a) := (World.cell?_setCell_other _ _ _ _ (by intro e; injection e with _ e _; omega)).trans k2
  have c3 : (W.setCell ⟨g, off, none⟩ (.int .u64 (t : Int))).cell? ⟨g, off + 3, none⟩ = some (.slice B x.mv.length b) := (World.cell?_setCell_other _ _ _ _ (by intro e; injection e with _ e _; omega)).trans k3
  have hl : ((⟨{ x with t := t }, A, a, B, b⟩ : Ss) :: ps).length = r.length + 1 := by rw [← h7]; simp
  refine ⟨_, ov, ⟨{ x with t := t }, A, a, B, b⟩ :: ps, h1.far (by exact hne) _, h4, ⟨⟨some ⟨g, off, none⟩, c, by rw [hl], by rw [hl]; exact h2, h3, (fun e => by cases e), fun _ => ⟨g, off, _, rfl, h5, h6.set_ off _, ?_⟩⟩, ?_⟩, by simp [h7], ri_wrote h11 h6 (by decide) _ _, h12⟩
  · intro i y hy j hj
    cases i with
    | zero =>
      have : (⟨{ x with t := t }, A, a, B, b⟩ : Ss) = y := by simpa using hy
      subst this
      have hj : j < 4 := hj
      have : j = 0 ∨ j = 1 ∨ j = 2 ∨ j = 3 := by omega
      rcases this with rfl | rfl | rfl | rfl
      · exact c0
      · exact c1
      · exact c2
      · exact c3
    | succ i =>
      have hy : ps[i]? = some y := by simpa using hy
      have := lies_wrote h9 (show off < off + 4 by omega) (.int .u64 (t : Int)) i y hy j hj
      rw [← this]
      congr 2
      show off + ((i + 1) * 4 + j) = off + 4 + (i * 4 + j)
      omega
  · intro p hp
    rcases List.mem_cons.1 hp with rfl | hp
    · exact h8.wrote h6 notKd.1 _ _
    · exact (h10 p hp).wrote h6 notKd.1 _ _
set_option maxRecDepth 100000 in
set_option maxHeartbeats 4000000 in
theorem kpass_any {B0 : Nat} {W0 : World} {p : Nat} {S : Ws} {N : Nat} {D D2 : Nat → Prop} {kb : Nat} {w : World} {l : List St} {o : List Int} (h : Sk D kb w l o) (ho : Od B0 W0 p S N D2 w) (hD : ∀ b, D b → D2 b) (hB : ∀ b, D b → B0 ≤ b)
    (n : Nat) (hn : n ≤ 18446744073709551615) (hs : S.now ≤ 18446744073709551615) (hl : ∀ x ∈ l.head?, n ≤ x.t ∧ x.t ≤ 18446744073709551615) :
    Calls Tryz.prog 85 #[.pointer (some ⟨kb, 0, none⟩), .pointer (some ⟨p, 0, none⟩), .int .u64 (n : Int)] w fun e w' => e = .returned (.tuple #[]) ∧ Od B0 W0 p (S.pass n) N D2 w' ∧ Sk D kb w' (psL n l) o ∧ ∀ b, D2 b → ¬ D b → w'.heap[b]? = w.heap[b]? := by
  have HP := Lib.hid (ho.pass n hn hs)
  cases l with
  | nil =>
    have HS := Lib.hid h
    clear h ho hl
    go_enter Tryz.func85, Tryz.ntmps85
    go_wp2_with (go_at_call 117; refine HP.out.mono ?_; rintro e w1 ⟨rfl, hod, hk, hz⟩; have HS1 := Lib.hid (HS.out.same (fun b hb => hk b (hD b hb))); obtain ⟨A, c, ov, hb⟩ := Sk.nil HS1.out; have c0 : w1.cell? ⟨kb, 0, none⟩ = some (.slice A 0 c) := hb.cell 0; have HOD := Lib.hid hod; have HK := Lib.hid (fun b (h : D2 b) => hk b h); clear hod hk hz hb)
    go_end0
    exact ⟨rfl, HOD.out, HS1.out, fun b h _ => HK.out b h⟩
  | cons x r =>
    obtain ⟨h1, h2⟩ := hl x (by simp)
    have HS := Lib.hid h
    have e1 : IntKind.u64.wrap ((x.t : Int) - (n : Int)) = ((x.t - n : Nat) : Int) := by rw [IntWalk.u64_in _ (by omega)]; omega
    have hr : (0 : Int) < (r.length : Int) + 1 := by omega
    have hr2 : 0 < r.length + 1 := by omega
    clear h ho hl h1 h2
    go_enter Tryz.func85, Tryz.ntmps85
    go_wp2_with (go_at_call 117; refine HP.out.mono ?_; rintro e w1 ⟨rfl, hod, hk, hz⟩; have HS1 := Lib.hid (HS.out.same (fun b hb => hk b (hD b hb))); obtain ⟨g, off, c, cs, ov, A, B, a, b, ps, hb, q1, q2, q3, q4, q5, q6, ⟨k0, k1, k2, k3⟩, q7, q8, q9, q10, q11⟩ := Sk.head HS1.out; have c0 : w1.cell? ⟨kb, 0, none⟩ = some (.slice (some ⟨g, off, none⟩) (r.length + 1) c) := hb.cell 0; have f0 := q5.frozen off; have l0 := q5.lt; have HT := Lib.hid (Sk.tick hb q1 q2 q3 q4 q5 q6 k1 k2 k3 ⟨_, k0⟩ q7 q8 q9 q10 q11 (x.t - n)); have HK := Lib.hid (fun b (h : D2 b) (hn : ¬ D b) => (Below.heap_setCell w1 ⟨g, off, none⟩ (.int .u64 ((x.t - n : Nat) : Int)) b (fun e => hn (by have e : b = g := e; rw [e]; exact q4))).trans (hk b h)); have HOD := Lib.hid (hod.wrote ((Kept.refl (fun j => j = g) w1).setCell (p := ⟨g, off, none⟩) rfl (.int .u64 ((x.t - n : Nat) : Int))) (fun j hj => by rw [hj]; exact ⟨hD g q4, hB g q4⟩)); clear hod hk hz hb q1 q2 q3 q4 q5 q6 q7 q8 q9 q10 q11 k1 k2 k3)
    go_end0
    exact ⟨rfl, HOD.out, HT.out, HK.out⟩
end Go.Proofs.YtlephnfepofbbaaGreatDoor
