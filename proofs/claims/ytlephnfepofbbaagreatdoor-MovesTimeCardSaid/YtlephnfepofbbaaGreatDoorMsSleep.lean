/-
  A sleep, whatever the steps do.
-/
import Derived.Test.YtlephnfepofbbaaGreatDoorMsTake
namespace Go.Proofs.YtlephnfepofbbaaGreatDoor
open Go.RowKit Go.Shelf Go.Maps Go.ChangeMaps

def dueL (mk : Ws → List Mo → Ws) : List St → List Int → Ws → Bool × List St × List Int × Ws
  | [], o, S => (false, [], o, S)
  | x :: r, o, S => if x.t = 0 then (if x.intr then (true, r, x.ord, mk S x.mv) else dueL mk r x.ord (mk S x.mv)) else (false, x :: r, o, S)
def mainL (mk : Ws → List Mo → Ws) (b fo : Bool) : Nat → List St → List Int → Ws → Nat × List St × List Int × Ws
  | rest, [], o, S => if b then (1, [], o, S) else if rest = 0 ∧ fo = false then (2, [], o, S) else if fo then (4, [], o, S) else (2, [], o, S.pass rest)
  | rest, x :: r, o, S => if b then (1, x :: r, o, S) else if rest = 0 ∧ fo = false then (2, x :: r, o, S) else if fo = false ∧ rest < x.t then (2, { x with t := x.t - rest } :: r, o, S.pass rest)
    else if x.intr then (3, r, x.ord, mk (S.pass x.t) x.mv) else mainL mk b fo (if fo then rest else rest - x.t) r x.ord (mk (S.pass x.t) x.mv)
def slL (mk : Ws → List Mo → Ws) (b fo : Bool) (rest : Nat) (l : List St) (o : List Int) (S : Ws) : Nat × List St × List Int × Ws := if (dueL mk l o S).1 then (3, (dueL mk l o S).2) else mainL mk b fo rest (dueL mk l o S).2.1 (dueL mk l o S).2.2.1 (dueL mk l o S).2.2.2
def lenAt (kb : Nat) (W : World) : Nat := match W.cell? ⟨kb, 0, none⟩ with | some (.slice _ n _) => n | _ => 0
theorem lenAt_eq {D : Nat → Prop} {kb : Nat} {W : World} {l : List St} {o : List Int} (h : Sk D kb W l o) : lenAt kb W = l.length := by
  obtain ⟨A, c, ov, hb⟩ := h.any
  have c0 : W.cell? ⟨kb, 0, none⟩ = some (.slice A l.length c) := hb.cell 0
  unfold lenAt
  rw [c0]
/-- What a sleep goes by. -/
structure Cx (kb p hk : Nat) (hv : Value) (mk : Ws → List Mo → Ws) (P : List St → List Int → Ws → World → Prop) : Prop where
  sk : ∀ {l o S w}, P l o S w → ∃ D, Sk D kb w l o
  nums : ∀ {l o S w}, P l o S w → ∀ x ∈ l, x.t ≤ 18446744073709551615
  hold : ∀ {l o S w}, P l o S w → w.cell? ⟨hk, 0, none⟩ = some hv
  pass : ∀ {l o S w}, P l o S w → ∀ n : Nat, n ≤ 18446744073709551615 → (∀ x ∈ l.head?, n ≤ x.t) → Calls Tryz.prog 85 #[.pointer (some ⟨kb, 0, none⟩), .pointer (some ⟨p, 0, none⟩), .int .u64 (n : Int)] w fun e w' => e = .returned (.tuple #[]) ∧ P (psL n l) o (S.pass n) w'
  take : ∀ {x r o S w}, P (x :: r) o S w → Calls Tryz.prog 83 #[.pointer (some ⟨kb, 0, none⟩), .pointer (some ⟨p, 0, none⟩)] w fun e w' => e = .returned (.bool x.intr) ∧ P r x.ord (mk S x.mv) w'
theorem Cx.due {kb p hk : Nat} {hv : Value} {mk : Ws → List Mo → Ws} {P : List St → List Int → Ws → World → Prop} (C : Cx kb p hk hv mk P) {l : List St} {o : List Int} {S : Ws} {w : World} (h : P l o S w) : Calls Tryz.prog 82 #[.pointer (some ⟨kb, 0, none⟩)] w fun e w' => e = .returned (.bool (wi l 0)) ∧ w = w' := by
  obtain ⟨D, hs⟩ := C.sk h
  exact due_any hs
theorem Cx.within {kb p hk : Nat} {hv : Value} {mk : Ws → List Mo → Ws} {P : List St → List Int → Ws → World → Prop} (C : Cx kb p hk hv mk P) {l : List St} {o : List Int} {S : Ws} {w : World} (h : P l o S w) (n : Nat) : Calls Tryz.prog 84 #[.pointer (some ⟨kb, 0, none⟩), .int .u64 (n : Int)] w fun e w' => e = .returned (.bool (wi l n)) ∧ w = w' := by
  obtain ⟨D, hs⟩ := C.sk h
  exact within_any hs n
theorem Cx.len {kb p hk : Nat} {hv : Value} {mk : Ws → List Mo → Ws} {P : List St → List Int → Ws → World → Prop} (C : Cx kb p hk hv mk P) {l : List St} {o : List Int} {S : Ws} {w : World} (h : P l o S w) : lenAt kb w = l.length := by
  obtain ⟨D, hs⟩ := C.sk h
  exact lenAt_eq hs
/-- What comes of it. -/
def SlR (mk : Ws → List Mo → Ws) (P : List St → List Int → Ws → World → Prop) (b fo : Bool) (rest : Nat) (l : List St) (o : List Int) (S : Ws) (e : Ending) (w' : World) : Prop := ∃ i l' o' S', slL mk b fo rest l o S = (i, l', o', S') ∧ e = .returned (.int .i64 (i : Int)) ∧ P l' o' S' w'
set_option maxRecDepth 100000 in
set_option maxHeartbeats 16000000 in
theorem sleep_gen {kb p hk : Nat} {hv : Value} {mk : Ws → List Mo → Ws} {P : List St → List Int → Ws → World → Prop} (C : Cx kb p hk hv mk P) {b : Bool} (hA : Ans hv b) (fo : Bool) (rest : Nat) (hr : rest ≤ 18446744073709551615) {l : List St} {o : List Int} {S : Ws} {w : World} (hP : P l o S w) :
    Calls Tryz.prog 40 #[.pointer (some ⟨kb, 0, none⟩), .pointer (some ⟨p, 0, none⟩), .int .u64 (rest : Int), .bool fo, .func (.func 41) #[] #[.pointer (some ⟨hk, 0, none⟩)]] w (SlR mk P b fo rest l o S) := by
  have HC := Lib.hid C
  have HA := Lib.hid hA
  have HP := Lib.hid hP
  clear C hA hP
  go_enter Tryz.func40, Tryz.ntmps40
  go_wp2_with fail
  go_loopw [12] (fun _ wr => ∃ (l1 : List St) (o1 : List Int) (S1 : Ws), Hid (dueL mk l o S = dueL mk l1 o1 S1) ∧ Hid (P l1 o1 S1 wr)) (fun _ wr => lenAt kb wr)
  case atStart => exact ⟨l, o, S, Lib.hid rfl, HP⟩
  case round =>
    obtain ⟨l1, o1, S1, HE, HP1⟩ := hrel
    have HN := Lib.hid (HC.out.len HP1.out)
    have HD := Lib.hid (HC.out.due HP1.out)
    by_cases hdu : ∃ x r, l1 = x :: r ∧ x.t = 0
    · obtain ⟨x, r, rfl, hx⟩ := hdu
      have HT := Lib.hid (HC.out.take HP1.out)
      have e0 : wi (x :: r) 0 = true := by simp [wi, hx]
      rw [e0] at HD
      cases hi : x.intr with
      | true =>
        rw [hi] at HT
        go_wp2_with (first
          | (go_at_call 82; refine HD.out.mono ?_; rintro e w' ⟨rfl, rfl⟩)
          | (go_at_call 83; refine HT.out.mono ?_; rintro e w2 ⟨rfl, hp2⟩; have HP2 := Lib.hid hp2; clear hp2))
        go_ret
        have e := HE.out
        simp only [dueL, hx, hi, if_true] at e
        exact ⟨3, r, x.ord, _, by unfold slL; rw [e]; rfl, rfl, HP2.out⟩
      | false =>
        rw [hi] at HT
        go_wp2_with (first
          | (go_at_call 82; refine HD.out.mono ?_; rintro e w' ⟨rfl, rfl⟩)
          | (go_at_call 83; refine HT.out.mono ?_; rintro e w2 ⟨rfl, hp2⟩; have HP2 := Lib.hid hp2; clear hp2))
        go_roundw
        case rel =>
          have e := HE.out
          simp only [dueL, hx, hi, if_true] at e
          exact ⟨r, x.ord, _, Lib.hid e, HP2⟩
        case measure => rw [HC.out.len HP2.out, HN.out]; simp
    · have HE1 : Hid (slL mk b fo rest l o S = mainL mk b fo rest l1 o1 S1) := Lib.hid (by
        have : dueL mk l o S = (false, l1, o1, S1) := by
          rw [HE.out]
          cases l1 with
          | nil => rfl
          | cons x r =>
            have hx : ¬ x.t = 0 := fun e => hdu ⟨x, r, rfl, e⟩
            simp [dueL, hx]
        unfold slL; rw [this]; rfl)
      have e0 : wi l1 0 = false := by
        cases l1 with
        | nil => rfl
        | cons x r =>
          have hx : ¬ x.t = 0 := fun e => hdu ⟨x, r, rfl, e⟩
          simp [wi, hx]
      rw [e0] at HD
      clear hdu e0
      go_wp2_with (go_at_call 82; refine HD.out.mono ?_; rintro e w' ⟨rfl, rfl⟩)
      obtain ⟨w0, rfl⟩ : ∃ w0, w0 = wr := ⟨_, rfl⟩
      clear HD HN
      go_loopw [2] (fun v wr => ∃ (q : Nat) (l2 : List St) (o2 : List Int) (S2 : Ws), v = .int .u64 (q : Int) ∧ q ≤ 18446744073709551615 ∧ Hid (slL mk b fo rest l o S = mainL mk b fo q l2 o2 S2) ∧ Hid (P l2 o2 S2 wr)) (fun _ wr => lenAt kb wr)
      case atStart => exact ⟨rest, l1, o1, S1, rfl, hr, HE1, HP1⟩
      case round =>
        obtain ⟨q, l2, o2, S2, rfl, hq, HQ, HP2⟩ := hrel
        have HH := Lib.hid (holds_any HA.out hk wr (HC.out.hold HP2.out))
        have HN2 := Lib.hid (HC.out.len HP2.out)
        have HW := Lib.hid (HC.out.within HP2.out q)
        cases b with
        | true =>
          go_wp2_with (go_at_call 41; refine HH.out.mono ?_; rintro e w' ⟨rfl, rfl⟩)
          go_ret
          exact ⟨1, l2, o2, S2, by rw [HQ.out]; cases l2 <;> rfl, rfl, HP2.out⟩
        | false =>
          by_cases hz : q = 0 ∧ fo = false
          · obtain ⟨rfl, rfl⟩ := hz
            go_wp2_with (go_at_call 41; refine HH.out.mono ?_; rintro e w' ⟨rfl, rfl⟩)
            go_ret
            exact ⟨2, l2, o2, S2, by rw [HQ.out]; cases l2 <;> simp [mainL], rfl, HP2.out⟩
          · obtain ⟨D, hs⟩ := HC.out.sk HP2.out
            cases l2 with
            | nil =>
              obtain ⟨A, c, ov, hb⟩ := hs.nil
              have c0 : wr.cell? ⟨kb, 0, none⟩ = some (.slice A 0 c) := hb.cell 0
              clear hs hb
              have e1 : wi [] q = false := rfl
              rw [e1] at HW
              cases fo with
              | true =>
                go_wp2_with (first
                  | (go_at_call 41; refine HH.out.mono ?_; rintro e w' ⟨rfl, rfl⟩))
                all_goals
                  go_ret
                  exact ⟨4, [], o2, S2, by rw [HQ.out]; simp [mainL], rfl, HP2.out⟩
              | false =>
                have hq0 : ¬ (q : Int) = 0 := fun e => hz ⟨by omega, rfl⟩
                have hq1 : ¬ q = 0 := by omega
                have HPS := Lib.hid (HC.out.pass HP2.out q hq (by simp))
                go_wp2_with (first
                  | (go_at_call 41; refine HH.out.mono ?_; rintro e w' ⟨rfl, rfl⟩)
                  | (go_at_call 84; refine HW.out.mono ?_; rintro e w' ⟨rfl, rfl⟩)
                  | (go_at_call 85; refine HPS.out.mono ?_; rintro e w3 ⟨rfl, hp3⟩; have HP3 := Lib.hid hp3; clear hp3))
                go_ret
                exact ⟨2, [], o2, _, by rw [HQ.out]; simp [mainL, hq1], rfl, HP3.out⟩
            | cons x r =>
              obtain ⟨g, off, c, cs, ov, A, B, a, b', ps, hb, h1, h2, h3, h4, h5, h6, ⟨k0, k1, k2, k3⟩, _⟩ := hs.head
              have c0 : wr.cell? ⟨kb, 0, none⟩ = some (.slice (some ⟨g, off, none⟩) (r.length + 1) c) := hb.cell 0
              have hr1 : (0 : Int) < (r.length : Int) + 1 := by omega
              have hr2 : 0 < r.length + 1 := by omega
              have hr3 : ¬ (r.length : Int) + 1 = 0 := by omega
              have hxt := HC.out.nums HP2.out x (by simp)
              clear hs hb h1 h2 h3 h4 h5 h6 k1 k2 k3
              cases fo with
              | true =>
                have HPS := Lib.hid (HC.out.pass HP2.out x.t hxt (by simp))
                cases hi : x.intr with
                | true =>
                  go_wp2_with (first
                    | (go_at_call 41; refine HH.out.mono ?_; rintro e w' ⟨rfl, rfl⟩)
                    | (go_at_call 85; refine HPS.out.mono ?_; rintro e w3 ⟨rfl, hp3⟩; have HP3 := Lib.hid hp3; have HT := Lib.hid (HC.out.take hp3); rw [hi] at HT; clear hp3)
                    | (go_at_call 83; refine HT.out.mono ?_; rintro e w4 ⟨rfl, hp4⟩; have HP4 := Lib.hid hp4; clear hp4))
                  all_goals
                    go_ret
                    exact ⟨3, r, x.ord, _, by rw [HQ.out]; simp [mainL, hi], by simp [hi], HP4.out⟩
                | false =>
                  go_wp2_with (first
                    | (go_at_call 41; refine HH.out.mono ?_; rintro e w' ⟨rfl, rfl⟩)
                    | (go_at_call 85; refine HPS.out.mono ?_; rintro e w3 ⟨rfl, hp3⟩; have HP3 := Lib.hid hp3; have HT := Lib.hid (HC.out.take hp3); rw [hi] at HT; clear hp3)
                    | (go_at_call 83; refine HT.out.mono ?_; rintro e w4 ⟨rfl, hp4⟩; have HP4 := Lib.hid hp4; clear hp4))
                  all_goals
                    go_roundw
                    case rel => exact ⟨q, r, x.ord, _, by first | rfl | (congr 1; omega) | simp_all, by omega, Lib.hid (by rw [HQ.out]; simp [mainL, hi]), HP4⟩
                    case measure => rw [HC.out.len HP4.out, HN2.out]; simp
              | false =>
                have hq1 : ¬ q = 0 := fun e => hz ⟨e, rfl⟩
                have hq0 : ¬ (q : Int) = 0 := by omega
                by_cases hlt : q < x.t
                · have HPS := Lib.hid (HC.out.pass HP2.out q hq (by simp; omega))
                  have e1 : wi (x :: r) q = false := by simp [wi]; omega
                  rw [e1] at HW
                  go_wp2_with (first
                    | (go_at_call 41; refine HH.out.mono ?_; rintro e w' ⟨rfl, rfl⟩)
                    | (go_at_call 84; refine HW.out.mono ?_; rintro e w' ⟨rfl, rfl⟩)
                    | (go_at_call 85; refine HPS.out.mono ?_; rintro e w3 ⟨rfl, hp3⟩; have HP3 := Lib.hid hp3; clear hp3))
                  go_ret
                  exact ⟨2, _, o2, _, by rw [HQ.out]; simp [mainL, hq1, hlt, psL], rfl, HP3.out⟩
                · have HPS := Lib.hid (HC.out.pass HP2.out x.t hxt (by simp))
                  have e1 : wi (x :: r) q = true := by simp [wi]; omega
                  rw [e1] at HW
                  have e2 : IntKind.u64.wrap ((q : Int) - (x.t : Int)) = ((q - x.t : Nat) : Int) := by rw [IntWalk.u64_in _ (by omega)]; omega
                  cases hi : x.intr with
                  | true =>
                    go_wp2_with (first
                      | (go_at_call 41; refine HH.out.mono ?_; rintro e w' ⟨rfl, rfl⟩)
                      | (go_at_call 84; refine HW.out.mono ?_; rintro e w' ⟨rfl, rfl⟩)
                      | (go_at_call 85; refine HPS.out.mono ?_; rintro e w3 ⟨rfl, hp3⟩; have HP3 := Lib.hid hp3; have HT := Lib.hid (HC.out.take hp3); rw [hi] at HT; clear hp3)
                      | (go_at_call 83; refine HT.out.mono ?_; rintro e w4 ⟨rfl, hp4⟩; have HP4 := Lib.hid hp4; clear hp4))
                    all_goals
                      go_ret
                      exact ⟨3, r, x.ord, _, by rw [HQ.out]; simp [mainL, hq1, hlt, hi], by simp [hi], HP4.out⟩
                  | false =>
                    go_wp2_with (first
                      | (go_at_call 41; refine HH.out.mono ?_; rintro e w' ⟨rfl, rfl⟩)
                      | (go_at_call 84; refine HW.out.mono ?_; rintro e w' ⟨rfl, rfl⟩)
                      | (go_at_call 85; refine HPS.out.mono ?_; rintro e w3 ⟨rfl, hp3⟩; have HP3 := Lib.hid hp3; have HT := Lib.hid (HC.out.take hp3); rw [hi] at HT; clear hp3)
                      | (go_at_call 83; refine HT.out.mono ?_; rintro e w4 ⟨rfl, hp4⟩; have HP4 := Lib.hid hp4; clear hp4))
                    all_goals
                      go_roundw
                      case rel => exact ⟨q - x.t, r, x.ord, _, rfl, by omega, Lib.hid (by rw [HQ.out]; simp [mainL, hq1, hlt, hi]), HP4⟩
                      case measure => rw [HC.out.len HP4.out, HN2.out]; simp
end Go.Proofs.YtlephnfepofbbaaGreatDoor
