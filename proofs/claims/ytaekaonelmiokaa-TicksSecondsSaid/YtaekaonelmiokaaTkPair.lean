/-
  The contracts of Pair, Single, FromSingle, beside the document's own: what each returns, for every input; nothing is turned.
-/
import Derived.Test.YtaekaonelmiokaaTkLeaf
import Derived.LoopTactic
namespace Go.Proofs.Ytaekaonelmiokaa
open Go.RowKit

/-- Is it a number in which a tick is told? -/
def sm (s : Int) : Bool := decide (s = 1000 ∨ s = 1000000)
/-- May a kernel wait so long? -/
def kw (w : Int) : Bool := decide (w ≤ 1048576 ∨ w = 18446744073709551615)
def pc (w s : Int) : Int := if sm s = false ∨ kw w = false then 0 else if w = 18446744073709551615 then -1 else w / 1000
def pr (w s : Int) : Int := if sm s = false ∨ kw w = false then 0 else if w = 18446744073709551615 then -1 else w % 1000 * s
def pe (w s : Int) : Int := if sm s = false ∨ kw w = false then 2 else 0
theorem ret3 {k l m : IntKind} {a b c a' b' c' : Int} (h : a = a') (h' : b = b') (h'' : c = c') : Ending.returned (.tuple #[.int k a, .int l b, .int m c]) = .returned (.tuple #[.int k a', .int l b', .int m c']) := by rw [h, h', h'']
theorem ret2 {k l : IntKind} {a b a' b' : Int} (h : a = a') (h' : b = b') : Ending.returned (.tuple #[.int k a, .int l b]) = .returned (.tuple #[.int k a', .int l b']) := by rw [h, h']
theorem p_bad {w s : Int} (h : sm s = false ∨ kw w = false) : pc w s = 0 ∧ pr w s = 0 ∧ pe w s = 2 := by unfold pc pr pe; simp [h]
theorem p_never {s : Int} (h : sm s = true) : pc 18446744073709551615 s = -1 ∧ pr 18446744073709551615 s = -1 ∧ pe 18446744073709551615 s = 0 := by
  have hk : kw 18446744073709551615 = true := by decide
  unfold pc pr pe; simp [h, hk]
theorem p_in {w s : Int} (h : sm s = true) (h0 : 0 ≤ w) (hw : w ≤ 1048576) : pc w s = w / 1000 ∧ pr w s = w % 1000 * s ∧ pe w s = 0 := by
  have hk : kw w = true := by unfold kw; exact decide_eq_true (.inl hw)
  have hn : ¬ w = 18446744073709551615 := by omega
  unfold pc pr pe; simp [h, hk, hn]

/-- What Pair returns. -/
def RetP (w : World) (x s : Int) (e : Ending) (w' : World) : Prop := e = .returned (.tuple #[.int .i64 (pc x s), .int .i64 (pr x s), .int .i64 (pe x s)]) ∧ w = w'

set_option maxHeartbeats 1000000 in
theorem pair_any (x s : Int) (w : World) (h : U x) (g : I s) : Calls Try.prog 17 #[.int .u64 x, .int .i64 s] w (RetP w x s) := by
  obtain ⟨h0, h1⟩ := h
  obtain ⟨g0, g1⟩ := g
  by_cases hs : s = 1000000
  · subst hs
    by_cases hn : x = 18446744073709551615
    · subst hn
      go_enter Try.func17, Try.ntmps17
      go_wp2
      go_ret3
      exact ⟨by obtain ⟨a, b, c⟩ := p_never (s := 1000000) (by decide); exact ret3 a.symm b.symm c.symm, rfl⟩
    · by_cases hc : 1048576 < x
      · go_enter Try.func17, Try.ntmps17
        go_wp2
        go_ret3
        exact ⟨by obtain ⟨a, b, c⟩ := p_bad (w := x) (s := 1000000) (.inr (by simp [kw]; omega)); exact ret3 a.symm b.symm c.symm, rfl⟩
      · go_enter Try.func17, Try.ntmps17
        go_wp2
        go_ret3
        exact ⟨by obtain ⟨a, b, c⟩ := p_in (w := x) (s := 1000000) (by decide) h0 (by omega); exact ret3 a.symm (by rw [b]; omega) c.symm, rfl⟩
  · by_cases hs1 : s = 1000
    · subst hs1
      by_cases hn : x = 18446744073709551615
      · subst hn
        go_enter Try.func17, Try.ntmps17
        go_wp2
        go_ret3
        exact ⟨by obtain ⟨a, b, c⟩ := p_never (s := 1000) (by decide); exact ret3 a.symm b.symm c.symm, rfl⟩
      · by_cases hc : 1048576 < x
        · go_enter Try.func17, Try.ntmps17
          go_wp2
          go_ret3
          exact ⟨by obtain ⟨a, b, c⟩ := p_bad (w := x) (s := 1000) (.inr (by simp [kw]; omega)); exact ret3 a.symm b.symm c.symm, rfl⟩
        · go_enter Try.func17, Try.ntmps17
          go_wp2
          go_ret3
          exact ⟨by obtain ⟨a, b, c⟩ := p_in (w := x) (s := 1000) (by decide) h0 (by omega); exact ret3 a.symm b.symm c.symm, rfl⟩
    · go_enter Try.func17, Try.ntmps17
      go_wp2
      go_ret3
      exact ⟨by obtain ⟨a, b, c⟩ := p_bad (w := x) (s := s) (.inl (by simp [sm]; omega)); exact ret3 a.symm b.symm c.symm, rfl⟩

set_option maxHeartbeats 1000000 in
theorem rpair_any (x s : Int) (w : World) (h : U x) (g : I s) : Calls Try.prog 18 #[.int .u64 x, .int .i64 s] w (RetP w x s) := by
  obtain ⟨h0, h1⟩ := h
  obtain ⟨g0, g1⟩ := g
  by_cases hs : s = 1000 ∨ s = 1000000
  · have hsm : sm s = true := by unfold sm; exact decide_eq_true hs
    by_cases hn : x = 18446744073709551615
    · subst hn
      rcases hs with rfl | rfl
      all_goals
        go_enter Try.func18, Try.ntmps18
        go_wp2
        go_ret3
        exact ⟨by obtain ⟨a, b, c⟩ := p_never hsm; exact ret3 a.symm b.symm c.symm, rfl⟩
    · by_cases hc : 1048576 < x
      · rcases hs with rfl | rfl
        all_goals
          go_enter Try.func18, Try.ntmps18
          go_wp2
          go_ret3
          exact ⟨by obtain ⟨a, b, c⟩ := p_bad (w := x) (.inr (by simp [kw]; omega)); exact ret3 a.symm b.symm c.symm, rfl⟩
      · rcases hs with rfl | rfl
        all_goals
          have hp := Lib.hid (p_in (w := x) hsm h0 (by omega))
          go_enter Try.func18, Try.ntmps18
          go_wp2
          go_loop [7, 8] (fun k n => ∃ q : Int, 0 ≤ q ∧ 0 ≤ x - 1000 * q ∧ k = .int .i64 q ∧ n = .int .i64 (x - 1000 * q)) (fun _ n => (intOf n).toNat)
          case atStart => exact ⟨0, by omega, by omega, rfl, by rw [show x - 1000 * 0 = x from by omega]⟩
          case round =>
            obtain ⟨q, hq, hr, rfl, rfl⟩ := hrel
            by_cases hlt : 1000 ≤ x - 1000 * q
            · go_wp2
              go_round
              case rel => exact ⟨q + 1, by omega, by omega, rfl, by rw [show x - 1000 * (q + 1) = x - 1000 * q - 1000 from by omega]⟩
              case measure => simp [intOf]; omega
            · go_wp2
              go_ret3
              obtain ⟨a, b, c⟩ := hp.out
              exact ⟨ret3 (by rw [a]; omega) (by rw [b]; omega) c.symm, rfl⟩
  · have hs1 : ¬ s = 1000 := fun h => hs (.inl h)
    have hs2 : ¬ s = 1000000 := fun h => hs (.inr h)
    go_enter Try.func18, Try.ntmps18
    go_wp2
    go_ret3
    exact ⟨by obtain ⟨a, b, c⟩ := p_bad (w := x) (s := s) (.inl (by unfold sm; exact decide_eq_false hs)); exact ret3 a.symm b.symm c.symm, rfl⟩

/-- Single's number. -/
def sn (x : Int) : Int := if x = 18446744073709551615 then -1 else if 1048576 < x then 0 else x
def se (x : Int) : Int := if kw x = false then 2 else 0
def gw (n : Int) : Int := if n = -1 then 18446744073709551615 else if n < 0 ∨ 1048576 < n then 0 else n
def ge (n : Int) : Int := if n = -1 then 0 else if n < 0 ∨ 1048576 < n then 2 else 0
def RetS (w : World) (x : Int) (e : Ending) (w' : World) : Prop := e = .returned (.tuple #[.int .i64 (sn x), .int .i64 (se x)]) ∧ w = w'
def RetG (w : World) (n : Int) (e : Ending) (w' : World) : Prop := e = .returned (.tuple #[.int .u64 (gw n), .int .i64 (ge n)]) ∧ w = w'
theorem s_never : sn 18446744073709551615 = -1 ∧ se 18446744073709551615 = 0 := by decide
theorem s_bad {x : Int} (h : 1048576 < x) (hn : ¬ x = 18446744073709551615) : sn x = 0 ∧ se x = 2 := by
  unfold sn se kw; rw [if_neg hn, if_pos h]; refine ⟨rfl, ?_⟩; simp; omega
theorem s_in {x : Int} (h : x ≤ 1048576) : sn x = x ∧ se x = 0 := by
  unfold sn se kw; rw [if_neg (by omega), if_neg (by omega)]; refine ⟨rfl, ?_⟩; simp; omega
theorem single_any (x : Int) (w : World) (h : U x) : Calls Try.prog 21 #[.int .u64 x] w (RetS w x) := by
  obtain ⟨h0, h1⟩ := h
  by_cases hn : x = 18446744073709551615
  · subst hn
    go_enter Try.func21, Try.ntmps21
    go_wp2
    go_ret2
    exact ⟨ret2 s_never.1.symm s_never.2.symm, rfl⟩
  · by_cases hc : 1048576 < x
    · go_enter Try.func21, Try.ntmps21
      go_wp2
      go_ret2
      exact ⟨ret2 (s_bad hc hn).1.symm (s_bad hc hn).2.symm, rfl⟩
    · go_enter Try.func21, Try.ntmps21
      go_wp2
      go_ret2
      exact ⟨ret2 (s_in (by omega)).1.symm (s_in (by omega)).2.symm, rfl⟩
theorem rsingle_any (x : Int) (w : World) (h : U x) : Calls Try.prog 22 #[.int .u64 x] w (RetS w x) := by
  obtain ⟨h0, h1⟩ := h
  by_cases hn : x = 18446744073709551615
  · subst hn
    go_enter Try.func22, Try.ntmps22
    go_wp2
    go_ret2
    exact ⟨ret2 s_never.1.symm s_never.2.symm, rfl⟩
  · by_cases hc : 1048576 < x
    · go_enter Try.func22, Try.ntmps22
      go_wp2
      go_ret2
      exact ⟨ret2 (s_bad hc hn).1.symm (s_bad hc hn).2.symm, rfl⟩
    · go_enter Try.func22, Try.ntmps22
      go_wp2
      go_ret2
      exact ⟨ret2 (s_in (by omega)).1.symm (s_in (by omega)).2.symm, rfl⟩
theorem g_never : gw (-1) = 18446744073709551615 ∧ ge (-1) = 0 := by decide
theorem g_bad {n : Int} (h : n < 0 ∨ 1048576 < n) (hn : ¬ n = -1) : gw n = 0 ∧ ge n = 2 := by
  unfold gw ge; rw [if_neg hn, if_neg hn, if_pos h, if_pos h]; exact ⟨rfl, rfl⟩
theorem g_in {n : Int} (h : 0 ≤ n) (h' : n ≤ 1048576) : gw n = n ∧ ge n = 0 := by
  unfold gw ge; rw [if_neg (by omega), if_neg (by omega), if_neg (by omega), if_neg (by omega)]; exact ⟨rfl, rfl⟩
theorem fromSingle_any (n : Int) (w : World) (h : I n) : Calls Try.prog 23 #[.int .i64 n] w (RetG w n) := by
  obtain ⟨h0, h1⟩ := h
  by_cases hn : n = -1
  · subst hn
    go_enter Try.func23, Try.ntmps23
    go_wp2
    go_ret2
    exact ⟨ret2 g_never.1.symm g_never.2.symm, rfl⟩
  · by_cases hl : n < 0
    · go_enter Try.func23, Try.ntmps23
      go_wp2
      go_ret2
      exact ⟨ret2 (g_bad (.inl hl) hn).1.symm (g_bad (.inl hl) hn).2.symm, rfl⟩
    · by_cases hc : 1048576 < n
      · go_enter Try.func23, Try.ntmps23
        go_wp2
        go_ret2
        exact ⟨ret2 (g_bad (.inr hc) hn).1.symm (g_bad (.inr hc) hn).2.symm, rfl⟩
      · go_enter Try.func23, Try.ntmps23
        go_wp2
        go_ret2
        exact ⟨ret2 (g_in (by omega) (by omega)).1.symm (g_in (by omega) (by omega)).2.symm, rfl⟩
theorem rfromSingle_any (n : Int) (w : World) (h : I n) : Calls Try.prog 24 #[.int .i64 n] w (RetG w n) := by
  obtain ⟨h0, h1⟩ := h
  by_cases hn : n = -1
  · subst hn
    go_enter Try.func24, Try.ntmps24
    go_wp2
    go_ret2
    exact ⟨ret2 g_never.1.symm g_never.2.symm, rfl⟩
  · by_cases hl : n < 0
    · go_enter Try.func24, Try.ntmps24
      go_wp2
      go_ret2
      exact ⟨ret2 (g_bad (.inl hl) hn).1.symm (g_bad (.inl hl) hn).2.symm, rfl⟩
    · by_cases hc : 1048576 < n
      · go_enter Try.func24, Try.ntmps24
        go_wp2
        go_ret2
        exact ⟨ret2 (g_bad (.inr hc) hn).1.symm (g_bad (.inr hc) hn).2.symm, rfl⟩
      · go_enter Try.func24, Try.ntmps24
        go_wp2
        go_ret2
        exact ⟨ret2 (g_in (by omega) (by omega)).1.symm (g_in (by omega) (by omega)).2.symm, rfl⟩
end Go.Proofs.Ytaekaonelmiokaa
