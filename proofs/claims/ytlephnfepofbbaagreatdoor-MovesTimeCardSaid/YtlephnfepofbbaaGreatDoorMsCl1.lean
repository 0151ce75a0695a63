/-
  slices.Clone of numbers, of moves, of bytes.
-/
import Derived.Test.YtlephnfepofbbaaGreatDoorMvRdm
import Derived.WalkKit
import Derived.Lib.SliceRun
namespace Go.Proofs.YtlephnfepofbbaaGreatDoor
open Go.RowKit Go.Shelf Go.Maps Go.ChangeMaps

/-- What Clone returns. -/
def ClR {α : Type} (R : RowK Tryz.prog α) (xs : List α) (w : World) (e : Ending) (w' : World) : Prop := ∃ v', e = .returned v' ∧ R.own w' w.heap.size v' xs ∧ Below w.heap.size w w'
theorem shows_of_sh {α : Type} {R : RowK Tryz.prog α} {D : Nat → Prop} {W : World} {A : Option Addr} {n c : Nat} {xs : List α} (h : Sh D W (.slice A n c) n (R.all xs)) (hn : n = xs.length) : R.shows W A xs := fun h0 => by
  obtain ⟨A', c', e, _, _, _, h4⟩ := h
  injection e with e1 e2 e3
  subst e1 e3
  obtain ⟨g, off, rfl, _, hg, hc⟩ := h4 (by omega)
  refine ⟨g, off, rfl, hg, fun i x hx j hj => ?_⟩
  have e := R.all_at xs i x hx j hj
  obtain ⟨u, hu⟩ : ∃ u, (R.enc x)[j]? = some u := ⟨_, List.getElem?_eq_getElem (by rw [R.len]; exact hj)⟩
  rw [hu] at e ⊢
  exact hc _ _ e
def RU : RowK Tryz.prog UInt8 where
  e := 5
  s := 23
  n := 1
  bytes := 1
  zero := .int .u8 0
  enc := fun b => [.int .u8 (b.toNat : Int)]
  pos := by decide
  by_ := by decide
  len := fun _ => rfl
  one := fun x u hu => by
    simp at hu
    subst hu; rfl
  und := Tryz.underlying23
  info := by kernel_rfl
  zs := rfl
theorem ru_all (l : List UInt8) : RU.all l = Lib.byteCells l := by
  unfold RowK.all Lib.byteCells
  rw [List.map_eq_flatMap]; rfl
theorem ru_own {w : World} {B : Nat} {v : Value} {l : List UInt8} (h : RU.own w B v l) : OwB B w v l := by
  have := h
  unfold RowK.own at this
  rw [ru_all] at this
  exact this
set_option maxRecDepth 100000 in
theorem clone_ints (xs : List Int) (A : Option Addr) (n c : Nat) (hn : n = xs.length) (hl : n ≤ 90000000) (hA : A = none → c = 0 ∧ n = 0) (w : World) (h : RIn.shows w A xs) :
    Calls Tryz.prog 45 #[.slice A n c] w (ClR RIn xs w) := by
  have hq : ∀ (w : World) (a : Option Addr) (n c n' c' : Nat), (binOp .eql 34 (.slice a n c) (.slice none n' c')).run Tryz.prog w = .ok (.bool a.isNone) w := fun w a n c n' c' => Lib.run_eql_slice_nil w _ _ a n c n' c' Tryz.underlying34
  cases A with
  | none =>
    obtain ⟨rfl, rfl⟩ := hA rfl
    obtain rfl : xs = [] := List.eq_nil_of_length_eq_zero hn.symm
    clear hn hl hA h
    go_enter Tryz.func45, Tryz.ntmps45
    go_wp2
    go_ret
    exact ⟨_, rfl, RowK.own_nil _ _, Below.refl _ _⟩
  | some a =>
    subst hn
    have H := Lib.hid h
    have HL := Lib.hid hl
    clear h hl
    go_enter Tryz.func45, Tryz.ntmps45
    go_wp2_with (at_builtin; refine RowK.append (R := RIn) rfl _ _ rfl w.heap.size _ [] xs rfl (World.ownsRow_made w #[] 0 (Nat.le_refl _) (Nat.zero_le _) rfl) (some a) xs.length c rfl rfl (RowK.shows_below H.out ((Below.refl _ _).alloc (Nat.le_refl _) _)) (fun e => by cases e) (by have := HL.out; simp; omega) (by simp) ?_; intro v1 w1 h1 hg1 hat; have H1 := Lib.hid h1; have HB := Lib.hid (((Below.refl w.heap.size w).alloc (Nat.le_refl _) _).grown hg1 (by simp) (fun k e => (RowK.own_lt (R := RIn) (xs := []) (World.ownsRow_made w #[] 0 (Nat.le_refl _) (Nat.zero_le _) rfl) e).2)); clear h1 hg1 hat)
    go_ret
    exact ⟨v1, rfl, H1.out, HB.out⟩
set_option maxRecDepth 100000 in
theorem clone_mvs (xs : List Ms) (A : Option Addr) (n c : Nat) (hn : n = xs.length) (hl : n ≤ 90000000) (hA : A = none → c = 0 ∧ n = 0) (w : World) (h : RM.shows w A xs) :
    Calls Tryz.prog 79 #[.slice A n c] w (ClR RM xs w) := by
  have hq : ∀ (w : World) (a : Option Addr) (n c n' c' : Nat), (binOp .eql 26 (.slice a n c) (.slice none n' c')).run Tryz.prog w = .ok (.bool a.isNone) w := fun w a n c n' c' => Lib.run_eql_slice_nil w _ _ a n c n' c' Tryz.underlying26
  cases A with
  | none =>
    obtain ⟨rfl, rfl⟩ := hA rfl
    obtain rfl : xs = [] := List.eq_nil_of_length_eq_zero hn.symm
    clear hn hl hA h
    go_enter Tryz.func79, Tryz.ntmps79
    go_wp2
    go_ret
    exact ⟨_, rfl, RowK.own_nil _ _, Below.refl _ _⟩
  | some a =>
    subst hn
    have H := Lib.hid h
    have HL := Lib.hid hl
    clear h hl
    go_enter Tryz.func79, Tryz.ntmps79
    go_wp2_with (at_builtin; refine RowK.append (R := RM) rfl _ _ rfl w.heap.size _ [] xs rfl (World.ownsRow_made w #[] 0 (Nat.le_refl _) (Nat.zero_le _) rfl) (some a) xs.length c rfl rfl (RowK.shows_below H.out ((Below.refl _ _).alloc (Nat.le_refl _) _)) (fun e => by cases e) (by have := HL.out; simp; omega) (by simp) ?_; intro v1 w1 h1 hg1 hat; have H1 := Lib.hid h1; have HB := Lib.hid (((Below.refl w.heap.size w).alloc (Nat.le_refl _) _).grown hg1 (by simp) (fun k e => (RowK.own_lt (R := RM) (xs := []) (World.ownsRow_made w #[] 0 (Nat.le_refl _) (Nat.zero_le _) rfl) e).2)); clear h1 hg1 hat)
    go_ret
    exact ⟨v1, rfl, H1.out, HB.out⟩
set_option maxRecDepth 100000 in
theorem clone_bytes (xs : List UInt8) (A : Option Addr) (n c : Nat) (hn : n = xs.length) (hl : n ≤ 90000000) (hA : A = none → c = 0 ∧ n = 0) (w : World) (h : RU.shows w A xs) :
    Calls Tryz.prog 80 #[.slice A n c] w (ClR RU xs w) := by
  have hq : ∀ (w : World) (a : Option Addr) (n c n' c' : Nat), (binOp .eql 23 (.slice a n c) (.slice none n' c')).run Tryz.prog w = .ok (.bool a.isNone) w := fun w a n c n' c' => Lib.run_eql_slice_nil w _ _ a n c n' c' Tryz.underlying23
  cases A with
  | none =>
    obtain ⟨rfl, rfl⟩ := hA rfl
    obtain rfl : xs = [] := List.eq_nil_of_length_eq_zero hn.symm
    clear hn hl hA h
    go_enter Tryz.func80, Tryz.ntmps80
    go_wp2
    go_ret
    exact ⟨_, rfl, RowK.own_nil _ _, Below.refl _ _⟩
  | some a =>
    subst hn
    have H := Lib.hid h
    have HL := Lib.hid hl
    clear h hl
    go_enter Tryz.func80, Tryz.ntmps80
    go_wp2_with (at_builtin; refine RowK.append (R := RU) rfl _ _ rfl w.heap.size _ [] xs rfl (World.ownsRow_made w #[] 0 (Nat.le_refl _) (Nat.zero_le _) rfl) (some a) xs.length c rfl rfl (RowK.shows_below H.out ((Below.refl _ _).alloc (Nat.le_refl _) _)) (fun e => by cases e) (by have := HL.out; simp; omega) (by simp) ?_; intro v1 w1 h1 hg1 hat; have H1 := Lib.hid h1; have HB := Lib.hid (((Below.refl w.heap.size w).alloc (Nat.le_refl _) _).grown hg1 (by simp) (fun k e => (RowK.own_lt (R := RU) (xs := []) (World.ownsRow_made w #[] 0 (Nat.le_refl _) (Nat.zero_le _) rfl) e).2)); clear h1 hg1 hat)
    go_ret
    exact ⟨v1, rfl, H1.out, HB.out⟩
end Go.Proofs.YtlephnfepofbbaaGreatDoor
