/-
  For the laws over chains: bytes cut in pieces, as some numbers say.
-/
import Derived.Test.YtkhkhjkacibocaaChLaw
import Derived.Test.YtkhkhjkacibocaaCmRow
namespace Go.Proofs.Ytkhkhjkacibocaa
open Go.RowKit Go.Shelf Go.Maps Go.ChangeMaps

structure Ps where
  A : Option Addr
  n : Nat
  c : Nat
  zs : List Int
def RP : RowK Try.prog Ps where
  e := 31
  s := 58
  n := 1
  bytes := 24
  zero := .slice none 0 0
  enc := fun x => [.slice x.A x.n x.c]
  pos := by decide
  by_ := by decide
  len := fun _ => rfl
  one := fun x u hu => by
    simp at hu
    subst hu; rfl
  und := Try.underlying58
  info := by kernel_rfl
  zs := by decide
def Byt (xs : List Int) : Prop := ∀ z ∈ xs, 0 ≤ z ∧ z < 256
def Ps.Ok (w : World) (p : Ps) : Prop := Src w No2 p.A p.n p.c p.zs
def gps (ps : List Ps) : List Int := ps.flatMap (·.zs)
/-- Between two pieces. -/
structure CutG (w0 w : World) (zs : List Int) (m : Nat) (k : Nat) (A : Option Addr) (n c : Nat) (rs : List Int) (v : Value) (ps : List Ps) (wr : World) : Prop where
  km : k ≤ m
  src : Src w0 No2 A n c rs
  all : gps ps ++ rs = zs
  own : RP.own wr w.heap.size v ps
  len : ps.length ≤ k
  ok : ∀ p ∈ ps, p.Ok w0
  bel : Below w.heap.size w wr
theorem RowK.new_shows {P : Program} {α : Type} {R : RowK P α} (w : World) (x : α) (t : TypeId) : R.shows (w.alloc (.cells (R.enc x).toArray t)) (some ⟨w.heap.size, 0, none⟩) [x] := fun _ => ⟨w.heap.size, 0, rfl, by simp, RowK.lies_new w x t⟩

section
variable {w0 w wr w1 : World} {zs rs : List Int} {m k n c : Nat} {A : Option Addr} {v : Value} {ps : List Ps}
theorem CutG.on (h : CutG w0 w zs m k A n c rs v ps wr) (x : Ps) : RP.own (wr.alloc (.cells (RP.enc x).toArray 31)) w.heap.size v ps := RowK.own_same h.own fun i e => Below.heap_alloc wr _ i (RowK.own_lt h.own e).1
theorem cut_grown {o : Obj} (h : CutG w0 w zs m k A n c rs v ps wr) (hg : (wr.alloc o).grownBy w1 v.ownBlock) : Below w.heap.size w w1 :=
  (h.bel.alloc h.bel.size o).grown hg (by have := h.bel.size; simp; omega) fun i e => (RowK.own_lt h.own e).2
end

set_option maxRecDepth 100000 in
set_option maxHeartbeats 8000000 in
theorem cutl_any {w0 w : World} {A A2 : Option Addr} {n c m c2 : Nat} {zs xs : List Int} (hb : Src w0 No2 A n c zs) (ha : Src w No2 A2 m c2 xs) (hx : Byt xs) (hm : m ≤ 300) :
    Calls Try.prog 27 #[.slice A n c, .slice A2 m c2] w fun e w' => ∃ v ps, e = .returned v ∧ RP.own w' w.heap.size v ps ∧ (∀ p ∈ ps, p.Ok w0) ∧ gps ps = zs ∧ ps.length ≤ 301 ∧ Below w.heap.size w w' := by
  have H0 := Lib.hid (show CutG w0 w zs m 0 A n c zs (.slice none 0 0) [] w from ⟨by omega, hb, by simp [gps], RowK.own_nil _ _, by simp, by simp, Below.refl _ _⟩)
  have HA := Lib.hid (And.intro ha (And.intro hx hm))
  clear hb ha hx
  go_enter Try.func27, Try.ntmps27
  go_wp2_with fail
  go_loopw [0, 5, 6] (fun b o i wr => ∃ (k : Nat) (A' : Option Addr) (n' c' : Nat) (rs : List Int) (ps : List Ps) (v : Value), b = .slice A' n' c' ∧ i = .int .i64 (k : Int) ∧ v = o ∧ CutG w0 w zs m k A' n' c' rs v ps wr) (fun _ _ i _ => m - (intOf i).toNat)
  case atStart => exact ⟨0, A, n, c, zs, [], _, rfl, rfl, rfl, H0.out⟩
  case round =>
    obtain ⟨k, A', n', c', rs, ps, v, rfl, rfl, rfl, hG⟩ := hrel
    by_cases hk : k < m ∧ 0 < n'
    · obtain ⟨hk1, hk2⟩ := hk
      obtain ⟨b2, o2, rfl, hb2, hc2⟩ := HA.out.1.at_ (by omega)
      obtain ⟨z, hz⟩ : ∃ z, xs[k]? = some z := ⟨_, List.getElem?_eq_getElem (by rw [HA.out.1.len]; exact hk1)⟩
      obtain ⟨hz0, hz1⟩ := HA.out.2.1 z (List.mem_of_getElem? hz)
      obtain ⟨q, rfl⟩ : ∃ q : Nat, z = (q : Int) := ⟨z.toNat, by omega⟩
      have cz := (hG.bel.cell hb2).trans (hc2 k _ hz).2
      have wq : wrap64 (q : Int) = (q : Int) := by
        unfold wrap64; omega
      have key : ∀ y : Nat, y ≤ n' → ((n' < q ∧ y = n') ∨ (¬ n' < q ∧ y = q)) → ((∀ X, (Instr.slice 31 (.slice A' n' c') none (some (.int .i64 (y : Int))) none).run Try.prog X = .ok (.slice A' y c') X) ∧ Src w0 No2 A' y c' (rs.take y)) ∧
          ∃ A'', (∀ X, (Instr.slice 31 (.slice A' n' c') (some (.int .i64 (y : Int))) none none).run Try.prog X = .ok (.slice A'' (n' - y) (c' - y)) X) ∧ Src w0 No2 A'' (n' - y) (c' - y) (rs.drop y) := fun y hy _ => ⟨hG.src.left hy, hG.src.right hy⟩
      have b1 : (k : Int) < (m : Int) := by omega
      have b2 : (0 : Int) < (n' : Int) := by omega
      have kb : (k : Int) ≤ 300 := by have := HA.out.2.2; omega
      have step : ∀ (y : Nat) (A'' : Option Addr) (v' : Value) (w1 : World), Src w0 No2 A' y c' (rs.take y) → Src w0 No2 A'' (n' - y) (c' - y) (rs.drop y) → RP.own w1 w.heap.size v' (ps ++ [⟨A', y, c', rs.take y⟩]) → Below w.heap.size w w1 → CutG w0 w zs m (k + 1) A'' (n' - y) (c' - y) (rs.drop y) v' (ps ++ [⟨A', y, c', rs.take y⟩]) w1 := fun y A'' v' w1 h1 h2 h3 h4 =>
        ⟨by omega, h2, by
          have := hG.all
          unfold gps at this ⊢
          rw [List.flatMap_append, List.append_assoc, ← this]
          simp, h3, by have := hG.len; simp; omega, fun p hp => by
          rcases List.mem_append.1 hp with hp | hp
          · exact hG.ok p hp
          · simp at hp; subst hp; exact h1, h4⟩
      have HG := Lib.hid (And.intro hG (And.intro step hk1))
      have HO := Lib.hid (hG.on)
      clear hc2 hz hk1 hk2 hz0 step
      by_cases hlt : n' < q
      · obtain ⟨⟨r1, s1⟩, A'', r2, s2⟩ := key n' (Nat.le_refl _) (.inl ⟨hlt, rfl⟩)
        have HS := Lib.hid (And.intro s1 s2)
        clear s1 s2 key hG
        go_wp2_with (at_builtin; refine RowK.append (R := RP) rfl _ _ rfl w.heap.size v ps [⟨A', n', c', rs.take n'⟩] rfl (HO.out ⟨A', n', c', rs.take n'⟩) (some ⟨wr.heap.size, 0, none⟩) 1 1 rfl rfl (RowK.new_shows (R := RP) wr ⟨A', n', c', rs.take n'⟩ 31) (fun e => by cases e) (by have := HG.out.1.len; have := HG.out.1.km; simp; omega) (by have := HG.out.1.bel.size; simp; omega) ?_; intro u1 w1 O1 hg1 ho1)
        refine ⟨⟨k + 1, A'', n' - n', c' - n', rs.drop n', _, u1, by rw [Nat.sub_self], by go_num, rfl, HG.out.2.1 n' A'' u1 w1 HS.out.1 HS.out.2 O1 (cut_grown HG.out.1 hg1)⟩, by have := HG.out.2.2; simp [intOf]; omega⟩
      · obtain ⟨⟨r1, s1⟩, A'', r2, s2⟩ := key q (by omega) (.inr ⟨hlt, rfl⟩)
        have HS := Lib.hid (And.intro s1 s2)
        clear s1 s2 key hG
        go_wp2_with (at_builtin; refine RowK.append (R := RP) rfl _ _ rfl w.heap.size v ps [⟨A', q, c', rs.take q⟩] rfl (HO.out ⟨A', q, c', rs.take q⟩) (some ⟨wr.heap.size, 0, none⟩) 1 1 rfl rfl (RowK.new_shows (R := RP) wr ⟨A', q, c', rs.take q⟩ 31) (fun e => by cases e) (by have := HG.out.1.len; have := HG.out.1.km; simp; omega) (by have := HG.out.1.bel.size; simp; omega) ?_; intro u1 w1 O1 hg1 ho1)
        refine ⟨⟨k + 1, A'', n' - q, c' - q, rs.drop q, _, u1, rfl, by go_num, rfl, HG.out.2.1 q A'' u1 w1 HS.out.1 HS.out.2 O1 (cut_grown HG.out.1 hg1)⟩, by have := HG.out.2.2; simp [intOf]; omega⟩
    · have HO := Lib.hid (hG.on)
      have HG := Lib.hid hG
      have hout : ¬ ((k : Int) < (m : Int)) ∨ ((k : Int) < (m : Int) ∧ ¬ ((0 : Int) < (n' : Int))) := by omega
      have fin : ∀ (u1 : Value) (w1 : World), RP.own w1 w.heap.size u1 (ps ++ [⟨A', n', c', rs⟩]) → (wr.alloc (.cells #[.slice A' n' c'] 31)).grownBy w1 v.ownBlock → ∃ ps, RP.own w1 w.heap.size u1 ps ∧ (∀ p ∈ ps, p.Ok w0) ∧ gps ps = zs ∧ ps.length ≤ 301 ∧ Below w.heap.size w w1 := fun u1 w1 h1 h2 =>
        ⟨_, h1, fun p hp => by
          rcases List.mem_append.1 hp with hp | hp
          · exact HG.out.ok p hp
          · simp at hp; subst hp; exact HG.out.src, by
          have := HG.out.all
          unfold gps at this ⊢
          rw [List.flatMap_append, ← this]
          simp, by have := HG.out.len; have := HG.out.km; simp; omega, cut_grown HG.out h2⟩
      have HF := Lib.hid fin
      clear hG fin hk
      rcases hout with b1 | ⟨b1, b2⟩
      all_goals
        go_wp2_with (at_builtin; refine RowK.append (R := RP) rfl _ _ rfl w.heap.size v ps [⟨A', n', c', rs⟩] rfl (HO.out ⟨A', n', c', rs⟩) (some ⟨wr.heap.size, 0, none⟩) 1 1 rfl rfl (RowK.new_shows (R := RP) wr ⟨A', n', c', rs⟩ 31) (fun e => by cases e) (by have := HG.out.len; have := HG.out.km; simp; omega) (by have := HG.out.bel.size; simp; omega) ?_; intro u1 w1 O1 hg1 ho1)
        go_ret
        exact ⟨u1, rfl, HF.out u1 w1 O1 hg1⟩
end Go.Proofs.Ytkhkhjkacibocaa
