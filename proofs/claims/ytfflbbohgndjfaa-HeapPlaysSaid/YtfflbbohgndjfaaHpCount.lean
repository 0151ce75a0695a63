/-
  How often each number was met: the map of counts, beside the heap that was filled.
-/
import Derived.Test.YtfflbbohgndjfaaHpTwo
namespace Go.Proofs.Ytfflbbohgndjfaa
open Go.RowKit Go.Maps Go.ChangeMaps Go.Sort

def cnt (l : List It) (k : Int) : Nat := l.countP fun x => x.id == k
def cntF (l : List It) (k : Int) : Option Nat := if cnt l k = 0 then none else some (cnt l k)
theorem cntF_getD (l : List It) (k : Int) : (cntF l k).getD 0 = cnt l k := by
  unfold cntF
  split
  · rename_i h; simp [h]
  · rfl
theorem cntF_isSome (l : List It) (k : Int) : (cntF l k).isSome = decide (0 < cnt l k) := by
  unfold cntF
  by_cases h : cnt l k = 0
  · rw [if_pos h]; simp [h]
  · rw [if_neg h]; simp; omega
theorem cnt_snoc {l : List It} {k : Nat} {x : It} (h : l[k]? = some x) (j : Int) : cnt (l.take (k + 1)) j = cnt (l.take k) j + if x.id = j then 1 else 0 := by
  unfold cnt
  rw [take_snoc' h, List.countP_append]
  simp [List.countP_cons]
theorem cntF_snoc {l : List It} {k : Nat} {x : It} (h : l[k]? = some x) : cntF (l.take (k + 1)) = updF (cntF (l.take k)) x.id (some (cnt (l.take k) x.id + 1)) := by
  funext j
  unfold updF cntF
  rw [cnt_snoc h]
  by_cases e : j = x.id
  · subst e; simp
  · have e' : ¬ x.id = j := fun h => e h.symm
    simp [e, e']
theorem hasId_addS (S : List It) (x : It) (k : Int) : hasId (addS S x) k = (hasId S k || x.id == k) := by
  unfold addS
  cases e : hasId S x.id with
  | true =>
    simp only [if_true]
    by_cases h : x.id = k
    · subst h; simp [e]
    · simp [h]
  | false =>
    simp only [Bool.false_eq_true, if_false]
    unfold hasId
    rw [(ins_perm x S).any_eq]
    simp [Bool.or_comm]
theorem hasId_fold (k : Int) : ∀ (l S : List It), hasId (l.foldl addS S) k = (hasId S k || decide (0 < cnt l k))
  | [], S => by simp [cnt]
  | x :: l, S => by
    rw [List.foldl_cons, hasId_fold k l, hasId_addS]
    unfold cnt
    rw [List.countP_cons]
    by_cases h : x.id = k
    · simp [h]
    · have h' : (x.id == k) = false := by simpa using h
      simp [h']
theorem hasId_addAll (l : List It) (k : Int) : hasId (addAll l) k = decide (0 < cnt l k) := by
  unfold addAll
  rw [hasId_fold]
  simp [hasId]
theorem addS_len' (S : List It) (x : It) : (addS S x).length = if hasId S x.id then S.length else S.length + 1 := by
  unfold addS
  split
  · rfl
  · rw [(ins_perm x S).length_eq]; rfl
/-- A Push is taken just where the number is met for the first time. -/
theorem push_cnt (l : List It) (k : Int) : ((pushE (addAll l) k) = 0 ∧ cnt l k = 0) ∨ (pushE (addAll l) k = 30 ∧ 0 < cnt l k) := by
  unfold pushE
  rw [hasId_addAll]
  by_cases h : 0 < cnt l k
  · right; simp [h]
  · left; simp [h]; omega

/-- The map of counts, which has z keys. -/
def Cm (w : World) (m n : Nat) (f : Int → Option Nat) (z : Nat) : Prop :=
  ∃ D : DataW Unit, w.ownsMap Try.prog 3 (plainElem Try.prog 3) m n D ∧
    (∀ k, Maps.has D (.int .i64 k) = (f k).isSome ∧ ∀ v, f k = some v → D.atKey (.int .i64 k) (.lit (.int .i64 0)) = .lit (.int .i64 v)) ∧ Maps.size D = z
section
variable {w w' : World} {m n z : Nat} {f : Int → Option Nat}
theorem Cm.pm (h : Cm w m n f z) : Pm w m n f := let ⟨D, h1, h2, _⟩ := h; ⟨D, h1, h2⟩
theorem Cm.lt (h : Cm w m n f z) : m < w.heap.size := h.pm.lt
theorem Cm.same (h : Cm w m n f z) (e : w'.heap[m]? = w.heap[m]?) : Cm w' m n f z := by
  obtain ⟨D, ⟨es, clock, hb, r⟩, q⟩ := h
  exact ⟨D, ⟨es, clock, e.trans hb, r⟩, q⟩
theorem Cm.made (w : World) : Cm (w.alloc (.map #[] 0)) w.heap.size 0 (fun _ => none) 0 :=
  ⟨.map [], World.ownsMap_made _ _ _ _, fun k => ⟨rfl, fun v h => by cases h⟩, rfl⟩
theorem Cm.put {D : DataW Unit} (hD : w.ownsMap Try.prog 3 (plainElem Try.prog 3) m n D)
    (hf : ∀ k, Maps.has D (.int .i64 k) = (f k).isSome ∧ ∀ v, f k = some v → D.atKey (.int .i64 k) (.lit (.int .i64 0)) = .lit (.int .i64 v)) (hz : Maps.size D = z) (k : Int) (c : Nat)
    (h1 : w'.ownsMap Try.prog 3 (plainElem Try.prog 3) m (n + 1) (D.put (.int .i64 k) (.lit (.int .i64 c)))) : Cm w' m (n + 1) (updF f k (some c)) (if (f k).isSome then z else z + 1) :=
  ⟨_, h1, Pm.upd hD.isMap hf k c trivial, by rw [size_put (hD.tidy keyInt), (hf k).1, hz]⟩
theorem Cm.len (h : Cm w m n f z) (ty : TypeId) : (Builtin.len_ #[51] ty #[.map (some m)]).run Try.prog w = .ok (.int .i64 (z : Int)) w := by
  obtain ⟨D, h1, _, rfl⟩ := h
  exact h1.len Try.underlying51 ty
end

/-- Two heaps, and the map beside them. -/
structure St (w wr : World) (mm n : Nat) (f : Int → Option Nat) (z h1 q1 m1 : Nat) (v1 : Value) (S1 : List It) (h2 q2 m2 : Nat) (v2 : Value) (S2 : List It) : Prop where
  T : Two wr w.heap.size h1 q1 m1 v1 S1 h2 q2 m2 v2 S2
  C : Cm wr mm n f z
  a : ¬ (mm = h1 ∨ Fp q1 m1 v1 mm)
  b : ¬ (mm = h2 ∨ Fp q2 m2 v2 mm)
  lo : w.heap.size ≤ mm
  z : Below w.heap.size w wr
section
variable {w wr wr' : World} {mm n z h1 q1 m1 h2 q2 m2 : Nat} {f : Int → Option Nat} {v1 v2 v1' v2' : Value} {S1 S2 S1' S2' : List It}
theorem St.first (s : St w wr mm n f z h1 q1 m1 v1 S1 h2 q2 m2 v2 S2) (hm : Moved wr wr' q1 m1 v1 v1') (H : Hp wr' w.heap.size h1 q1 m1 v1' S1') : St w wr' mm n f z h1 q1 m1 v1' S1' h2 q2 m2 v2 S2 :=
  ⟨s.T.first hm H, s.C.same (hm.1.block mm s.C.lt (fun e => s.a (.inr e))), fun e => e.elim (fun e => s.a (.inl e)) (fp_moved hm s.C.lt (fun e => s.a (.inr e))), s.b, s.lo, s.z.trans (hm.below s.T.a)⟩
theorem St.second (s : St w wr mm n f z h1 q1 m1 v1 S1 h2 q2 m2 v2 S2) (hm : Moved wr wr' q2 m2 v2 v2') (H : Hp wr' w.heap.size h2 q2 m2 v2' S2') : St w wr' mm n f z h1 q1 m1 v1 S1 h2 q2 m2 v2' S2' :=
  ⟨s.T.second hm H, s.C.same (hm.1.block mm s.C.lt (fun e => s.b (.inr e))), s.a, fun e => e.elim (fun e => s.b (.inl e)) (fp_moved hm s.C.lt (fun e => s.b (.inr e))), s.lo, s.z.trans (hm.below s.T.b)⟩
theorem St.below (s : St w wr mm n f z h1 q1 m1 v1 S1 h2 q2 m2 v2 S2) (hb : Below wr.heap.size wr wr') : St w wr' mm n f z h1 q1 m1 v1 S1 h2 q2 m2 v2 S2 :=
  ⟨s.T.below hb, s.C.same (hb.block mm s.C.lt), s.a, s.b, s.lo, s.z.trans (hb.mono s.z.size)⟩
theorem St.put (s : St w wr mm n f z h1 q1 m1 v1 S1 h2 q2 m2 v2 S2) (hg : wr.grownBy wr' (some mm)) {n' z' : Nat} {f' : Int → Option Nat} (C' : Cm wr' mm n' f' z') : St w wr' mm n' f' z' h1 q1 m1 v1 S1 h2 q2 m2 v2 S2 := by
  have hk : Kept (fun k => k = mm) wr wr' := (Kept.refl _ wr).grown hg (fun k e _ => by cases e; rfl)
  exact ⟨⟨s.T.a.kept hk (fun i hi e => s.a (e ▸ hi)), s.T.b.kept hk (fun i hi e => s.b (e ▸ hi)), s.T.ap⟩, C', s.a, s.b, s.lo, s.z.grown hg s.z.size (fun k e => by cases e; exact s.lo)⟩
end

/-- Behind one more count. -/
theorem sorts_put {w w4 w5 : World} {mm h1 q1 m1 h2 q2 m2 k : Nat} {v1 v2 : Value} {S2 l : List It} {x : It} (s : St w w4 mm k (cntF (l.take k)) (addAll (l.take k)).length h1 q1 m1 v1 (addS (addAll (l.take k)) x) h2 q2 m2 v2 S2) (hx : l[k]? = some x) (hok : x.Ok)
    {D : DataW Unit} (hD : w4.ownsMap Try.prog 3 (plainElem Try.prog 3) mm k D)
    (hf : ∀ j, Maps.has D (.int .i64 j) = (cntF (l.take k) j).isSome ∧ ∀ v, cntF (l.take k) j = some v → D.atKey (.int .i64 j) (.lit (.int .i64 0)) = .lit (.int .i64 v)) (hz : Maps.size D = (addAll (l.take k)).length)
    (hown : w5.ownsMap Try.prog 3 (plainElem Try.prog 3) mm (k + 1) (D.put (.int .i64 x.id) (.lit (.int .i64 ((cnt (l.take k) x.id : Int) + 1))))) (hg : w4.grownBy w5 (some mm)) :
    St w w5 mm (k + 1) (cntF (l.take (k + 1))) (addAll (l.take (k + 1))).length h1 q1 m1 v1 (addAll (l.take (k + 1))) h2 q2 m2 v2 S2 ∧
    (Instr.lookup 51 (.map (some mm)) (.int .i64 x.id) false).run Try.prog w5 = .ok (.int .i64 ((cnt (l.take k) x.id : Int) + 1)) w5 := by
  have C' := Cm.put hD hf hz x.id (cnt (l.take k) x.id + 1) hown
  rw [← cntF_snoc hx] at C'
  have ez : (if (cntF (l.take k) x.id).isSome = true then (addAll (l.take k)).length else (addAll (l.take k)).length + 1) = (addAll (l.take (k + 1))).length := by
    rw [addAll_snoc hx, addS_len', hasId_addAll, cntF_isSome]
  rw [ez] at C'
  refine ⟨?_, ?_⟩
  · have := s.put hg C'
    rw [← addAll_snoc hx] at this
    exact this
  · have := C'.pm.look x.id hok.1 false
    rw [cntF_getD, cnt_snoc hx, if_pos rfl] at this
    exact this

/-- A slice of the law's own beside two heaps. -/
structure Rw (wr : World) (Bu : Nat) (u : Value) (S : List It) (q1 m1 : Nat) (v1 : Value) (q2 m2 : Nat) (v2 : Value) : Prop where
  O : OwnIt wr Bu u S
  a : ∀ k, u.ownBlock = some k → ¬ Fp q1 m1 v1 k
  b : ∀ k, u.ownBlock = some k → ¬ Fp q2 m2 v2 k
section
variable {wr wr' : World} {Bu q1 m1 q2 m2 : Nat} {u v1 v2 v1' v2' : Value} {S : List It}
theorem Rw.first (r : Rw wr Bu u S q1 m1 v1 q2 m2 v2) (hm : Moved wr wr' q1 m1 v1 v1') : Rw wr' Bu u S q1 m1 v1' q2 m2 v2 := ⟨r.O.moved hm r.a, apart_moved r.O.lt hm r.a, r.b⟩
theorem Rw.second (r : Rw wr Bu u S q1 m1 v1 q2 m2 v2) (hm : Moved wr wr' q2 m2 v2 v2') : Rw wr' Bu u S q1 m1 v1 q2 m2 v2' := ⟨r.O.moved hm r.b, r.a, apart_moved r.O.lt hm r.b⟩
theorem Rw.below (r : Rw wr Bu u S q1 m1 v1 q2 m2 v2) (hb : Below wr.heap.size wr wr') : Rw wr' Bu u S q1 m1 v1 q2 m2 v2 := ⟨r.O.below hb, r.a, r.b⟩
end
/-- Behind an item stand no others of its number. -/
theorem drop_ne {S : List It} (hu : Uniq S) {j : Nat} {x : It} (h : S[j]? = some x) : ∀ y ∈ S.drop (j + 1), y.id ≠ x.id := by
  have hl := (List.getElem?_eq_some_iff.1 h).1
  have e : S.drop j = x :: S.drop (j + 1) := by rw [List.drop_eq_getElem_cons hl, (List.getElem?_eq_some_iff.1 h).2]
  have hd : Uniq (S.drop j) := by
    unfold Uniq at *
    exact List.Pairwise.sublist ((List.drop_sublist j S).map _) hu
  rw [e] at hd
  unfold Uniq at hd
  rw [List.map_cons, List.nodup_cons] at hd
  intro y hy e
  exact hd.1 (e ▸ List.mem_map_of_mem hy)
/-- An item that is ahead of all others comes first. -/
theorem ins_first {S : List It} (hs : Srt S) (hu : Uniq S) {j : Nat} {x : It} (h : S[j]? = some x) : ins x (S.drop (j + 1)) = S.drop j := by
  have hl := (List.getElem?_eq_some_iff.1 h).1
  have e : S.drop j = x :: S.drop (j + 1) := by rw [List.drop_eq_getElem_cons hl, (List.getElem?_eq_some_iff.1 h).2]
  have hd : Srt (S.drop j) := List.Pairwise.sublist (List.drop_sublist _ _) hs
  have hd2 : Srt (S.drop (j + 1)) := List.Pairwise.sublist (List.drop_sublist _ _) hs
  rw [e]
  exact srt_unique (T := x :: S.drop (j + 1)) (ins_srt hd2 (drop_ne hu h)) (by rw [← e]; exact hd) (ins_perm _ _)
theorem srt_lt {S : List It} (hs : Srt S) {j : Nat} {x y : It} (hx : S[j]? = some x) (hy : S[j + 1]? = some y) : Lt x y := by
  obtain ⟨h1, e1⟩ := List.getElem?_eq_some_iff.1 hx
  obtain ⟨h2, e2⟩ := List.getElem?_eq_some_iff.1 hy
  rw [← e1, ← e2]
  exact List.pairwise_iff_getElem.1 hs j (j + 1) h1 h2 (by omega)
theorem drop_cons {S : List It} {j : Nat} {x : It} (h : S[j]? = some x) : S.drop j = x :: S.drop (j + 1) := by
  have hl := (List.getElem?_eq_some_iff.1 h).1
  rw [List.drop_eq_getElem_cons hl, (List.getElem?_eq_some_iff.1 h).2]
end Go.Proofs.Ytfflbbohgndjfaa
