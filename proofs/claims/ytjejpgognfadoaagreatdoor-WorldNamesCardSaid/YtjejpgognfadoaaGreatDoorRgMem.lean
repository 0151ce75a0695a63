/-
  How a ring's circle lies in memory; its small calls: length, drop, segments; made.
-/
import Derived.Test.YtjejpgognfadoaaGreatDoorCmSeq
import Derived.Test.YtjejpgognfadoaaGreatDoorRgPure
namespace Go.Proofs.YtjejpgognfadoaaGreatDoor
open Go.RowKit Go.Maps Go.ChangeMaps

def encB (zs : List Int) : List Value := zs.map (Value.int .u8)
theorem encB_length (zs : List Int) : (encB zs).length = zs.length := by simp [encB]
theorem encB_get (zs : List Int) (i : Nat) : (encB zs)[i]? = (zs[i]?).map (Value.int .u8) := by simp [encB]
theorem encB_one (zs : List Int) : ∀ v ∈ encB zs, v.oneCell' = true := fun v hv => by
  obtain ⟨z, _, rfl⟩ := List.mem_map.1 hv; rfl

/-- A row of its own that the slice v names, all of it: the bytes ps. -/
def RowB (W : World) (B : Nat) (v : Value) (ps : List Int) : Prop :=
  (v = .slice none 0 0 ∧ ps = []) ∨ ∃ g, v = .slice (some ⟨g, 0, none⟩) ps.length ps.length ∧ B ≤ g ∧ W.heap[g]? = some (.cells (encB ps).toArray 5 (0, 0))

section
variable {w w' : World} {B B' cb cap inn out : Nat} {v v' : Value} {ps bs : List Int}
theorem RowB.lt (h : RowB w B v ps) {k : Nat} (hk : v.ownBlock = some k) : k < w.heap.size ∧ B ≤ k := by
  rcases h with ⟨rfl, _⟩ | ⟨g, rfl, hB, hg⟩
  · cases hk
  · cases hk; exact ⟨(Array.getElem?_eq_some_iff.1 hg).1, hB⟩
theorem RowB.same (h : RowB w B v ps) (e : ∀ k, v.ownBlock = some k → w'.heap[k]? = w.heap[k]?) : RowB w' B v ps := by
  rcases h with h | ⟨g, rfl, hB, hg⟩
  · exact .inl h
  · exact .inr ⟨g, rfl, hB, (e g rfl).trans hg⟩
theorem RowB.mono (h : RowB w B v ps) (hB : B' ≤ B) : RowB w B' v ps := by
  rcases h with h | ⟨g, rfl, hb, hg⟩
  · exact .inl h
  · exact .inr ⟨g, rfl, Nat.le_trans hB hb, hg⟩
theorem RowB.below (h : RowB w B v ps) (hb : Below w.heap.size w w') : RowB w' B v ps := h.same fun k e => hb.block k (h.lt e).1
theorem RowB.form (h : RowB w B v ps) : ∃ A, v = .slice A ps.length ps.length ∧ (A.map (·.block) = v.ownBlock) := by
  rcases h with ⟨rfl, rfl⟩ | ⟨g, rfl, _, _⟩
  · exact ⟨none, rfl, rfl⟩
  · exact ⟨_, rfl, rfl⟩

/-- A circle: its block, its row, the bytes in it. -/
structure Cst (W : World) (B cb cap : Nat) (v : Value) (ps bs : List Int) (inn out : Nat) : Prop where
  blk : Blk W cb 104 #[.int .i64 (cap : Int), v, .int .u64 (inn : Int), .int .u64 (out : Int)]
  row : RowB W B v ps
  hB : B ≤ cb
  lies : Lies ps bs out
  le : ps.length ≤ 65536
  big : cap ≤ 65536
  fit : bs.length ≤ cap
  hin : inn = out + bs.length
  sm : inn ≤ 1000000000

/-- Its two blocks. -/
def Fr (cb : Nat) (v : Value) (k : Nat) : Prop := k = cb ∨ v.ownBlock = some k
theorem Cst.lt (h : Cst w B cb cap v ps bs inn out) {k : Nat} (hk : Fr cb v k) : k < w.heap.size ∧ B ≤ k := by
  rcases hk with rfl | hk
  · exact ⟨h.blk.lt, h.hB⟩
  · exact h.row.lt hk
theorem Cst.same (h : Cst w B cb cap v ps bs inn out) (e : ∀ k, Fr cb v k → w'.heap[k]? = w.heap[k]?) : Cst w' B cb cap v ps bs inn out :=
  ⟨h.blk.same (e cb (.inl rfl)), h.row.same (fun k hk => e k (.inr hk)), h.hB, h.lies, h.le, h.big, h.fit, h.hin, h.sm⟩
theorem Cst.kept {F : Nat → Prop} (h : Cst w B cb cap v ps bs inn out) (k : Kept F w w') (hf : ∀ i, Fr cb v i → ¬ F i) : Cst w' B cb cap v ps bs inn out :=
  h.same fun i hi => k.block i (h.lt hi).1 (hf i hi)
theorem Cst.below (h : Cst w B cb cap v ps bs inn out) (hb : Below w.heap.size w w') : Cst w' B cb cap v ps bs inn out := h.same fun k hk => hb.block k (h.lt hk).1
theorem Cst.drewN (h : Cst w B cb cap v ps bs inn out) (q : Nat) : Cst (w.drewN q) B cb cap v ps bs inn out := h.same fun _ _ => rfl
theorem Cst.ne (h : Cst w B cb cap v ps bs inn out) : v.ownBlock ≠ some cb := by
  intro e
  rcases h.row with ⟨rfl, _⟩ | ⟨g, rfl, _, hg⟩
  · cases e
  · cases e
    have hq := h.blk
    unfold Blk at hq
    rw [hg] at hq
    injection hq with hq; injection hq with _ ht; revert ht; decide

/-- What a call turned: the circle's blocks alone; its row is the old one, or a new one. -/
structure Rm (w w' : World) (cb : Nat) (v v' : Value) : Prop where
  k : Kept (Fr cb v) w w'
  o : v'.ownBlock = v.ownBlock ∨ ∀ i, v'.ownBlock = some i → w.heap.size ≤ i
end

theorem made_yes (w : World) (r c : Nat) (c0 : w.cell? ⟨r, 0, none⟩ = some (.pointer (some ⟨c, 0, none⟩))) : Calls Tryz.prog 69 #[.pointer (some ⟨r, 0, none⟩)] w fun e w' => e = .returned (.bool true) ∧ w = w' := by
  go_enter Tryz.func69, Tryz.ntmps69
  go_wp2
  go_ret
  exact ⟨rfl, rfl⟩
theorem made_nil (w : World) : Calls Tryz.prog 69 #[.pointer none] w fun e w' => e = .returned (.bool false) ∧ w = w' := by
  go_enter Tryz.func69, Tryz.ntmps69
  go_wp2
  go_ret
  exact ⟨rfl, rfl⟩

set_option maxHeartbeats 1000000 in
theorem length_any {w : World} {B cb cap inn out : Nat} {v : Value} {ps bs : List Int} (h : Cst w B cb cap v ps bs inn out) :
    Calls Tryz.prog 70 #[.pointer (some ⟨cb, 0, none⟩)] w fun e w' => e = .returned (.int .i64 (bs.length : Int)) ∧ ∃ n, w' = w.drewN n := by
  have c2 := h.blk.cell 2
  have c3 := h.blk.cell 3
  simp at c2 c3
  have l1 := h.blk.lt
  have hi := h.hin
  have hs := h.sm
  have e1 : IntKind.u64.wrap ((inn : Int) - (out : Int)) = ((bs.length : Nat) : Int) := by
    rw [IntWalk.u64_in _ (by omega)]; omega
  have e2 : IntKind.i64.wrap ((bs.length : Nat) : Int) = ((bs.length : Nat) : Int) := IntWalk.i64_in _ (by omega)
  clear h hi hs
  go_enter Tryz.func70, Tryz.ntmps70
  go_wp2_with fail
  go_quiet (fail)
  go_wp2
  go_ret
  exact ⟨rfl, _, rfl⟩

theorem drop_any {w : World} {B cb cap inn out : Nat} {v : Value} {ps bs : List Int} (h : Cst w B cb cap v ps bs inn out) (n : Nat) (hn : n ≤ bs.length) :
    Calls Tryz.prog 85 #[.pointer (some ⟨cb, 0, none⟩), .int .i64 (n : Int)] w fun e w' => e = .returned (.tuple #[]) ∧ Cst w' B cb cap v ps (bs.drop n) inn (out + n) ∧ Rm w w' cb v v := by
  have c3 := h.blk.cell 3
  simp at c3
  have hf := h.blk.frozen 3
  have l1 := h.blk.lt
  have hi := h.hin
  have hs := h.sm
  have e1 : IntKind.u64.wrap (n : Int) = (n : Int) := IntWalk.u64_in _ (by omega)
  have e2 : IntKind.u64.wrap ((out : Int) + (n : Int)) = ((out + n : Nat) : Int) := by rw [IntWalk.u64_in _ (by omega)]; omega
  have HE := Lib.hid (show Cst (w.setCell ⟨cb, 3, none⟩ (.int .u64 ((out + n : Nat) : Int))) B cb cap v ps (bs.drop n) inn (out + n) ∧ Rm w (w.setCell ⟨cb, 3, none⟩ (.int .u64 ((out + n : Nat) : Int))) cb v v from
    ⟨⟨by have := h.blk.set_ 3 (.int .u64 ((out + n : Nat) : Int)); simpa using this, h.row.same (fun k e => Below.heap_setCell _ _ _ _ (fun e' => h.ne (by rw [e, e']))), h.hB, h.lies.drop n hn, h.le, h.big, by rw [List.length_drop]; have := h.fit; omega, by rw [List.length_drop]; omega, hs⟩, ⟨(Kept.refl _ w).setCell (.inl rfl) _, .inl rfl⟩⟩)
  have b0 : (0 : Int) ≤ (n : Int) := by omega
  have b1 : (n : Int) ≤ 1000000000 := by omega
  have b2 : (0 : Int) ≤ (out : Int) := by omega
  have b3 : (out : Int) + (n : Int) ≤ 1000000000 := by omega
  clear h hi hs hn
  go_enter Tryz.func85, Tryz.ntmps85
  go_wp2
  go_end0
  exact ⟨rfl, HE.out⟩

theorem segments_any (w : World) (cb f n : Nat) :
    Calls Tryz.prog 103 #[.pointer (some ⟨cb, 0, none⟩), .int .u64 (f : Int), .int .i64 (n : Int)] w fun e w' =>
      e = .returned (.func (.func 106) #[] #[.pointer (some ⟨w.heap.size + 2, 0, none⟩), .pointer (some ⟨w.heap.size + 1, 0, none⟩), .pointer (some ⟨w.heap.size, 0, none⟩)]) ∧
      w' = ((w.alloc (.cells #[.pointer (some ⟨cb, 0, none⟩)] 100)).alloc (.cells #[.int .u64 (f : Int)] 35)).alloc (.cells #[.int .i64 (n : Int)] 3) := by
  go_enter Tryz.func103, Tryz.ntmps103
  go_wp2
  go_ret
  exact ⟨rfl, rfl⟩
end Go.Proofs.YtjejpgognfadoaaGreatDoor
