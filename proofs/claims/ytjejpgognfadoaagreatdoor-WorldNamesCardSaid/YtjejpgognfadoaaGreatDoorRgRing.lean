/-
  A ring in memory, and the contracts of its calls.
-/
import Derived.Test.YtjejpgognfadoaaGreatDoorRgPut
namespace Go.Proofs.YtjejpgognfadoaaGreatDoor
open Go.RowKit Go.Shelf Go.Maps Go.ChangeMaps

/-- A ring: its own block names a circle; F: all its blocks. -/
def Rg (W : World) (B r : Nat) (F : Nat → Prop) (cap : Nat) (bs : List Int) (inn out : Nat) : Prop :=
  ∃ cb v ps, Blk W r 102 #[.pointer (some ⟨cb, 0, none⟩)] ∧ B ≤ r ∧ B ≤ W.heap.size ∧ Cst W B cb cap v ps bs inn out ∧ ∀ k, F k ↔ (k = r ∨ Fr cb v k)
/-- What a call turned: the ring's blocks alone; those that it has behind the call it had, or they are new. -/
structure Mv (W W' : World) (F F' : Nat → Prop) : Prop where
  k : Kept F W W'
  o : ∀ i, F' i → F i ∨ W.heap.size ≤ i

section
variable {w w' w'' : World} {B r cap inn out : Nat} {F F' F'' : Nat → Prop} {bs : List Int}
theorem Rg.lt (h : Rg w B r F cap bs inn out) {k : Nat} (hk : F k) : k < w.heap.size ∧ B ≤ k := by
  obtain ⟨cb, v, ps, h1, h2, h3, h4, h5⟩ := h
  rcases (h5 k).1 hk with rfl | e
  · exact ⟨h1.lt, h2⟩
  · exact h4.lt e
theorem Rg.same (h : Rg w B r F cap bs inn out) (e : ∀ k, F k → w'.heap[k]? = w.heap[k]?) (hs : B ≤ w'.heap.size) : Rg w' B r F cap bs inn out := by
  obtain ⟨cb, v, ps, h1, h2, h3, h4, h5⟩ := h
  exact ⟨cb, v, ps, h1.same (e r ((h5 r).2 (.inl rfl))), h2, hs, h4.same (fun k hk => e k ((h5 k).2 (.inr hk))), h5⟩
theorem Rg.base (h : Rg w B r F cap bs inn out) : B ≤ w.heap.size := by obtain ⟨_, _, _, _, _, h3, _, _⟩ := h; exact h3
theorem Rg.kept {G : Nat → Prop} (h : Rg w B r F cap bs inn out) (k : Kept G w w') (hf : ∀ i, F i → ¬ G i) : Rg w' B r F cap bs inn out :=
  h.same (fun i hi => k.block i (h.lt hi).1 (hf i hi)) (Nat.le_trans h.base k.size)
theorem Rg.below (h : Rg w B r F cap bs inn out) (hb : Below w.heap.size w w') : Rg w' B r F cap bs inn out := h.same (fun i hi => hb.block i (h.lt hi).1) (Nat.le_trans h.base hb.size)
theorem Rg.drewN (h : Rg w B r F cap bs inn out) (q : Nat) : Rg (w.drewN q) B r F cap bs inn out := h.same (fun _ _ => rfl) h.base
theorem Rg.alloc (h : Rg w B r F cap bs inn out) (o : Obj) : Rg (w.alloc o) B r F cap bs inn out := h.kept ((Kept.refl (fun _ => False) w).alloc o) (fun _ _ e => e)
theorem Rg.facts (h : Rg w B r F cap bs inn out) : bs.length ≤ cap ∧ cap ≤ 65536 ∧ inn = out + bs.length ∧ inn ≤ 1000000000 ∧ F r := by
  obtain ⟨cb, v, ps, _, _, _, h4, h5⟩ := h
  exact ⟨h4.fit, h4.big, h4.hin, h4.sm, (h5 r).2 (.inl rfl)⟩
theorem Mv.below {B0 : Nat} (h : Mv w w' F F') (hF : ∀ k, F k → B0 ≤ k) (hB : B0 ≤ w.heap.size) : Below B0 w w' := h.k.below hF hB
theorem Mv.trans (h : Mv w w' F F') (k : Mv w' w'' F' F'') : Mv w w'' F F'' :=
  ⟨h.k.andThen k.k (fun i hi e => by rcases h.o i e with h | h; exact h; omega), fun i e => by
    rcases k.o i e with e | e
    · exact h.o i e
    · exact .inr (Nat.le_trans h.k.size e)⟩
theorem Mv.of_kept (h : Kept (fun _ => False) w w') : Mv w w' F F := ⟨h.mono fun _ _ e => e.elim, fun _ e => .inl e⟩
/-- Another ring's blocks, apart from this one's, lie as they lay, and stay apart. -/
theorem Rg.apart {r2 cap2 inn2 out2 : Nat} {G : Nat → Prop} {bs2 : List Int} (h : Rg w B r2 G cap2 bs2 inn2 out2) (m : Mv w w' F F') (ha : ∀ i, G i → ¬ F i) : Rg w' B r2 G cap2 bs2 inn2 out2 ∧ ∀ i, G i → ¬ F' i :=
  ⟨h.kept m.k ha, fun i hg hf => by rcases m.o i hf with e | e; exact ha i hg e; have := (h.lt hg).1; omega⟩
end

theorem new_no (w : World) (k : Int) (h : k < 0 ∨ 65536 < k) (h2 : -9223372036854775808 ≤ k ∧ k ≤ 9223372036854775807) : Calls Tryz.prog 86 #[.int .i64 k] w fun e w' => e = .returned (.tuple #[.pointer none, .int .i64 2]) ∧ w = w' := by
  rcases h with h | h
  · go_enter Tryz.func86, Tryz.ntmps86
    go_wp2
    go_ret2
    exact ⟨rfl, rfl⟩
  · have h0 : 0 ≤ k := by omega
    go_enter Tryz.func86, Tryz.ntmps86
    go_wp2
    go_ret2
    exact ⟨rfl, rfl⟩

theorem new_yes (w : World) (k : Nat) (h : k ≤ 65536) : Calls Tryz.prog 86 #[.int .i64 (k : Int)] w fun e w' => ∃ r F, e = .returned (.tuple #[.pointer (some ⟨r, 0, none⟩), .int .i64 0]) ∧ Rg w' w.heap.size r F k [] 0 0 ∧ Below w.heap.size w w' ∧ r < w'.heap.size := by
  have h0 : (0 : Int) ≤ (k : Int) := by omega
  have h1 : (k : Int) ≤ 65536 := by omega
  go_enter Tryz.func86, Tryz.ntmps86
  go_wp2
  go_ret2
  refine ⟨_, (fun i => i = w.heap.size + 1 ∨ Fr w.heap.size (.slice none 0 0) i), rfl, ⟨w.heap.size, .slice none 0 0, [], ?_, by omega, by simp; omega, ⟨?_, .inl ⟨rfl, rfl⟩, Nat.le_refl _, Lies.none _ _, by simp, h, by simp, by simp, by simp⟩, fun i => Iff.rfl⟩, ((Below.refl _ w).alloc (Nat.le_refl _) _).alloc (by simp) _, by simp⟩
  · have := Blk.new (w.alloc (.cells #[.int .i64 (k : Int), .slice none 0 0, .int .u64 0, .int .u64 0] 104)) 102 #[.pointer (some ⟨w.heap.size, 0, none⟩)]
    simpa using this
  · have := (Blk.new w 104 #[.int .i64 (k : Int), .slice none 0 0, .int .u64 0, .int .u64 0]).alloc (.cells #[.pointer (some ⟨w.heap.size, 0, none⟩)] 102)
    simpa using this

section
variable {w : World} {B r cap inn out : Nat} {F : Nat → Prop} {bs : List Int}
theorem len_any (h : Rg w B r F cap bs inn out) : Calls Tryz.prog 39 #[.pointer (some ⟨r, 0, none⟩)] w fun e w' => e = .returned (.int .i64 (bs.length : Int)) ∧ ∃ n, w' = w.drewN n := by
  obtain ⟨cb, v, ps, h1, h2, h3, h4, h5⟩ := h
  have c0 := h1.cell 0
  simp at c0
  have hM := Lib.hid (made_yes w r cb c0)
  have hL := Lib.hid (length_any h4)
  clear h1 h4 h5
  go_enter Tryz.func39, Tryz.ntmps39
  go_wp2_with (first
    | (go_at_call 69; refine hM.out.mono ?_; rintro e w' ⟨rfl, rfl⟩)
    | (go_at_call 70; refine hL.out.mono ?_; rintro e w' ⟨rfl, q, rfl⟩))
  go_ret
  exact ⟨rfl, _, rfl⟩
theorem len_nil (w : World) : Calls Tryz.prog 39 #[.pointer none] w fun e w' => e = .returned (.int .i64 0) ∧ w = w' := by
  go_enter Tryz.func39, Tryz.ntmps39
  go_wp2_with (go_at_call 69; refine (made_nil w).mono ?_; rintro e w' ⟨rfl, rfl⟩)
  go_ret
  exact ⟨rfl, rfl⟩
theorem room_nil (w : World) : Calls Tryz.prog 44 #[.pointer none] w fun e w' => e = .returned (.int .i64 0) ∧ w = w' := by
  go_enter Tryz.func44, Tryz.ntmps44
  go_wp2_with (go_at_call 69; refine (made_nil w).mono ?_; rintro e w' ⟨rfl, rfl⟩)
  go_ret
  exact ⟨rfl, rfl⟩
theorem put_nil (w : World) (A : Option Addr) (n c : Nat) : Calls Tryz.prog 67 #[.pointer none, .slice A n c] w fun e w' => e = .returned (.int .i64 0) ∧ w = w' := by
  have e1 : (if n = 0 then (n : Int) else 0) = 0 := by split <;> omega
  have h0 : (0 : Int) ≤ (n : Int) := by omega
  go_enter Tryz.func67, Tryz.ntmps67
  go_wp2_with (go_at_call 44; refine (room_nil w).mono ?_; rintro e w' ⟨rfl, rfl⟩)
  all_goals (go_ret; exact ⟨by first | rfl | simp_all, rfl⟩)
set_option maxHeartbeats 1000000 in
theorem room_any (h : Rg w B r F cap bs inn out) : Calls Tryz.prog 44 #[.pointer (some ⟨r, 0, none⟩)] w fun e w' => e = .returned (.int .i64 ((cap - bs.length : Nat) : Int)) ∧ ∃ n, w' = w.drewN n := by
  have hf := h.facts
  obtain ⟨cb, v, ps, h1, h2, h3, h4, h5⟩ := h
  have c0 := h1.cell 0
  simp at c0
  have d0 := h4.blk.cell 0
  simp at d0
  have l1 := h1.lt
  have l2 := h4.blk.lt
  have hM := Lib.hid (made_yes w r cb c0)
  have hL := Lib.hid (fun q => length_any (h4.drewN q))
  have e1 : IntKind.i64.wrap ((cap : Int) - (bs.length : Int)) = ((cap - bs.length : Nat) : Int) := by rw [IntWalk.i64_in _ (by omega)]; omega
  clear h1 h4 h5 hf
  go_enter Tryz.func44, Tryz.ntmps44
  go_wp2_with (go_at_call 69; refine hM.out.mono ?_; rintro e w' ⟨rfl, rfl⟩)
  go_quiet ((go_at_call 70; exact Calls.quiet_of (hL.out _)))
  go_wp2
  go_ret
  exact ⟨rfl, _, rfl⟩
end
end Go.Proofs.YtjejpgognfadoaaGreatDoor
