/-
  Queues in memory, and the contracts of the small calls.
-/
import Derived.Test.YtlkmmbondelheaaPrLeave
import Derived.Test.YtlkmmbondelheaaPrList
namespace Go.Proofs.Ytlkmmbondelheaa
open Go.RowKit Go.Maps Go.ChangeMaps

/-- The rows of queues. -/
structure Rw (w : World) (r g m many : Nat) (F G : Nd → Nd) (L : List It) : Prop where
  rb : Blk w r 71 #[.slice (some ⟨g, 0, none⟩) many many, .map (some m)]
  pm : Pm w m L.length (placeF L)
  nds : Nds w g many F G L
  rings : Rings F G many L
  mny : 1 ≤ many ∧ many ≤ 8
  ok : ∀ x ∈ L, x.Ok many
  ids : (L.map (·.id)).Nodup
  len : L.length ≤ 100000

/-- Their blocks. -/
def Fw (r g m : Nat) (L : List It) (k : Nat) : Prop := k = r ∨ k = m ∨ Fn g L k
section
variable {w w' : World} {r g m many : Nat} {F G : Nd → Nd} {L : List It} {k : Nat}
theorem Rw.lt (h : Rw w r g m many F G L) (hk : Fw r g m L k) : k < w.heap.size := by
  rcases hk with rfl | rfl | rfl | ⟨x, hx, rfl⟩
  · exact h.rb.lt
  · exact h.pm.lt
  · obtain ⟨cs, hb, _⟩ := h.nds.ends; exact hb.lt
  · exact (h.nds.its x hx).lt
theorem Rw.same (h : Rw w r g m many F G L) (e : ∀ k, Fw r g m L k → w'.heap[k]? = w.heap[k]?) : Rw w' r g m many F G L :=
  ⟨h.rb.same (e r (.inl rfl)), h.pm.same (e m (.inr (.inl rfl))), h.nds.same (e g (.inr (.inr (.inl rfl)))) (fun x hx => e x.bk (.inr (.inr (.inr ⟨x, hx, rfl⟩)))), h.rings, h.mny, h.ok, h.ids, h.len⟩
theorem blk_ne {t t' : TypeId} {cs cs' : Array Value} {a b : Nat} (h : Blk w a t cs) (h' : Blk w b t' cs') (ht : t ≠ t') : a ≠ b := fun e => by
  subst e
  unfold Blk at h h'
  rw [h] at h'
  injection h' with h'; injection h' with _ h'
  exact ht h'
theorem Pm.ne {n : Nat} {f : Int → Option Nat} {t : TypeId} {cs : Array Value} {a : Nat} (h : Pm w m n f) (hb : Blk w a t cs) : a ≠ m := fun e => by subst e; exact h.nomap hb
theorem Rw.rg (h : Rw w r g m many F G L) : r ≠ g := by obtain ⟨cs, hb, _⟩ := h.nds.ends; exact blk_ne h.rb hb (by decide)
theorem Rw.rm (h : Rw w r g m many F G L) : r ≠ m := h.pm.ne h.rb
theorem Rw.gm (h : Rw w r g m many F G L) : g ≠ m := by obtain ⟨cs, hb, _⟩ := h.nds.ends; exact h.pm.ne hb
theorem Rw.xr (h : Rw w r g m many F G L) {x : It} (hx : x ∈ L) : r ≠ x.bk := blk_ne h.rb (h.nds.its x hx) (by decide)
theorem Rw.xm (h : Rw w r g m many F G L) {x : It} (hx : x ∈ L) : x.bk ≠ m := h.pm.ne (h.nds.its x hx)
theorem Rw.rn (h : Rw w r g m many F G L) : ¬ Fn g L r := by
  rintro (e | ⟨x, hx, e⟩)
  · exact h.rg e
  · exact h.xr hx e.symm
theorem Rw.mn (h : Rw w r g m many F G L) : ¬ Fn g L m := by
  rintro (e | ⟨x, hx, e⟩)
  · exact h.gm e.symm
  · exact h.xm hx e
end

/-- Queues: their own block names their rows; Own: all their blocks. -/
def Qu (w : World) (B h : Nat) (Own : Nat → Prop) (many : Nat) (L : List It) : Prop :=
  ∃ r g m F G, Blk w h 65 #[.pointer (some ⟨r, 0, none⟩)] ∧ Rw w r g m many F G L ∧ (∀ k, Own k ↔ k = h ∨ Fw r g m L k) ∧ (∀ k, Own k → B ≤ k) ∧ B ≤ w.heap.size
/-- What a call turned: their blocks alone; those that they have behind the call they had, or they are new. -/
structure Mv (w w' : World) (F F' : Nat → Prop) : Prop where
  k : Kept F w w'
  o : ∀ i, F' i → F i ∨ w.heap.size ≤ i

section
variable {w w' w'' : World} {B h many : Nat} {Own F F' F'' : Nat → Prop} {L : List It}
theorem Qu.lt (H : Qu w B h Own many L) {k : Nat} (hk : Own k) : k < w.heap.size ∧ B ≤ k := by
  obtain ⟨r, g, m, F, G, h1, h2, h3, h4, h5⟩ := H
  refine ⟨?_, h4 k hk⟩
  rcases (h3 k).1 hk with rfl | e
  · exact h1.lt
  · exact h2.lt e
theorem Qu.base (H : Qu w B h Own many L) : B ≤ w.heap.size := by obtain ⟨_, _, _, _, _, _, _, _, _, h5⟩ := H; exact h5
theorem Qu.same (H : Qu w B h Own many L) (e : ∀ k, Own k → w'.heap[k]? = w.heap[k]?) (hs : B ≤ w'.heap.size) : Qu w' B h Own many L := by
  obtain ⟨r, g, m, F, G, h1, h2, h3, h4, h5⟩ := H
  exact ⟨r, g, m, F, G, h1.same (e h ((h3 h).2 (.inl rfl))), h2.same (fun k hk => e k ((h3 k).2 (.inr hk))), h3, h4, hs⟩
theorem Qu.kept {J : Nat → Prop} (H : Qu w B h Own many L) (k : Kept J w w') (hf : ∀ i, Own i → ¬ J i) : Qu w' B h Own many L :=
  H.same (fun i hi => k.block i (H.lt hi).1 (hf i hi)) (Nat.le_trans H.base k.size)
theorem Qu.alloc (H : Qu w B h Own many L) (o : Obj) : Qu (w.alloc o) B h Own many L := H.kept ((Kept.refl (fun _ => False) w).alloc o) (fun _ _ e => e)
theorem Qu.drewN (H : Qu w B h Own many L) (q : Nat) : Qu (w.drewN q) B h Own many L := H.same (fun _ _ => rfl) H.base
theorem Qu.below (H : Qu w B h Own many L) (hb : Below w.heap.size w w') : Qu w' B h Own many L := H.same (fun i hi => hb.block i (H.lt hi).1) (Nat.le_trans H.base hb.size)
theorem Qu.facts (H : Qu w B h Own many L) : (1 ≤ many ∧ many ≤ 8) ∧ (∀ x ∈ L, x.Ok many) ∧ (L.map (·.id)).Nodup ∧ L.length ≤ 100000 ∧ Own h := by
  obtain ⟨r, g, m, F, G, h1, h2, h3, h4, h5⟩ := H
  exact ⟨h2.mny, h2.ok, h2.ids, h2.len, (h3 h).2 (.inl rfl)⟩
theorem Mv.below {B0 : Nat} (h : Mv w w' F F') (hF : ∀ k, F k → B0 ≤ k) (hB : B0 ≤ w.heap.size) : Below B0 w w' := h.k.below hF hB
theorem Mv.trans (h : Mv w w' F F') (k : Mv w' w'' F' F'') : Mv w w'' F F'' :=
  ⟨h.k.andThen k.k (fun i hi e => by rcases h.o i e with h | h; exact h; omega), fun i e => by
    rcases k.o i e with e | e
    · exact h.o i e
    · exact .inr (Nat.le_trans h.k.size e)⟩
theorem Mv.of_kept (h : Kept (fun _ => False) w w') : Mv w w' F F := ⟨h.mono fun _ _ e => e.elim, fun _ e => .inl e⟩
theorem Qu.apart (H : Qu w B h Own many L) {r g m : Nat} {G0 G1 : Nd → Nd} (hb : Blk w h 65 #[.pointer (some ⟨r, 0, none⟩)]) (h2 : Rw w r g m many G0 G1 L) : ¬ Fw r g m L h := by
  rintro (e | e | e | ⟨x, hx, e⟩)
  · exact blk_ne hb h2.rb (by decide) e
  · exact h2.pm.ne hb e
  · obtain ⟨cs, hc, _⟩ := h2.nds.ends; exact blk_ne hb hc (by decide) e
  · exact blk_ne hb (h2.nds.its x hx) (by decide) e.symm
end

theorem made_nil (w : World) : Calls Try.prog 29 #[.pointer none] w fun e w' => e = .returned (.bool false) ∧ w = w' := by
  go_enter Try.func29, Try.ntmps29
  go_wp2
  go_ret
  exact ⟨rfl, rfl⟩
theorem made_yes (w : World) (h r : Nat) (c0 : w.cell? ⟨h, 0, none⟩ = some (.pointer (some ⟨r, 0, none⟩))) : Calls Try.prog 29 #[.pointer (some ⟨h, 0, none⟩)] w fun e w' => e = .returned (.bool true) ∧ w = w' := by
  go_enter Try.func29, Try.ntmps29
  go_wp2
  go_ret
  exact ⟨rfl, rfl⟩

section
variable {w : World} {B h many : Nat} {Own : Nat → Prop} {L : List It}
theorem many_any (H : Qu w B h Own many L) : Calls Try.prog 24 #[.pointer (some ⟨h, 0, none⟩)] w fun e w' => e = .returned (.int .i64 (many : Int)) ∧ w = w' := by
  obtain ⟨r, g, m, F, G, h1, h2, h3, h4, h5⟩ := H
  have c0 := h1.cell 0
  have d0 := h2.rb.cell 0
  simp at c0 d0
  have hM := Lib.hid (made_yes w h r c0)
  clear h1 h2 h3 h4 h5
  go_enter Try.func24, Try.ntmps24
  go_wp2_with (go_at_call 29; refine hM.out.mono ?_; rintro e w' ⟨rfl, rfl⟩)
  go_ret
  exact ⟨rfl, rfl⟩
theorem len_any (H : Qu w B h Own many L) : Calls Try.prog 21 #[.pointer (some ⟨h, 0, none⟩)] w fun e w' => e = .returned (.int .i64 (L.length : Int)) ∧ w = w' := by
  obtain ⟨r, g, m, F, G, h1, h2, h3, h4, h5⟩ := H
  have c0 := h1.cell 0
  have d1 := h2.rb.cell 1
  simp at c0 d1
  have hM := Lib.hid (made_yes w h r c0)
  have hl := fun ty => h2.pm.len ty
  clear h1 h2 h3 h4 h5
  go_enter Try.func21, Try.ntmps21
  go_wp2_with (go_at_call 29; refine hM.out.mono ?_; rintro e w' ⟨rfl, rfl⟩)
  go_ret
  exact ⟨rfl, rfl⟩
theorem has_yes (H : Qu w B h Own many L) (p : Int) (h0 : 0 ≤ p) (h1 : p < (many : Int)) : Calls Try.prog 30 #[.pointer (some ⟨h, 0, none⟩), .int .i64 p] w fun e w' => e = .returned (.bool true) ∧ w = w' := by
  have hM := Lib.hid (many_any H)
  clear H
  go_enter Try.func30, Try.ntmps30
  go_wp2_with (go_at_call 24; refine hM.out.mono ?_; rintro e w' ⟨rfl, rfl⟩)
  go_ret
  exact ⟨rfl, rfl⟩
theorem has_no (H : Qu w B h Own many L) (p : Int) (h1 : p < 0 ∨ (many : Int) ≤ p) : Calls Try.prog 30 #[.pointer (some ⟨h, 0, none⟩), .int .i64 p] w fun e w' => e = .returned (.bool false) ∧ w = w' := by
  have hM := Lib.hid (many_any H)
  clear H
  by_cases h0 : p < 0
  · clear h1
    go_enter Try.func30, Try.ntmps30
    go_wp2_with (go_at_call 24; refine hM.out.mono ?_; rintro e w' ⟨rfl, rfl⟩)
    go_ret
    exact ⟨rfl, rfl⟩
  · have h2 : (many : Int) ≤ p := by omega
    have h3 : 0 ≤ p := by omega
    have h4 : decide (p < (many : Int)) = false := by simp; omega
    clear h1 h0
    go_enter Try.func30, Try.ntmps30
    go_wp2_with (go_at_call 24; refine hM.out.mono ?_; rintro e w' ⟨rfl, rfl⟩)
    go_ret
    exact ⟨rfl, rfl⟩
end

set_option maxHeartbeats 1000000 in
theorem more_any (w : World) (b : Nat) (i fl ct : Int) (c3 c4 c5 : Value) (hb : Blk w b 74 #[.int .i64 i, .int .i64 fl, .int .i64 ct, c3, c4, c5]) (fl' c : Int) (h0 : 0 ≤ ct) (h1 : ct ≤ 2147483647) (hc : 0 ≤ c) (hc1 : c ≤ 9223372036854775807) :
    Calls Try.prog 32 #[.pointer (some ⟨b, 0, none⟩), .int .i64 fl', .int .i64 c] w fun e w' =>
      e = .returned (.tuple #[]) ∧ Blk w' b 74 #[.int .i64 i, .int .i64 (bor fl fl'), .int .i64 (addC ct c), c3, c4, c5] ∧ Kept (fun k => k = b) w w' := by
  have d1 := hb.cell 1
  have d2 := hb.cell 2
  simp at d1 d2
  have fz := fun j => hb.frozen j
  have lb := hb.lt
  have hb2 := (hb.set_ 1 (.int .i64 (bor fl fl'))).set_ 2 (.int .i64 (addC ct c))
  simp at hb2
  have H := Lib.hid hb2
  clear hb hb2
  have e1 : IntKind.i64.wrap (2147483647 - ct) = 2147483647 - ct := IntWalk.i64_in _ (by omega)
  go_enter Try.func32, Try.ntmps32
  go_wp2
  go_region
  go_wp2
  · go_end0
    have e2 : ct + (2147483647 - ct) = addC ct c := by unfold addC; omega
    rw [e2]
    exact ⟨rfl, H.out, (((Kept.refl (fun k => k = b) w).setCell (p := ⟨b, 1, none⟩) rfl _).setCell (p := ⟨b, 2, none⟩) rfl _).drew⟩
  · go_end0
    have e2 : ct + c = addC ct c := by unfold addC; omega
    rw [e2]
    exact ⟨rfl, H.out, (((Kept.refl (fun k => k = b) w).setCell (p := ⟨b, 1, none⟩) rfl _).setCell (p := ⟨b, 2, none⟩) rfl _).drew⟩
end Go.Proofs.Ytlkmmbondelheaa
