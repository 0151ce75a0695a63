/-
  rows.add, rows.remove, rows.move: an item comes, goes, and moves.
-/
import Derived.Test.YtlkmmbondelheaaPrQu
namespace Go.Proofs.Ytlkmmbondelheaa
open Go.RowKit Go.Maps Go.ChangeMaps

section
variable {w w' : World} {r g m many : Nat} {F G : Nd → Nd} {L M N : List It} {x : It}
theorem mem_split (M N : List It) (x : It) : x ∈ M ++ x :: N := by simp
theorem Rw.cellx (h : Rw w r g m many F G (M ++ x :: N)) : Blk w x.bk 74 (encPl F G g x) := h.nds.its x (mem_split M N x)
/-- An item's flags and count are turned. -/
theorem Rw.up (h : Rw w r g m many F G (M ++ x :: N)) (x' : It) (h1 : x'.id = x.id) (h2 : x'.bk = x.bk) (h3 : x'.pr = x.pr) (ho : x'.Ok many) (hb : Blk w' x.bk 74 (encPl F G g x')) (hk : Kept (fun k => k = x.bk) w w') :
    Rw w' r g m many F G (M ++ x' :: N) := by
  have hx := mem_split M N x
  have hne := (nodup_drop h.rings.nod).2
  refine ⟨h.rb.kept hk (h.xr hx), ?_, ?_, ?_, h.mny, fun y hy => ?_, ?_, ?_⟩
  · have := h.pm.kept hk (fun e => h.xm hx e.symm)
    rw [place_up x' h1 h2]
    simpa using this
  · obtain ⟨cs, hc, r1⟩ := h.nds.ends
    refine ⟨⟨cs, hc.kept hk (fun e => h.nds.gne x hx e.symm), r1⟩, fun y hy => ?_, fun y hy => ?_⟩
    · rcases List.mem_append.1 hy with hy | hy
      · exact (h.nds.its y (by simp [hy])).kept hk (hne y (by simp [hy]))
      · rcases List.mem_cons.1 hy with rfl | hy
        · rw [h2]; exact hb
        · exact (h.nds.its y (by simp [hy])).kept hk (hne y (by simp [hy]))
    · rcases List.mem_append.1 hy with hy | hy
      · exact h.nds.gne y (by simp [hy])
      · rcases List.mem_cons.1 hy with rfl | hy
        · rw [h2]; exact h.nds.gne x hx
        · exact h.nds.gne y (by simp [hy])
  · exact h.rings.same (by simp [h2, h3])
  · rcases List.mem_append.1 hy with hy | hy
    · exact h.ok y (by simp [hy])
    · rcases List.mem_cons.1 hy with rfl | hy
      · exact ho
      · exact h.ok y (by simp [hy])
  · have := h.ids
    simpa [h1] using this
  · have := h.len
    simpa using this
end

theorem new_blk (w : World) (i : Int) : Blk (w.alloc (.cells #[.int .i64 i, .int .i64 0, .int .i64 0, .int .i64 0, .pointer none, .pointer none] 74)) w.heap.size 74 #[.int .i64 i, .int .i64 0, .int .i64 0, .int .i64 0, .pointer none, .pointer none] := Blk.new _ _ _

set_option maxHeartbeats 4000000 in
set_option maxRecDepth 100000 in
theorem add_any {w : World} {r g m many : Nat} {F G : Nd → Nd} {L : List It} (h : Rw w r g m many F G L) (p : Nat) (k : Int) (hp : p < many) (hk : -9223372036854775808 ≤ k ∧ k ≤ 9223372036854775807) (hl : L.length < 100000) (hn : hasI L k = false) :
    Calls Try.prog 31 #[.pointer (some ⟨r, 0, none⟩), .int .i64 (p : Int), .int .i64 k] w fun e w' =>
      e = .returned (.pointer (some ⟨w.heap.size, 0, none⟩)) ∧ (∃ F' G', Rw w' r g m many F' G' (L ++ [⟨k, 0, 0, p, w.heap.size⟩])) ∧ Kept (Fw r g m L) w w' := by
  obtain ⟨b, hb⟩ : ∃ b, b = w.heap.size := ⟨_, rfl⟩
  obtain ⟨W, hW⟩ : ∃ W, W = w.alloc (.cells #[.int .i64 k, .int .i64 0, .int .i64 0, .int .i64 0, .pointer none, .pointer none] 74) := ⟨_, rfl⟩
  have kW : Kept (fun _ => False) w W := by rw [hW]; exact (Kept.refl _ w).alloc _
  have hbW : Blk W b 74 #[.int .i64 k, .int .i64 0, .int .i64 0, .int .i64 0, .pointer none, .pointer none] := by rw [hW, hb]; exact new_blk w k
  have h1 : Rw W r g m many F G L := h.same (fun i hi => kW.block i (h.lt hi) (fun e => e))
  have hlt : ∀ i, Fw r g m L i → i < b := fun i hi => by rw [hb]; exact h.lt hi
  obtain ⟨W2, hrun, hpm, hk2⟩ := h1.pm.put hk (by omega) b (place_none hn)
  have h2 : Nds W2 g many F G L := h1.nds.same (hk2.block g (h1.lt (.inr (.inr (.inl rfl)))) h1.gm) (fun x hx => hk2.block x.bk (h1.nds.its x hx).lt (h1.xm hx))
  have r2 := h1.rb.kept hk2 h1.rm
  have b2 := hbW.kept hk2 (fun e => by have := hlt m (.inr (.inl rfl)); omega)
  have hJ := Lib.hid (join_any r2 h2 h1.rings ⟨k, 0, 0, p, b⟩ hp h1.mny.2 _ _ _ b2 (fun y hy e => by have := hlt y.bk (.inr (.inr (.inr ⟨y, hy, rfl⟩))); simp at e; omega) (fun e => by have := hlt g (.inr (.inr (.inl rfl))); simp at e; omega))
  have d1 := h1.rb.cell 1
  simp at d1
  have lr := h1.rb.lt
  have HH := Lib.hid (And.intro h1 (And.intro hpm (And.intro hk2 (And.intro kW (And.intro r2 (And.intro hlt True.intro))))))
  clear h1 hpm hk2 kW r2 h2 b2 hbW hlt h
  subst hb
  rw [hW] at hrun d1
  have lr2 : r < w.heap.size + 1 := by rw [hW] at lr; simpa using lr
  clear hW lr
  go_enter Try.func31, Try.ntmps31
  go_wp2_with fail
  refine hJ.out.mono ?_
  rintro e W3 ⟨rfl, hN3, hk3⟩
  have H3 := Lib.hid (And.intro hN3 hk3)
  clear hN3 hk3
  go_wp2_with fail
  go_ret
  obtain ⟨hN3, hk3⟩ := H3.out
  obtain ⟨h1, hpm, hk2, kW, r2, hlt, _⟩ := HH.out
  have k1 : Kept (Fw r g m L) w W := kW.mono (fun _ _ e => e.elim)
  have k2 := k1.andThen hk2 (fun i _ e => .inr (.inl e))
  have k3 := k2.andThen hk3 (fun i hi e => e.elim (fun e => .inr (.inr e)) (fun e => by omega))
  have nr : ¬ (Fn g L r ∨ r = w.heap.size) := fun e => e.elim h1.rn (fun e => by have := hlt r (.inl rfl); omega)
  have nm : ¬ (Fn g L m ∨ m = w.heap.size) := fun e => e.elim h1.mn (fun e => by have := hlt m (.inr (.inl rfl)); omega)
  have hb : ∀ y ∈ L, y.bk ≠ w.heap.size := fun y hy e => by have := hlt y.bk (.inr (.inr (.inr ⟨y, hy, rfl⟩))); omega
  refine ⟨rfl, ⟨_, _, r2.kept hk3 nr, ?_, hN3, h1.rings.join (x := ⟨k, 0, 0, p, w.heap.size⟩) hp hb, h1.mny, fun y hy => ?_, ?_, by simp; omega⟩, k3⟩
  · rw [place_snoc (x := ⟨k, 0, 0, p, w.heap.size⟩) hn, List.length_append]
    exact hpm.kept hk3 nm
  · rcases List.mem_append.1 hy with hy | hy
    · exact h1.ok y hy
    · simp at hy; subst hy; exact ⟨hk, by simp, by simp, hp⟩
  · rw [List.map_append, List.nodup_append]
    refine ⟨h1.ids, by simp, fun a ha b hb2 => ?_⟩
    obtain ⟨y, hy, rfl⟩ := List.mem_map.1 ha
    simp at hb2
    rw [hb2]
    exact hasI_false.1 hn y hy

/-- A region whose operations but the last only read: walked in the text's order, then the last. -/
theorem wp_still_tail {P : Program} {id : Nat} {Q : Exit → Act → World → Prop} {a : Act} {w : World} {l : List Oper} (n : Nat) (hm : P.follows .mixedOrders = true) (hB : Region.lexTailB .any l.toArray n = true)
    (h : wpStill P l.toArray w.drew (fun a' => wpList P l.toArray Q (l.drop n) a' w.drew) (l.take n) a) : (Code.region id l.toArray true).wp P Q a w := wp_region_still_tail n hm hB h

set_option maxHeartbeats 4000000 in
set_option maxRecDepth 100000 in
theorem remove_any {w : World} {r g m many : Nat} {F G : Nd → Nd} {M N : List It} {x : It} (h : Rw w r g m many F G (M ++ x :: N)) :
    Calls Try.prog 34 #[.pointer (some ⟨r, 0, none⟩), .pointer (some ⟨x.bk, 0, none⟩)] w fun e w' =>
      e = .returned (.tuple #[]) ∧ (∃ F' G', Rw w' r g m many F' G' (M ++ N)) ∧ Kept (Fw r g m (M ++ x :: N)) w w' := by
  have hx := mem_split M N x
  have hok := h.ok x hx
  have hL := Lib.hid (leave_any h.nds h.rings x hx hok.pr)
  have H := Lib.hid h
  clear h
  go_enter Try.func34, Try.ntmps34
  go_wp2_with fail
  refine hL.out.mono ?_
  rintro e w1 ⟨rfl, hN1, hk1⟩
  have h := H.out
  have r1 := h.rb.kept hk1 h.rn
  have p1 := h.pm.kept hk1 h.mn
  have rings1 := h.rings.leave hok.pr
  have d1 := r1.cell 1
  have x0 := (hN1.its x hx).cell 0
  unfold encPl at x0
  simp at d1 x0
  have lr := r1.lt
  have lx := (hN1.its x hx).lt
  have HH := Lib.hid (And.intro hN1 (And.intro hk1 (And.intro r1 (And.intro p1 rings1))))
  clear hN1 hk1 r1 p1 rings1 h hx
  go_wp2_with fail
  refine wp_still_tail 9 (by kernel_rfl) (by kernel_rfl) ?_
  simp only [List.take_succ_cons, List.take_zero, List.drop_succ_cons, List.drop_zero]
  repeat still_step
  refine wpStill_nil ?_
  obtain ⟨hN1, hk1, r1, p1, rings1⟩ := HH.out
  have h := H.out
  obtain ⟨n, hn⟩ : ∃ n, (M ++ x :: N).length = n + 1 := ⟨(M ++ N).length, by simp; omega⟩
  rw [hn] at p1
  obtain ⟨D, hD, hs, hf⟩ := p1
  at_delete
  refine wpList_delete_own _ rfl _ _ 69 3 rfl 66 keyInt Try.underlying69 _ m (n + 1) D rfl hD.drew _ _ rfl (keyOf_int_mk Try.underlying3 (wfI hok.id)) ?_
  intro w2 hown hturn
  have hp2 := Pm.del hD hs hf (by rw [place_split h.ids]; rfl) hown
  have hk2 : Kept (fun k => k = m) w1 w2 := ((Kept.refl _ w1).drew).grown hturn.grown (fun k e _ => by cases e; rfl)
  go_wp2
  go_end0
  have hx := mem_split M N x
  have hsub : ∀ y ∈ M ++ N, y ∈ M ++ x :: N := fun y hy => by
    rcases List.mem_append.1 hy with hy | hy <;> simp [hy]
  refine ⟨rfl, ⟨_, _, r1.kept hk2 h.rm, ?_, ?_, rings1, h.mny, fun y hy => h.ok y (hsub y hy), (ids_split h.ids).2.2, by have := h.len; simp at this ⊢; omega⟩, ?_⟩
  · rw [place_drop h.ids, show (M ++ N).length = n by simp at hn ⊢; omega]
    exact hp2
  · exact (hN1.same (hk2.block g (Nat.lt_of_lt_of_le (h.lt (.inr (.inr (.inl rfl)))) hk1.size) h.gm) (fun y hy => hk2.block y.bk (hN1.its y hy).lt (h.xm hy))).sub hsub
  · exact (hk1.mono (fun _ _ e => .inr (.inr e))).andThen hk2 (fun i _ e => .inr (.inl e))

set_option maxHeartbeats 4000000 in
set_option maxRecDepth 100000 in
theorem move_rows {w : World} {r g m many : Nat} {F G : Nd → Nd} {M N : List It} {x : It} (h : Rw w r g m many F G (M ++ x :: N)) (p : Nat) (hp : p < many) :
    Calls Try.prog 35 #[.pointer (some ⟨r, 0, none⟩), .pointer (some ⟨x.bk, 0, none⟩), .int .i64 (p : Int)] w fun e w' =>
      e = .returned (.tuple #[]) ∧ (∃ F' G', Rw w' r g m many F' G' (M ++ N ++ [{ x with pr := p }])) ∧ Kept (Fw r g m (M ++ x :: N)) w w' := by
  have hx := mem_split M N x
  have hok := h.ok x hx
  have hsub : ∀ y ∈ M ++ N, y ∈ M ++ x :: N := fun y hy => by
    rcases List.mem_append.1 hy with hy | hy <;> simp [hy]
  have hL := Lib.hid (leave_any h.nds h.rings x hx hok.pr)
  have H := Lib.hid h
  have HS := Lib.hid hsub
  clear h hsub
  go_enter Try.func35, Try.ntmps35
  go_wp2_with fail
  refine hL.out.mono ?_
  rintro e w1 ⟨rfl, hN1, hk1⟩
  have h := H.out
  have r1 := h.rb.kept hk1 h.rn
  have p1 := h.pm.kept hk1 h.mn
  have rings1 := h.rings.leave hok.pr
  have hne := (nodup_drop h.rings.nod).2
  have hJ := Lib.hid (join_any r1 (hN1.sub HS.out) rings1 { x with pr := p } hp h.mny.2 _ _ _ (hN1.its x hx) hne (h.nds.gne x hx))
  have HH := Lib.hid (And.intro hk1 (And.intro r1 (And.intro p1 (And.intro rings1 hne))))
  clear hN1 hk1 r1 p1 rings1 h hx hne
  go_wp2_with fail
  refine hJ.out.mono ?_
  rintro e w2 ⟨rfl, hN2, hk2⟩
  have H2 := Lib.hid (And.intro hN2 hk2)
  clear hN2 hk2
  go_wp2_with fail
  go_end0
  obtain ⟨hk1, r1, p1, rings1, hne⟩ := HH.out
  obtain ⟨hN2, hk2⟩ := H2.out
  have h := H.out
  have hx := mem_split M N x
  have hfn : ∀ i, (Fn g (M ++ N) i ∨ i = x.bk) → Fn g (M ++ x :: N) i := fun i e => by
    rcases e with (e | ⟨y, hy, e⟩) | e
    · exact .inl e
    · exact .inr ⟨y, HS.out y hy, e⟩
    · exact .inr ⟨x, hx, e.symm⟩
  have hids := h.ids
  refine ⟨rfl, ⟨_, _, r1.kept hk2 (fun e => h.rn (hfn _ e)), ?_, hN2, rings1.join (x := { x with pr := p }) hp hne, h.mny, fun y hy => ?_, ?_, by have := h.len; simp at this ⊢; omega⟩, ?_⟩
  · have hn : hasI (M ++ N) x.id = false := hasI_false.2 fun y hy => by
      rcases List.mem_append.1 hy with hy | hy
      · exact (ids_split hids).1 y hy
      · exact (ids_split hids).2.1 y hy
    rw [place_snoc (x := { x with pr := p }) hn, place_drop hids, show (M ++ N ++ [({ x with pr := p } : It)]).length = (M ++ x :: N).length by simp <;> omega]
    have e : updP (updP (placeF (M ++ x :: N)) x.id none) x.id (some x.bk) = placeF (M ++ x :: N) := by
      funext j
      unfold updP
      by_cases e : j = x.id
      · subst e; rw [if_pos rfl, place_split hids]
      · rw [if_neg e, if_neg e]
    show Pm w2 m _ (updP (updP (placeF (M ++ x :: N)) x.id none) x.id (some x.bk))
    rw [e]
    exact p1.kept hk2 (fun e => h.mn (hfn _ e))
  · rcases List.mem_append.1 hy with hy | hy
    · exact h.ok y (HS.out y hy)
    · simp at hy; subst hy; exact ⟨hok.id, hok.fl, hok.ct, hp⟩
  · have h2 := (ids_split hids)
    rw [List.map_append, List.nodup_append]
    refine ⟨h2.2.2, by simp, fun a ha b hb2 => ?_⟩
    obtain ⟨y, hy, rfl⟩ := List.mem_map.1 ha
    simp at hb2
    rw [hb2]
    rcases List.mem_append.1 hy with hy | hy
    · exact h2.1 y hy
    · exact h2.2.1 y hy
  · exact (hk1.mono (fun _ _ e => .inr (.inr e))).andThen hk2 (fun i _ e => .inr (.inr (hfn i e)))
end Go.Proofs.Ytlkmmbondelheaa
