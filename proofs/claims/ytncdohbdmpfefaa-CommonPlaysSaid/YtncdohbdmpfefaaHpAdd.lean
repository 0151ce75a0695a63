/-
  queue.replace and queue.add: an item laid at a place comes to where it belongs.
-/
import Derived.Test.YtncdohbdmpfefaaHpSink
import Derived.Deep.AppendLies
import Derived.Deep.RegionLaw
import Derived.Laws.Pointers
namespace Go.Proofs.Ytncdohbdmpfefaa
open Go.RowKit Go.Maps Go.ChangeMaps Go.Sort

set_option maxHeartbeats 2000000 in
set_option maxRecDepth 100000 in
theorem replace_any (w : World) (B q m N N' : Nat) (v : Value) (P : List It) (f : Int → Option Nat) (h : Qst w B q m v P f N) (i : Nat) (x : It) (hi : i < P.length) (hx : x.Ok) (hN : N ≤ 100000) (hN1 : N' ≤ 100000)
    (hN' : N + (if (f x.id).isSome then 0 else 1) ≤ N') (hu : Uniq (P.set i x)) (hp : Places (P.set i x) (updF f x.id (some i))) (hR : Rising (P.set i x) i i) :
    Calls Try.prog 64 #[.pointer (some ⟨q, 0, none⟩), .int .i64 (i : Int), .agg #[.int .i64 x.id, .int .u64 x.d, .int .u64 x.n]] w fun e w' =>
      e = .returned (.tuple #[]) ∧ ∃ L f', Qst w' B q m v L f' N' ∧ L.Perm (P.set i x) ∧ Places L f' ∧ HeapL L ∧ Kept (fun k => k = m ∨ v.ownBlock = some k) w w' := by
  have HP := Lib.hid (fun o => put_any (w.alloc o) B q m N v P f (h.kept ((Kept.refl (fun _ => False) w).alloc o) (fun _ _ e => e)) i x hi hx hN N' hN')
  have HR := Lib.hid (And.intro hu (And.intro hp (And.intro hR (show i < (P.set i x).length by simpa using hi))))
  clear hN' hu hp hR h
  go_enter Try.func64, Try.ntmps64
  go_wp2_with fail
  refine (HP.out _).mono ?_
  rintro e w1 ⟨rfl, hQ1, hk1⟩
  go_wp2_with fail
  refine (rise_any w1 B q m N' v _ _ hQ1 i HR.out.2.2.2 hN1 HR.out.1 HR.out.2.1 HR.out.2.2.1).mono ?_
  rintro e w2 ⟨rfl, L2, f2, hQ2, hp2, hpl2, hs2, hk2⟩
  have hl2 : i < L2.length := by rw [hp2.length_eq]; exact HR.out.2.2.2
  have HQ2 := Lib.hid hl2
  clear hl2
  go_wp2_with fail
  refine (sink_any w2 B q m N' v L2 f2 hQ2 i HQ2.out hN1 (HR.out.1.perm hp2) hpl2 hs2).mono ?_
  rintro e w3 ⟨rfl, L3, f3, hQ3, hp3, hpl3, hh3, hk3⟩
  go_wp2_with fail
  go_end0
  exact ⟨rfl, L3, f3, hQ3, hp3.trans hp2, hpl3, hh3, ((((Kept.refl _ w).alloc _).trans hk1).trans hk2).trans hk3⟩

/-- A queue: its items in some order, a heap, each at its place. -/
def Que (w : World) (B q m : Nat) (v : Value) (L : List It) : Prop := ∃ f, Qst w B q m v L f L.length ∧ Places L f ∧ HeapL L ∧ Uniq L

theorem Que.same {w w' : World} {B q m : Nat} {v : Value} {L : List It} (h : Que w B q m v L) (hk : ∀ k, Fp q m v k → w'.heap[k]? = w.heap[k]?) (hB : B ≤ w'.heap.size) : Que w' B q m v L :=
  let ⟨f, hQ, r⟩ := h; ⟨f, hQ.same hk hB, r⟩
theorem Que.kept {w w' : World} {B q m : Nat} {v : Value} {L : List It} (h : Que w B q m v L) {F : Nat → Prop} (k : Kept F w w') (hf : ∀ i, Fp q m v i → ¬ F i) : Que w' B q m v L :=
  let ⟨f, hQ, r⟩ := h; ⟨f, hQ.kept k hf, r⟩
theorem Qst.slice {w : World} {B q m N : Nat} {v : Value} {P : List It} {f : Int → Option Nat} (h : Qst w B q m v P f N) : ∃ A c, v = .slice A P.length c ∧ (v.ownBlock = A.map (·.block)) := by
  rcases h.row.2 with ⟨e, hn⟩ | ⟨g, cap, cur, e, _⟩
  · exact ⟨none, 0, by rw [e, hn], by rw [e]; rfl⟩
  · exact ⟨_, _, e, by rw [e]; rfl⟩

theorem infoIt : (Try.prog.info? 44).map (fun i => (i.zero, i.size, i.bytes)) = some (some (.agg #[.int .i64 0, .int .u64 0, .int .u64 0]), 3, 24) := by kernel_rfl

/-- The items are one more at the end, which has a place now: it may rise. -/
theorem snoc_rising {L : List It} {x : It} (h : HeapL L) : Rising ((L ++ [x]).set L.length x) L.length L.length := by
  have e : (L ++ [x]).set L.length x = L ++ [x] := by simp
  rw [e]
  have hat : ∀ j, j < L.length → itAt (L ++ [x]) j = itAt L j := fun j hj => by
    unfold itAt
    rw [List.getD_eq_getElem?_getD, List.getD_eq_getElem?_getD, List.getElem?_append_left hj]
  refine ⟨fun j h0 hj hji hup => ?_, fun c h0 hc hup _ => ?_, fun e => absurd rfl e⟩
  · have hj' : j < L.length := by simp at hj; omega
    have hu := up_lt h0
    rw [hat _ hj', hat _ (by omega)]
    exact h j h0 hj'
  · have hu := up_lt h0
    simp at hc
    omega
theorem snoc_places {L : List It} {f : Int → Option Nat} {x : It} (h : Places L f) (hx : ∀ y ∈ L, y.id ≠ x.id) : Places ((L ++ [x]).set L.length x) (updF f x.id (some L.length)) := by
  have e : (L ++ [x]).set L.length x = L ++ [x] := by simp
  rw [e]
  refine ⟨fun j y hy => ?_, fun k v hk => ?_⟩
  · unfold updF
    by_cases hj : j < L.length
    · rw [List.getElem?_append_left hj] at hy
      rw [if_neg (hx y (List.mem_of_getElem? hy))]
      exact h.at_ j y hy
    · have hl := (List.getElem?_eq_some_iff.1 hy).1
      have ej : j = L.length := by simp at hl; omega
      subst ej
      simp at hy
      subst hy
      rw [if_pos rfl]
  · unfold updF at hk
    by_cases e : k = x.id
    · exact ⟨x, by simp, e.symm⟩
    · rw [if_neg e] at hk
      obtain ⟨y, hy, ey⟩ := h.of_ k v hk
      exact ⟨y, by simp [hy], ey⟩
theorem snoc_uniq {L : List It} {x : It} (h : Uniq L) (hx : ∀ y ∈ L, y.id ≠ x.id) : Uniq ((L ++ [x]).set L.length x) := by
  have e : (L ++ [x]).set L.length x = L ++ [x] := by simp
  rw [e]
  unfold Uniq at h ⊢
  rw [List.map_append, List.nodup_append]
  refine ⟨h, by simp, fun a ha b hb => ?_⟩
  simp at hb
  obtain ⟨y, hy, rfl⟩ := List.mem_map.1 ha
  subst hb
  exact hx y hy
theorem place_none {L : List It} {f : Int → Option Nat} {k : Int} (h : Places L f) (hx : ∀ y ∈ L, y.id ≠ k) : f k = none := by
  cases e : f k with
  | none => rfl
  | some v => obtain ⟨y, hy, ey⟩ := h.of_ k v e; exact absurd ey (hx y hy)

theorem news2 (w : World) (o : Obj) (cs : Array Value) (t : TypeId) : ∀ j u, cs.toList[j]? = some u → ((w.alloc o).alloc (.cells cs t)).drew.cell? ((⟨w.heap.size + 1, 0, none⟩ : Addr).add j) = some u := by
  have h := World.news_of_block (w := ((w.alloc o).alloc (.cells cs t)).drew) (heap_alloc_new (w.alloc o) (.cells cs t))
  rwa [World.size_alloc] at h

theorem box2 (w : World) (cs : Array Value) (t : TypeId) (o : Obj) (i : Nat) : ((w.alloc (.cells cs t)).alloc o).drew.cell? ⟨w.heap.size, i, none⟩ = cs[i]? :=
  (World.cell?_of_block (w := w.alloc (.cells cs t)) (Below.heap_alloc (w.alloc (.cells cs t)) o w.heap.size (by simp))).trans ((Blk.new w t cs).cell i)
theorem enc_snoc (L : List It) (x : It) : L.flatMap encIt ++ [.int .i64 x.id, .int .u64 x.d, .int .u64 x.n] = (L ++ [x]).flatMap encIt := by simp [encIt]

set_option maxHeartbeats 2000000 in
set_option maxRecDepth 100000 in
theorem add_any (w : World) (B q m : Nat) (v : Value) (L : List It) (hQ : Que w B q m v L) (x : It) (hx : x.Ok) (hn : ∀ y ∈ L, y.id ≠ x.id) (hl : L.length < 1000) :
    Calls Try.prog 56 #[.pointer (some ⟨q, 0, none⟩), .agg #[.int .i64 x.id, .int .u64 x.d, .int .u64 x.n]] w fun e w' =>
      e = .returned (.tuple #[]) ∧ ∃ v' L', Que w' B q m v' L' ∧ L'.Perm (x :: L) ∧ Kept (Fp q m v) w w' ∧ (v'.ownBlock = v.ownBlock ∨ ∃ g, v'.ownBlock = some g ∧ w.heap.size ≤ g) := by
  obtain ⟨f, h, hp, hh, hu⟩ := hQ
  obtain ⟨i0, hi0, hz0, hz1, hz2⟩ := info_parts infoIt
  obtain ⟨A, c, hv, hvo⟩ := h.slice
  have ql := h.blk.lt
  have c0 := h.blk.cell 0
  have c1 := h.blk.cell 1
  simp at c0 c1
  have f0 := h.blk.frozen 0
  rw [hv] at c0
  have hrow := h.row
  obtain ⟨n1, n2, n3⟩ := h.ne
  have hB := h.hB
  rw [hv] at hrow n2 n3
  have n4 : (Value.slice A L.length c).ownBlock ≠ some w.heap.size := fun e => by have := (own_lt hrow e).1; omega
  have ne1 : w.heap.size ≠ q := by omega
  have ne2 : q ≠ w.heap.size := by omega
  have fr1 : ∀ o, (w.alloc o).drew.frozen? ⟨q, 0, none⟩ = false := fun o => (World.frozen?_of_block (w := w) (Below.heap_alloc w o q ql)).trans f0
  have fr2 : ∀ o o', ((w.alloc o).alloc o').drew.frozen? ⟨q, 0, none⟩ = false := fun o o' => (World.frozen?_of_block (w := w) ((Below.heap_alloc (w.alloc o) o' q (by simp; omega)).trans (Below.heap_alloc w o q ql))).trans f0
  have cl2 : ∀ o o', ((w.alloc o).alloc o').drew.cell? ⟨q, 0, none⟩ = some (.slice A L.length c) := fun o o' => (World.cell?_of_block (w := w) ((Below.heap_alloc (w.alloc o) o' q (by simp; omega)).trans (Below.heap_alloc w o q ql))).trans c0
  have HL := Lib.hid hv
  clear hv
  go_enter Try.func56, Try.ntmps56
  go_wp2_with fail
  go_region_law ((refine step_append_lies _ (by rfl) _ _ _ (by rfl) B 44 i0 _ 3 24 Try.underlying26 hi0 hz0 hz1 hz2 rfl (by omega) (.slice A L.length c) L.length (L.flatMap encIt) (by rfl) (((hrow.alloc _).alloc _).drew) ⟨w.heap.size + 1, 0, none⟩ 1 1 [.int .i64 x.id, .int .u64 x.d, .int .u64 x.n] (by rfl) (by rfl) (news2 _ _ #[.int .i64 x.id, .int .u64 x.d, .int .u64 x.n] _) (by simp [Value.oneCell']) (by omega) (by unfold maxLen; omega) (by omega) (by simp; omega) (w.heap.size + 1 + 1) (by simp) ?_
                  intro gg cap w1 hown1 hgrow hat hlt
                  have fz : w1.frozen? ⟨q, 0, none⟩ = false := (World.frozen?_of_block (hgrow.block q (by simp; omega) (Ne.symm n2))).trans (fr2 _ _)
                  have z0 : w1.cell? ⟨w.heap.size, 0, none⟩ = some (.int .i64 x.id) := (hgrow.cell_far _ (by simp; omega) (Ne.symm n4)).trans (box2 _ _ _ _ 0)
                  have z1 : w1.cell? ⟨w.heap.size, 1, none⟩ = some (.int .u64 x.d) := (hgrow.cell_far _ (by simp; omega) (Ne.symm n4)).trans (box2 _ _ _ _ 1)
                  have z2 : w1.cell? ⟨w.heap.size, 2, none⟩ = some (.int .u64 x.n) := (hgrow.cell_far _ (by simp; omega) (Ne.symm n4)).trans (box2 _ _ _ _ 2)
                  have lq : q < w1.heap.size := Nat.lt_of_lt_of_le (by simp; omega) hgrow.size
                  have cz : w1.cell? ⟨q, 0, none⟩ = some (.slice A L.length c) := (hgrow.cell_far _ (by simp; omega) (Ne.symm n2)).trans (cl2 _ _)))
  all_goals
    go_wp2_with fail
    have hk0 : Kept (fun k => v.ownBlock = some k) w w1 := (((Kept.refl _ w).alloc _).alloc _).drew.grown hgrow (fun k e _ => by rw [HL.out]; exact e)
    have hk1 : Kept (Fp q m v) w (w1.setCell ⟨q, 0, none⟩ (.slice (some ⟨gg, 0, none⟩) (L.length + 1) cap)) := (hk0.mono (fun k _ e => .inr (.inr e))).setCell (p := ⟨q, 0, none⟩) (.inl rfl) _
    have gq : gg ≠ q := fun e => by
      rcases hat with e1 | e1
      · exact n2 (by rw [e1, e])
      · omega
    have hb1 : Blk w1 q 90 #[v, .map (some m)] := h.blk.kept hk0 (fun e => h.ne.2.1 e)
    have hs := hb1.set_ 0 (.slice (some ⟨gg, 0, none⟩) (L.length + 1) cap)
    have hp1 : Pm w1 m L.length f := h.pm.kept hk0 (fun e => h.ne.2.2 e)
    have hQ2 : Qst (w1.setCell ⟨q, 0, none⟩ (.slice (some ⟨gg, 0, none⟩) (L.length + 1) cap)) B q m (.slice (some ⟨gg, 0, none⟩) (L.length + 1) cap) (L ++ [x]) f L.length := by
      refine ⟨hs, ?_, hp1.same (Below.heap_setCell _ _ _ _ (Ne.symm n1)), h.hq, h.hm, Nat.le_trans hB hk1.size, ?_, by simp; omega⟩
      · rw [enc_snoc] at hown1
        refine own_same (by simpa using hown1) fun k e => Below.heap_setCell _ _ _ _ ?_
        have : gg = k := by simpa [Value.ownBlock] using e
        subst this
        exact gq
      · intro y hy
        rcases List.mem_append.1 hy with hy | hy
        · exact h.ok y hy
        · simp at hy; subst hy; exact hx
    refine (replace_any _ B q m L.length (L.length + 1) _ (L ++ [x]) f hQ2 L.length x (by simp) hx (by omega) (by omega) (by rw [place_none hp hn]; simp) (snoc_uniq hu hn) (snoc_places hp hn) (snoc_rising hh)).mono ?_
    rintro e w4 ⟨rfl, L', f', hQ', hpm, hpl', hh', hk'⟩
    have e1 : (L ++ [x]).set L.length x = L ++ [x] := by simp
    rw [e1] at hpm
    have hl' : L'.length = L.length + 1 := by rw [hpm.length_eq]; simp
    have hu' : Uniq L' := by have := snoc_uniq hu hn; rw [e1] at this; exact this.perm hpm
    have hfin : Que w4 B q m (.slice (some ⟨gg, 0, none⟩) (L.length + 1) cap) L' := ⟨f', by rw [hl']; exact hQ', hpl', hh', hu'⟩
    have hkk : Kept (Fp q m v) w w4 := hk1.andThen hk' (fun k hk e => by
      rcases e with e | e
      · exact .inr (.inl e)
      · have e2 : gg = k := by simpa [Value.ownBlock] using e
        rcases hat with e3 | e3
        · exact .inr (.inr (by rw [HL.out, e3, e2]))
        · omega)
    have hov : (Value.slice (some ⟨gg, 0, none⟩) (L.length + 1) cap).ownBlock = v.ownBlock ∨ ∃ g, (Value.slice (some ⟨gg, 0, none⟩) (L.length + 1) cap).ownBlock = some g ∧ w.heap.size ≤ g := by
      rcases hat with e3 | e3
      · exact .inl (by rw [HL.out, e3]; rfl)
      · exact .inr ⟨gg, rfl, by omega⟩
    have hend := Lib.hid (And.intro hfin (And.intro (hpm.trans List.perm_append_comm) (And.intro hkk hov)))
    clear hfin hkk hov hpm hl' hu' hQ' hpl' hh' hk' hQ2 hs hp1 hb1 hk0 hk1
    go_wp2_with fail
    go_end0
    exact ⟨rfl, _, L', hend.out⟩
end Go.Proofs.Ytncdohbdmpfefaa
