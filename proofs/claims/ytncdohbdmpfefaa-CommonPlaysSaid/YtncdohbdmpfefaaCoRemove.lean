/-
  kept.remove: an item goes, from its queue and from the heap.
-/
import Derived.Test.YtncdohbdmpfefaaCoAdd
namespace Go.Proofs.Ytncdohbdmpfefaa
open Go.RowKit Go.Maps Go.ChangeMaps

/-- What the heap's Take answers, whether the item stands there or not. -/
def TakeR (w : World) (B hp q m : Nat) (v : Value) (S : List It) (x : It) (f : Bool) (en : Ending) (w' : World) : Prop :=
  ∃ i d n, en = .returned (.tuple #[.agg #[.int .i64 i, .int .u64 d, .int .u64 n], .bool f]) ∧ ∃ v' S', Hp w' B hp q m v' S' ∧ S' = (if f then del x.id S else S) ∧ Moved w w' q m v v'
theorem take_any {w : World} {B hp q m : Nat} {v : Value} {S : List It} (H : Hp w B hp q m v S) {x : It} (hx : x.Ok) {f : Bool} (hf : if f then x ∈ S else ∀ y ∈ S, y.id ≠ x.id) :
    Calls Try.prog 47 #[.pointer (some ⟨hp, 0, none⟩), .int .i64 x.id] w (TakeR w B hp q m v S x f) := by
  cases f with
  | true =>
    refine (take_some H hf).mono ?_
    rintro en w' ⟨rfl, v', hH, hm⟩
    exact ⟨_, _, _, rfl, v', _, hH, rfl, hm⟩
  | false =>
    refine (take_none H hx.1 hf).mono ?_
    rintro en w' ⟨rfl, hb⟩
    exact ⟨_, _, _, rfl, v, S, H.below hb, rfl, Moved.of_below hb⟩

/-- One more key than is said. -/
structure Cd (w : World) (B k mp hp : Nat) (qv : Value) (F G : Nd → Nd) (bo qb : Int → Nat) (q m : Nat) (v : Value) (S : List It) (M N : List En) (e : En) (T : List Int) (nx ad : Int) : Prop where
  kr : Kr w k mp hp qv F G bo qb (M ++ e :: N) T nx ad
  pm : Pq w mp (M ++ N).length (placeF bo (M ++ N))
  hh : Hp w B hp q m v S
  a1 : ∀ i, i = hp ∨ Fp q m v i → ¬ Fr k qv bo qb (M ++ e :: N) T i ∧ i ≠ mp
  lo : ∀ i, Fr k qv bo qb (M ++ e :: N) T i ∨ i = mp → B ≤ i
  mn : ¬ Fr k qv bo qb (M ++ e :: N) T mp

section
variable {w w' : World} {B k mp hp : Nat} {qv : Value} {F G : Nd → Nd} {bo qb : Int → Nat} {q m : Nat} {v v' : Value} {S S' : List It} {M N : List En} {T : List Int} {nx ad : Int} {e : En} {t : Int}
theorem Cd.kept0 (h : Cd w B k mp hp qv F G bo qb q m v S M N e T nx ad) (j : Kept (fun _ => False) w w') : Cd w' B k mp hp qv F G bo qb q m v S M N e T nx ad :=
  ⟨h.kr.kept j (fun _ _ e => e), h.pm.kept j (fun e => e), h.hh.kept j (fun _ _ e => e), h.a1, h.lo, h.mn⟩
theorem Cd.moved (h : Cd w B k mp hp qv F G bo qb q m v S M N e T nx ad) (hm : Moved w w' q m v v') (hH : Hp w' B hp q m v' S') : Cd w' B k mp hp qv F G bo qb q m v' S' M N e T nx ad ∧ Mv w w' (Fo k mp hp qv bo qb q m v (M ++ e :: N) T) (Fo k mp hp qv bo qb q m v' (M ++ e :: N) T) := by
  have ha : ∀ i, Fr k qv bo qb (M ++ e :: N) T i → ¬ Fp q m v i := fun i hi e => (h.a1 i (.inr e)).1 hi
  refine ⟨⟨h.kr.kept hm.1 ha, h.pm.kept hm.1 (fun e => (h.a1 mp (.inr e)).2 rfl), hH, fun i hi => ?_, h.lo, h.mn⟩, hm.1.mono fun i _ e => .inr (.inr (.inr e)), fun i hi => ?_⟩
  · rcases hi with hi | hi
    · exact h.a1 i (.inl hi)
    · rcases fp_new hm hi with e | e
      · exact h.a1 i (.inr e)
      · refine ⟨fun e2 => ?_, fun e2 => ?_⟩
        · have := h.kr.lt e2; omega
        · have := h.pm.lt; omega
  · rcases hi with hi | hi | hi | hi
    · exact .inl (.inl hi)
    · exact .inl (.inr (.inl hi))
    · exact .inl (.inr (.inr (.inl hi)))
    · rcases fp_new hm hi with e | e
      · exact .inl (.inr (.inr (.inr e)))
      · exact .inr e
theorem Cd.cells (h : Cd w B k mp hp qv F G bo qb q m v S M N e T nx ad) : w.cell? ⟨k, 0, none⟩ = some (.pointer (some ⟨hp, 0, none⟩)) ∧ w.cell? ⟨bo e.x.id, 0, none⟩ = some (.int .i64 e.x.id) :=
  ⟨h.kr.kb.cell 0, (h.kr.pl e (by simp)).cell 0⟩
/-- The block of the result that is not named, laid ahead of the call. -/
theorem zero_kept {w X w' : World} {B hp q m : Nat} {v v' : Value} {S : List It} (hk : Kept (fun _ => False) w X) (H : Hp X B hp q m v S) (hm : Moved X w' q m v v') (hH : Hp w B hp q m v S) {cs : Array Value} {t : TypeId} (hb : Blk X w.heap.size t cs) : Blk w' w.heap.size t cs :=
  hb.kept hm.1 fun e => by have := (hH.lt (.inr e)).1; omega
theorem Fo.drop {i : Nat} (h : Fo k mp hp qv bo qb q m v (M ++ N) T i) : Fo k mp hp qv bo qb q m v (M ++ e :: N) T i := h.imp_left Fr.drop
/-- What is left, if the item was in no queue. -/
theorem Cd.sep (h : Cd w B k mp hp qv F G bo qb q m v S M N e T nx ad) (hq : e.q = none) : Cj w B k mp hp qv F G bo qb q m v S (M ++ N) T nx ad :=
  ⟨h.kr.drop hq, h.pm, h.hh, fun i hi => ⟨fun e => (h.a1 i hi).1 e.drop, (h.a1 i hi).2⟩, fun i hi => h.lo i (hi.imp_left Fr.drop)⟩
/-- Behind leave. -/
theorem Cd.left (h : Cd w B k mp hp qv F G bo qb q m v S M N e T nx ad) {F' G' : Nd → Nd} (hK : Kr w' k mp hp qv F' G' bo qb (M ++ N) T nx ad) (hk : Kept (Fn bo qb (M ++ e :: N) T) w w') : Cj w' B k mp hp qv F' G' bo qb q m v S (M ++ N) T nx ad :=
  ⟨hK, h.pm.kept hk (fun e => h.mn e.fr), h.hh.kept hk (fun i hi e => (h.a1 i hi).1 e.fr), fun i hi => ⟨fun e => (h.a1 i hi).1 e.drop, (h.a1 i hi).2⟩, fun i hi => h.lo i (hi.imp_left Fr.drop)⟩
end

section
variable {M N : List En} {T : List Int} {nx : Int} {e : En} {t : Int} {S : List It} {f : Bool}
theorem xs_mem {L : List En} (h : e ∈ L) : e.x ∈ xs L := List.mem_map_of_mem (f := fun e : En => e.x) h
theorem del_of {x : It} {S R : List It} (hu : Uniq S) (h : S.Perm (x :: R)) : (del x.id S).Perm R :=
  ((del_perm hu (h.mem_iff.2 (by simp))).trans h).cons_inv
theorem rem_none (hS : S.Perm (xs (heads (M ++ e :: N) T))) (hu : Uniq S) (hf : if f then e.x ∈ S else ∀ y ∈ S, y.id ≠ e.x.id) (hq : e.q = none) : (if f then del e.x.id S else S).Perm (xs (heads (M ++ N) T)) := by
  have h1 := hS.trans ((heads_skip_none (T := T) (M := M) (N := N) hq).map (fun e : En => e.x))
  rw [List.map_cons] at h1
  cases f with
  | true => exact del_of hu h1
  | false => exact absurd rfl (hf e.x (h1.mem_iff.2 (by simp)))
/-- What is left in the heap behind Take, and what comes to it then. -/
theorem rem_some (hI : CInv (M ++ e :: N) T nx) (hS : S.Perm (xs (heads (M ++ e :: N) T))) (hu : Uniq S) (hf : if f then e.x ∈ S else ∀ y ∈ S, y.id ≠ e.x.id) (hq : e.q = some t) (ht : t ∈ T) :
    (f = false ∧ (if f then del e.x.id S else S).Perm (xs (heads (M ++ N) T))) ∨ (f = true ∧ ofQ (M ++ N) t = [] ∧ (if f then del e.x.id S else S).Perm (xs (heads (M ++ N) T))) ∨
      (f = true ∧ ∃ z Z, ofQ (M ++ N) t = z :: Z ∧ (ins z.x (if f then del e.x.id S else S)).Perm (xs (heads (M ++ N) T)) ∧ ∀ y ∈ (if f then del e.x.id S else S), y.id ≠ z.x.id) := by
  by_cases hM : ofQ M t = []
  · obtain ⟨R, h1, h2⟩ := heads_skip_first (M := M) (N := N) hI.ts ht hq hM
    have h3 := hS.trans (h1.map (fun e : En => e.x))
    rw [List.map_cons] at h3
    have hft : f = true := by
      cases f with
      | true => rfl
      | false => exact absurd rfl (hf e.x (h3.mem_iff.2 (by simp)))
    subst hft
    have h4 := del_of hu h3
    have e1 : ofQ (M ++ N) t = ofQ N t := by rw [ofQ_append, hM, List.nil_append]
    right
    cases hN : ofQ N t with
    | nil =>
      left
      rw [hN] at h2
      exact ⟨rfl, by rw [e1, hN], h4.trans (h2.map (fun e : En => e.x)).symm⟩
    | cons z Z =>
      right
      rw [hN] at h2
      have h5 := h2.map (fun e : En => e.x)
      simp only [List.head?_cons, Option.toList_some, List.singleton_append, List.map_cons] at h5
      refine ⟨rfl, z, Z, by rw [e1, hN], ((ins_perm _ _).trans (h4.cons z.x)).trans h5.symm, fun y hy => ?_⟩
      have hnd : ((xs (heads (M ++ N) T)).map (·.id)).Nodup := by
        have h6 : (heads (M ++ N) T).Nodup → True := fun _ => trivial
        have h7 : ((z.x :: R.map fun e : En => e.x).map (·.id)).Nodup := by
          rw [List.map_cons, List.nodup_cons]
          have hyS : ∀ y ∈ R.map (fun e : En => e.x), y ∈ S ∧ y.id ≠ e.x.id := fun y hy => del_mem.1 (h4.mem_iff.2 hy)
          refine ⟨fun hm => ?_, ?_⟩
          · obtain ⟨y, hy, e2⟩ := List.mem_map.1 hm
            obtain ⟨a, ha, e3⟩ := List.mem_map.1 (hS.mem_iff.1 (hyS y hy).1)
            have haL := heads_sub ha
            have hz : z ∈ M ++ e :: N := by
              have : z ∈ ofQ N t := by rw [hN]; simp
              have := (ofQ_mem.1 this).1
              simp [this]
            have e4 : a = z := en_inj hI.ids haL hz (by rw [← e2, ← e3])
            subst e4
            have hzq : a.q = some t := (ofQ_mem.1 (show a ∈ ofQ N t by rw [hN]; simp)).2
            have e5 : (heads (M ++ e :: N) T).Perm (e :: R) := h1
            rcases List.mem_append.1 ha with h8 | h8
            · rw [(sep_mem.1 h8).2] at hzq; cases hzq
            · obtain ⟨s, _, hs⟩ := List.mem_filterMap.1 h8
              have h9 := (ofQ_mem.1 (List.mem_of_mem_head? hs)).2
              rw [hzq] at h9
              cases h9
              rw [ofQ_append, hM, ofQ_cons_same hq] at hs
              simp at hs
              subst hs
              exact (hyS y hy).2 (by rw [e3])
          · exact (hu.sublist ((List.filter_sublist).map _)).perm (h4.map _) |> fun h => h
        exact (h5.map _).nodup_iff.2 h7
      have hy2 : y ∈ R.map (fun e : En => e.x) := h4.mem_iff.1 hy
      have h8 := (h5.map (fun x : It => x.id)).nodup_iff.1 hnd
      rw [List.map_cons, List.nodup_cons] at h8
      exact fun e2 => h8.1 (by rw [← e2]; exact List.mem_map_of_mem hy2)
  · left
    have hff : f = false := by
      cases f with
      | false => rfl
      | true =>
        obtain ⟨a, ha, e3⟩ := List.mem_map.1 (hS.mem_iff.1 hf)
        exact absurd (by rw [e3]) (heads_mid_not hI.ids hq hM a ha)
    subst hff
    refine ⟨rfl, ?_⟩
    rw [← heads_skip_mid hq hM]
    exact hS
end

section
variable {w w' w2 w3 : World} {B k mp hp : Nat} {qv : Value} {F G : Nd → Nd} {bo qb : Int → Nat} {q m : Nat} {v v' : Value} {S S' : List It} {M N : List En} {T : List Int} {nx ad : Int} {e : En} {t : Int}
theorem Cd.lt (h : Cd w B k mp hp qv F G bo qb q m v S M N e T nx ad) {i : Nat} (hi : Fo k mp hp qv bo qb q m v (M ++ e :: N) T i) : i < w.heap.size := by
  rcases hi with hi | rfl | hi
  · exact h.kr.lt hi
  · exact h.pm.lt
  · exact (h.hh.lt hi).1
theorem Cd.kept {J : Nat → Prop} (h : Cd w B k mp hp qv F G bo qb q m v S M N e T nx ad) (j : Kept J w w') (hj : ∀ i, Fo k mp hp qv bo qb q m v (M ++ e :: N) T i → ¬ J i) : Cd w' B k mp hp qv F G bo qb q m v S M N e T nx ad :=
  ⟨h.kr.kept j (fun i hi => hj i (.inl hi)), h.pm.kept j (hj mp (.inr (.inl rfl))), h.hh.kept j (fun i hi => hj i (.inr (.inr hi))), h.a1, h.lo, h.mn⟩
theorem Cd.end1 (h0 : Cd w2 B k mp hp qv F G bo qb q m v S M N e T nx ad) (h : Cd w3 B k mp hp qv F G bo qb q m v' S' M N e T nx ad) (hm : Mv w2.drew w3 (Fo k mp hp qv bo qb q m v (M ++ e :: N) T) (Fo k mp hp qv bo qb q m v' (M ++ e :: N) T)) (o : Obj) :
    Cd (w3.alloc o) B k mp hp qv F G bo qb q m v' S' M N e T nx ad ∧ Mv w2 (w3.alloc o) (Fo k mp hp qv bo qb q m v (M ++ e :: N) T) (Fo k mp hp qv bo qb q m v' (M ++ e :: N) T) :=
  ⟨h.kept0 ((Kept.refl _ w3).alloc o), ((Mv.of_kept ((Kept.refl _ w2).drew)).trans hm).trans (Mv.of_kept ((Kept.refl _ w3).alloc o))⟩
theorem Cd.end2 (h0 : Cd w2 B k mp hp qv F G bo qb q m v S M N e T nx ad) {o : Obj} (h : Cd w3 B k mp hp qv F G bo qb q m v' S' M N e T nx ad) (hm : Mv (w2.drew.alloc o) w3 (Fo k mp hp qv bo qb q m v (M ++ e :: N) T) (Fo k mp hp qv bo qb q m v' (M ++ e :: N) T)) (a b c : Value) :
    Cd (set3 w3 w2.heap.size a b c) B k mp hp qv F G bo qb q m v' S' M N e T nx ad ∧ Mv w2 (set3 w3 w2.heap.size a b c) (Fo k mp hp qv bo qb q m v (M ++ e :: N) T) (Fo k mp hp qv bo qb q m v' (M ++ e :: N) T) := by
  have hk : Kept (fun i => i = w2.heap.size) w3 (set3 w3 w2.heap.size a b c) := (((Kept.refl (fun i => i = w2.heap.size) w3).setCell (p := ⟨w2.heap.size, 0, none⟩) rfl a).setCell (p := ⟨w2.heap.size, 1, none⟩) rfl b).setCell (p := ⟨w2.heap.size, 2, none⟩) rfl c
  have hz : (w2.drew.alloc o).heap.size = w2.heap.size + 1 := by simp
  have hn : ∀ i, Fo k mp hp qv bo qb q m v' (M ++ e :: N) T i → i ≠ w2.heap.size := fun i hi e => by
    rcases hm.o i hi with h1 | h1
    · have := h0.lt h1; omega
    · rw [hz] at h1; omega
  refine ⟨h.kept hk fun i hi e => hn i hi e, ?_, fun i hi => ?_⟩
  · have h1 : Kept (Fo k mp hp qv bo qb q m v (M ++ e :: N) T) w2 w3 := (((Kept.refl _ w2).drew).alloc o).trans (by exact hm.k)
    exact ((h1.setCell_new (p := ⟨w2.heap.size, 0, none⟩) (Nat.le_refl _) a).setCell_new (p := ⟨w2.heap.size, 1, none⟩) (Nat.le_refl _) b).setCell_new (p := ⟨w2.heap.size, 2, none⟩) (Nat.le_refl _) c
  · rcases hm.o i hi with h1 | h1
    · exact .inl h1
    · exact .inr (by rw [hz] at h1; omega)
end

def KRem (w : World) (B k mp hp : Nat) (qv : Value) (bo qb : Int → Nat) (q m : Nat) (v : Value) (M N : List En) (e : En) (T : List Int) (nx ad : Int) (en : Ending) (w' : World) : Prop :=
  en = .returned (.tuple #[]) ∧ ∃ F' G' v' S', Cj w' B k mp hp qv F' G' bo qb q m v' S' (M ++ N) T nx ad ∧ S'.Perm (xs (heads (M ++ N) T)) ∧
    Mv w w' (Fo k mp hp qv bo qb q m v (M ++ e :: N) T) (Fo k mp hp qv bo qb q m v' (M ++ N) T)

set_option maxHeartbeats 8000000 in
set_option maxRecDepth 100000 in
theorem krem_any {w : World} {B k mp hp : Nat} {qv : Value} {F G : Nd → Nd} {bo qb : Int → Nat} {q m : Nat} {v : Value} {S : List It} {M N : List En} {e : En} {T : List Int} {nx ad : Int}
    (H : Cj w B k mp hp qv F G bo qb q m v S (M ++ e :: N) T nx ad) (hS : S.Perm (xs (heads (M ++ e :: N) T))) {f : Bool} (hf : if f then e.x ∈ S else ∀ y ∈ S, y.id ≠ e.x.id) :
    Calls Try.prog 33 #[.pointer (some ⟨k, 0, none⟩), .pointer (some ⟨bo e.x.id, 0, none⟩)] w (KRem w B k mp hp qv bo qb q m v M N e T nx ad) := by
  have he : e ∈ M ++ e :: N := by simp
  have hinv := H.kr.inv
  have hok := hinv.ok e he
  have bx := H.kr.pl e he
  have x0 := bx.cell 0
  unfold encPl at x0
  simp at x0
  have d2 := H.kr.kb.cell 2
  simp at d2
  have lk := H.kr.kb.lt
  have lx := bx.lt
  have HH := Lib.hid (And.intro H (And.intro hS (And.intro hinv hok)))
  have HF := Lib.hid hf
  clear H hS hinv bx he hok hf
  go_enter Try.func33, Try.ntmps33
  go_wp2_with fail
  refine wp_region_still_tail 9 (by kernel_rfl) (by kernel_rfl) ?_
  simp only [List.take_succ_cons, List.take_zero, List.drop_succ_cons, List.drop_zero]
  repeat still_step
  refine wpStill_nil ?_
  obtain ⟨H, hS, hinv, hok⟩ := HH.out
  obtain ⟨n, hn⟩ : ∃ n, (M ++ e :: N).length = n + 1 := ⟨(M ++ N).length, by simp; omega⟩
  have p1 := H.pm
  rw [hn] at p1
  obtain ⟨D, hD, hs, hfD⟩ := p1
  at_delete
  refine wpList_delete_own _ rfl _ _ 64 3 rfl 67 keyInt Try.underlying64 _ mp (n + 1) D rfl hD.drew _ _ rfl (keyOf_int_mk Try.underlying3 (wfI hok.1)) ?_
  intro w2 hown hturn
  have hp2 := Pq.del hD hs hfD (by rw [plc_some hasI_mid]; rfl) hown
  have hk2 : Kept (fun k => k = mp) w w2 := ((Kept.refl _ w).drew).grown hturn.grown (fun k e _ => by cases e; rfl)
  have hd2 : Cd w2 B k mp hp qv F G bo qb q m v S M N e T nx ad := by
    refine ⟨H.kr.kept hk2 (fun i hi e => by subst e; exact H.mp_not hi), ?_, H.hh.kept hk2 (fun i hi e => (H.a1 i hi).2 e), H.a1, H.lo, H.mp_not⟩
    rw [plc_drop hinv.ids, show (M ++ N).length = n by simp at hn ⊢; omega]
    exact hp2
  have c0 := hd2.kr.kb.cell 0
  have c1 := (hd2.kr.pl e (by simp)).cell 0
  unfold encPl at c1
  simp at c0 c1
  have lk2 := hd2.kr.kb.lt
  have lx2 := (hd2.kr.pl e (by simp)).lt
  have HT := Lib.hid (fun (X : World) (hb : Kept (fun _ => False) w2 X) => take_any (hd2.kept0 hb).hh hok HF.out)
  have H2 := Lib.hid (And.intro hd2 hk2)
  clear hd2 hk2 hp2 hown hturn hD hs hfD H hS hinv hok x0 d2 lk lx
  go_upto_region 1 with fail
  simp only [Act.put]
  go_cut [5] (fun s5 wx => s5 = .bool f ∧ ∃ v' S', Cd wx B k mp hp qv F G bo qb q m v' S' M N e T nx ad ∧ S' = (if f then del e.x.id S else S) ∧ Mv w2 wx (Fo k mp hp qv bo qb q m v (M ++ e :: N) T) (Fo k mp hp qv bo qb q m v' (M ++ e :: N) T))
  case first =>
    have n1 : k ≠ w2.heap.size := by omega
    have n2 : bo e.x.id ≠ w2.heap.size := by omega
    have n3 : w2.heap.size ≠ k := by omega
    have n4 : w2.heap.size ≠ bo e.x.id := by omega
    go_region_held3 (fun W => W.cell? ⟨k, 0, none⟩ = some (.pointer (some ⟨hp, 0, none⟩)) ∧ W.cell? ⟨bo e.x.id, 0, none⟩ = some (.int .i64 e.x.id))
      (go_keep)
      (first
        | (go_at_call 47; refine (HT.out w2.drew (Kept.drew (Kept.refl _ _))).mono ?_; rintro en w3 ⟨i, d, n, rfl, v', S', hH, hS', hm⟩; have hX := (H2.out.1.kept0 (Kept.drew (Kept.refl _ _))).moved hm hH; obtain ⟨hc1, hc2⟩ := hX.1.cells; have l1 := hX.1.kr.kb.lt; have l2 := (hX.1.kr.pl e (by simp)).lt; have HX := Lib.hid (And.intro hX.1 (And.intro hX.2 hS')); have n5 : k ≠ w3.heap.size := Nat.ne_of_lt l1; have n6 : bo e.x.id ≠ w3.heap.size := Nat.ne_of_lt l2; have n7 : w3.heap.size ≠ k := n5.symm; have n8 : w3.heap.size ≠ bo e.x.id := n6.symm; clear hX hm hH hS')
        | (go_at_call 47; refine (HT.out (w2.drew.alloc (.cells #[.int .i64 0, .int .u64 0, .int .u64 0] 44)) (Kept.alloc (Kept.drew (Kept.refl _ _)) _)).mono ?_; rintro en w3 ⟨i, d, n, rfl, v', S', hH, hS', hm⟩; have hz := zero_kept (Kept.alloc (Kept.drew (Kept.refl _ _)) _) (H2.out.1.kept0 (Kept.alloc (Kept.drew (Kept.refl _ _)) _)).hh hm H2.out.1.hh (cs := #[.int .i64 0, .int .u64 0, .int .u64 0]) (t := 44) (Blk.new w2.drew _ _); have z0 := hz.cell 0; have z1 := hz.cell 1; have z2 := hz.cell 2; have zf := hz.frozen; have zl := hz.lt; simp at z0 z1 z2; clear hz; have hX := (H2.out.1.kept0 (Kept.alloc (Kept.drew (Kept.refl _ _)) _)).moved hm hH; obtain ⟨hc1, hc2⟩ := hX.1.cells; have l1 := hX.1.kr.kb.lt; have l2 := (hX.1.kr.pl e (by simp)).lt; have HX := Lib.hid (And.intro hX.1 (And.intro hX.2 hS')); have n5 : k ≠ w3.heap.size := Nat.ne_of_lt l1; have n6 : bo e.x.id ≠ w3.heap.size := Nat.ne_of_lt l2; have n7 : w3.heap.size ≠ k := n5.symm; have n8 : w3.heap.size ≠ bo e.x.id := n6.symm; clear hX hm hH hS')
        | (go_at_call 47; refine (HT.out (w2.alloc (.cells #[.int .i64 0, .int .u64 0, .int .u64 0] 44)).drew (Kept.drew (Kept.alloc (Kept.refl _ _) _))).mono ?_; rintro en w3 ⟨i, d, n, rfl, v', S', hH, hS', hm⟩; have hz := zero_kept (Kept.drew (Kept.alloc (Kept.refl _ _) _)) (H2.out.1.kept0 (Kept.drew (Kept.alloc (Kept.refl _ _) _))).hh hm H2.out.1.hh (cs := #[.int .i64 0, .int .u64 0, .int .u64 0]) (t := 44) (Blk.new w2 _ _); have z0 := hz.cell 0; have z1 := hz.cell 1; have z2 := hz.cell 2; have zf := hz.frozen; have zl := hz.lt; simp at z0 z1 z2; clear hz; have hX := (H2.out.1.kept0 (Kept.drew (Kept.alloc (Kept.refl _ _) _))).moved hm hH; obtain ⟨hc1, hc2⟩ := hX.1.cells; have l1 := hX.1.kr.kb.lt; have l2 := (hX.1.kr.pl e (by simp)).lt; have HX := Lib.hid (And.intro hX.1 (And.intro hX.2 hS')); have n5 : k ≠ w3.heap.size := Nat.ne_of_lt l1; have n6 : bo e.x.id ≠ w3.heap.size := Nat.ne_of_lt l2; have n7 : w3.heap.size ≠ k := n5.symm; have n8 : w3.heap.size ≠ bo e.x.id := n6.symm; clear hX hm hH hS'))
    · go_wp2_with fail
      go_meet
      obtain ⟨r1, r2⟩ := H2.out.1.end1 HX.out.1 HX.out.2.1 (.cells #[.int .i64 i, .int .u64 d, .int .u64 n] 44)
      exact ⟨rfl, v', S', r1, HX.out.2.2, r2⟩
    · go_wp2_with fail
      go_meet
      obtain ⟨r1, r2⟩ := H2.out.1.end2 HX.out.1 HX.out.2.1 (.int .i64 i) (.int .u64 d) (.int .u64 n)
      exact ⟨rfl, v', S', r1, HX.out.2.2, r2⟩
  case rest =>
    obtain ⟨rfl, v1, S1, hd, hS1, hm⟩ := hcut
    obtain ⟨H, hS, hinv, hok⟩ := HH.out
    have hu := H.hh.uniq
    have hmv := (show Mv w w2 (Fo k mp hp qv bo qb q m v (M ++ e :: N) T) (Fo k mp hp qv bo qb q m v (M ++ e :: N) T) from ⟨H2.out.2.mono fun i _ e => .inr (.inl e), fun i e => .inl e⟩).trans hm
    have c3 := (hd.kr.pl e (by simp)).cell 3
    unfold encPl at c3
    simp at c3
    have lx := (hd.kr.pl e (by simp)).lt
    clear H hm HT lk2 lx2 c0 c1 H2
    cases hq : e.q with
    | none =>
      have hP := rem_none hS hu HF.out hq
      rw [← hS1] at hP
      have HE := Lib.hid (And.intro (hd.sep hq) (And.intro hP (hmv.mono fun i e => Fo.drop e)))
      rw [hq] at c3
      simp [ptrO] at c3
      clear hS hinv hok hu hd hS1 hmv hP hq
      go_wp2_with fail
      go_end0
      exact ⟨rfl, F, G, v1, S1, HE.out⟩
    | some t =>
      have ht : t ∈ T := hinv.qin e (by simp) t hq
      have hR := rem_some hinv hS hu HF.out hq ht
      rw [← hS1] at hR
      have HL := Lib.hid (leave_kr hd.kr hq ht)
      have HE := Lib.hid (And.intro hd (And.intro hR hmv))
      have HT := Lib.hid (And.intro hq ht)
      rw [hq] at c3
      simp [ptrO] at c3
      clear hS hinv hok hu hd hS1 hmv hR hq ht
      go_wp2_with fail
      refine HL.out.mono ?_
      rintro en w4 ⟨rfl, ⟨F', G', hK, hb⟩, hk⟩
      have hc := HE.out.1.left hK hk
      have hmv := HE.out.2.2.trans (show Mv wc w4 (Fo k mp hp qv bo qb q m v1 (M ++ e :: N) T) (Fo k mp hp qv bo qb q m v1 (M ++ N) T) from ⟨hk.mono fun i _ e => .inl e.fr, fun i e => .inl e.drop⟩)
      have c3 := hb.cell 3
      unfold encPl at c3
      rw [HT.out.1] at c3
      simp [ptrO] at c3
      have lx := hb.lt
      have HEm := Lib.hid (empty_any hc.kr.nds hc.kr.rings HT.out.2)
      have HC := Lib.hid (And.intro hc (And.intro hmv (And.intro hb HE.out.2.1)))
      clear hK hb hk hc hmv HL
      rcases HC.out.2.2.2 with ⟨hff, hP⟩ | ⟨hff, hE, hP⟩ | ⟨hff, z, Z, hz, hP, hni⟩
      · subst hff
        have HX := Lib.hid hP
        clear hP HEm
        go_wp2_with fail
        go_end0
        exact ⟨rfl, F', G', v1, S1, HC.out.1, HX.out, HC.out.2.1⟩
      · subst hff
        have HX := Lib.hid hP
        rw [hE] at HEm
        clear hP hE
        go_wp2_with fail
        refine HEm.out.mono ?_
        rintro en w5 ⟨rfl, n5, rfl⟩
        go_wp2_with fail
        go_end0
        exact ⟨rfl, F', G', v1, S1, HC.out.1.drewN n5, HX.out, HC.out.2.1.drewN n5⟩
      · subst hff
        have HX := Lib.hid (And.intro hP (And.intro hni hz))
        rw [hz] at HEm
        clear hP hni hz
        go_wp2_with fail
        refine HEm.out.mono ?_
        rintro en w5 ⟨rfl, n5, hw5⟩
        obtain ⟨hP, hni, hz⟩ := HX.out
        have j5 := HC.out.1.drewN n5
        have mv5 := HC.out.2.1.drewN n5
        have hb5 : Blk w5 (bo e.x.id) 74 (encPl F' G' bo qb e) := by rw [hw5]; exact HC.out.2.2.1
        rw [← hw5] at j5 mv5
        have hzL : z ∈ M ++ N := (ofQ_mem.1 (show z ∈ ofQ (M ++ N) t by rw [hz]; simp)).1
        have hF := (j5.kr.rings t HT.out.2).first_eq
        unfold nods at hF
        rw [hz] at hF
        simp at hF
        have d0 := j5.kr.kb.cell 0
        have d3 := hb5.cell 3
        have d6 := (j5.kr.qs t HT.out.2).cell 6
        have z0 := (j5.kr.pl z hzL).cell 0
        have z1 := (j5.kr.pl z hzL).cell 1
        have z2 := (j5.kr.pl z hzL).cell 2
        unfold encPl at d3 z0 z1 z2
        unfold encQu at d6
        rw [HT.out.1] at d3
        simp [ptrO] at d0 d3 z0 z1 z2
        simp [ptr] at d6
        rw [hF] at d6
        simp [adr] at d6
        have lk := j5.kr.kb.lt
        have lx5 := hb5.lt
        have lq := (j5.kr.qs t HT.out.2).lt
        have lz := (j5.kr.pl z hzL).lt
        have hlen : S1.length < 1000 := by
          have h1 := hP.length_eq
          rw [(ins_perm _ _).length_eq] at h1
          have h2 := heads_len j5.kr.inv
          unfold xs at h1
          rw [List.length_map] at h1
          simp at h1
          omega
        have HPu := Lib.hid (push_new (j5.drew).hh (j5.kr.inv.ok z hzL) hni hlen)
        have H5 := Lib.hid (And.intro j5 (And.intro mv5 hP))
        clear j5 mv5 hb5 hP hni hz hF hzL hlen c3 lx hw5
        go_wp2_with fail
        go_still_tail 15, (by kernel_rfl)
        change wpList _ _ _ _ _ w5.drew
        go_wp2_with fail
        refine HPu.out.mono ?_
        rintro en w6 ⟨rfl, v', hH, hm⟩
        obtain ⟨j6, mv6⟩ := (H5.out.1.drew).moved hm hH
        have H6 := Lib.hid (And.intro j6 ((H5.out.2.1.drewN 1).trans mv6))
        clear j6 mv6 hH hm
        go_wp2_with fail
        go_end0
        exact ⟨rfl, F', G', v', _, H6.out.1, H5.out.2.2, H6.out.2⟩
end Go.Proofs.Ytncdohbdmpfefaa
