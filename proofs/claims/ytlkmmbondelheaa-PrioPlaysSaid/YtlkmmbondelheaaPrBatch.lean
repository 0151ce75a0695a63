/-
  Batch: the items of the most urgent priority, taken out.
-/
import Derived.Test.YtlkmmbondelheaaPrUrgent
namespace Go.Proofs.Ytlkmmbondelheaa
open Go.RowKit Go.Maps Go.ChangeMaps Go.Shelf

theorem encL_len (P : List It) : (encL P).length = P.length * 3 := by
  unfold encL
  induction P with
  | nil => rfl
  | cons x P ih => simp only [List.flatMap_cons, List.length_append, List.length_cons, ih]; simp; omega
theorem encL_at (P : List It) : ∀ (i : Nat) (x : It), P[i]? = some x → (encL P)[i * 3]? = some (.int .i64 x.id) ∧ (encL P)[i * 3 + 1]? = some (.int .i64 x.fl) ∧ (encL P)[i * 3 + 2]? = some (.int .i64 x.ct) := by
  induction P with
  | nil => intro i x h; simp at h
  | cons y P ih =>
    intro i x h
    have e : (encL (y :: P)) = .int .i64 y.id :: .int .i64 y.fl :: .int .i64 y.ct :: encL P := by simp [encL]
    rw [e]
    cases i with
    | zero => simp at h; subst h; exact ⟨rfl, rfl, rfl⟩
    | succ i =>
      have := ih i x (by simpa using h)
      rw [show (i + 1) * 3 = i * 3 + 3 from by omega]
      simpa [show i * 3 + 3 + 1 = i * 3 + 1 + 3 from by omega, show i * 3 + 3 + 2 = i * 3 + 2 + 3 from by omega] using this
/-- What a walk reads of a row of items. -/
theorem OwnI.form {W : World} {B : Nat} {v : Value} {P : List It} (h : OwnI W B v P) : ∃ A c, v = .slice A P.length c ∧ (0 < P.length → ∃ g, A = some ⟨g, 0, none⟩ ∧ g < W.heap.size ∧ v.ownBlock = some g ∧
    ∀ i x, P[i]? = some x → W.cell? ⟨g, i * 3, none⟩ = some (.int .i64 x.id) ∧ W.cell? ⟨g, i * 3 + 1, none⟩ = some (.int .i64 x.fl) ∧ W.cell? ⟨g, i * 3 + 2, none⟩ = some (.int .i64 x.ct)) := by
  have hr : W.ownsRow B 44 3 v P.length (encL P) := h
  rcases hr.2 with ⟨e, hz⟩ | ⟨g, cap, cur, rfl, hg, hh, hc, _⟩
  · exact ⟨none, 0, by rw [e, hz], fun h => by omega⟩
  · refine ⟨_, _, rfl, fun _ => ⟨g, rfl, (Array.getElem?_eq_some_iff.1 hh).1, rfl, fun i x hx => ?_⟩⟩
    have hi : i < P.length := (List.getElem?_eq_some_iff.1 hx).1
    obtain ⟨e0, e1, e2⟩ := encL_at P i x hx
    exact ⟨(hr.cellAt _ (by omega)).trans e0, (hr.cellAt _ (by omega)).trans e1, (hr.cellAt _ (by omega)).trans e2⟩
theorem OwnI.kept {W W' : World} {B : Nat} {v : Value} {P : List It} {G : Nat → Prop} (h : OwnI W B v P) (k : Kept G W W') (ha : ∀ i, v.ownBlock = some i → ¬ G i) : OwnI W' B v P := own_same h fun i e => k.block i (own_lt h e).1 (ha i e)
theorem OwnI.lt {W : World} {B : Nat} {v : Value} {P : List It} (h : OwnI W B v P) {k : Nat} (e : v.ownBlock = some k) : k < W.heap.size ∧ B ≤ k := ⟨(own_lt h e).1, (own_lt h e).2.1⟩
theorem OwnI.mv {W W' : World} {B : Nat} {v : Value} {P : List It} {F F' : Nat → Prop} (h : OwnI W B v P) (ha : ∀ k, v.ownBlock = some k → ¬ F k) (m : Mv W W' F F') : OwnI W' B v P ∧ ∀ k, v.ownBlock = some k → ¬ F' k :=
  ⟨h.kept m.k ha, fun k e hf => by
    rcases m.o k hf with h2 | h2
    · exact ha k e h2
    · have := (h.lt e).1; omega⟩
theorem OwnI.below {W W' : World} {B : Nat} {v : Value} {P : List It} (h : OwnI W B v P) (hb : Below W.heap.size W W') : OwnI W' B v P := own_same h fun i e => hb.block i (own_lt h e).1

/-- Some cut, one behind the other. -/
def cutAll (L ys : List It) : List It := ys.foldl (fun L y => cutL L y.id) L
theorem cutAll_eq : ∀ (ys L : List It), cutAll L ys = L.filter fun x => ∀ y ∈ ys, x.id ≠ y.id
  | [], L => (List.filter_eq_self.2 fun x _ => by simp).symm
  | y :: ys, L => by
    show cutAll (cutL L y.id) ys = _
    rw [cutAll_eq ys]
    unfold cutL
    rw [List.filter_filter]
    congr 1
    funext x
    simp
    rw [Bool.and_comm]
theorem cutAll_snoc (L ys : List It) (y : It) : cutAll L (ys ++ [y]) = cutL (cutAll L ys) y.id := by simp [cutAll]
theorem id_inj : ∀ {L : List It}, (L.map (·.id)).Nodup → ∀ {x y : It}, x ∈ L → y ∈ L → x.id = y.id → x = y
  | [], _, _, _, hx, _, _ => by simp at hx
  | z :: L, hn, x, y, hx, hy, h => by
    have h1 := List.nodup_cons.1 (by simpa using hn : (z.id :: L.map (·.id)).Nodup)
    rcases List.mem_cons.1 hx with e1 | h2
    · rcases List.mem_cons.1 hy with e2 | h3
      · rw [e1, e2]
      · exact absurd (List.mem_map.2 ⟨y, h3, by rw [← h, e1]⟩) h1.1
    · rcases List.mem_cons.1 hy with e2 | h3
      · exact absurd (List.mem_map.2 ⟨x, h2, by rw [h, e2]⟩) h1.1
      · exact id_inj h1.2 h2 h3 h
theorem batch_mem {L : List It} {y : It} (h : y ∈ batchL L) : y ∈ L := by
  unfold batchL at h
  split at h
  · simp at h
  · exact (ofP_mem.1 h).1
theorem batch_nodup {L : List It} (h : (L.map (·.id)).Nodup) : ((batchL L).map (·.id)).Nodup := by
  unfold batchL
  split
  · simp
  · exact (List.Sublist.map _ List.filter_sublist).nodup h
theorem cut_batch {L : List It} (hn : (L.map (·.id)).Nodup) : cutAll L (batchL L) = restL L := by
  rw [cutAll_eq]
  unfold batchL restL
  split
  · simp
  · rename_i p hp
    apply List.filter_congr
    intro x hx
    simp only [decide_eq_decide]
    constructor
    · intro h e
      exact h x (ofP_mem.2 ⟨hx, e⟩) rfl
    · intro h y hy e
      have := id_inj hn hx (ofP_mem.1 hy).1 e
      subst this
      exact h (ofP_mem.1 hy).2
/-- The next one is still there. -/
theorem next_there {L ys zs : List It} {y : It} (hn : (L.map (·.id)).Nodup) (h : batchL L = ys ++ y :: zs) : hasI (cutAll L ys) y.id = true := by
  rw [cutAll_eq]
  have hb := batch_nodup hn
  rw [h] at hb
  exact hasI_iff.2 ⟨y, List.mem_filter.2 ⟨batch_mem (by rw [h]; simp), by simpa using fun z hz e => (ids_split hb).1 z hz e.symm⟩, rfl⟩

theorem batch_nil (w : World) : Calls Try.prog 16 #[.pointer none] w fun e w' => e = .returned (.slice none 0 0) ∧ w = w' := by
  go_enter Try.func16, Try.ntmps16
  go_wp2_with (go_at_call 29; refine (made_nil w).mono ?_; rintro e w' ⟨rfl, rfl⟩)
  go_ret
  exact ⟨rfl, rfl⟩

def Batched (w : World) (B h many : Nat) (Own : Nat → Prop) (L : List It) (e : Ending) (w' : World) : Prop :=
  ∃ v, e = .returned v ∧ OwnI w' w.heap.size v (batchL L) ∧ ∃ Own', Qu w' B h Own' many (restL L) ∧ Mv w w' Own Own' ∧ ∀ k, v.ownBlock = some k → ¬ Own' k

set_option maxRecDepth 100000 in
set_option maxHeartbeats 4000000 in
theorem batch_any {w : World} {B h many : Nat} {Own : Nat → Prop} {L : List It} (H : Qu w B h Own many L) : Calls Try.prog 16 #[.pointer (some ⟨h, 0, none⟩)] w (Batched w B h many Own L) := by
  obtain ⟨r, g, m, F, G, h1, h2, h3, h4, h5⟩ := id H
  have c0 := h1.cell 0
  simp at c0
  have lh := h1.lt
  have hM := Lib.hid (made_yes w h r c0)
  have hU := Lib.hid (urgent_any h2)
  have hids := h2.ids
  have HH := Lib.hid (And.intro H hids)
  have hlen : (batchL L).length ≤ 100000 := by
    unfold batchL
    split
    · simp
    · exact Nat.le_trans (List.length_filter_le _ _) h2.len
  clear h1 h2 h3 h4 h5 H hids
  go_enter Try.func16, Try.ntmps16
  go_wp2_with (first
    | (go_at_call 29; refine hM.out.mono ?_; rintro e w' ⟨rfl, rfl⟩)
    | fail)
  refine hU.out.mono ?_
  rintro e w1 ⟨v, rfl, hrow, hbel⟩
  have HQ := Lib.hid (HH.out.1.below hbel)
  have hap : ∀ k, v.ownBlock = some k → ¬ Own k := fun k e ho => by have := (hrow.lt e).2; have := (HH.out.1.lt ho).1; omega
  have hmv : Mv w w1 Own Own := Mv.of_kept ⟨hbel.os, hbel.tape, hbel.output, hbel.size, fun k hk _ => hbel.block k hk⟩
  obtain ⟨A, c, hv, hform⟩ := hrow.form
  have HV := Lib.hid hv
  have HR := Lib.hid (And.intro hrow (And.intro hap hmv))
  clear hrow hap hmv hform hbel
  obtain ⟨n, hn⟩ : ∃ n, n = (batchL L).length := ⟨_, rfl⟩
  rw [← hn] at hv hlen
  subst hv
  have HN := Lib.hid hn
  clear hn
  go_wp2_with fail
  go_loopw [16] (fun i wr => ∃ k : Nat, i = .int .i64 (k : Int) ∧ k ≤ n ∧ ∃ Own', Qu wr B h Own' many (cutAll L ((batchL L).take k)) ∧ Mv w wr Own Own' ∧ OwnI wr w.heap.size (.slice A n c) (batchL L) ∧ ∀ k, (Value.slice A n c).ownBlock = some k → ¬ Own' k) (fun i _ => n - (intOf i).toNat)
  case atStart => exact ⟨0, rfl, Nat.zero_le _, Own, HQ.out, HR.out.2.2, HR.out.1, HR.out.2.1⟩
  case round =>
    obtain ⟨k, rfl, hk, Own', hQ, hmv, hrow, hap⟩ := hrel
    by_cases hlt : k < n
    · obtain ⟨A', c', e', hform⟩ := hrow.form
      injection e' with eA en ec
      clear en
      subst eA; subst ec
      obtain ⟨g2, rfl, hg2, hob, hcell⟩ := hform (by have := HN.out; omega)
      obtain ⟨y, hy⟩ : ∃ y, (batchL L)[k]? = some y := ⟨_, List.getElem?_eq_getElem (by have := HN.out; omega)⟩
      obtain ⟨y0, y1, y2⟩ := hcell k y hy
      have hsplit : batchL L = (batchL L).take k ++ y :: (batchL L).drop (k + 1) := by
        have h1 := List.getElem?_eq_some_iff.1 hy
        rw [← h1.2, ← List.drop_eq_getElem_cons h1.1, List.take_append_drop]
      have hthere := next_there HH.out.2 hsplit
      have htake : (batchL L).take (k + 1) = (batchL L).take k ++ [y] := by
        have h1 := List.getElem?_eq_some_iff.1 hy
        rw [← h1.2, List.take_succ_eq_append_getElem h1.1]
      have hC := Lib.hid (fun o => cut_yes (hQ.alloc o) hthere)
      have HE := Lib.hid (And.intro hmv (And.intro hrow (And.intro hap htake)))
      have b0 : (0 : Int) ≤ (k : Int) := by omega
      have b1 : (k : Int) < (n : Int) := by omega
      clear hrow hap hmv hsplit hthere htake hy hcell hQ hob
      go_wp2_with fail
      refine (hC.out _).mono ?_
      rintro e w3 ⟨rfl, Own3, hQ3, m3⟩
      obtain ⟨hmv, hrow, hap, htake⟩ := HE.out
      have ka : Kept (fun _ => False) wr (wr.alloc (.cells #[.int .i64 y.id, .int .i64 y.fl, .int .i64 y.ct] 44)) := (Kept.refl _ wr).alloc _
      have m4 : Mv wr w3 Own' Own3 := (Mv.of_kept ka).trans m3
      obtain ⟨hrow3, hap3⟩ := hrow.mv hap m4
      rw [← cutAll_snoc, ← htake] at hQ3
      have H3 := Lib.hid (And.intro hQ3 (And.intro (hmv.trans m4) (And.intro hrow3 hap3)))
      clear hQ3 m3 hmv hrow hap htake ka m4 hrow3 hap3
      go_wp2_with fail
      go_roundw
      case rel => exact ⟨k + 1, by go_num, by omega, Own3, H3.out⟩
      case measure => simp [intOf]; omega
    · have hkn : k = n := by omega
      have HE := Lib.hid (And.intro hQ (And.intro hmv (And.intro hrow (And.intro hap hkn))))
      have b1 : ¬ ((k : Int) < (n : Int)) := by omega
      clear hQ hmv hrow hap hkn
      go_wp2_with fail
      go_ret
      obtain ⟨hQ, hmv, hrow, hap, hkn⟩ := HE.out
      rw [hkn, HN.out, List.take_length, cut_batch HH.out.2] at hQ
      exact ⟨_, rfl, hrow, Own', hQ, hmv, hap⟩
end Go.Proofs.Ytlkmmbondelheaa
