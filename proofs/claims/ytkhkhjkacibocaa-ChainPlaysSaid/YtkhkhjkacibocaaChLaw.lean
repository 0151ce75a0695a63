/-
  For the laws over chains: results as strings, constants as bytes, the chapter's first examples.
-/
import Derived.Test.YtkhkhjkacibocaaChCalls
import Derived.Test.YtkhkhjkacibocaaChCopied
import Derived.Laws.BytesArg
import Derived.Lib.SlBytesConst
import Derived.Lib.SmallJoins
namespace Go.Proofs.Ytkhkhjkacibocaa
open Go.RowKit Go.Shelf Go.Maps Go.ChangeMaps

section
variable {w w' w1 w2 : World} {B c : Nat} {t : TypeId} {L L' : List Lk} {xs zs : List Int} {v : Value}
theorem rowB_str (h : RowB w B v xs) (hl : xs.length ≤ 9223372036854775807) : (convert 31 9 v).run Try.prog w = .ok (.string (strOfNums xs)) w := by
  obtain ⟨A, rfl, hs⟩ := h.src (D := No2) hl (fun _ _ e => e.elim)
  exact hs.str
/-- The block of a constant's bytes. -/
abbrev conB (zs : List Int) : Obj := .cells (encB zs).toArray 5 (zs.length, zs.length + 1)
theorem src_const (w : World) {D : Nat → Nat → Prop} (hD : ∀ k i, D k i → k < w.heap.size) (zs : List Int) (hl : zs.length ≤ 9223372036854775807) : Src (w.alloc (conB zs)) D (some ⟨w.heap.size, 0, none⟩) zs.length zs.length zs :=
  ⟨rfl, Nat.le_refl _, hl, (fun e => by cases e), (fun a e _ => by cases e; rfl), fun _ => ⟨w.heap.size, 0, rfl, by simp, fun i z hz => ⟨fun hd => Nat.lt_irrefl _ (hD _ _ hd), by
    have hb : (w.alloc (conB zs)).heap[w.heap.size]? = some (conB zs) := World.alloc_heap_new w _
    rw [Nat.zero_add, cell_of_row _ _ _ _ _ _ hb]
    simp [encB, hz]⟩⟩⟩
theorem add_const (h : Cn w1 B 29 c L) (zs : List Int) (hl : zs.length + (flat L).length ≤ 1048576) {M : List Int} (hM : flat L ++ zs = M) : Calls Try.prog 18 #[.pointer (some ⟨c, 0, none⟩), .slice (some ⟨w1.heap.size, 0, none⟩) zs.length zs.length] (w1.alloc (conB zs)) fun e w' =>
    e = .returned (.int .i64 0) ∧ ∃ L', Cn w' B 29 c L' ∧ flat L' = M ∧ Mc w1 w' (Fc c L) (Fc c L') := by
  subst hM
  refine (add_yes (h.kept ((Kept.refl _ w1).alloc (conB zs))) (src_const w1 (fun _ _ e => h.lt e) zs (by omega)) hl).mono ?_
  rintro e w' ⟨rfl, L', h1, h2, h3⟩
  exact ⟨rfl, L', h1, h2, (Mc.of_kept ((Kept.refl _ w1).alloc (conB zs))).trans h3⟩
theorem ahead_const (h : Cn w1 B 29 c L) (zs : List Int) (hl : zs.length + (flat L).length ≤ 1048576) {M : List Int} (hM : zs ++ flat L = M) : Calls Try.prog 21 #[.pointer (some ⟨c, 0, none⟩), .slice (some ⟨w1.heap.size, 0, none⟩) zs.length zs.length] (w1.alloc (conB zs)) fun e w' =>
    e = .returned (.int .i64 0) ∧ ∃ L', Cn w' B 29 c L' ∧ flat L' = M ∧ Mc w1 w' (Fc c L) (Fc c L') := by
  subst hM
  refine (ahead_yes (h.kept ((Kept.refl _ w1).alloc (conB zs))) (src_const w1 (fun _ _ e => h.lt e) zs (by omega)) hl).mono ?_
  rintro e w' ⟨rfl, L', h1, h2, h3⟩
  exact ⟨rfl, L', h1, h2, (Mc.of_kept ((Kept.refl _ w1).alloc (conB zs))).trans h3⟩
theorem law_step {D' : Nat → Nat → Prop} (h : Cn w1 B t c L) (hb : Below B w w1) (m : Mc w1 w2 (Fc c L) D') : Below B w w2 := hb.trans (m.below (fun _ _ e => h.low e) h.base)
theorem law_quiet (hb : Below B w w1) (hB : B ≤ w1.heap.size) (m : Kept (fun _ => False) w1 w2) : Below B w w2 := hb.trans (m.below (fun _ e => e.elim) hB)
theorem cn_new (w : World) : Cn (w.alloc (.cells #[.pointer none, .pointer none, .int .i64 0] 29)) w.heap.size 29 w.heap.size [] := by
  refine ⟨?_, .inr rfl, trivial, by simp, ⟨by omega, fun x hx => by simp at hx⟩, by simp [flat]⟩
  have := Blk.new w 29 #[.pointer none, .pointer none, .int .i64 0]
  simpa [hdO, ltO, ptrO, flat] using this
theorem lt_push (w : World) (o : Obj) : w.heap.size < (w.drew.alloc o).heap.size := by
  show w.heap.size < (w.heap.push o).size
  rw [Array.size_push]; omega

theorem len_zero (h : Cn w B 29 c L) (hf : flat L = []) : Calls Try.prog 12 #[.pointer (some ⟨c, 0, none⟩)] w fun e w' => e = .returned (.int .i64 0) ∧ w = w' := by
  have := len_any h
  rw [hf] at this
  exact this
def numsS (s : ByteArray) : List Int := s.data.toList.map fun b => (b.toNat : Int)
theorem bytesS (w : World) (s : ByteArray) (hl : s.size ≤ 9223372036854775807) : ∃ cp W', (convert 9 31 (.string s)).run Try.prog w = .ok (.slice (some ⟨w.heap.size, 0, none⟩) s.size cp) W' ∧ Src W' No2 (some ⟨w.heap.size, 0, none⟩) s.size cp (numsS s) ∧ Kept (fun _ => False) w W' := by
  refine ⟨_, _, run_bytes_of_string w 9 31 5 s Try.underlying9 Try.underlying31 Try.underlying5, ⟨by unfold numsS; rw [List.length_map]; rfl, grownCap_ge _ _ _ _, ?_, (fun e => by cases e), (fun a e _ => by cases e; rfl), fun _ => ⟨w.heap.size, 0, rfl, lt_push _ _, fun i z hz => ⟨fun e => e, ?_⟩⟩⟩, (Kept.refl _ w).drew.alloc _⟩
  · have := grownCap_le_maxLen w s.size 0 5 (by unfold maxLen; omega)
    unfold maxLen at this; omega
  · have hb := World.alloc_heap_new w.drew (.cells (bytesRow s (grownCap w s.size 0 5)) 5 ((bytesRow s (grownCap w s.size 0 5)).size, (bytesRow s (grownCap w s.size 0 5)).size + 1))
    rw [Nat.zero_add]
    refine (cell_of_row _ _ _ _ _ _ hb).trans ?_
    unfold numsS at hz
    rw [List.getElem?_map] at hz
    unfold bytesRow
    rw [Array.getElem?_append_left (by
      have := (List.getElem?_eq_some_iff.1 (Option.map_eq_some_iff.1 hz).choose_spec.1).1
      simpa using this)]
    rw [Array.getElem?_map, ← Array.getElem?_toList]
    obtain ⟨b, h1, h2⟩ := Option.map_eq_some_iff.1 hz
    rw [h1, ← h2]; rfl
theorem FindA.unique {Bs z : List Int} {f : Int} {r s : Option Nat} (h : FindA Bs z f r) (k : FindA Bs z f s) : r = s := by
  unfold FindA at h k
  split at h
  · rw [h, if_pos ‹_›] at *; exact k.symm
  · rw [if_neg ‹_›] at k
    split at h
    · rw [if_pos ‹_›] at k; exact h.trans k.symm
    · rw [if_neg ‹_›] at k; exact h.unique k
set_option maxHeartbeats 2000000 in
theorem finds_yes (h : Cn w B 29 c L) (s : ByteArray) (f : Int) (i : Nat) (hl : s.size ≤ 9223372036854775807) (hf : -9223372036854775808 ≤ f ∧ f ≤ 9223372036854775807) (hr : FindA (flat L) (numsS s) f (some i)) :
    Calls Try.prog 15 #[.pointer (some ⟨c, 0, none⟩), .string s, .int .i64 f, .int .i64 (i : Int)] w fun e w' => e = .returned (.bool true) ∧ Kept (fun _ => False) w w' := by
  obtain ⟨cp, W, hc, hs, hk⟩ := bytesS w s hl
  have HF := Lib.hid (find_any (h.kept hk) hs f hf)
  have HR := Lib.hid (And.intro hr hk)
  have b1 : (0 : Int) ≤ (i : Int) := by omega
  clear h hs hk hr
  go_enter Try.func15, Try.ntmps15
  go_wp2_with fail
  refine HF.out.mono ?_
  rintro e w2 ⟨r, rfl, g1, g2⟩
  obtain rfl := HR.out.1.unique g1
  have HK := Lib.hid (HR.out.2.trans g2)
  clear g1 g2
  unfold ansF
  go_wp2_with fail
  go_ret
  exact ⟨rfl, HK.out⟩
set_option maxHeartbeats 2000000 in
theorem finds_no (h : Cn w B 29 c L) (s : ByteArray) (f : Int) (hl : s.size ≤ 9223372036854775807) (hf : -9223372036854775808 ≤ f ∧ f ≤ 9223372036854775807) (hr : FindA (flat L) (numsS s) f none) :
    Calls Try.prog 15 #[.pointer (some ⟨c, 0, none⟩), .string s, .int .i64 f, .int .i64 (-1)] w fun e w' => e = .returned (.bool true) ∧ Kept (fun _ => False) w w' := by
  obtain ⟨cp, W, hc, hs, hk⟩ := bytesS w s hl
  have HF := Lib.hid (find_any (h.kept hk) hs f hf)
  have HR := Lib.hid (And.intro hr hk)
  clear h hs hk hr
  go_enter Try.func15, Try.ntmps15
  go_wp2_with fail
  refine HF.out.mono ?_
  rintro e w2 ⟨r, rfl, g1, g2⟩
  obtain rfl := HR.out.1.unique g1
  have HK := Lib.hid (HR.out.2.trans g2)
  clear g1 g2
  unfold ansF
  go_wp2_with fail
  go_ret
  exact ⟨rfl, HK.out⟩
end

set_option maxRecDepth 100000 in
set_option maxHeartbeats 4000000 in
theorem some_any (w : World) : Calls Try.prog 14 #[] w fun e w' => ∃ c L, e = .returned (.pointer (some ⟨c, 0, none⟩)) ∧ Cn w' w.heap.size 29 c L ∧ flat L = [120, 97, 98, 99, 100] ∧ Below w.heap.size w w' := by
  have kc := fun (w : World) (C : Array Value) (n c : Nat) => Lib.run_convert_bytes_const (P := Try.prog) w 31 5 C n c Try.underlying31 Try.underlying5
  have H0 := cn_new w
  have hb0 : Below w.heap.size w (w.alloc (.cells #[.pointer none, .pointer none, .int .i64 0] 29)) := (Below.refl _ w).alloc (Nat.le_refl _) _
  have HP1 := Lib.hid (add_const H0 [97, 98] (by decide) (M := [97, 98]) rfl)
  have H1 := Lib.hid (And.intro H0 hb0)
  clear H0 hb0
  have e1 : (w.alloc (.cells #[.pointer none, .pointer none, .int .i64 0] 29)).heap.size = w.heap.size + 1 := by simp
  rw [e1] at HP1
  have kc1 := fun (C : Array Value) (n c : Nat) => Joins.run_convert_bytes_const_at (P := Try.prog) (w.alloc (.cells #[.pointer none, .pointer none, .int .i64 0] 29)) 31 5 C n c (w.heap.size + 1) e1.symm Try.underlying31 Try.underlying5
  go_enter Try.func14, Try.ntmps14
  go_wp2_with fail
  refine HP1.out.mono ?_
  rintro e w2 ⟨rfl, L2, hR, hf, m2⟩
  have hb := law_step H1.out.1 H1.out.2 m2
  have HP2 := Lib.hid (add_const hR [99, 100] (by rw [hf]; decide) (M := [97, 98, 99, 100]) (by rw [hf]; rfl))
  have H2 := Lib.hid (And.intro hR hb)
  clear hR hb m2 hf
  go_wp2_with fail
  refine HP2.out.mono ?_
  rintro e w3 ⟨rfl, L3, hR, hf, m3⟩
  have hb := law_step H2.out.1 H2.out.2 m3
  have HP3 := Lib.hid (ahead_const hR [120] (by rw [hf]; decide) (M := [120, 97, 98, 99, 100]) (by rw [hf]; rfl))
  have H3 := Lib.hid (And.intro hR hb)
  clear hR hb m3 hf
  go_wp2_with fail
  refine HP3.out.mono ?_
  rintro e w4 ⟨rfl, L4, hR, hf, m4⟩
  have hb := law_step H3.out.1 H3.out.2 m4
  have H4 := Lib.hid (And.intro hR (And.intro hf hb))
  clear hR hb m4 hf
  go_wp2_with fail
  go_ret
  exact ⟨_, _, rfl, H4.out.1, H4.out.2.1, H4.out.2.2⟩

theorem fsome {Bs z : List Int} {f : Int} {i : Nat} (hf : 0 ≤ f) (h0 : z ≠ []) (h1 : f.toNat ≤ i) (h2 : Occ Bs z i) (h3 : ∀ j, j < i → f.toNat ≤ j → ¬ Occ Bs z j) : FindA Bs z f (some i) := by
  unfold FindA
  rw [if_neg (by omega), if_neg h0]
  exact ⟨h1, h2, fun j hj hi => h3 j hi hj⟩
theorem fnone {Bs z : List Int} {f : Int} (h0 : z ≠ []) (h3 : ∀ j, j < Bs.length + 1 → f.toNat ≤ j → ¬ Occ Bs z j) : FindA Bs z f none := by
  unfold FindA
  by_cases h : f < 0
  · rw [if_pos h]
  · rw [if_neg h, if_neg h0]
    intro j hj ho
    have := ho.le (by cases z with | nil => exact (h0 rfl).elim | cons _ _ => simp)
    exact h3 j (by omega) hj ho
instance (Bs z : List Int) (i : Nat) : Decidable (Occ Bs z i) := by unfold Occ; infer_instance

set_option maxRecDepth 100000 in
set_option maxHeartbeats 4000000 in
theorem alive_any (w : World) : Calls Try.prog 24 #[] w fun e w' => e = .returned (.bool true) ∧ Below w.heap.size w w' := by
  have HS := Lib.hid (some_any w)
  go_enter Try.func24, Try.ntmps24
  go_wp2_with fail
  refine HS.out.mono ?_
  rintro e w1 ⟨c, L, rfl, hc, hf, hb⟩
  have HL := Lib.hid (len_any hc)
  have HC := Lib.hid (copy_any hc 1 3 (by omega) (by omega))
  rw [hf] at HL HC
  have hcp : cpy [120, 97, 98, 99, 100] 1 3 = [97, 98, 99] := by decide
  rw [hcp] at HC
  have H := Lib.hid (And.intro hc (And.intro hf hb))
  have t1 : ((strOfNums [97, 98, 99]).toList == [97, 98, 99]) = true := by decide +kernel
  clear hc hf hb hcp
  go_wp2_with (first
    | (go_at_call 12; refine HL.out.mono ?_; rintro e w' ⟨rfl, rfl⟩)
    | (go_at_call 26; refine HC.out.mono ?_; rintro e w2 ⟨v, rfl, g1, g2⟩
       have hs1 := rowB_str g1 (by decide)
       have HK := Lib.hid g2
       clear g1 g2))
  have HF1 := Lib.hid (finds_yes (H.out.1.kept HK.out) ⟨#[98, 99]⟩ 0 2 (by decide) (by decide) (by rw [H.out.2.1]; exact fsome (by decide) (by decide +kernel) (by decide) (by decide +kernel) (by decide +kernel)))
  refine HF1.out.mono ?_
  rintro e w3 ⟨rfl, g3⟩
  have HK2 := Lib.hid (HK.out.trans g3)
  clear g3
  have HF2 := Lib.hid (finds_no (H.out.1.kept HK2.out) ⟨#[120]⟩ 1 (by decide) (by decide) (by rw [H.out.2.1]; exact fnone (by decide +kernel) (by decide +kernel)))
  go_wp2_with fail
  refine HF2.out.mono ?_
  rintro e w4 ⟨rfl, g4⟩
  have HB := Lib.hid (law_quiet H.out.2.2 H.out.1.base (HK2.out.trans g4))
  clear g4
  go_wp2_with fail
  go_ret
  exact ⟨rfl, HB.out⟩
end Go.Proofs.Ytkhkhjkacibocaa
