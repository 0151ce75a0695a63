/-
  The reference's ring: New, Grow, Look, Take.
-/
import Derived.Test.YtolkbelfcgamiaaRgParts
import Derived.Maps.AppendAt
import Derived.Deep.AppendLies
namespace Go.Proofs.Ytolkbelfcgamiaa
open Go.RowKit Go.Shelf Go.Maps Go.ChangeMaps

theorem infoB3 : (Try.prog.info? 5).map (fun i => (i.zero, i.size, i.bytes)) = some (some (.int .u8 0), 1, 1) := by kernel_rfl

/-- The reference's ring: its block, and the bytes that it names. -/
structure Rf (W : World) (E : Nat → Prop) (rb cap : Nat) (A : Option Addr) (c : Nat) (bs : List Int) (inn out : Nat) : Prop where
  blk : Blk W rb 31 #[.int .i64 (cap : Int), .slice A bs.length c, .int .u64 (inn : Int), .int .u64 (out : Int)]
  hE : ∀ k, E k → k < W.heap.size
  src : Src W (fun k => k = rb ∨ E k) (.slice A bs.length c) bs
  cA : A = none → c = 0
  sp : ∀ a, A = some a → 0 < c → a.spot = none

section
variable {w w' : World} {E : Nat → Prop} {rb cap inn out c : Nat} {A : Option Addr} {bs xs : List Int} {v : Value}
theorem Src.keep {F : Nat → Prop} {G : Nat → Prop} (h : Src w F v xs) (k : Kept G w w') (hg : ∀ i, G i → F i ∨ w.heap.size ≤ i) : Src w' F v xs := by
  obtain ⟨A, c, rfl, h1, h2, h3⟩ := h
  refine ⟨A, c, rfl, h1, h2, fun h0 => ?_⟩
  obtain ⟨b, o, rfl, hl, hf, hc⟩ := h3 h0
  have hb := k.block b hl (fun g => by rcases hg b g with e | e; exact hf e; omega)
  exact ⟨b, o, rfl, Nat.lt_of_lt_of_le hl k.size, hf, fun i z hz => (World.cell?_of_block (a := ⟨b, _, none⟩) hb).trans (hc i z hz)⟩
theorem Src.weak {F G : Nat → Prop} (h : Src w F v xs) (hg : ∀ i, G i → F i) : Src w G v xs := by
  obtain ⟨A, c, rfl, h1, h2, h3⟩ := h
  refine ⟨A, c, rfl, h1, h2, fun h0 => ?_⟩
  obtain ⟨b, o, rfl, hl, hf, hc⟩ := h3 h0
  exact ⟨b, o, rfl, hl, fun g => hf (hg b g), hc⟩
theorem Rf.kept {G : Nat → Prop} (h : Rf w E rb cap A c bs inn out) (k : Kept G w w') (hr : ¬ G rb) (hg : ∀ i, G i → E i) : Rf w' E rb cap A c bs inn out :=
  ⟨h.blk.kept k hr, fun i e => Nat.lt_of_lt_of_le (h.hE i e) k.size, h.src.keep k (fun i e => .inl (.inr (hg i e))), h.cA, h.sp⟩

/-- A row of its own may be read. -/
theorem own_src {n : Nat} {B0 : Nat} (h : w.ownsRow B0 5 1 v xs.length (encB xs)) (hm : xs.length ≤ 9223372036854775807) : Src w (fun k => k < B0) v xs ∧ CapOk v := by
  rcases h.2 with ⟨rfl, hn⟩ | ⟨g, cap, cur, rfl, hg, hh, hc, hr⟩
  · have : xs = [] := List.eq_nil_of_length_eq_zero hn
    subst this
    exact ⟨⟨none, 0, rfl, Nat.le_refl _, by omega, fun h => by simp at h⟩, none, 0, 0, rfl, fun _ => rfl, fun a e => by cases e⟩
  · have hm2 : cap ≤ 9223372036854775807 := by have := hr.1; unfold maxLen at this; omega
    refine ⟨⟨_, _, rfl, hc, hm2, fun h0 => ⟨g, 0, rfl, (Array.getElem?_eq_some_iff.1 hh).1, fun e => by omega, fun i z hz => ?_⟩⟩, _, _, _, rfl, (fun e => by cases e), (fun a e _ => by cases e; rfl)⟩
    have hi := (List.getElem?_eq_some_iff.1 hz).1
    rw [Nat.zero_add, h.cellAt i (by omega), encB_get, hz]
    rfl
end

theorem rnew_no (w : World) (k : Int) (h : k < 0 ∨ 65536 < k) (h2 : -9223372036854775808 ≤ k ∧ k ≤ 9223372036854775807) : Calls Try.prog 11 #[.int .i64 k] w fun e w' =>
    e = .returned (.tuple #[.agg #[.int .i64 0, .slice none 0 0, .int .u64 0, .int .u64 0], .int .i64 2]) ∧ Below w.heap.size w w' := by
  rcases h with h | h
  · go_enter Try.func11, Try.ntmps11
    go_wp2
    exact bodyPost_ret (v := .tuple #[.agg #[.int .i64 0, .slice none 0 0, .int .u64 0, .int .u64 0], .int .i64 2]) (by simp [results, Try.results11, go_sem]) rfl ⟨rfl, (Below.refl _ _).alloc (Nat.le_refl _) _⟩
  · have h0 : 0 ≤ k := by omega
    go_enter Try.func11, Try.ntmps11
    go_wp2
    exact bodyPost_ret (v := .tuple #[.agg #[.int .i64 0, .slice none 0 0, .int .u64 0, .int .u64 0], .int .i64 2]) (by simp [results, Try.results11, go_sem]) rfl ⟨rfl, (Below.refl _ _).alloc (Nat.le_refl _) _⟩
theorem rnew_yes (w : World) (k : Nat) (h : k ≤ 65536) : Calls Try.prog 11 #[.int .i64 (k : Int)] w fun e w' =>
    e = .returned (.tuple #[.agg #[.int .i64 (k : Int), .slice none 0 0, .int .u64 0, .int .u64 0], .int .i64 0]) ∧ Below w.heap.size w w' := by
  have h0 : (0 : Int) ≤ (k : Int) := by omega
  have h1 : (k : Int) ≤ 65536 := by omega
  go_enter Try.func11, Try.ntmps11
  go_wp2
  exact bodyPost_ret (v := .tuple #[.agg #[.int .i64 (k : Int), .slice none 0 0, .int .u64 0, .int .u64 0], .int .i64 0]) (by simp [results, Try.results11, go_sem]) rfl ⟨rfl, (Below.refl _ _).alloc (Nat.le_refl _) _⟩

section
variable {w : World} {E : Nat → Prop} {rb cap inn out c : Nat} {A : Option Addr} {bs : List Int}
theorem rgrow_no (h : Rf w E rb cap A c bs inn out) (hl : bs.length ≤ 65536) (k : Int) (hk : k < (bs.length : Int) ∨ 65536 < k) : Calls Try.prog 19 #[.pointer (some ⟨rb, 0, none⟩), .int .i64 k] w fun e w' => e = .returned (.int .i64 2) ∧ w = w' := by
  have c1 := h.blk.cell 1
  simp at c1
  have l1 := h.blk.lt
  clear h
  by_cases hlt : k < (bs.length : Int)
  · go_enter Try.func19, Try.ntmps19
    go_wp2
    go_ret
    exact ⟨rfl, rfl⟩
  · have b1 : 65536 < k := by omega
    go_enter Try.func19, Try.ntmps19
    go_wp2
    go_ret
    exact ⟨rfl, rfl⟩
theorem rgrow_yes (h : Rf w E rb cap A c bs inn out) (k : Nat) (hk : bs.length ≤ k) (hk2 : k ≤ 65536) : Calls Try.prog 19 #[.pointer (some ⟨rb, 0, none⟩), .int .i64 (k : Int)] w fun e w' =>
    e = .returned (.int .i64 0) ∧ Rf w' E rb k A c bs inn out ∧ Kept (fun i => i = rb) w w' := by
  have c1 := h.blk.cell 1
  simp at c1
  have c0 := h.blk.cell 0
  simp at c0
  have l1 := h.blk.lt
  have f0 := h.blk.frozen 0
  have b1 : decide (k < bs.length) = false := by simp; omega
  have b2 : ¬ (65536 : Int) < (k : Int) := by omega
  have kk : Kept (fun i => i = rb) w (w.setCell ⟨rb, 0, none⟩ (.int .i64 (k : Int))) := (Kept.refl (fun i => i = rb) w).setCell (p := ⟨rb, 0, none⟩) rfl _
  have HE := Lib.hid (show Rf (w.setCell ⟨rb, 0, none⟩ (.int .i64 (k : Int))) E rb k A c bs inn out ∧ Kept (fun i => i = rb) w (w.setCell ⟨rb, 0, none⟩ (.int .i64 (k : Int))) from
    ⟨⟨by have := h.blk.set_ 0 (.int .i64 (k : Int)); simpa using this, fun i e => Nat.lt_of_lt_of_le (h.hE i e) kk.size, h.src.keep kk (fun i e => .inl (.inl e)), h.cA, h.sp⟩, kk⟩)
  clear h kk
  go_enter Try.func19, Try.ntmps19
  go_wp2
  go_ret
  exact ⟨rfl, HE.out⟩

set_option maxRecDepth 100000 in
set_option maxHeartbeats 2000000 in
theorem rlook_any (h : Rf w E rb cap A c bs inn out) (hl : bs.length ≤ 65536) (n : Int) (hn : -9223372036854775808 ≤ n ∧ n ≤ 9223372036854775807) : Calls Try.prog 17 #[.pointer (some ⟨rb, 0, none⟩), .int .i64 n] w fun e w' =>
    ∃ v, e = .returned v ∧ w'.ownsRow w.heap.size 5 1 v (bs.take n.toNat).length (encB (bs.take n.toNat)) ∧ Kept (fun _ => False) w w' := by
  obtain ⟨i0, hi, hz0, hz1, hz2⟩ := info_parts infoB3
  have HH := Lib.hid h
  obtain ⟨T, hT⟩ : ∃ T, T = min n.toNat bs.length := ⟨_, rfl⟩
  have htk : bs.take n.toNat = bs.take T := by
    by_cases hx : n.toNat ≤ bs.length
    · rw [show T = n.toNat by omega]
    · rw [show T = bs.length by omega, List.take_of_length_le (by omega), List.take_of_length_le (by omega)]
  have hTl : (bs.take T).length = T := by rw [List.length_take]; omega
  have HTK := Lib.hid (And.intro htk hTl)
  have hTb : T ≤ bs.length := by omega
  have hTn : (T : Int) ≤ n ∨ T = 0 := by omega
  have hTe : n ≤ (T : Int) ∨ T = bs.length := by omega
  clear h htk hTl hT
  go_enter Try.func17, Try.ntmps17
  go_wp2_with fail
  go_loopw [5, 6] (fun s i wr => ∃ k : Nat, k ≤ T ∧ i = .int .i64 (k : Int) ∧ wr.ownsRow w.heap.size 5 1 s k (encB (bs.take k)) ∧ Kept (fun _ => False) w wr) (fun _ i _ => T - (intOf i).toNat)
  case atStart => exact ⟨0, Nat.zero_le _, rfl, World.ownsRow_nil _ _ _ _, Kept.refl _ _⟩
  case round =>
    obtain ⟨k, hk, rfl, hrow, hkw⟩ := hrel
    have R := HH.out.kept hkw (fun e => e) (fun _ e => e.elim)
    have c1 := R.blk.cell 1
    simp at c1
    have l1 := R.blk.lt
    by_cases hlt : k < T
    · have b0 : decide ((k : Int) < n) = true := by simp; omega
      have b1 : decide (k < bs.length) = true := by simp; omega
      have b2 : (k : Int) < (bs.length : Int) := by omega
      have b3 : (0 : Int) ≤ (k : Int) := by omega
      have b4 : (k : Int) < n := by omega
      have b5 : 0 < bs.length := by omega
      have b6 : k < bs.length := by omega
      obtain ⟨A', c', e, hc1, hc2, hcell⟩ := R.src
      cases e
      obtain ⟨b, o, rfl, hbl, _, hcc⟩ := hcell b5
      obtain ⟨z, hz⟩ : ∃ z, bs[k]? = some z := ⟨_, List.getElem?_eq_getElem b6⟩
      have c2 := hcc k z hz
      have HS := Lib.hid (show encB (bs.take k) ++ [.int .u8 z] = encB (bs.take (k + 1)) by
        rw [List.take_add_one, hz]; simp [encB])
      have HK := Lib.hid hkw
      have hs1 := hkw.size
      clear R hcc hcell hz hc1 hc2 hkw
      go_wp2_with (at_builtin; refine wpList_append_own _ rfl _ _ 28 rfl w.heap.size 5 i0 _ 1 1 Try.underlying28 hi hz0 hz1 hz2 rfl (by decide) _ _ _ rfl (World.ownsRow.alloc hrow _) ⟨wr.heap.size, 0, none⟩ 1 1 [.int .u8 z] rfl rfl (World.news_of_block (cs := #[.int .u8 z]) (heap_alloc_new wr _)) (by simp [Value.oneCell']) (by unfold maxLen; omega) (by omega) (by simp; omega) ?_; intro v' w1 hown' hgrow _)
      rw [HS.out] at hown'
      have HE := Lib.hid (And.intro hown' (show Kept (fun _ => False) w w1 from (HK.out.alloc _).grown hgrow (fun i e hi => by
        have := (hrow.lt i e).1; omega)))
      clear hown' hgrow hrow
      go_wp2_with fail
      go_roundw
      case rel => exact ⟨k + 1, by omega, by go_num, HE.out.1, HE.out.2⟩
      case measure => simp [intOf]; omega
    · obtain rfl : k = T := by omega
      have HE := Lib.hid (show wr.ownsRow w.heap.size 5 1 u5 (bs.take n.toNat).length (encB (bs.take n.toNat)) from by rw [HTK.out.1, HTK.out.2]; exact hrow)
      by_cases hkn : (k : Int) < n
      · have b0 : decide ((k : Int) < n) = true := by simpa using hkn
        have b1 : decide (k < bs.length) = false := by simp; omega
        clear hrow R hTn hTe
        go_wp2_with fail
        go_ret
        first | exact ⟨u5, rfl, HE.out, hkw⟩ | exact ⟨u5, rfl, by have := HE.out; rwa [List.length_take] at this, hkw⟩
      · have b0 : decide ((k : Int) < n) = false := by simpa using hkn
        clear hrow R hTn hTe
        go_wp2_with fail
        go_ret
        first | exact ⟨u5, rfl, HE.out, hkw⟩ | exact ⟨u5, rfl, by have := HE.out; rwa [List.length_take] at this, hkw⟩
end
end Go.Proofs.Ytolkbelfcgamiaa
