/-
  circle.put.
-/
import Derived.Test.YtjejpgognfadoaaGreatDoorRgCirc
namespace Go.Proofs.YtjejpgognfadoaaGreatDoor
open Go.RowKit Go.Shelf Go.Maps Go.ChangeMaps

/-- A region whose operations but the last only read: walked in the text's order, then the last. -/
theorem wp_still_tail {P : Program} {id : Nat} {Q : Exit → Act → World → Prop} {a : Act} {w : World} {l : List Oper} (n : Nat) (hm : P.follows .mixedOrders = true) (hB : Region.lexTailB .any l.toArray n = true)
    (h : wpStill P l.toArray w.drew (fun a' => wpList P l.toArray Q (l.drop n) a' w.drew) (l.take n) a) : (Code.region id l.toArray true).wp P Q a w := wp_region_still_tail n hm hB h

/-- What the walk holds behind the places are wide enough: a circle with a row, in w1; what was turned since w. -/
def PutAt (w w1 : World) (B cb cap inn out : Nat) (v : Value) (bs : List Int) (m : Nat) (g L : Nat) (ps1 : List Int) : Prop :=
  Cst w1 B cb cap (.slice (some ⟨g, 0, none⟩) L L) ps1 bs inn out ∧ ps1.length = L ∧ bs.length + m ≤ L ∧ Kept (Fr cb v) w w1 ∧ (v.ownBlock = some g ∨ w.heap.size ≤ g)

section
variable {w w1 : World} {B cb cap inn out : Nat} {v : Value} {bs : List Int} {zs : List Int} {g L : Nat} {ps1 : List Int} {b o c : Nat}
theorem putAt_write (h : PutAt w w1 B cb cap inn out v bs zs.length g L ps1) (hz : inn + zs.length ≤ 1000000000) (hcap : bs.length + zs.length ≤ cap) (h0 : 0 < zs.length) (hc : zs.length ≤ c) (hcm : c ≤ 9223372036854775807)
    (hbf : ¬ Fr cb v b) (hbl : b < w.heap.size) (hsrc : ∀ i z, zs[i]? = some z → w.cell? ⟨b, o + i, none⟩ = some (.int .u8 z)) :
    Calls Tryz.prog 95 #[.pointer (some ⟨cb, 0, none⟩), .int .u64 (inn : Int), .slice (some ⟨b, o, none⟩) zs.length c] w1 fun e w' => e = .returned (.tuple #[]) ∧
      Blk w' cb 104 #[.int .i64 (cap : Int), .slice (some ⟨g, 0, none⟩) L L, .int .u64 (inn : Int), .int .u64 (out : Int)] ∧
      (Blk w' cb 104 #[.int .i64 (cap : Int), .slice (some ⟨g, 0, none⟩) L L, .int .u64 (inn : Int), .int .u64 (out : Int)] →
        ∃ ps', Cst (w'.setCell ⟨cb, 2, none⟩ (.int .u64 ((inn + zs.length : Nat) : Int))) B cb cap (.slice (some ⟨g, 0, none⟩) L L) ps' (bs ++ zs) (inn + zs.length) out ∧ Rm w (w'.setCell ⟨cb, 2, none⟩ (.int .u64 ((inn + zs.length : Nat) : Int))) cb v (.slice (some ⟨g, 0, none⟩) L L)) := by
  obtain ⟨hC, rfl, hL, hk, hg⟩ := h
  have hrow : w1.heap[g]? = some (.cells (encB ps1).toArray 5 (0, 0)) ∧ B ≤ g := by
    rcases hC.row with ⟨e, _⟩ | ⟨g', e, hB, hr⟩
    · cases e
    · cases e; exact ⟨hr, hB⟩
  have hgl : g < w1.heap.size := (Array.getElem?_eq_some_iff.1 hrow.1).1
  have hbg : b ≠ g := fun e => by
    rcases hg with h | h
    · exact hbf (.inr (by rw [e]; exact h))
    · omega
  have hcg : cb ≠ g := fun e => hC.ne (by rw [e]; rfl)
  have hsm := hC.sm
  have hin := hC.hin
  refine (write_any w1 cb g inn _ _ _ ps1 zs _ b o c hC.blk hrow.1 hC.le (by omega) h0 (by omega) hc hcm rfl hbg (by have := hk.size; omega) (fun i z hz => (World.cell?_of_block (a := ⟨b, _, none⟩) (hk.block b hbl hbf)).trans (hsrc i z hz))).mono ?_
  rintro e w' ⟨rfl, hr, hk2⟩
  refine ⟨rfl, hC.blk.kept hk2 hcg, fun hb => ⟨laidB ps1 inn zs, ⟨by have := hb.set_ 2 (.int .u64 ((inn + zs.length : Nat) : Int)); simpa using this, .inr ⟨g, by rw [len_laid _ _ _ (by omega)], hrow.2, (Below.heap_setCell _ _ _ _ (Ne.symm hcg)).trans hr⟩, hC.hB, ?_, by rw [len_laid _ _ _ (by omega)]; exact hC.le, hC.big, by rw [List.length_append]; exact hcap, by rw [List.length_append]; omega, hz⟩, ⟨Kept.setCell (hk.andThen hk2 (fun i hi e => by
      rcases hg with h | h
      · exact .inr (by rw [e]; exact h)
      · omega)) (.inl rfl) _, ?_⟩⟩⟩
  · have := hC.lies.put zs hL
    rwa [← hin] at this
  · rcases hg with h | h
    · exact .inl h.symm
    · exact .inr fun i e => by cases e; exact h
end

set_option maxRecDepth 100000 in
set_option maxHeartbeats 4000000 in
theorem cput_any {w : World} {B cb cap inn out : Nat} {v : Value} {ps bs : List Int} (h : Cst w B cb cap v ps bs inn out) (hBw : B ≤ w.heap.size) (zs : List Int) (b o c : Nat)
    (hz : inn + zs.length ≤ 1000000000) (hcap : bs.length + zs.length ≤ cap) (h0 : 0 < zs.length) (hc : zs.length ≤ c) (hcm : c ≤ 9223372036854775807)
    (hbf : ¬ Fr cb v b) (hbl : b < w.heap.size) (hsrc : ∀ i z, zs[i]? = some z → w.cell? ⟨b, o + i, none⟩ = some (.int .u8 z)) :
    Calls Tryz.prog 83 #[.pointer (some ⟨cb, 0, none⟩), .slice (some ⟨b, o, none⟩) zs.length c] w fun e w' =>
      e = .returned (.tuple #[]) ∧ ∃ v' ps', Cst w' B cb cap v' ps' (bs ++ zs) (inn + zs.length) out ∧ Rm w w' cb v v' := by
  obtain ⟨A, hv, hAv⟩ := h.row.form
  have c1 := h.blk.cell 1
  have c0 := h.blk.cell 0
  simp at c0 c1
  rw [hv] at c1
  have l0 := h.blk.lt
  have hle := h.le
  have hbig := h.big
  have hfit := h.fit
  have HL := Lib.hid (length_any h)
  have e1 : IntKind.i64.wrap ((bs.length : Int) + (zs.length : Int)) = (bs.length : Int) + (zs.length : Int) := IntWalk.i64_in _ (by omega)
  have e2 : IntKind.u64.wrap (zs.length : Int) = (zs.length : Int) := IntWalk.u64_in _ (by omega)
  have e3 : IntKind.u64.wrap ((inn : Int) + (zs.length : Int)) = ((inn + zs.length : Nat) : Int) := by rw [IntWalk.u64_in _ (by omega)]; omega
  have b0 : (0 : Int) ≤ (bs.length : Int) := by omega
  have b1 : (bs.length : Int) ≤ 65536 := by omega
  have b2 : (zs.length : Int) ≤ 65536 := by omega
  have b3 : (0 : Int) < (zs.length : Int) := by omega
  have b4 : (inn : Int) + (zs.length : Int) ≤ 1000000000 := by omega
  by_cases hlt : ps.length < bs.length + zs.length
  · obtain ⟨k, hk⟩ : ∃ k, k = min (max (bs.length + zs.length) (2 * ps.length)) cap := ⟨_, rfl⟩
    have hd : decide ((ps.length : Int) < (bs.length : Int) + (zs.length : Int)) = true := by simp; omega
    have e4 : IntKind.i64.wrap (2 * (ps.length : Int)) = 2 * (ps.length : Int) := IntWalk.i64_in _ (by omega)
    obtain ⟨M, hM⟩ : ∃ M, M = max (bs.length + zs.length) (2 * ps.length) := ⟨_, rfl⟩
    have e5 : (if (bs.length : Int) + (zs.length : Int) < 2 * (ps.length : Int) then 2 * (ps.length : Int) else (bs.length : Int) + (zs.length : Int)) = (M : Int) := by split <;> omega
    have e7 : (if cap < M then (cap : Int) else (M : Int)) = (k : Int) := by split <;> omega
    have hkb : bs.length + zs.length ≤ k := by omega
    have hkc : k ≤ 65536 := by omega
    have HY := Lib.hid (fun q => lay_any (h.drewN q) hBw k (by omega) hkc)
    have HC := Lib.hid h
    have HH := Lib.hid hv
    clear h hv hAv hk hlt hM
    go_enter Tryz.func83, Tryz.ntmps83
    go_wp2_with (go_at_call 70; refine HL.out.mono ?_; rintro e w' ⟨rfl, q, rfl⟩)
    refine wp_still_tail 14 (by kernel_rfl) (by kernel_rfl) ?_
    simp only [List.take_succ_cons, List.take_zero, List.drop_succ_cons, List.drop_zero]
    repeat still_step
    refine wpStill_nil ?_
    go_wp2_with fail
    refine (HY.out (q + 1)).mono ?_
    rintro e w2 ⟨rfl, g', hC2, hg2, hk2⟩
    have HP := Lib.hid (show PutAt w w2 B cb cap inn out v bs zs.length g' k (laidB (List.replicate k 0) out bs) from ⟨hC2, by rw [len_laid _ _ _ (by rw [List.length_replicate]; omega), List.length_replicate], hkb, ((Kept.refl (Fr cb v) w).drewN (q + 1)).trans (hk2.mono fun i _ e => .inl e), .inr hg2⟩)
    clear hC2 hg2 hk2
    have hC1 := HP.out.1
    have d2 := hC1.blk.cell 2
    simp at d2
    have dl := hC1.blk.lt
    have HWr := Lib.hid (putAt_write HP.out hz hcap h0 hc hcm hbf hbl hsrc)
    clear hC1
    go_wp2_with fail
    refine HWr.out.mono ?_
    rintro e w3 ⟨rfl, hb3, hE⟩
    have HE := Lib.hid (hE hb3)
    have g2 := hb3.cell 2
    simp at g2
    have gf := hb3.frozen 2
    have gl := hb3.lt
    clear hE hb3
    go_wp2_with fail
    go_end0
    obtain ⟨ps', x1, x2⟩ := HE.out
    exact ⟨rfl, _, _, x1, x2⟩
  · have hd : decide ((ps.length : Int) < (bs.length : Int) + (zs.length : Int)) = false := by simp; omega
    obtain ⟨g, hg⟩ : ∃ g, v = .slice (some ⟨g, 0, none⟩) ps.length ps.length := by
      rcases h.row with ⟨_, e⟩ | ⟨g, e, _⟩
      · rw [e] at hlt; simp at hlt; have : zs.length = 0 := by rw [hlt.2]; rfl
        omega
      · exact ⟨g, e⟩
    have HP' := Lib.hid (fun q => show PutAt w (w.drewN q) B cb cap inn out v bs zs.length g ps.length ps from ⟨by rw [← hg]; exact h.drewN q, rfl, by omega, (Kept.refl _ w).drewN q, .inl (by rw [hg]; rfl)⟩)
    have HC := Lib.hid h
    clear h hv hAv hlt hg
    go_enter Tryz.func83, Tryz.ntmps83
    go_wp2_with (go_at_call 70; refine HL.out.mono ?_; rintro e w' ⟨rfl, q, rfl⟩; have HP := Lib.hid (HP'.out q); have HWr := Lib.hid (putAt_write HP.out hz hcap h0 hc hcm hbf hbl hsrc); have d2 := HP.out.1.blk.cell 2; have dl := HP.out.1.blk.lt; simp at d2)
    refine HWr.out.mono ?_
    rintro e w3 ⟨rfl, hb3, hE⟩
    have HE := Lib.hid (hE hb3)
    have g2 := hb3.cell 2
    simp at g2
    have gf := hb3.frozen 2
    have gl := hb3.lt
    clear hE hb3
    go_wp2_with fail
    go_end0
    obtain ⟨ps', x1, x2⟩ := HE.out
    exact ⟨rfl, _, _, x1, x2⟩
end Go.Proofs.YtjejpgognfadoaaGreatDoor
