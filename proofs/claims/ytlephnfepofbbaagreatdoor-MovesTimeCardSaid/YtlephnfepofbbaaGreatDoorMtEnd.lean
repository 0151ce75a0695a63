/-
  The image's lines: an end, a wire.
-/
import Derived.Test.YtlephnfepofbbaaGreatDoorMtFmt
import Derived.Test.YtlephnfepofbbaaGreatDoorMtCx
namespace Go.Proofs.YtlephnfepofbbaaGreatDoor
open Go.RowKit Go.Shelf Go.Maps Go.ChangeMaps
variable {E : Prop}

def wordsB (i : Nat) : ByteArray := if i = 0 then ⟨#[110, 111, 110, 101]⟩ else if i = 1 then ⟨#[105, 110]⟩ else if i = 2 then ⟨#[111, 117, 116]⟩ else ⟨#[99, 108, 111, 115, 101, 100]⟩
theorem wordsB_size (i : Nat) : (wordsB i).size ≤ 6 := by
  unfold wordsB
  repeat' split
  all_goals decide
/-- What the image reads of package-level variables. -/
structure EnvI (E : Prop) (N : Nat) (W : World) : Prop where
  env : EnvP E N W
  gD : 2 < N
  d : ∀ i, i < 4 → W.cell? ⟨2, i, none⟩ = some (.string (wordsB i))
theorem EnvI.below {N : Nat} {W W' : World} (h : EnvI E N W) (b : Below N W W') : EnvI E N W' := ⟨h.env.below b, h.gD, fun i hi => (b.cell (p := ⟨_, i, none⟩) h.gD).trans (h.d i hi)⟩
theorem EnvI.on {N : Nat} {W W' : World} (h : EnvI E N W) (b : Below W.heap.size W W') : EnvI E N W' := h.below (b.mono h.env.le)
theorem rowB_src {W : World} {B : Nat} {v : Value} {us : List UInt8} (h : RowB W B v (bytI us)) (hl : us.length ≤ 9223372036854775807) : SrcB (Lt W.heap.size) W v us := by
  have hb : (bytI us).length = us.length := by unfold bytI; simp
  rcases h with ⟨rfl, h0⟩ | ⟨g, rfl, _, hg⟩
  · have : us = [] := by
      cases us with
      | nil => rfl
      | cons a r => simp [bytI] at h0
    subst this
    exact Sh.nil _ _
  · have hlt := (Array.getElem?_eq_some_iff.1 hg).1
    refine ⟨_, _, by rw [hb], Nat.le_refl _, hl, (fun e => by cases e), fun _ => ⟨g, 0, rfl, hlt, hlt, fun j u hu => ?_⟩⟩
    have := cell_of_row W g (0 + j) _ 5 (0, 0) hg
    rw [this, Nat.zero_add]
    have e : encB (bytI us) = Lib.byteCells us := by unfold encB bytI Lib.byteCells; rw [List.map_map]; rfl
    rw [e]
    simpa using hu
theorem hexS_size (us : List UInt8) : (⟨(hexB us).toArray⟩ : ByteArray).size = 2 * us.length := by
  show (hexB us).toArray.size = _
  rw [List.size_toArray, hex_len]
theorem hexS_le (us : List UInt8) (h : us.length ≤ 400) : (⟨(hexB us).toArray⟩ : ByteArray).size ≤ 800 := by rw [hexS_size]; omega
theorem decS_size (n : Nat) (h : n ≤ 400) : (⟨(decI (n : Int)).toArray⟩ : ByteArray).size ≤ 20 := by
  show (decI (n : Int)).toArray.size ≤ _
  rw [List.size_toArray]
  exact decI_len (by omega) (by omega)
/-- What is said of an end. -/
def endS (is : Nat) (shut : Bool) (us : List UInt8) (cap : Nat) : ByteArray :=
  (((if shut then ((⟨#[32]⟩ : ByteArray) ++ wordsB is) ++ ⟨#[32, 115, 104, 117, 116]⟩ else (⟨#[32]⟩ : ByteArray) ++ wordsB is) ++ ⟨#[32]⟩) ++ ⟨(hexB us).toArray⟩ ++ ⟨#[47]⟩) ++ ⟨(decI (cap : Int)).toArray⟩
section
variable {w : World} {B g n N : Nat} {r : Bool → Nat} {F : Bool → Nat → Prop} {v : Value} {x : Wi}
set_option maxRecDepth 100000 in
set_option maxHeartbeats 8000000 in
theorem etext_any (h : Wr w B g n r F v x) (k : Bool) (hcan : (x.e k).can = true) (hi : (x.e k).is < 4) (us : List UInt8) (hb : (x.e k).bs = bytI us) (hle : x.cap ≤ 400) (hE : EnvI E N w) :
    Calls Tryz.prog 100 #[.pointer (some ⟨g, off k, none⟩)] w fun e w' => e = .returned (.string (endS (x.e k).is (x.e k).shut us x.cap)) ∧ Below w.heap.size w w' := by
  obtain ⟨out, hr⟩ := h.ring k hcan
  have hf := hr.facts
  have hul : us.length = (x.e k).bs.length := by rw [hb]; unfold bytI; simp
  have hul4 : us.length ≤ 400 := by omega
  have c2 := h.blk.c2 k
  have c3 := h.blk.c3 k
  have c4 := h.blk.c4 k
  rw [hcan, rp_yes] at c4
  have lg := h.blk.lt
  have cw := hE.d _ hi
  have lw : 2 < w.heap.size := Nat.lt_of_lt_of_le hE.gD hE.env.le
  have HC := Lib.hid (canRead_any h.blk k)
  rw [hcan] at HC
  have HLK := Lib.hid (fun q => look_any (hr.drewN q) 65536 (by omega))
  have htk : (x.e k).bs.take (65536 : Int).toNat = bytI us := by rw [← hb]; exact List.take_of_length_le (by have : (65536 : Int).toNat = 65536 := rfl; omega)
  rw [htk] at HLK
  have HRM := Lib.hid (fun W' (hB : Below w.heap.size w W') => room_any (hr.same (w' := W') (fun b hb => hB.block b (hr.lt hb).1) (Nat.le_trans h.hs hB.size)))
  have HIT := Lib.hid (fun W' (hB : Below w.heap.size w W') => itoa_any (x.cap : Int) (by omega) (by omega) W' (hE.on hB).env)
  have HHX := Lib.hid (fun W' (u : Value) (hs : SrcB (Lt W'.heap.size) W' u us) => hex_any us u W' hs (by omega))
  obtain ⟨rm, hrm⟩ : ∃ rm, rm = x.cap - (x.e k).bs.length := ⟨_, rfl⟩
  rw [← hrm] at HRM
  obtain ⟨un, hun⟩ : ∃ un, un = us.length := ⟨_, rfl⟩
  have hsum : IntKind.i64.wrap ((un : Int) + (rm : Int)) = (x.cap : Int) := by rw [IntWalk.i64_in _ (by omega)]; omega
  have hsum2 : wrap64 ((un : Int) + (rm : Int)) = (x.cap : Int) := by unfold wrap64; omega
  obtain ⟨is, his⟩ : ∃ is, is = (x.e k).is := ⟨_, rfl⟩
  rw [← his] at c2 cw hi ⊢
  obtain ⟨T, hT⟩ : ∃ T, T = wordsB is := ⟨_, rfl⟩
  have hTs : T.size ≤ 6 := by rw [hT]; exact wordsB_size _
  rw [← hT] at cw
  obtain ⟨X, hX⟩ : ∃ X : ByteArray, X = ⟨(hexB us).toArray⟩ := ⟨_, rfl⟩
  have hXs : X.size ≤ 800 := by rw [hX]; exact hexS_le us hul4
  obtain ⟨Y, hY⟩ : ∃ Y : ByteArray, Y = ⟨(decI (x.cap : Int)).toArray⟩ := ⟨_, rfl⟩
  have hYs : Y.size ≤ 20 := by rw [hY]; exact decS_size _ hle
  have HR : Hid (∀ s, endS is s us x.cap = (((if s then ((⟨#[32]⟩ : ByteArray) ++ T) ++ ⟨#[32, 115, 104, 117, 116]⟩ else (⟨#[32]⟩ : ByteArray) ++ T) ++ ⟨#[32]⟩) ++ X ++ ⟨#[47]⟩) ++ Y) := Lib.hid (fun s => by unfold endS; rw [hT, hX, hY])
  rw [← hX] at HHX
  rw [← hY] at HIT
  have ci0 : (0 : Int) ≤ (is : Int) := by omega
  have ci1 : (is : Int) < 4 := by omega
  have HUN := Lib.hid hun
  obtain ⟨cp, hcp⟩ : ∃ cp, cp = x.cap := ⟨_, rfl⟩
  rw [← hcp] at hsum hsum2 HIT HR ⊢
  clear h hr hf hul hE htk hrm his hT hX hY hcp hb hle hcan hi hun
  cases hs : (x.e k).shut with
  | false =>
    rw [hs] at c3
    have HR2 := Lib.hid (HR.out false)
    simp only [if_neg (show ¬ (false = true) by decide)] at HR2
    clear HR hs
    obtain ⟨Z, hZ⟩ : ∃ Z, Z = endS is false us cp := ⟨_, rfl⟩
    rw [← hZ] at HR2 ⊢
    clear hZ
    go_enter Tryz.func100, Tryz.ntmps100
    go_wp2_with (go_at_call 126; refine HC.out.mono ?_; rintro e w1 ⟨rfl, q0, rfl⟩)
    refine (HLK.out q0).mono ?_
    rintro e w2 ⟨u, rfl, hu, hk⟩
    have hb2 : Below w.heap.size w w2 := ((Kept.refl (fun _ => False) w).drewN q0 |>.trans hk).below (fun _ e => e.elim) (Nat.le_refl _)
    have hsrc := rowB_src hu (by have := HUN.out; omega)
    obtain ⟨A, hv, _⟩ := hu.form
    have hbl : (bytI us).length = un := by rw [HUN.out]; unfold bytI; simp
    rw [hbl] at hv
    subst hv
    have HSRC := Lib.hid hsrc
    have hE : Below w.heap.size w w2.drew := hb2.drew
    have HX2 := Lib.hid (HHX.out w2.drew _ (HSRC.out.same (fun _ _ _ => rfl) (Nat.le_refl _)))
    have HB2 := Lib.hid hb2
    clear hu hk hsrc hb2 hbl
    go_wp2_with fail
    obtain ⟨V, hV, hVs⟩ : ∃ V : ByteArray, V = (⟨#[32]⟩ : ByteArray) ++ T ∧ V.size ≤ 20 := ⟨_, rfl, by simp [ByteArray.size_append]; first | omega | (have e1 : (⟨#[32]⟩ : ByteArray).size = 1 := rfl; have e2 : (⟨#[32, 115, 104, 117, 116]⟩ : ByteArray).size = 5 := rfl; omega)⟩
    rw [← hV] at HR2 ⊢
    clear hV
    have n1 : ¬ 9223372036854775807 < V.size + 1 := by omega
    have n2 : ¬ 9223372036854775807 < V.size + 1 + X.size := by omega
    have n3 : ¬ 9223372036854775807 < V.size + 1 + X.size + 1 := by omega
    have n4 : ¬ 9223372036854775807 < V.size + 1 + X.size + 1 + Y.size := by omega
    go_region_held3 (fun W' => W'.cell? ⟨g, off k + 4, none⟩ = some (.pointer (some ⟨r k, 0, none⟩)))
      (exact (hE.cell (p := ⟨g, off k + 4, none⟩) lg).trans c4)
      (first
        | (go_at_call 128; refine HX2.out.mono ?_; rintro e w3 ⟨rfl, hb3⟩; have hE : Below w.heap.size w w3 := hE.trans (hb3.mono hE.size); have HE3 := Lib.hid (HRM.out w3 hE); clear hb3)
        | (go_at_call 129; refine HE3.out.mono ?_; rintro e w4 ⟨rfl, q4, rfl⟩; have hE := below_drewN2 hE q4; have HI3 := Lib.hid (HIT.out _ hE))
        | (go_at_call 99; refine HI3.out.mono ?_; rintro e w5 ⟨rfl, hb5⟩; have hE : Below w.heap.size w w5 := hE.trans (hb5.mono hE.size); clear hb5))
    have HE := Lib.hid hE
    clear hE
    go_wp2_with fail
    go_ret
    exact ⟨by rw [HR2.out]; rfl, HE.out⟩
  | true =>
    rw [hs] at c3
    have HR2 := Lib.hid (HR.out true)
    simp only [if_true] at HR2
    clear HR hs
    obtain ⟨Z, hZ⟩ : ∃ Z, Z = endS is true us cp := ⟨_, rfl⟩
    rw [← hZ] at HR2 ⊢
    clear hZ
    go_enter Tryz.func100, Tryz.ntmps100
    go_wp2_with (go_at_call 126; refine HC.out.mono ?_; rintro e w1 ⟨rfl, q0, rfl⟩)
    refine (HLK.out q0).mono ?_
    rintro e w2 ⟨u, rfl, hu, hk⟩
    have hb2 : Below w.heap.size w w2 := ((Kept.refl (fun _ => False) w).drewN q0 |>.trans hk).below (fun _ e => e.elim) (Nat.le_refl _)
    have hsrc := rowB_src hu (by have := HUN.out; omega)
    obtain ⟨A, hv, _⟩ := hu.form
    have hbl : (bytI us).length = un := by rw [HUN.out]; unfold bytI; simp
    rw [hbl] at hv
    subst hv
    have HSRC := Lib.hid hsrc
    have hE : Below w.heap.size w w2.drew := hb2.drew
    have HX2 := Lib.hid (HHX.out w2.drew _ (HSRC.out.same (fun _ _ _ => rfl) (Nat.le_refl _)))
    have HB2 := Lib.hid hb2
    clear hu hk hsrc hb2 hbl
    go_wp2_with fail
    obtain ⟨V, hV, hVs⟩ : ∃ V : ByteArray, V = ((⟨#[32]⟩ : ByteArray) ++ T) ++ ⟨#[32, 115, 104, 117, 116]⟩ ∧ V.size ≤ 20 := ⟨_, rfl, by simp [ByteArray.size_append]; first | omega | (have e1 : (⟨#[32]⟩ : ByteArray).size = 1 := rfl; have e2 : (⟨#[32, 115, 104, 117, 116]⟩ : ByteArray).size = 5 := rfl; omega)⟩
    rw [← hV] at HR2 ⊢
    clear hV
    have n1 : ¬ 9223372036854775807 < V.size + 1 := by omega
    have n2 : ¬ 9223372036854775807 < V.size + 1 + X.size := by omega
    have n3 : ¬ 9223372036854775807 < V.size + 1 + X.size + 1 := by omega
    have n4 : ¬ 9223372036854775807 < V.size + 1 + X.size + 1 + Y.size := by omega
    go_region_held3 (fun W' => W'.cell? ⟨g, off k + 4, none⟩ = some (.pointer (some ⟨r k, 0, none⟩)))
      (exact (hE.cell (p := ⟨g, off k + 4, none⟩) lg).trans c4)
      (first
        | (go_at_call 128; refine HX2.out.mono ?_; rintro e w3 ⟨rfl, hb3⟩; have hE : Below w.heap.size w w3 := hE.trans (hb3.mono hE.size); have HE3 := Lib.hid (HRM.out w3 hE); clear hb3)
        | (go_at_call 129; refine HE3.out.mono ?_; rintro e w4 ⟨rfl, q4, rfl⟩; have hE := below_drewN2 hE q4; have HI3 := Lib.hid (HIT.out _ hE))
        | (go_at_call 99; refine HI3.out.mono ?_; rintro e w5 ⟨rfl, hb5⟩; have hE : Below w.heap.size w w5 := hE.trans (hb5.mono hE.size); clear hb5))
    have HE := Lib.hid hE
    clear hE
    go_wp2_with fail
    go_ret
    exact ⟨by rw [HR2.out]; rfl, HE.out⟩
end
end Go.Proofs.YtlephnfepofbbaaGreatDoor
