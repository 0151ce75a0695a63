/-
  The image's lines: a descriptor's place, a wire.
-/
import Derived.Test.YtlephnfepofbbaaGreatDoorMtEnd
namespace Go.Proofs.YtlephnfepofbbaaGreatDoor
open Go.RowKit Go.Shelf Go.Maps Go.ChangeMaps
variable {E : Prop}

def placeS (n : Nat) : ByteArray := (((⟨#[32, 119, 105, 114, 101]⟩ : ByteArray) ++ numS n) ++ ⟨#[32, 101, 110, 100]⟩) ++ numS 0
theorem numS_size (n : Nat) (h : n ≤ 400) : (numS n).size ≤ 21 := by
  unfold numS
  rw [ByteArray.size_append]
  have := decS_size n h
  have e1 : (⟨#[32]⟩ : ByteArray).size = 1 := rfl
  omega
theorem endS_size (is : Nat) (s : Bool) (us : List UInt8) (cap : Nat) (h : us.length ≤ 400) (hc : cap ≤ 400) : (endS is s us cap).size ≤ 900 := by
  have h1 := hexS_le us h
  have h2 := decS_size cap hc
  have h3 := wordsB_size is
  have e1 : (⟨#[32]⟩ : ByteArray).size = 1 := rfl
  have e2 : (⟨#[47]⟩ : ByteArray).size = 1 := rfl
  have e3 : (⟨#[32, 115, 104, 117, 116]⟩ : ByteArray).size = 5 := rfl
  unfold endS
  cases s
  · simp only [ByteArray.size_append, e1, e2, if_neg (show ¬ (false = true) by decide)]; omega
  · simp only [ByteArray.size_append, e1, e2, e3, if_true]; omega
section
variable {w : World} {B g n N : Nat} {r : Bool → Nat} {F : Bool → Nat → Prop} {v : Value} {x : Wi}
set_option maxRecDepth 100000 in
set_option maxHeartbeats 4000000 in
theorem place_any (h : Wb w g n r v x) (hb : x.back = 0) (hn : n ≤ 400) (hE : EnvI E N w) :
    Calls Tryz.prog 53 #[.pointer (some ⟨g, 1, none⟩)] w fun e w' => e = .returned (.string (placeS n)) ∧ Below w.heap.size w w' := by
  have c1 := h.c1 false
  have c0 := h.c0 false
  rw [off_f] at c0 c1
  rw [show num false = 0 from rfl] at c1
  have w0 := h.w0
  have w16 := h.w16
  rw [hb] at w16
  have lg := h.lt
  have HN := Lib.hid (number_any n (by omega) w hE.env)
  have HN2 := Lib.hid (fun W' (hB : Below w.heap.size w W') => number_any 0 (by omega) W' (hE.on hB).env)
  have s1 := numS_size n hn
  have s2 := numS_size 0 (by omega)
  obtain ⟨X, hX⟩ : ∃ X, X = numS n := ⟨_, rfl⟩
  obtain ⟨Y, hY⟩ : ∃ Y, Y = numS 0 := ⟨_, rfl⟩
  have HR : Hid (placeS n = (((⟨#[32, 119, 105, 114, 101]⟩ : ByteArray) ++ X) ++ ⟨#[32, 101, 110, 100]⟩) ++ Y) := Lib.hid (by unfold placeS; rw [hX, hY])
  rw [← hX] at HN s1
  rw [← hY] at HN2 s2
  have n1 : ¬ 9223372036854775807 < 5 + X.size := by omega
  have n2 : ¬ 9223372036854775807 < 5 + X.size + 4 := by omega
  have n3 : ¬ 9223372036854775807 < 5 + X.size + 4 + Y.size := by omega
  obtain ⟨Z, hZ⟩ : ∃ Z, Z = placeS n := ⟨_, rfl⟩
  rw [← hZ] at HR ⊢
  clear h hE hX hY hZ hb
  go_enter Tryz.func53, Tryz.ntmps53
  go_wp2_with fail
  refine HN.out.mono ?_
  rintro e w1 ⟨rfl, hb1⟩
  have HN3 := Lib.hid (HN2.out w1 hb1)
  have HB1 := Lib.hid hb1
  clear hb1
  go_wp2_with fail
  refine HN3.out.mono ?_
  rintro e w2 ⟨rfl, hb2⟩
  have HB2 := Lib.hid (HB1.out.trans (hb2.mono HB1.out.size))
  clear hb2
  go_wp2_with fail
  go_ret
  exact ⟨by rw [HR.out]; rfl, HB2.out⟩
def wireS (rs : Bool) (a b : ByteArray) : ByteArray := if rs then (a ++ b) ++ ⟨#[32, 114, 101, 115, 101, 116]⟩ else a ++ b
def byU (zs : List Int) : List UInt8 := zs.map fun z => UInt8.ofNat z.toNat
theorem byU_of {zs : List Int} (h : Byts zs) : zs = bytI (byU zs) := by
  obtain ⟨us, rfl⟩ := h
  unfold byU bytI
  rw [List.map_map, List.map_map]
  apply List.map_congr_left
  intro a _
  have := UInt8.toNat_lt a
  simp
/-- What is said of a wire. -/
def wireT (x : Wi) : ByteArray := wireS x.reset (endS (x.e false).is (x.e false).shut (byU (x.e false).bs) x.cap) (endS (x.e true).is (x.e true).shut (byU (x.e true).bs) x.cap)
set_option maxRecDepth 100000 in
set_option maxHeartbeats 8000000 in
theorem wtext_any (h : Wr w B g n r F v x) (h1 : One x) (hE : EnvI E N w) :
    Calls Tryz.prog 54 #[.pointer (some ⟨g, 0, none⟩)] w fun e w' => e = .returned (.string (wireT x)) ∧ Below w.heap.size w w' := by
  have w16 := h.blk.w16
  rw [h1.back] at w16
  have w15 := h.blk.w15
  have lg := h.blk.lt
  have hcap := h1.cap
  have hi : ∀ k, (x.e k).is < 4 := fun k => by
    cases k
    · rw [h1.i0]; decide
    · rcases h1.i1 with e | e <;> rw [e] <;> decide
  have hul : ∀ k, (byU (x.e k).bs).length ≤ 400 := fun k => by
    obtain ⟨out, hr⟩ := h.ring k (h1.can k)
    have := hr.facts
    unfold byU
    rw [List.length_map]; omega
  have HTX := Lib.hid (fun W' (hB : Below w.heap.size w W') (k : Bool) => etext_any (h.same (w' := W') (fun b hb => hB.block b (h.lt hb).1) (Nat.le_trans h.hs hB.size)) k (h1.can k) (hi k) _ (byU_of (h1.byt k)) (by omega) (hE.on hB))
  have s0 := endS_size (x.e false).is (x.e false).shut _ x.cap (hul false) (by omega)
  have s1 := endS_size (x.e true).is (x.e true).shut _ x.cap (hul true) (by omega)
  have e0 : wireT x = wireS x.reset (endS (x.e false).is (x.e false).shut (byU (x.e false).bs) x.cap) (endS (x.e true).is (x.e true).shut (byU (x.e true).bs) x.cap) := rfl
  rw [e0]
  have HT0 := Lib.hid (fun W' (hB : Below w.heap.size w W') => HTX.out W' hB false)
  have HT1 := Lib.hid (fun W' (hB : Below w.heap.size w W') => HTX.out W' hB true)
  rw [off_f] at HT0
  rw [off_t] at HT1
  generalize endS (x.e false).is (x.e false).shut (byU (x.e false).bs) x.cap = X at *
  generalize endS (x.e true).is (x.e true).shut (byU (x.e true).bs) x.cap = Y at *
  have n1 : ¬ 9223372036854775807 < X.size + Y.size := by omega
  have n2 : ¬ 9223372036854775807 < X.size + Y.size + 6 := by omega
  clear e0 HTX h h1 hE hcap hi hul
  cases hs : x.reset with
  | false =>
    rw [hs] at w15
    clear hs
    go_enter Tryz.func54, Tryz.ntmps54
    go_wp2_with fail
    have hE : Below w.heap.size w w.drew := (Below.refl _ w).drew
    go_region_held3 (fun _ => True)
      (trivial)
      (first
        | (go_at_call_of 100 (Value.pointer (some ⟨g, 1, none⟩)); refine (HT0.out _ hE).mono ?_; rintro e w1 ⟨rfl, hb⟩; have hE : Below w.heap.size w w1 := hE.trans (hb.mono hE.size); have cr : w1.cell? ⟨g, 15, none⟩ = some (.bool false) := (hE.cell (p := ⟨g, 15, none⟩) lg).trans w15; clear hb)
        | (go_at_call_of 100 (Value.pointer (some ⟨g, 8, none⟩)); refine (HT1.out _ hE).mono ?_; rintro e w2 ⟨rfl, hb⟩; have hE : Below w.heap.size w w2 := hE.trans (hb.mono hE.size); have cr : w2.cell? ⟨g, 15, none⟩ = some (.bool false) := (hE.cell (p := ⟨g, 15, none⟩) lg).trans w15; clear hb))
    have HE := Lib.hid hE
    clear hE
    go_wp2_with fail
    go_ret
    exact ⟨rfl, HE.out⟩
  | true =>
    rw [hs] at w15
    clear hs
    go_enter Tryz.func54, Tryz.ntmps54
    go_wp2_with fail
    have hE : Below w.heap.size w w.drew := (Below.refl _ w).drew
    go_region_held3 (fun _ => True)
      (trivial)
      (first
        | (go_at_call_of 100 (Value.pointer (some ⟨g, 1, none⟩)); refine (HT0.out _ hE).mono ?_; rintro e w1 ⟨rfl, hb⟩; have hE : Below w.heap.size w w1 := hE.trans (hb.mono hE.size); have cr : w1.cell? ⟨g, 15, none⟩ = some (.bool true) := (hE.cell (p := ⟨g, 15, none⟩) lg).trans w15; clear hb)
        | (go_at_call_of 100 (Value.pointer (some ⟨g, 8, none⟩)); refine (HT1.out _ hE).mono ?_; rintro e w2 ⟨rfl, hb⟩; have hE : Below w.heap.size w w2 := hE.trans (hb.mono hE.size); have cr : w2.cell? ⟨g, 15, none⟩ = some (.bool true) := (hE.cell (p := ⟨g, 15, none⟩) lg).trans w15; clear hb))
    have HE := Lib.hid hE
    clear hE
    go_wp2_with fail
    go_ret
    exact ⟨rfl, HE.out⟩
end
end Go.Proofs.YtlephnfepofbbaaGreatDoor
