/-
  strconv.ParseUint of decimal digits, at 63 bits and at 64; parseNumber and parseInt.
-/
import Derived.Test.YtlephnfepofbbaaGreatDoorMvApp
import Derived.Lib.Walk
import Derived.Lib.ConvBytes
import Derived.Lib.AtoiAllMem
import Derived.Lib.ParseIntBMem
import Derived.Laws.Strings3
import Derived.Laws.Closers25
import Derived.Laws.Closers25b
import Derived.WalkKit
import Derived.BigCall
import Derived.BigGuard
import Derived.Shelf.Strconv.Lower
namespace Go.Proofs.YtlephnfepofbbaaGreatDoor
open Go.RowKit

def M63 : Nat := 9223372036854775807
set_option maxHeartbeats 32000000 in
set_option maxRecDepth 100000 in
theorem pu63_in (t : ByteArray) (hne : t.size ≠ 0) (hmax : t.size ≤ 9223372036854775806) (w : World) :
    Calls Tryz.prog 155 #[.string t, .int .i64 10, .int .i64 63] w fun e w' => e = .returned (Lib.uintTupleM 202 9223372036854775807 (Lib.parseUintM 9223372036854775807 0 t.data.toList)) ∧ w' = Lib.bytesWorld w 5 t := by
  have hemp : t.toList.isEmpty = false := by
    rw [← decide_eq_emptyBytes]
    exact decide_eq_false (fun h => hne (by rw [h]; rfl))
  have hcv := Lib.run_convert_string_bytes (P := Tryz.prog) w 9 23 5 t (u := .string) Tryz.underlying9 Tryz.underlying23 Tryz.underlying5
  have hB : ∀ j, j < t.size → (Lib.bytesWorld w 5 t).cell? ⟨w.heap.size, j, none⟩ = some (.int .u8 (t.data.toList.getD j 0).toNat) := fun j hj => Lib.bytesWorld_cell w 5 t j hj
  obtain ⟨W1, hW1⟩ : ∃ W1, W1 = Lib.bytesWorld w 5 t := ⟨_, rfl⟩
  rw [← hW1] at hcv hB ⊢
  clear hW1
  obtain ⟨bs, hL⟩ : ∃ bs, bs = t.data.toList := ⟨_, rfl⟩
  have hLn : bs.length = t.size := by rw [hL, Lib.size_eq]
  rw [← hL] at hB ⊢
  clear hL
  have hmv : IntKind.u64.wrap (IntKind.u64.wrap 9223372036854775808 - 1) = 9223372036854775807 := by
    rw [IntKind.wrap_u64, IntKind.wrap_u64]
    decide
  go_enter Tryz.func155, Tryz.ntmps155
  go_wp2
  go_loop [12, 13, 101] (fun vu vn vi => ∃ (k acc : Nat) (a : Int), vu = .bool false ∧ vn = .int .u64 a ∧ vi = .int .i64 k ∧ k ≤ t.size ∧ Hid (a = (acc : Int) ∧ acc ≤ 9223372036854775807 ∧ Lib.parseUintM 9223372036854775807 0 bs = Lib.parseUintM 9223372036854775807 acc (bs.drop k)))
    (fun _ _ vi => t.size - (intOf vi).toNat)
  case atStart => exact ⟨0, 0, 0, rfl, rfl, rfl, by omega, rfl, by omega, rfl⟩
  case round =>
    obtain ⟨k, acc, a, rfl, rfl, rfl, hk, hh⟩ := hrel
    obtain ⟨ha, hacc, hdec⟩ := hh.out
    clear hh
    have a0 : 0 ≤ a := by omega
    have a1 : a ≤ 9223372036854775807 := by omega
    by_cases hkn : k < t.size
    · have hc := hB k hkn
      have hdrop : bs.drop k = bs[k]'(by omega) :: bs.drop (k + 1) := List.drop_eq_getElem_cons (by omega)
      have hget : bs.getD k 0 = bs[k]'(by omega) := by simp [List.getD, List.getElem?_eq_getElem (show k < bs.length by omega)]
      rw [hdrop] at hdec
      rw [hget] at hc
      generalize bs[k]'(by omega) = c at hc hdec
      have hc256 : c.toNat < 256 := c.toNat_lt
      clear hB hdrop hget
      by_cases hdig : 48 ≤ c.toNat ∧ c.toNat ≤ 57
      · obtain ⟨hd0, hd1⟩ := hdig
        by_cases hcut : 1844674407370955162 ≤ acc
        · have hF : Lib.parseUintM 9223372036854775807 acc (c :: bs.drop (k + 1)) = .range := by simp [Lib.parseUintM, hd0, hd1, hcut]
          rw [hF] at hdec
          have icut : 1844674407370955162 ≤ a := by omega
          clear hcut hacc hF ha
          go_wp2
          go_ret2
          exact ⟨rfl, rfl⟩
        · by_cases hov : 9223372036854775807 < acc * 10 + (c.toNat - 48)
          · have hF : Lib.parseUintM 9223372036854775807 acc (c :: bs.drop (k + 1)) = .range := by simp [Lib.parseUintM, hd0, hd1, hcut, hov]
            rw [hF] at hdec
            by_cases h64 : 18446744073709551616 ≤ acc * 10 + (c.toNat - 48)
            · have icut : a < 1844674407370955162 := by omega
              have iov : 18446744073709551616 ≤ a * 10 + ((c.toNat : Int) - 48) := by omega
              have hwr : IntKind.u64.wrap (a * 10 + ((c.toNat : Int) - 48)) = a * 10 + ((c.toNat : Int) - 48) - 18446744073709551616 := by
                rw [IntKind.wrap_u64]
                omega
              clear hcut hacc hF hov ha h64
              go_wp2
              go_ret2
              exact ⟨rfl, rfl⟩
            · have icut : a < 1844674407370955162 := by omega
              have iov : 9223372036854775807 < a * 10 + ((c.toNat : Int) - 48) := by omega
              have iov2 : a * 10 + ((c.toNat : Int) - 48) < 18446744073709551616 := by omega
              clear hcut hacc hF hov ha h64
              go_wp2
              go_ret2
              exact ⟨rfl, rfl⟩
          · have hF : Lib.parseUintM 9223372036854775807 acc (c :: bs.drop (k + 1)) = Lib.parseUintM 9223372036854775807 (acc * 10 + (c.toNat - 48)) (bs.drop (k + 1)) := by simp [Lib.parseUintM, hd0, hd1, hcut, hov]
            have HN : Hid (a * 10 + ((c.toNat : Int) - 48) = ((acc * 10 + (c.toNat - 48) : Nat) : Int) ∧ acc * 10 + (c.toNat - 48) ≤ 9223372036854775807 ∧ Lib.parseUintM 9223372036854775807 0 bs = Lib.parseUintM 9223372036854775807 (acc * 10 + (c.toNat - 48)) (bs.drop (k + 1))) := Lib.hid ⟨by omega, by omega, hdec.trans hF⟩
            have icut : a < 1844674407370955162 := by omega
            have iov : a * 10 + ((c.toNat : Int) - 48) ≤ 9223372036854775807 := by omega
            clear hcut hacc hF hov hdec ha
            go_wp2
            refine ⟨⟨k + 1, acc * 10 + (c.toNat - 48), a * 10 + ((c.toNat : Int) - 48), rfl, (by first | rfl | (congr 1; omega)), (by first | rfl | (congr 1; omega)), by omega, HN⟩, by simp [intOf]; omega⟩
      · have hF : Lib.parseUintM 9223372036854775807 acc (c :: bs.drop (k + 1)) = Lib.NumEnd.syntax := by simp [Lib.parseUintM, hdig]
        rw [hF] at hdec
        clear hacc hF ha
        have hv0 := bits_lo_u8 .or (c.toNat : Int) 32
        have hv1 := bits_hi_u8 .or (c.toNat : Int) 32
        have hu0 := bits_lo_u8 .or 95 32
        have hu1 := bits_hi_u8 .or 95 32
        go_wp2_with (go_at_call 163; refine (Tryz.internal_strconv_lower _ _).mono ?_; rintro e w' ⟨rfl, rfl⟩)
        all_goals go_ret2
        all_goals first | exact ⟨rfl, rfl⟩ | exact ⟨by rw [hdec]; rfl, rfl⟩
    · have hkk : k = t.size := by omega
      subst hkk
      have hF : Lib.parseUintM 9223372036854775807 acc (bs.drop t.size) = .ok acc := by rw [List.drop_eq_nil_of_le (by omega)]; rfl
      rw [hF] at hdec
      subst ha
      clear hacc hF a0 a1
      go_wp2
      go_ret2
      exact ⟨rfl, rfl⟩

set_option maxRecDepth 100000 in
set_option maxHeartbeats 2000000 in
theorem pu63_empty (w : World) : Calls Tryz.prog 155 #[.string ⟨#[]⟩, .int .i64 10, .int .i64 63] w fun e w' => e = .returned (Lib.uintTupleM 202 9223372036854775807 Lib.NumEnd.syntax) ∧ w' = w := by
  go_enter Tryz.func155, Tryz.ntmps155
  go_wp2
  go_ret2
  exact ⟨rfl, rfl⟩
theorem below_bytesWorld (w : World) (s : ByteArray) {w' : World} (h : w' = w ∨ w' = Lib.bytesWorld w 5 s) : Below w.heap.size w w' := by
  rcases h with rfl | rfl
  · exact Below.refl _ _
  · exact Lib.bytesWorld_below _ _ _
/-- What the inner ParseUint returns, at 63 bits and at 64. -/
theorem pu_in (B : Nat) (hB : B = 63 ∨ B = 64) (s : ByteArray) (hs : s.size ≤ 281474976710656) (w : World) : ∃ M, Calls Tryz.prog 155 #[.string s, .int .i64 10, .int .i64 (B : Int)] w fun e w' => e = .returned (Lib.uintTupleM 202 M (Lib.parseUintB B s.data.toList)) ∧ Below w.heap.size w w' := by
  rcases hB with rfl | rfl
  · refine ⟨9223372036854775807, ?_⟩
    by_cases h0 : s.size = 0
    · have ht : s = ⟨#[]⟩ := by
        apply ByteArray.ext
        exact Array.eq_empty_of_size_eq_zero h0
      subst ht
      exact (pu63_empty w).mono fun e w' ⟨he, hw⟩ => ⟨he, by rw [hw]; exact Below.refl _ _⟩
    · have hne : s.data.toList ≠ [] := fun h => h0 (by rw [Lib.size_eq, h]; rfl)
      refine (pu63_in s h0 (by omega) w).mono fun e w' ⟨he, hw⟩ => ⟨?_, below_bytesWorld w s (Or.inr hw)⟩
      rw [he, Lib.parseUintB, if_neg hne]
  · exact ⟨18446744073709551615, (Tryz.internal_strconv_ParseUint_10_at64 s (by omega) w).mono fun e w' ⟨he, hw⟩ => ⟨he, below_bytesWorld w s hw⟩⟩

/-- What ParseUint returns: a number and no error, or an error. -/
def PuP (w : World) (r : Lib.NumEnd Nat) (e : Ending) (w' : World) : Prop :=
  (match r with
    | .ok n => e = .returned (.tuple #[.int .u64 (n : Int), .nilIface])
    | _ => ∃ (x : Int) (T : TypeId) (a : Addr), e = .returned (.tuple #[.int .u64 x, .iface T (.pointer (some a))])) ∧ Below w.heap.size w w'
set_option maxRecDepth 100000 in
set_option maxHeartbeats 4000000 in
theorem pu_any (B : Nat) (hB : B = 63 ∨ B = 64) (s : ByteArray) (hs : s.size ≤ 281474976710656) (w : World) (hE : Errs w) :
    Calls Tryz.prog 140 #[.string s, .int .i64 10, .int .i64 (B : Int)] w (PuP w (Lib.parseUintB B s.data.toList)) := by
  obtain ⟨M, hI⟩ := pu_in B hB s hs w
  obtain ⟨⟨ev, hv, hev⟩, ⟨ew, hw, hew⟩⟩ := hE
  have hlt : (⟨9, 0, none⟩ : Addr).block < w.heap.size := Lib.lt_of_cell hv
  have hlt2 : (⟨10, 0, none⟩ : Addr).block < w.heap.size := Lib.lt_of_cell hw
  rcases hr : Lib.parseUintB B s.data.toList with n | _ | _
  ·
    rw [hr] at hI
    have hI : Calls Tryz.prog 155 #[.string s, .int .i64 10, .int .i64 (B : Int)] w fun e w' => e = .returned (.tuple #[.int .u64 (n : Int), .nilIface]) ∧ Below w.heap.size w w' := hI
    have HI := Lib.hid hI
    clear hI hr hv hw hev hew
    go_enter Tryz.func140, Tryz.ntmps140
    go_wp2_with (go_at_call 155; refine HI.out.mono ?_; rintro e w1 ⟨rfl, hb⟩)
    go_ret2
    exact ⟨rfl, hb⟩
  ·
    rw [hr] at hI
    have hI : Calls Tryz.prog 155 #[.string s, .int .i64 10, .int .i64 (B : Int)] w fun e w' => e = .returned (.tuple #[.int .u64 0, .iface 202 (.int .i64 2)]) ∧ Below w.heap.size w w' := hI
    have HI := Lib.hid hI
    have HT := Lib.hid (fun (W : World) (hb : Below w.heap.size w W) => Tryz.strconv_toError_syntax ⟨#[80, 97, 114, 115, 101, 85, 105, 110, 116]⟩ s 10 B ev W hs ((hb.cell hlt).trans hv) hev)
    clear hI hr hv hw hev hew
    go_enter Tryz.func140, Tryz.ntmps140
    go_wp2_with (first
      | (go_at_call 155; refine HI.out.mono ?_; rintro e w1 ⟨rfl, hb⟩; have HB := Lib.hid hb; clear hb)
      | (go_at_call 156; refine (HT.out _ HB.out).mono ?_; rintro e w2 ⟨N, rfl, h1, h2, h3⟩; have HB2 := Lib.hid h3; clear h1 h2 h3))
    go_ret2
    exact ⟨⟨_, _, _, rfl⟩, HB.out.trans (HB2.out.mono HB.out.size)⟩
  ·
    rw [hr] at hI
    have hI : Calls Tryz.prog 155 #[.string s, .int .i64 10, .int .i64 (B : Int)] w fun e w' => e = .returned (.tuple #[.int .u64 M, .iface 202 (.int .i64 1)]) ∧ Below w.heap.size w w' := hI
    have HI := Lib.hid hI
    have HT := Lib.hid (fun (W : World) (hb : Below w.heap.size w W) => Tryz.strconv_toError_range ⟨#[80, 97, 114, 115, 101, 85, 105, 110, 116]⟩ s 10 B ew W hs ((hb.cell hlt2).trans hw) hew)
    clear hI hr hv hw hev hew
    go_enter Tryz.func140, Tryz.ntmps140
    go_wp2_with (first
      | (go_at_call 155; refine HI.out.mono ?_; rintro e w1 ⟨rfl, hb⟩; have HB := Lib.hid hb; clear hb)
      | (go_at_call 156; refine (HT.out _ HB.out).mono ?_; rintro e w2 ⟨N, rfl, h1, h2, h3⟩; have HB2 := Lib.hid h3; clear h1 h2 h3))
    go_ret2
    exact ⟨⟨_, _, _, rfl⟩, HB.out.trans (HB2.out.mono HB.out.size)⟩

/-- parseNumber. -/
def NumR (w : World) (o : Option Nat) (e : Ending) (w' : World) : Prop := e = .returned (.tuple #[.int .u64 ((o.getD 0 : Nat) : Int), .bool o.isSome]) ∧ Below w.heap.size w w'
theorem head_str (s : ByteArray) (h : 0 < s.size) : ∃ c, s.data.toList.head? = some c ∧ s[0] = c := by
  have h1 : 0 < s.data.toList.length := by rw [← Lib.size_eq]; exact h
  refine ⟨s[0], ?_, rfl⟩
  rw [List.head?_eq_getElem?, List.getElem?_eq_getElem h1]; rfl
set_option maxRecDepth 100000 in
set_option maxHeartbeats 4000000 in
theorem num_any (B : Nat) (hB : B = 63 ∨ B = 64) (s : ByteArray) (hs : s.size ≤ 281474976710656) (w : World) (hE : Errs w) :
    Calls Tryz.prog 112 #[.string s, .int .i64 (B : Int)] w (NumR w (numP B s.data.toList)) := by
  have hP := pu_any B hB s hs w hE
  rcases hr : Lib.parseUintB B s.data.toList with n | _ | _
  ·
    rw [hr] at hP
    have HP := Lib.hid hP
    by_cases hl : 1 < s.size
    · obtain ⟨c, hc, hc0⟩ := head_str s (by omega)
      have hl' : (1 : Int) < (s.size : Int) := by omega
      by_cases h48 : c = 48
      · have HR : Hid (numP B s.data.toList = none) := Lib.hid (by unfold numP; rw [hr]; simp only []; rw [if_pos ⟨by rw [← Lib.size_eq]; exact hl, by rw [hc, h48]⟩])
        rw [HR.out]
        have hn : s[0].toNat = 48 := by rw [hc0, h48]; rfl
        clear hP hr hc hc0 h48 hE
        go_enter Tryz.func112, Tryz.ntmps112
        go_wp2_with (go_at_call 140; refine HP.out.mono ?_; rintro e w1 ⟨rfl, hb⟩)
        go_ret2
        exact ⟨rfl, hb⟩
      · have HR : Hid (numP B s.data.toList = some n) := Lib.hid (by unfold numP; rw [hr]; simp only []; rw [if_neg (fun h => h48 (by have := h.2; rw [hc] at this; simpa using this))])
        rw [HR.out]
        have hn : ((s[0].toNat : Int) == 48) = false := by
          rw [beq_eq_false_iff_ne, hc0]
          exact fun e => h48 (u8_eq (by have : (48 : UInt8).toNat = 48 := rfl; omega))
        clear hP hr hc hc0 h48 hE
        go_enter Tryz.func112, Tryz.ntmps112
        go_wp2_with (go_at_call 140; refine HP.out.mono ?_; rintro e w1 ⟨rfl, hb⟩)
        go_ret2
        exact ⟨rfl, hb⟩
    · have HR : Hid (numP B s.data.toList = some n) := Lib.hid (by unfold numP; rw [hr]; simp only []; rw [if_neg (fun h => hl (by rw [Lib.size_eq]; exact h.1))])
      rw [HR.out]
      have hl' : ¬ (1 : Int) < (s.size : Int) := by omega
      clear hP hr hE
      go_enter Tryz.func112, Tryz.ntmps112
      go_wp2_with (go_at_call 140; refine HP.out.mono ?_; rintro e w1 ⟨rfl, hb⟩)
      go_ret2
      exact ⟨rfl, hb⟩
  ·
    have HR : Hid (numP B s.data.toList = none) := Lib.hid (by unfold numP; rw [hr])
    rw [HR.out]
    rw [hr] at hP
    have HP := Lib.hid hP
    clear hP hr hE
    go_enter Tryz.func112, Tryz.ntmps112
    go_wp2_with (go_at_call 140; refine HP.out.mono ?_; rintro e w1 ⟨⟨x, T, a, rfl⟩, hb⟩)
    go_ret2
    exact ⟨rfl, hb⟩
  ·
    have HR : Hid (numP B s.data.toList = none) := Lib.hid (by unfold numP; rw [hr])
    rw [HR.out]
    rw [hr] at hP
    have HP := Lib.hid hP
    clear hP hr hE
    go_enter Tryz.func112, Tryz.ntmps112
    go_wp2_with (go_at_call 140; refine HP.out.mono ?_; rintro e w1 ⟨⟨x, T, a, rfl⟩, hb⟩)
    go_ret2
    exact ⟨rfl, hb⟩
def IntR (w : World) (o : Option Nat) (e : Ending) (w' : World) : Prop := e = .returned (.tuple #[.int .i64 ((o.getD 0 : Nat) : Int), .bool o.isSome]) ∧ Below w.heap.size w w'
set_option maxRecDepth 100000 in
theorem int_any (s : ByteArray) (hs : s.size ≤ 281474976710656) (w : World) (hE : Errs w) :
    Calls Tryz.prog 113 #[.string s] w (IntR w (numP 63 s.data.toList)) := by
  have HP := Lib.hid (num_any 63 (Or.inl rfl) s hs w hE)
  have hb : (numP 63 s.data.toList).getD 0 < 9223372036854775808 := by
    cases h : numP 63 s.data.toList with
    | none => simp
    | some n => have := (numP_some (Or.inl rfl) h).2; rw [p63] at this; exact this
  obtain ⟨o, ho⟩ : ∃ o, numP 63 s.data.toList = o := ⟨_, rfl⟩
  rw [ho] at HP hb ⊢
  obtain ⟨z, hz⟩ : ∃ z : Nat, o.getD 0 = z := ⟨_, rfl⟩
  obtain ⟨b, hbb⟩ : ∃ b, o.isSome = b := ⟨_, rfl⟩
  have HP2 : Hid (Calls Tryz.prog 112 #[.string s, .int .i64 63] w fun e w' => e = .returned (.tuple #[.int .u64 (z : Int), .bool b]) ∧ Below w.heap.size w w') := Lib.hid (HP.out.mono fun e w' h => by unfold NumR at h; rw [hz, hbb] at h; exact h)
  unfold IntR
  rw [hz] at hb
  rw [hz, hbb]
  have hb0 : (0 : Int) ≤ (z : Int) := by omega
  have hb1 : (z : Int) ≤ 9223372036854775807 := by omega
  clear ho hz hbb HP hE
  go_enter Tryz.func113, Tryz.ntmps113
  go_wp2_with (go_at_call 112; refine HP2.out.mono ?_; rintro e w1 ⟨rfl, hbx⟩)
  go_ret2
  exact ⟨rfl, hbx⟩
end Go.Proofs.YtlephnfepofbbaaGreatDoor
