/-
  The reference's chain: Take, Copy, Pull, Find, Line, Move.
-/
import Derived.Test.YtkhkhjkacibocaaChRef
import Derived.BigQuiet
namespace Go.Proofs.Ytkhkhjkacibocaa
open Go.RowKit Go.Shelf Go.Maps Go.ChangeMaps

section
variable {w w' : World} {E D : Nat → Nat → Prop} {rb cp m c2 : Nat} {A A2 : Option Addr} {bs ys : List Int}
set_option maxHeartbeats 4000000 in
theorem rtake_any (h : Rf w E rb A cp bs) (hl : bs.length ≤ 1048576) (n : Int) (hn : -9223372036854775808 ≤ n ∧ n ≤ 9223372036854775807) : Calls Try.prog 31 #[.pointer (some ⟨rb, 0, none⟩), .int .i64 n] w fun e w' =>
    ∃ A2 k c2 A' cp', e = .returned (.slice A2 k c2) ∧ Src w' E A2 k c2 (bs.take n.toNat) ∧ Rf w' E rb A' cp' (bs.drop n.toNat) ∧ Kc (fun k _ => k = rb) w w' := by
  obtain ⟨T, hT⟩ : ∃ T, T = min n.toNat bs.length := ⟨_, rfl⟩
  have htk : bs.take n.toNat = bs.take T := by
    by_cases hx : n.toNat ≤ bs.length
    · rw [show T = n.toNat by omega]
    · rw [show T = bs.length by omega, List.take_of_length_le (by omega), List.take_of_length_le (by omega)]
  have hdr : bs.drop n.toNat = bs.drop T := by
    by_cases hx : n.toNat ≤ bs.length
    · rw [show T = n.toNat by omega]
    · rw [show T = bs.length by omega, List.drop_of_length_le (by omega), List.drop_of_length_le (by omega)]
  rw [htk, hdr]
  obtain ⟨s1, s2⟩ := h.src.left (m := T) (by omega)
  obtain ⟨A', s3, s4⟩ := h.src.right (m := T) (by omega)
  obtain ⟨s5, s6⟩ := h.set s4
  have s7 := s2.kc s6 (fun j i _ e => by subst e; exact h.own i)
  have c0 : w.cell? ⟨rb, 0, none⟩ = some (.slice A bs.length cp) := h.blk.cell 0
  have l1 := h.blk.lt
  have f0 := h.blk.frozen 0
  have HE := Lib.hid (And.intro s7 (And.intro s5 s6))
  have key : ∀ z : Int, z = (T : Int) → (∀ X, (Instr.slice 31 (.slice A bs.length cp) none (some (.int .i64 z)) none).run Try.prog X = .ok (.slice A T cp) X) ∧ (∀ X, (Instr.slice 31 (.slice A bs.length cp) (some (.int .i64 z)) none none).run Try.prog X = .ok (.slice A' (bs.length - T) (cp - T)) X) := fun z e => by subst e; exact ⟨s1, s3⟩
  obtain ⟨q, hq⟩ : ∃ q, q = bs.length := ⟨_, rfl⟩
  obtain ⟨U, hU⟩ : ∃ U, U = w.setCell ⟨rb, 0, none⟩ (.slice A' (bs.length - T) (cp - T)) := ⟨_, rfl⟩
  rw [← hU] at HE
  rw [← hq] at hT c0 key hl hU
  have HU := Lib.hid hU
  clear h s1 s2 s3 s4 s5 s6 s7 htk hdr hq hU
  by_cases h0 : n < 0
  · have b1 : decide (n < 0) = true := by simpa using h0
    obtain ⟨k1, k2⟩ := key 0 (by omega)
    have b2 : ¬ q < 0 := by omega
    clear key hT
    go_enter Try.func31, Try.ntmps31
    go_wp2_with fail
    go_ret
    rw [← HU.out]
    first | exact ⟨_, _, _, _, _, rfl, HE.out⟩ | exact ⟨_, _, _, rfl, HE.out.1, ⟨_, _, HE.out.2.1⟩, HE.out.2.2⟩
  · by_cases h1 : (q : Int) < n
    · have b1 : decide (n < 0) = false := by simpa using h0
      have b2 : decide ((q : Int) < n) = true := by simpa using h1
      obtain ⟨k1, k2⟩ := key (q : Int) (by omega)
      clear key hT
      go_enter Try.func31, Try.ntmps31
      go_wp2_with fail
      go_ret
      rw [← HU.out]
      first | exact ⟨_, _, _, _, _, rfl, HE.out⟩ | exact ⟨_, _, _, rfl, HE.out.1, ⟨_, _, HE.out.2.1⟩, HE.out.2.2⟩
    · have b1 : decide (n < 0) = false := by simpa using h0
      have b2 : decide ((q : Int) < n) = false := by simpa using h1
      have b3 : n ≤ (q : Int) := by omega
      have b4 : 0 ≤ n := by omega
      obtain ⟨k1, k2⟩ := key n (by omega)
      clear key hT
      go_enter Try.func31, Try.ntmps31
      go_wp2_with fail
      go_ret
      rw [← HU.out]
      first | exact ⟨_, _, _, _, _, rfl, HE.out⟩ | exact ⟨_, _, _, rfl, HE.out.1, ⟨_, _, HE.out.2.1⟩, HE.out.2.2⟩
set_option maxHeartbeats 4000000 in
theorem rcopy_any (h : Rf w E rb A cp bs) (hl : bs.length ≤ 1048576) (f n : Int) (hf : -9223372036854775808 ≤ f ∧ f ≤ 9223372036854775807) (hn : -9223372036854775808 ≤ n ∧ n ≤ 9223372036854775807) : Calls Try.prog 32 #[.pointer (some ⟨rb, 0, none⟩), .int .i64 f, .int .i64 n] w fun e w' =>
    ∃ A2 k c2, e = .returned (.slice A2 k c2) ∧ Src w' E A2 k c2 (cpy bs f n) ∧ w = w' := by
  have c0 : w.cell? ⟨rb, 0, none⟩ = some (.slice A bs.length cp) := h.blk.cell 0
  have l1 := h.blk.lt
  by_cases h0 : f < 0 ∨ n < 0 ∨ (bs.length : Int) ≤ f
  · have he : cpy bs f n = [] := by
      unfold cpy
      by_cases e : f < 0
      · rw [if_pos e]
      · rw [if_neg e]
        rcases h0 with h0 | h0 | h0
        · exact absurd h0 e
        · rw [show n.toNat = 0 by omega, List.take_zero]
        · rw [List.drop_of_length_le (by omega), List.take_nil]
    rw [he]
    have HE := Lib.hid (Src.nl w E)
    obtain ⟨q, hq⟩ : ∃ q, q = bs.length := ⟨_, rfl⟩
    rw [← hq] at c0 h0
    clear h hq he
    by_cases e1 : f < 0
    · have b1 : decide (f < 0) = true := by simpa using e1
      clear h0
      go_enter Try.func32, Try.ntmps32
      go_wp2_with fail
      go_ret
      exact ⟨_, _, _, rfl, HE.out, rfl⟩
    · have b1 : decide (f < 0) = false := by simpa using e1
      by_cases e2 : n < 0
      · have b2 : decide (n < 0) = true := by simpa using e2
        clear h0
        go_enter Try.func32, Try.ntmps32
        go_wp2_with fail
        go_ret
        exact ⟨_, _, _, rfl, HE.out, rfl⟩
      · have b2 : decide (n < 0) = false := by simpa using e2
        have b3 : (q : Int) ≤ f := by omega
        have b4 : decide ((q : Int) ≤ f) = true := by simpa using b3
        clear h0
        go_enter Try.func32, Try.ntmps32
        go_wp2_with fail
        go_ret
        exact ⟨_, _, _, rfl, HE.out, rfl⟩
  · obtain ⟨g, rfl⟩ : ∃ g : Nat, f = (g : Int) := ⟨f.toNat, by omega⟩
    obtain ⟨k, rfl⟩ : ∃ k : Nat, n = (k : Int) := ⟨n.toNat, by omega⟩
    have he : cpy bs (g : Int) (k : Int) = (bs.drop g).take k := by unfold cpy; rw [if_neg (by omega)]; rfl
    rw [he]
    obtain ⟨A', s1, s2⟩ := h.src.right (m := g) (by omega)
    have b1 : decide ((g : Int) < 0) = false := by simp
    have b2 : decide ((k : Int) < 0) = false := by simp
    have b4 : (g : Int) < (bs.length : Int) := by omega
    have b3 : decide ((bs.length : Int) ≤ (g : Int)) = false := by simpa using b4
    have b4' : g < bs.length := by omega
    by_cases hk : k < bs.length - g
    · obtain ⟨s3, s4⟩ := s2.left (m := k) (by omega)
      have b5 : decide ((k : Int) < ((bs.length - g : Nat) : Int)) = true := by simp; omega
      have b6 : (k : Int) < ((bs.length - g : Nat) : Int) := by omega
      have HE := Lib.hid s4
      obtain ⟨q, hq⟩ : ∃ q, q = bs.length := ⟨_, rfl⟩
      obtain ⟨r, hr⟩ : ∃ r, r = bs.length - g := ⟨_, rfl⟩
      rw [← hr] at s1 s3 b5 b6 hk
      rw [← hq] at c0 s1 b3 b4 b4'
      clear h hq hr s2 s4 he h0 hl
      go_enter Try.func32, Try.ntmps32
      go_wp2_with fail
      go_ret
      exact ⟨_, _, _, rfl, HE.out, rfl⟩
    · have b5 : decide ((k : Int) < ((bs.length - g : Nat) : Int)) = false := by simp; omega
      have b6 : ((bs.length - g : Nat) : Int) ≤ (k : Int) := by omega
      have HE := Lib.hid (show Src w E A' (bs.length - g) (cp - g) ((bs.drop g).take k) by rw [List.take_of_length_le (by rw [List.length_drop]; omega)]; exact s2)
      obtain ⟨q, hq⟩ : ∃ q, q = bs.length := ⟨_, rfl⟩
      obtain ⟨r, hr⟩ : ∃ r, r = bs.length - g := ⟨_, rfl⟩
      rw [← hr] at s1 b5 b6 hk HE
      rw [← hq] at c0 s1 b3 b4 b4'
      clear h hq hr s2 he h0 hl
      go_enter Try.func32, Try.ntmps32
      go_wp2_with fail
      go_ret
      exact ⟨_, _, _, rfl, HE.out, rfl⟩
theorem rpull_no (h : Rf w E rb A cp bs) (n : Int) (hn : n < 0 ∨ (bs.length : Int) < n) : Calls Try.prog 33 #[.pointer (some ⟨rb, 0, none⟩), .int .i64 n] w fun e w' => e = .returned (.tuple #[.slice none 0 0, .int .i64 2]) ∧ w = w' := by
  have c0 : w.cell? ⟨rb, 0, none⟩ = some (.slice A bs.length cp) := h.blk.cell 0
  have l1 := h.blk.lt
  obtain ⟨q, hq⟩ : ∃ q, q = bs.length := ⟨_, rfl⟩
  rw [← hq] at c0 hn
  clear h hq
  by_cases h0 : n < 0
  · have b1 : decide (n < 0) = true := by simpa using h0
    clear hn
    go_enter Try.func33, Try.ntmps33
    go_wp2_with fail
    go_ret2
    exact ⟨rfl, rfl⟩
  · have b1 : decide (n < 0) = false := by simpa using h0
    have b2 : (q : Int) < n := by omega
    have b3 : decide ((q : Int) < n) = true := by simpa using b2
    clear hn
    go_enter Try.func33, Try.ntmps33
    go_wp2_with fail
    go_ret2
    exact ⟨rfl, rfl⟩
theorem rpull_yes (h : Rf w E rb A cp bs) (n : Nat) (hn : n ≤ bs.length) : Calls Try.prog 33 #[.pointer (some ⟨rb, 0, none⟩), .int .i64 (n : Int)] w fun e w' => e = .returned (.tuple #[.slice A n cp, .int .i64 0]) ∧ Src w' E A n cp (bs.take n) ∧ w = w' := by
  have c0 : w.cell? ⟨rb, 0, none⟩ = some (.slice A bs.length cp) := h.blk.cell 0
  have l1 := h.blk.lt
  obtain ⟨s1, s2⟩ := h.src.left hn
  have HE := Lib.hid s2
  obtain ⟨q, hq⟩ : ∃ q, q = bs.length := ⟨_, rfl⟩
  rw [← hq] at c0 hn s1
  have b1 : decide ((n : Int) < 0) = false := by simp
  have b2 : (n : Int) ≤ (q : Int) := by omega
  have b3 : decide ((q : Int) < (n : Int)) = false := by simpa using b2
  clear h hq s2
  go_enter Try.func33, Try.ntmps33
  go_wp2_with fail
  go_ret2
  exact ⟨rfl, HE.out, rfl⟩

set_option maxRecDepth 100000 in
set_option maxHeartbeats 4000000 in
theorem rfind_any (h : Rf w E rb A cp bs) (hl : bs.length ≤ 1048576) (hby : Byt bs) {z : List Int} (hs : Src w D A2 m c2 z) (hz : Byt z) (hm : m ≤ 2097152) (f : Int) (hf : -9223372036854775808 ≤ f ∧ f ≤ 9223372036854775807) :
    Calls Try.prog 34 #[.pointer (some ⟨rb, 0, none⟩), .slice A2 m c2, .int .i64 f] w fun e w' => ∃ r, e = ansF r ∧ FindA bs z f r ∧ Kept (fun _ => False) w w' := by
  have c0 : ∀ W, Kept (fun _ => False) w W → W.cell? ⟨rb, 0, none⟩ = some (.slice A bs.length cp) := fun W k => (h.kept k).blk.cell 0
  have l1 := h.blk.lt
  by_cases h0 : f < 0
  · have b1 : decide (f < 0) = true := by simpa using h0
    have HE := Lib.hid (show FindA bs z f none by unfold FindA; rw [if_pos h0])
    clear h hs
    go_enter Try.func34, Try.ntmps34
    go_wp2_with fail
    go_ret2
    exact ⟨none, rfl, HE.out, Kept.refl _ _⟩
  · obtain ⟨g, rfl⟩ : ∃ g : Nat, f = (g : Int) := ⟨f.toNat, by omega⟩
    have b1 : decide ((g : Int) < 0) = false := by simp
    have hzl := hs.len
    obtain ⟨T, hT⟩ : ∃ T, strOfNums z = T := ⟨_, rfl⟩
    have qc : ∀ W, Kept (fun _ => False) w W → (convert 31 9 (.slice A2 m c2)).run Try.prog W = .ok (.string T) W := fun W k => hT ▸ (hs.kept k).str
    have H := Lib.hid (And.intro h (And.intro hby (And.intro hz (And.intro hzl hT))))
    obtain ⟨n, hn⟩ : ∃ n, n = bs.length := ⟨_, rfl⟩
    rw [← hn] at c0 hl
    have HN := Lib.hid hn
    have e1 : IntKind.i64.wrap ((n : Int) - (m : Int)) = (n : Int) - (m : Int) := IntWalk.i64_in _ (by omega)
    have HF := Lib.hid hf
    have HC := Lib.hid (And.intro c0 qc)
    clear h hby hz hs hT hzl hn hf h0 c0 qc
    go_enter Try.func34, Try.ntmps34
    go_wp2_with fail
    go_loopw [8] (fun i wr => ∃ a : Nat, i = .int .i64 (a : Int) ∧ g ≤ a ∧ (a ≤ g ∨ a ≤ n + 1) ∧ (∀ x, g ≤ x → x < a → ¬ Occ bs z x) ∧ Kept (fun _ => False) w wr) (fun i _ => n + 1 - (intOf i).toNat)
    case atStart => exact ⟨g, rfl, Nat.le_refl _, .inl (Nat.le_refl _), fun x h1 h2 => by omega, Kept.refl _ _⟩
    case round =>
      obtain ⟨a, rfl, ha, hab, hno, hkw⟩ := hrel
      have HK := Lib.hid hkw
      have c0 : ∀ i, (wr.drewN i).cell? ⟨rb, 0, none⟩ = some (.slice A n cp) := fun i => HC.out.1 _ (hkw.drewN i)
      have c1 : wr.cell? ⟨rb, 0, none⟩ = some (.slice A n cp) := HC.out.1 _ hkw
      have qc : ∀ i, (convert 31 9 (.slice A2 m c2)).run Try.prog (wr.drewN i) = .ok (.string T) (wr.drewN i) := fun i => HC.out.2 _ (hkw.drewN i)
      have l2 : rb < wr.heap.size := Nat.lt_of_lt_of_le l1 hkw.size
      by_cases hae : (a : Int) ≤ (n : Int) - (m : Int)
      · have hmid : a + m ≤ bs.length := by rw [← HN.out]; omega
        have b2 : decide ((a : Int) ≤ (n : Int) - (m : Int)) = true := by simpa using hae
        obtain ⟨A3, r3, s3⟩ := H.out.1.src.mid (x := a) (e := m) hmid
        rw [← HN.out] at r3
        have c3 := fun i => (s3.kept (hkw.drewN i)).str
        have u1 : IntKind.i64.wrap ((a : Int) + (m : Int)) = (a : Int) + (m : Int) := IntWalk.i64_in _ (by omega)
        have u2 : IntKind.i64.wrap ((a : Int) + 1) = (a : Int) + 1 := IntWalk.i64_in _ (by omega)
        have HQ := Lib.hid (And.intro ha (And.intro hno hmid))
        by_cases heq : (bs.drop a).take m = z
        · simp only [heq, H.out.2.2.2.2] at c3
          have HA := Lib.hid (show FindA bs z (g : Int) (some a) by
            unfold FindA
            rw [if_neg (by omega), Int.toNat_natCast]
            by_cases e : z = []
            · rw [if_pos e]
              have hg : a = g := by
                by_cases e2 : a = g
                · exact e2
                · exact (hno g (Nat.le_refl _) (by omega) (by unfold Occ; rw [e]; rfl)).elim
              rw [hg, if_pos (by omega)]
            · rw [if_neg e]
              exact ⟨ha, by unfold Occ; rw [H.out.2.2.2.1]; exact heq, fun x h1 h2 => hno x h1 h2⟩)
          clear hmid s3 ha hab hno heq hkw
          go_wp2_with fail
          go_quiet (fail)
          go_wp2_with fail
          go_ret2
          exact ⟨some a, rfl, HA.out, HK.out.drewN _⟩
        · obtain ⟨T3, hT3⟩ : ∃ T, strOfNums ((bs.drop a).take m) = T := ⟨_, rfl⟩
          have hne : ¬ T3 = T := fun e => heq (strOfNums_inj ((H.out.2.1.drop a).take m) H.out.2.2.1 (by rw [hT3, H.out.2.2.2.2]; exact e))
          simp only [hT3] at c3
          have e1 : (T3.toList == T.toList) = false := bytes_ne hne
          have HO := Lib.hid (show ¬ Occ bs z a from fun ho => heq (by unfold Occ at ho; rw [H.out.2.2.2.1] at ho; exact ho))
          clear hmid s3 ha hab hno heq hkw hT3
          go_wp2_with fail
          go_quiet (fail)
          go_wp2_with fail
          refine ⟨⟨a + 1, by go_num, by have := HQ.out.1; omega, .inr (by have := HQ.out.2.2; rw [HN.out]; omega), fun x h1 h2 => ?_, HK.out.drewN _⟩, by have := HQ.out.2.2; rw [← HN.out] at this; simp [intOf]; omega⟩
          by_cases e : x = a
          · subst e; exact HO.out
          · exact HQ.out.2.1 x h1 (by omega)
      · have b2 : decide ((a : Int) ≤ (n : Int) - (m : Int)) = false := by simpa using hae
        have b3 : (n : Int) - (m : Int) < (a : Int) := by omega
        have HA := Lib.hid (show FindA bs z (g : Int) none by
          unfold FindA
          rw [if_neg (by omega), Int.toNat_natCast]
          by_cases e : z = []
          · rw [if_pos e, if_neg]
            intro hg
            have hm0 : m = 0 := by have := H.out.2.2.2.1; rw [e] at this; simpa using this.symm
            exact hno g (Nat.le_refl _) (by have := HN.out; omega) (by unfold Occ; rw [e]; rfl)
          · rw [if_neg e]
            intro x hx ho
            by_cases e2 : x < a
            · exact hno x hx e2 ho
            · have h5 := ho.le (by rcases Nat.eq_zero_or_pos z.length with e3 | e3; exact absurd (List.eq_nil_of_length_eq_zero e3) e; exact e3)
              have h6 := H.out.2.2.2.1
              have h7 := HN.out
              omega)
        clear ha hab hno hkw
        go_wp2_with fail
        go_ret2
        exact ⟨none, rfl, HA.out, HK.out⟩

/-- Line. -/
def RLineR (w' : World) (E : Nat → Nat → Prop) (rb : Nat) (A : Option Addr) (cp : Nat) (bs : List Int) (e : Ending) : Option Nat → Prop
  | none => e = .returned (.tuple #[.slice none 0 0, .bool false]) ∧ Rf w' E rb A cp bs
  | some n => ∃ A2 k c2 A' cp', e = .returned (.tuple #[.slice A2 k c2, .bool true]) ∧ Src w' E A2 k c2 (bs.take n) ∧ Rf w' E rb A' cp' (bs.drop (n + 1))
set_option maxHeartbeats 4000000 in
theorem rline_any (h : Rf w E rb A cp bs) (hl : bs.length ≤ 1048576) (hby : Byt bs) : Calls Try.prog 35 #[.pointer (some ⟨rb, 0, none⟩)] w fun e w' => ∃ r, FindR bs [10] 0 r ∧ RLineR w' E rb A cp bs e r ∧ Kc (fun k _ => k = rb) w w' := by
  obtain ⟨V, hV⟩ : ∃ V, V = w.alloc (.cells #[.int .u8 10] 5) := ⟨_, rfl⟩
  have hk : Kept (fun _ => False) w V := by rw [hV]; exact (Kept.refl _ w).alloc _
  have hs : Src V No2 (some ⟨w.heap.size, 0, none⟩) 1 1 [10] := by
    refine ⟨rfl, Nat.le_refl _, by omega, (fun e => by cases e), (fun a e _ => by cases e; rfl), fun _ => ⟨w.heap.size, 0, rfl, by rw [hV]; simp, fun i z hz => ⟨fun e => e, ?_⟩⟩⟩
    match i, hz with
    | 0, hz => simp at hz; subst hz; rw [hV]; exact (Blk.new w 5 #[.int .u8 10]).cell 0
  have HF := Lib.hid (rfind_any (h.kept hk) hl hby hs (fun z hz => by simp at hz; omega) (by omega) 0 (by omega))
  have HV := Lib.hid hV
  have H := Lib.hid (And.intro h (And.intro hk hl))
  clear h hV hk hs hl hby
  go_enter Try.func35, Try.ntmps35
  go_wp2_with fail
  rw [← HV.out]
  refine HF.out.mono ?_
  rintro e w2 ⟨r, rfl, g1, g2⟩
  have g3 : FindR bs [10] 0 r := by
    unfold FindA at g1
    rw [if_neg (by omega), if_neg (by simp)] at g1
    exact g1
  have k2 := H.out.2.1.trans g2
  have h2 := H.out.1.kept k2
  cases r with
  | none =>
    have HE := Lib.hid (And.intro g3 (And.intro h2 k2))
    clear g1 g2 g3 k2 h2
    simp only [ansF]
    go_wp2_with fail
    go_ret2
    exact ⟨none, HE.out.1, ⟨rfl, HE.out.2.1⟩, Kc.of_kept HE.out.2.2⟩
  | some n =>
    have hnl : n + 1 ≤ bs.length := by have := g3.2.1.le (by simp); simpa using this
    obtain ⟨s1, s2⟩ := h2.src.left (m := n) (by omega)
    obtain ⟨A', s3, s4⟩ := h2.src.right (m := n + 1) (by omega)
    obtain ⟨s5, s6⟩ := h2.set s4
    have s7 := s2.kc s6 (fun j i _ e => by subst e; exact h2.own i)
    have c0 : w2.cell? ⟨rb, 0, none⟩ = some (.slice A bs.length cp) := h2.blk.cell 0
    have l1 := h2.blk.lt
    have f0 := h2.blk.frozen 0
    have e1 : IntKind.i64.wrap ((n : Int) + 1) = (n : Int) + 1 := IntWalk.i64_in _ (by have := H.out.2.2; omega)
    have s3' : ∀ X, (Instr.slice 31 (.slice A bs.length cp) (some (.int .i64 ((n : Int) + 1))) none none).run Try.prog X = .ok (.slice A' (bs.length - (n + 1)) (cp - (n + 1))) X := s3
    obtain ⟨q, hq⟩ : ∃ q, q = bs.length := ⟨_, rfl⟩
    obtain ⟨U, hU⟩ : ∃ U, U = w2.setCell ⟨rb, 0, none⟩ (.slice A' (bs.length - (n + 1)) (cp - (n + 1))) := ⟨_, rfl⟩
    obtain ⟨y1, hy1⟩ : ∃ y, y = bs.length - (n + 1) := ⟨_, rfl⟩
    obtain ⟨y2, hy2⟩ : ∃ y, y = cp - (n + 1) := ⟨_, rfl⟩
    have HE := Lib.hid (show FindR bs [10] 0 (some n) ∧ (Src U E A n cp (bs.take n) ∧ Rf U E rb A' (cp - (n + 1)) (bs.drop (n + 1))) ∧ Kc (fun k _ => k = rb) w U from ⟨g3, by rw [hU]; exact ⟨s7, s5⟩, by rw [hU]; exact (Kc.of_kept k2).trans s6⟩)
    rw [← hy1, ← hy2] at s3' hU
    rw [← hq] at s1 s3' c0 hnl
    have HU := Lib.hid hU
    clear g1 g2 g3 k2 h2 s2 s3 s4 s5 s6 s7 hq hU hy1 hy2
    simp only [ansF]
    go_wp2_with fail
    go_ret2
    rw [← HU.out]
    exact ⟨some n, HE.out.1, ⟨_, _, _, _, _, rfl, HE.out.2.1⟩, HE.out.2.2⟩
end

section
variable {w w' : World} {E : Nat → Nat → Prop} {rb sb cp cp2 : Nat} {A A2 : Option Addr} {bs cs : List Int}
/-- Another chain's is left as it was. -/
theorem Rf.far (h : Rf w E sb A cp bs) (k : Kc (fun k _ => k = rb) w w') (hE : ∀ i, E rb i) (hn : sb ≠ rb) : Rf w' E sb A cp bs :=
  ⟨h.blk.kc k (fun _ e => hn e), h.src.kc k (fun j i _ e => by subst e; exact hE i), fun i j e => Nat.lt_of_lt_of_le (h.lt i j e) k.size, h.own⟩
theorem rmove_neg (w : World) (rb sb : Nat) (n : Int) (hn : n < 0) : Calls Try.prog 36 #[.pointer (some ⟨rb, 0, none⟩), .pointer (some ⟨sb, 0, none⟩), .int .i64 n] w fun e w' => e = .returned (.tuple #[.int .i64 0, .int .i64 2]) ∧ w = w' := by
  have b1 : decide (n < 0) = true := by simpa using hn
  go_enter Try.func36, Try.ntmps36
  go_wp2_with fail
  go_ret2
  exact ⟨rfl, rfl⟩
set_option maxHeartbeats 4000000 in
theorem rmove_any (h : Rf w E rb A cp bs) (h2 : Rf w E sb A2 cp2 cs) (hne : sb ≠ rb) (hl : bs.length ≤ 1048576) (hl2 : cs.length ≤ 1048576) (n : Nat) (hn : n ≤ 9223372036854775807) {y : Nat} (hy : y = min n bs.length) : Calls Try.prog 36 #[.pointer (some ⟨rb, 0, none⟩), .pointer (some ⟨sb, 0, none⟩), .int .i64 (n : Int)] w fun e w' =>
    if y + cs.length ≤ 1048576 then e = .returned (.tuple #[.int .i64 (y : Int), .int .i64 0]) ∧ ∃ A' cp' A2' cp2', Rf w' E rb A' cp' (bs.drop n) ∧ Rf w' E sb A2' cp2' (cs ++ bs.take n) ∧ Kc (fun k _ => k = rb ∨ k = sb) w w'
    else e = .returned (.tuple #[.int .i64 0, .int .i64 70]) ∧ w = w' := by
  have htk : bs.take n = bs.take y := by
    by_cases e : n ≤ bs.length
    · rw [show y = n by omega]
    · rw [show y = bs.length by omega, List.take_of_length_le (by omega), List.take_length]
  have hdk : bs.drop n = bs.drop y := by
    by_cases e : n ≤ bs.length
    · rw [show y = n by omega]
    · rw [show y = bs.length by omega, List.drop_of_length_le (by omega), List.drop_length]
  rw [htk, hdk]
  obtain ⟨s1, s2⟩ := h.src.left (m := y) (by omega)
  have c0 : w.cell? ⟨rb, 0, none⟩ = some (.slice A bs.length cp) := h.blk.cell 0
  have l1 := h.blk.lt
  have b0 : decide ((n : Int) < 0) = false := by simp
  have hyb : y ≤ bs.length := by omega
  obtain ⟨q, hq⟩ : ∃ q, q = bs.length := ⟨_, rfl⟩
  by_cases hfit : y + cs.length ≤ 1048576
  · simp only [if_pos hfit]
    have HA := Lib.hid (radd_yes h2 s2 hfit)
    have H := Lib.hid (And.intro h (And.intro h2 (And.intro hq (And.intro hne hyb))))
    have hc : (q : Int) < (n : Int) ∧ (q : Int) = (y : Int) ∨ (n : Int) ≤ (q : Int) ∧ n = y := by omega
    rw [← hq] at c0 s1
    clear h h2 hq htk hdk s2 hy hne hyb hfit
    rcases hc with ⟨hc, hqy⟩ | ⟨hc, hny⟩
    · have b1 : decide ((q : Int) < (n : Int)) = true := by simpa using hc
      have b2 : q < n := by omega
      obtain rfl : q = y := by omega
      clear hqy
      go_enter Try.func36, Try.ntmps36
      go_wp2_with fail
      refine HA.out.mono ?_
      rintro e w2 ⟨rfl, A2', cp2', g1, g2⟩
      have h3 := H.out.1.far g2 H.out.2.1.own H.out.2.2.2.1.symm
      obtain ⟨A', s3, s4⟩ := h3.src.right (m := q) (by rw [← H.out.2.2.1]; exact Nat.le_refl _)
      obtain ⟨s5, s6⟩ := h3.set s4
      have s7 := g1.far s6 H.out.1.own H.out.2.2.2.1
      have c1 : w2.cell? ⟨rb, 0, none⟩ = some (.slice A bs.length cp) := h3.blk.cell 0
      have l2 := h3.blk.lt
      have f0 := h3.blk.frozen 0
      rw [← H.out.2.2.1] at c1 s3 s5 s6 s7
      rw [Nat.sub_self] at s3 s5 s6 s7
      have HE := Lib.hid (And.intro s5 (And.intro s7 ((g2.mono fun _ _ _ e => Or.inr e : Kc (fun k _ => k = rb ∨ k = sb) w w2).trans (s6.mono fun _ _ _ e => Or.inl e))))
      clear g1 g2 h3 s4 s5 s6 s7 c0
      go_wp2_with fail
      go_ret2
      exact ⟨rfl, _, _, _, _, HE.out⟩
    · have b1 : decide ((q : Int) < (n : Int)) = false := by simpa using hc
      have b2 : n ≤ q := by omega
      subst hny
      go_enter Try.func36, Try.ntmps36
      go_wp2_with fail
      refine HA.out.mono ?_
      rintro e w2 ⟨rfl, A2', cp2', g1, g2⟩
      have h3 := H.out.1.far g2 H.out.2.1.own H.out.2.2.2.1.symm
      obtain ⟨A', s3, s4⟩ := h3.src.right (m := n) H.out.2.2.2.2
      obtain ⟨s5, s6⟩ := h3.set s4
      have s7 := g1.far s6 H.out.1.own H.out.2.2.2.1
      have c1 : w2.cell? ⟨rb, 0, none⟩ = some (.slice A bs.length cp) := h3.blk.cell 0
      have l2 := h3.blk.lt
      have f0 := h3.blk.frozen 0
      rw [← H.out.2.2.1] at c1 s3 s5 s6 s7
      have HE := Lib.hid (And.intro s5 (And.intro s7 ((g2.mono fun _ _ _ e => Or.inr e : Kc (fun k _ => k = rb ∨ k = sb) w w2).trans (s6.mono fun _ _ _ e => Or.inl e))))
      clear g1 g2 h3 s4 s5 s6 s7 c0
      go_wp2_with fail
      go_ret2
      exact ⟨rfl, _, _, _, _, HE.out⟩
  · simp only [if_neg hfit]
    have HA := Lib.hid (radd_no (m := y) (c2 := cp) (A2 := A) h2 hl2 (by omega) (by omega))
    have hc : (q : Int) < (n : Int) ∧ (q : Int) = (y : Int) ∨ (n : Int) ≤ (q : Int) ∧ n = y := by omega
    rw [← hq] at c0 s1 hyb
    clear h h2 hq htk hdk s2 hy hne hfit
    rcases hc with ⟨hc, hqy⟩ | ⟨hc, hny⟩
    · have b1 : decide ((q : Int) < (n : Int)) = true := by simpa using hc
      have b2 : q < n := by omega
      obtain rfl : q = y := by omega
      clear hqy hyb
      go_enter Try.func36, Try.ntmps36
      go_wp2_with fail
      refine HA.out.mono ?_
      rintro e w2 ⟨rfl, rfl⟩
      go_wp2_with fail
      go_ret2
      exact ⟨rfl, rfl⟩
    · have b1 : decide ((q : Int) < (n : Int)) = false := by simpa using hc
      have b2 : n ≤ q := by omega
      subst hny
      go_enter Try.func36, Try.ntmps36
      go_wp2_with fail
      refine HA.out.mono ?_
      rintro e w2 ⟨rfl, rfl⟩
      go_wp2_with fail
      go_ret2
      exact ⟨rfl, rfl⟩
end
end Go.Proofs.Ytkhkhjkacibocaa
