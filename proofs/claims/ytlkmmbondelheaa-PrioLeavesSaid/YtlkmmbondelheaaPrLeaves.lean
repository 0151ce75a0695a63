/-
  PrioLeaves.
-/
import Derived.Test.YtlkmmbondelheaaPrKeep
import Derived.Deep.RegionWith
import Derived.Deep.QuietTactic
import Derived.BigQuiet
import Derived.StillTailTactics
namespace Go.Proofs.Ytlkmmbondelheaa
open Go.RowKit Go.Maps Go.ChangeMaps Go.Shelf

section
variable {w W : World} {h many g : Nat} {L : List It} {X : List Fb} {k : Int}
theorem ps_cut_no (H : PS w W h many L X) (hk : i64 k) (hh : hasI L k = false) : Calls Try.prog 12 #[.pointer (some ⟨h, 0, none⟩), .int .i64 k] W fun e w' =>
    e = .returned (.bool false) ∧ PS w w' h many L X := by
  have := ps_cut H hk
  rw [hh, cut_none hh] at this
  exact this
theorem ps_put_new (H : PS w W h many L X) (p fl c : Int) (hp : i64 p) (hk : i64 k) (hf : i64 fl) (hc : i64 c) (hl : L.length < 100000) (hh : hasI L k = false) (ho : putOk many p k fl c = true) :
    Calls Try.prog 10 #[.pointer (some ⟨h, 0, none⟩), .int .i64 p, .int .i64 k, .int .i64 fl, .int .i64 c] W fun e w' =>
      e = .returned (.int .i64 0) ∧ ∃ x : It, x.id = k ∧ (x.pr : Int) = p ∧ PS w w' h many (L ++ [x]) X := by
  refine (ps_put H p k fl c hp hk hf hc hl).mono ?_
  rintro e w' ⟨rfl, bk, H'⟩
  unfold putE putS at *
  rw [if_pos ho] at *
  rw [put_new hh] at H'
  refine ⟨rfl, _, rfl, ?_, H'⟩
  unfold putOk at ho
  simp at ho
  show ((p.toNat : Nat) : Int) = p
  omega
theorem ps_put_bad (H : PS w W h many L X) (p fl c : Int) (hp : i64 p) (hk : i64 k) (hf : i64 fl) (hc : i64 c) (hl : L.length < 100000) (ho : putOk many p k fl c = false) :
    Calls Try.prog 10 #[.pointer (some ⟨h, 0, none⟩), .int .i64 p, .int .i64 k, .int .i64 fl, .int .i64 c] W fun e w' =>
      e = .returned (.int .i64 2) ∧ PS w w' h many L X := by
  refine (ps_put H p k fl c hp hk hf hc hl).mono ?_
  rintro e w' ⟨rfl, bk, H'⟩
  unfold putE putS at *
  rw [ho] at *
  exact ⟨rfl, H'⟩
theorem snoc_has {x : It} (hh : hasI L x.id = false) : hasI (L ++ [x]) x.id = true ∧ hasX (L ++ [x]) x.id = x ∧ cutL (L ++ [x]) x.id = L := by
  refine ⟨by simp [hasI], ?_, ?_⟩
  · unfold hasX
    rw [List.find?_append, find_none hh]
    simp
  · have := cut_none hh
    unfold cutL at this ⊢
    rw [List.filter_append, this]
    simp
end

/-- The rows of all queues, as they were told, in the block g. -/
def Lv (w W : World) (h g : Nat) (L0 L : List It) (E : List Fb := []) : Prop := ∃ cs X, PS w W h 8 L (E ++ .blk g 60 cs :: X) ∧ cs.size = 8 ∧ KeptRows L0 8 cs X
def LvTo (w W : World) (h g : Nat) (L : List It) (k : Nat) : Prop := ∃ cs X, PS w W h 8 L (.blk g 60 cs :: X) ∧ cs.size = 8 ∧ (∀ f ∈ X, f.off g) ∧ w.heap.size ≤ g ∧ KeptRows L k cs X
section
variable {w W : World} {h g : Nat} {L L0 : List It} {k : Nat}
theorem LvTo.first (H : PS w W h 8 L []) : LvTo w (W.alloc (.cells #[.slice none 0 0, .slice none 0 0, .slice none 0 0, .slice none 0 0, .slice none 0 0, .slice none 0 0, .slice none 0 0, .slice none 0 0] 60)) h W.heap.size L 0 :=
  ⟨_, _, H.blk _ _, rfl, fun f hf => by simp at hf, H.b.size, fun j hj => absurd hj (Nat.not_lt_zero _)⟩
theorem LvTo.lt (H : LvTo w W h g L k) : g < W.heap.size := by obtain ⟨cs, X, H, _⟩ := H; exact (H.atBlk List.mem_cons_self).lt
theorem LvTo.done (H : LvTo w W h g L 8) : Lv w W h g L L := by obtain ⟨cs, X, H, h8, _, _, hk⟩ := H; exact ⟨cs, X, H, h8, hk⟩
end
/-- What List leaves beside the rows. -/
def LvMid (w : World) (h g : Nat) (L : List It) (k : Nat) (A : Option Addr) (c : Nat) (W : World) : Prop := ∃ cs X, PS w W h 8 L (.blk g 60 cs :: .row (.slice A (ofP L k).length c) (ofP L k) :: X) ∧ cs.size = 8 ∧ (∀ f ∈ X, f.off g) ∧
  (Fb.row (.slice A (ofP L k).length c) (ofP L k)).off g ∧ w.heap.size ≤ g ∧ KeptRows L k cs X
section
variable {w W : World} {h g : Nat} {L L0 : List It} {k : Nat} {A : Option Addr} {c : Nat} {E : List Fb}
theorem lv_list (H : LvTo w W h g L k) (hk : k < 8) : Calls Try.prog 25 #[.pointer (some ⟨h, 0, none⟩), .int .i64 (k : Int)] W fun e w' => ∃ A c, e = .returned (.slice A (ofP L k).length c) ∧ LvMid w h g L k A c w' := by
  have hlt := H.lt
  obtain ⟨cs, X, H, h8, ho, hg, hr⟩ := H
  refine (ps_list_off H (k : Int) hlt).mono ?_
  rintro e w' ⟨A, c, rfl, H', ho'⟩
  rw [listP_of hk] at H' ho' ⊢
  refine ⟨A, c, rfl, cs, X, H'.less (fun f hf => ?_), h8, ho, ho', hg, hr⟩
  rcases List.mem_cons.1 hf with rfl | hf
  · exact List.mem_cons_of_mem _ List.mem_cons_self
  rcases List.mem_cons.1 hf with rfl | hf
  · exact List.mem_cons_self
  · exact List.mem_cons_of_mem _ (List.mem_cons_of_mem _ hf)
theorem LvMid.cell (H : LvMid w h g L k A c W) (hk : k < 8) : ∃ v, W.cell? ⟨g, k, none⟩ = some v ∧ W.frozen? ⟨g, k, none⟩ = false ∧ g < W.heap.size := by
  obtain ⟨cs, X, H, h8, _⟩ := H
  have hb := H.atBlk List.mem_cons_self
  refine ⟨cs[k]'(by omega), ?_, hb.frozen k, hb.lt⟩
  rw [hb.cell k]
  exact Array.getElem?_eq_getElem (by omega)
theorem LvMid.store (H : LvMid w h g L k A c W) (hk : k < 8) : LvTo w (W.setCell ⟨g, k, none⟩ (.slice A (ofP L k).length c)) h g L (k + 1) := by
  obtain ⟨cs, X, H, h8, ho, ho', hg, hr⟩ := H
  have ho2 : ∀ f ∈ (.row (.slice A (ofP L k).length c) (ofP L k) :: X), f.off g := fun f hf => by
    rcases List.mem_cons.1 hf with rfl | hf
    · exact ho'
    · exact ho f hf
  exact ⟨_, _, H.store ho2 hg k _, by simpa using h8, ho2, hg, hr.next (by omega)⟩
theorem Lv.p (H : Lv w W h g L0 L E) : ∃ X, PS w W h 8 L X := by obtain ⟨cs, X, H, _⟩ := H; exact ⟨_, H⟩
theorem Lv.below {W' : World} (H : Lv w W h g L0 L E) (b : Below W.heap.size W W') : Lv w W' h g L0 L E := by obtain ⟨cs, X, H, r⟩ := H; exact ⟨cs, X, H.below b, r⟩
theorem Lv.b (H : Lv w W h g L0 L E) : Below w.heap.size w W := by obtain ⟨cs, X, H, r⟩ := H; exact H.b
theorem Lv.alloc (H : Lv w W h g L0 L E) (o : Obj) : Lv w (W.alloc o) h g L0 L E := H.below ((Below.refl _ W).alloc (Nat.le_refl _) _)
theorem Lv.drewN (H : Lv w W h g L0 L E) (n : Nat) : Lv w (W.drewN n) h g L0 L E := H.below ⟨rfl, rfl, rfl, Nat.le_refl _, fun _ _ => rfl⟩
theorem lv_has (H : Lv w W h g L0 L E) {k : Int} (hk : i64 k) : Calls Try.prog 19 #[.pointer (some ⟨h, 0, none⟩), .int .i64 k] W fun e w' =>
    e = .returned (.tuple #[.agg #[.int .i64 (hasX L k).id, .int .i64 (hasX L k).fl, .int .i64 (hasX L k).ct], .int .i64 ((hasX L k).pr : Int), .bool (hasI L k)]) ∧ Lv w w' h g L0 L E := by
  obtain ⟨cs, X, H, r⟩ := H
  exact (ps_has H hk).mono fun e w' ⟨he, H'⟩ => ⟨he, cs, X, H', r⟩
theorem lv_len (H : Lv w W h g L0 L E) : Calls Try.prog 21 #[.pointer (some ⟨h, 0, none⟩)] W fun e w' => e = .returned (.int .i64 (L.length : Int)) ∧ W = w' := by
  obtain ⟨cs, X, H, r⟩ := H
  exact ps_len H
theorem lv_cut (H : Lv w W h g L0 L E) {k : Int} (hk : i64 k) : Calls Try.prog 12 #[.pointer (some ⟨h, 0, none⟩), .int .i64 k] W fun e w' =>
    e = .returned (.bool (hasI L k)) ∧ Lv w w' h g L0 (cutL L k) E := by
  obtain ⟨cs, X, H, r⟩ := H
  exact (ps_cut H hk).mono fun e w' ⟨he, H'⟩ => ⟨he, cs, X, H', r⟩
theorem lv_cut_no (H : Lv w W h g L0 L E) {k : Int} (hk : i64 k) (hh : hasI L k = false) : Calls Try.prog 12 #[.pointer (some ⟨h, 0, none⟩), .int .i64 k] W fun e w' =>
    e = .returned (.bool false) ∧ Lv w w' h g L0 L E := by
  obtain ⟨cs, X, H, r⟩ := H
  exact (ps_cut_no H hk hh).mono fun e w' ⟨he, H'⟩ => ⟨he, cs, X, H', r⟩
theorem lv_put_new (H : Lv w W h g L0 L E) {k : Int} (p fl c : Int) (hp : i64 p) (hk : i64 k) (hf : i64 fl) (hc : i64 c) (hl : L.length < 100000) (hh : hasI L k = false) (ho : putOk 8 p k fl c = true) :
    Calls Try.prog 10 #[.pointer (some ⟨h, 0, none⟩), .int .i64 p, .int .i64 k, .int .i64 fl, .int .i64 c] W fun e w' =>
      e = .returned (.int .i64 0) ∧ ∃ x : It, x.id = k ∧ (x.pr : Int) = p ∧ Lv w w' h g L0 (L ++ [x]) E := by
  obtain ⟨cs, X, H, r⟩ := H
  exact (ps_put_new H p fl c hp hk hf hc hl hh ho).mono fun e w' ⟨he, x, h1, h2, H'⟩ => ⟨he, x, h1, h2, cs, X, H', r⟩
theorem lv_put_bad (H : Lv w W h g L0 L E) {k : Int} (p fl c : Int) (hp : i64 p) (hk : i64 k) (hf : i64 fl) (hc : i64 c) (hl : L.length < 100000) (ho : putOk 8 p k fl c = false) :
    Calls Try.prog 10 #[.pointer (some ⟨h, 0, none⟩), .int .i64 p, .int .i64 k, .int .i64 fl, .int .i64 c] W fun e w' =>
      e = .returned (.int .i64 2) ∧ Lv w w' h g L0 L E := by
  obtain ⟨cs, X, H, r⟩ := H
  exact (ps_put_bad H p fl c hp hk hf hc hl ho).mono fun e w' ⟨he, H'⟩ => ⟨he, cs, X, H', r⟩
theorem Lv.blk (H : Lv w W h g L0 L) (t : TypeId) (v : Array Value) : Lv w (W.alloc (.cells v t)) h g L0 L [.blk W.heap.size t v] := by obtain ⟨cs, X, H, r⟩ := H; exact ⟨cs, X, H.blk t v, r⟩
theorem Lv.atBlk {b : Nat} {t : TypeId} {v : Array Value} (H : Lv w W h g L0 L [.blk b t v]) : Blk W b t v := by obtain ⟨cs, X, H, r⟩ := H; exact H.atBlk List.mem_cons_self
theorem Lv.less (H : Lv w W h g L0 L E) : Lv w W h g L0 L := by obtain ⟨cs, X, H, r⟩ := H; exact ⟨cs, X, H.less (fun f hf => List.mem_append_right _ hf), r⟩
/-- An item in a row. -/
def ItAt (W : World) (a j : Nat) (x : It) : Prop := W.cell? ⟨a, j * 3, none⟩ = some (.int .i64 x.id) ∧ W.cell? ⟨a, j * 3 + 1, none⟩ = some (.int .i64 x.fl) ∧ W.cell? ⟨a, j * 3 + 2, none⟩ = some (.int .i64 x.ct)
/-- The new row of a priority beside the one that was kept. -/
def LvRow (w : World) (h g : Nat) (L0 L : List It) (P : List It) (A : Option Addr) (n c : Nat) (W : World) : Prop := ∃ cs X, PS w W h 8 L (.row (.slice A n c) P :: .blk g 60 cs :: X) ∧ cs.size = 8 ∧ KeptRows L0 8 cs X
theorem LvRow.drop {P : List It} {n : Nat} (H : LvRow w h g L0 L P A n c W) : Lv w W h g L0 L := by
  obtain ⟨cs, X, H, r⟩ := H
  exact ⟨cs, X, H.less (fun f hf => List.mem_cons_of_mem _ hf), r⟩
theorem LvRow.below {P : List It} {n : Nat} {W' : World} (H : LvRow w h g L0 L P A n c W) (b : Below W.heap.size W W') : LvRow w h g L0 L P A n c W' := by obtain ⟨cs, X, H, r⟩ := H; exact ⟨cs, X, H.below b, r⟩
theorem LvRow.drew {P : List It} {n : Nat} (H : LvRow w h g L0 L P A n c W) : LvRow w h g L0 L P A n c W.drew := H.below (Below.refl _ W).drew
theorem LvRow.drewN {P : List It} {n : Nat} (H : LvRow w h g L0 L P A n c W) (q : Nat) : LvRow w h g L0 L P A n c (W.drewN q) := H.below ⟨rfl, rfl, rfl, Nat.le_refl _, fun _ _ => rfl⟩
theorem lv_row (H : Lv w W h g L0 L) {k : Nat} (hk : k < 8) : Calls Try.prog 25 #[.pointer (some ⟨h, 0, none⟩), .int .i64 (k : Int)] W fun e w' => ∃ A c, e = .returned (.slice A (ofP L k).length c) ∧ LvRow w h g L0 L (ofP L k) A (ofP L k).length c w' := by
  obtain ⟨cs, X, H, r⟩ := H
  refine (ps_list H (k : Int)).mono ?_
  rintro e w' ⟨A, c, rfl, H'⟩
  rw [listP_of hk] at H' ⊢
  exact ⟨A, c, rfl, cs, X, H', r⟩
/-- What a walk reads of both rows. -/
theorem LvRow.cells {n : Nat} (H : LvRow w h g L0 L (ofP L0 k) A n c W) (hk : k < 8) : ∃ A0 c0, W.cell? ⟨g, k, none⟩ = some (.slice A0 n c0) ∧ g < W.heap.size ∧
    ∀ j, j < n → ∃ a b x, A = some ⟨a, 0, none⟩ ∧ A0 = some ⟨b, 0, none⟩ ∧ ItAt W a j x ∧ ItAt W b j x := by
  obtain ⟨cs, X, H, h8, hr⟩ := H
  have hb := H.atBlk (List.mem_cons_of_mem _ List.mem_cons_self)
  obtain ⟨A0, c0, e0, m0⟩ := hr k hk
  obtain ⟨n1, f1⟩ := H.rowAt List.mem_cons_self
  obtain ⟨n2, f2⟩ := H.rowAt (List.mem_cons_of_mem _ (List.mem_cons_of_mem _ m0))
  subst n1
  refine ⟨A0, c0, by rw [hb.cell k]; exact e0, hb.lt, fun j hj => ?_⟩
  obtain ⟨a, rfl, _, fa⟩ := f1 (by omega)
  obtain ⟨b, rfl, _, fb⟩ := f2 (by omega)
  exact ⟨a, b, _, rfl, rfl, fa j _ (List.getElem?_eq_getElem hj), fb j _ (List.getElem?_eq_getElem hj)⟩
end

set_option maxHeartbeats 16000000 in
set_option maxRecDepth 100000 in
theorem leaves_any (w : World) (A1 A2 : Option Addr) (c1 c2 : Nat) (l1 l2 : List Int) (id p fl : Int) (hid : i64 id) (hp : i64 p) (hfl : i64 fl) (hn1 : l1.length ≤ 100) (hn2 : l1.length ≤ l2.length)
    (hA1 : ArgN .u16 65535 w A1 l1) (hA2 : ArgN .u8 255 w A2 l2) :
    Calls Try.prog 7 #[.slice A1 l1.length c1, .slice A2 l2.length c2, .int .i64 id, .int .i64 p, .int .i64 fl] w fun e w' => e = .returned (.bool true) ∧ Below w.heap.size w w' := by
  have HA1 := Lib.hid hA1
  have HA2 := Lib.hid hA2
  have hi1 : i64 1 := by unfold i64; omega
  have b100 : (l1.length : Int) ≤ 100 := by omega
  have b2 : (l1.length : Int) ≤ (l2.length : Int) := by omega
  clear hA1 hA2
  go_enter Try.func7, Try.ntmps7
  go_wp2_with fail
  refine (alive_any w).mono ?_
  rintro e w1 ⟨rfl, hb1⟩
  have HB1 := Lib.hid hb1
  clear hb1
  go_wp2_with fail
  refine (ps_new HB1.out 8 (by omega) (by omega)).mono ?_
  rintro e w2 ⟨h, rfl, hP⟩
  have H2 := Lib.hid hP
  clear hP
  go_wp2_with fail
  go_loopw [14] (fun i wr => ∃ k : Nat, i = .int .i64 (k : Int) ∧ k ≤ l1.length ∧ ∃ L, PS w wr h 8 L ∧ L.length ≤ k) (fun i _ => l1.length - (intOf i).toNat)
  case atStart => exact ⟨0, rfl, Nat.zero_le _, _, H2.out, by simp⟩
  case round =>
    obtain ⟨k, rfl, hk, L, hP, hl⟩ := hrel
    by_cases hlt : k < l1.length
    · obtain ⟨b, off, x, rfl, hbl, hz, hok, x0⟩ := HA1.out.at_ hP.b hlt
      obtain ⟨bb, boff, y, rfl, hbbl, hyz, hyok, y0⟩ := HA2.out.at_ hP.b (Nat.lt_of_lt_of_le hlt hn2)
      have b0 : (0 : Int) ≤ (k : Int) := by omega
      have b1 : (k : Int) < (l1.length : Int) := by omega
      have b3 : (k : Int) < (l2.length : Int) := by omega
      have HP := Lib.hid (And.intro (ps_put hP.drew (y % 8) x 1 1 (by unfold i64; omega) (by unfold i64; omega) hi1 hi1 (by omega)) hl)
      clear hP hz hl hyz
      go_wp2_with fail
      go_still_tail 12, (by kernel_rfl)
      change wpList _ _ _ _ _ wr.drew
      go_wp2_with fail
      refine HP.out.1.mono ?_
      rintro e w3 ⟨rfl, bk, hP3⟩
      have H3 := Lib.hid (And.intro hP3 (show _ ≤ k + 1 from Nat.le_trans (putS_len 8 L (y % 8) x 1 1 bk) (by have := HP.out.2; omega)))
      clear hP3
      go_wp2_with fail
      all_goals exact ⟨⟨k + 1, by go_num, by omega, _, H3.out⟩, by simp [intOf]; omega⟩
    · obtain rfl : k = l1.length := by omega
      have b1 : ¬ ((l1.length : Int) < (l1.length : Int)) := by omega
      have hlen : L.length ≤ 100 := by omega
      have HL := Lib.hid hlen
      have H3 := Lib.hid (LvTo.first hP)
      have HG := Lib.hid (show w.heap.size ≤ wr.heap.size from hP.b.size)
      clear hP hlen hl
      go_wp2_with fail
      obtain ⟨g, eg⟩ : ∃ g, g = wr.heap.size := ⟨_, rfl⟩
      rw [← eg] at H3 HG ⊢
      clear eg
      go_loopw [16] (fun i wz => ∃ k : Nat, i = .int .i64 (k : Int) ∧ k ≤ 8 ∧ LvTo w wz h g L k) (fun i _ => 8 - (intOf i).toNat)
      case atStart => exact ⟨0, rfl, Nat.zero_le _, H3.out⟩
      case round =>
        obtain ⟨k, rfl, hk, hT⟩ := hrel
        by_cases hlt : k < 8
        · have b0 : (0 : Int) ≤ (k : Int) := by omega
          have b1 : (k : Int) < 8 := by omega
          have HLi := Lib.hid (lv_list hT hlt)
          obtain ⟨n, en⟩ : ∃ n, n = (ofP L k).length := ⟨_, rfl⟩
          rw [← en] at HLi
          have EN := Lib.hid en
          clear hT en
          go_wp2_with fail
          refine HLi.out.mono ?_
          rintro e w3 ⟨A, c, rfl, hM⟩
          obtain ⟨v, v0, v1, vl⟩ := hM.cell hlt
          have H4 := Lib.hid (hM.store hlt)
          rw [← EN.out] at H4
          clear hM
          go_wp2_with fail
          all_goals exact ⟨⟨k + 1, by go_num, by omega, H4.out⟩, by simp [intOf]; omega⟩
        · obtain rfl : k = 8 := by omega
          have hV := hT.done
          have HV := Lib.hid hV
          have HH := Lib.hid (lv_has hV hid)
          clear hT
          cases hh : hasI L id with
          | true =>
            rw [hh] at HH
            clear hV
            go_wp2_with fail
            refine HH.out.mono ?_
            rintro e w4 ⟨rfl, hV4⟩
            have H4 := Lib.hid (hV4.alloc (.cells #[.int .i64 (hasX L id).id, .int .i64 (hasX L id).fl, .int .i64 (hasX L id).ct] 44))
            clear hV4
            go_wp2_with fail
            go_ret
            exact ⟨rfl, H4.out.b⟩
          | false =>
            rw [hh] at HH
            clear hV
            have HN := Lib.hid hh
            clear hh
            go_wp2_with fail
            refine HH.out.mono ?_
            rintro e w4 ⟨rfl, hV4⟩
            have H4 := Lib.hid (hV4.alloc (.cells #[.int .i64 (hasX L id).id, .int .i64 (hasX L id).fl, .int .i64 (hasX L id).ct] 44))
            clear hV4
            have hL := Lib.hid (lv_len H4.out)
            have i100 : (L.length : Int) ≤ 100 := by have := HL.out; omega
            cases hput : putOk 8 p id fl 1 with
            | false =>
              have hP := Lib.hid (lv_put_bad H4.out p fl 1 hp hid hfl hi1 (by have := HL.out; omega) hput)
              clear hput
              go_wp2_with (first
                | (go_at_call 21; refine hL.out.mono ?_; rintro e w' ⟨rfl, rfl⟩)
                | fail)
              refine hP.out.mono ?_
              rintro e w5 ⟨rfl, hV5⟩
              have hL5 := Lib.hid (lv_len hV5)
              have hC5 := Lib.hid (lv_cut_no hV5 hid HN.out)
              clear hV5
              go_wp2_with (first
                | (go_at_call 21; refine hL5.out.mono ?_; rintro e w' ⟨rfl, rfl⟩)
                | fail)
              refine hC5.out.mono ?_
              rintro e w6 ⟨rfl, hV6⟩
              have HV6 := Lib.hid hV6
              clear hV6
              go_wp2_with fail
              go_ret
              exact ⟨rfl, HV6.out.b⟩
            | true =>
              have hP := Lib.hid (lv_put_new H4.out p fl 1 hp hid hfl hi1 (by have := HL.out; omega) HN.out hput)
              clear hput
              go_wp2_with (first
                | (go_at_call 21; refine hL.out.mono ?_; rintro e w' ⟨rfl, rfl⟩)
                | fail)
              refine hP.out.mono ?_
              rintro e w5 ⟨rfl, x, ex, ep, hV5⟩
              have hx : hasI L x.id = false := by rw [ex]; exact HN.out
              obtain ⟨s1, s2, s3⟩ := snoc_has hx
              rw [ex] at s1 s2 s3
              have hH5 := lv_has hV5 hid
              rw [s1, s2, ex, ep] at hH5
              have HH5 := Lib.hid hH5
              have HS3 := Lib.hid (And.intro s1 s3)
              clear hV5 hH5 s1 s2 s3 hx ex ep
              go_wp2_with fail
              refine HH5.out.mono ?_
              rintro e w6 ⟨rfl, hV6⟩
              obtain ⟨xa, exa⟩ : ∃ xa, xa = w6.heap.size := ⟨_, rfl⟩
              have hV6 := hV6.blk 44 #[.int .i64 id, .int .i64 x.fl, .int .i64 x.ct]
              rw [← exa] at hV6
              have H6 := Lib.hid hV6
              have hC := lv_cut H6.out hid
              rw [HS3.out.1, HS3.out.2] at hC
              have HC := Lib.hid hC
              clear hV6 hC
              go_wp2_with fail
              rw [← exa]
              clear exa
              refine HC.out.mono ?_
              rintro e w7 ⟨rfl, hV7⟩
              have x0 : w7.cell? ⟨xa, 0, none⟩ = some (.int .i64 id) := hV7.atBlk.cell 0
              have hC7 := Lib.hid (lv_cut_no hV7 hid HN.out)
              clear hV7
              go_wp2_with fail
              refine hC7.out.mono ?_
              rintro e w8 ⟨rfl, hV8⟩
              have H8 := Lib.hid hV8.less
              have hL8 := Lib.hid (lv_len hV8)
              clear hV8 x0
              go_wp2_with (first
                | (go_at_call 21; refine hL8.out.mono ?_; rintro e w' ⟨rfl, rfl⟩)
                | fail)
              go_loopw [26] (fun i wz => ∃ k : Nat, i = .int .i64 (k : Int) ∧ k ≤ 8 ∧ Lv w wz h g L L) (fun i _ => 8 - (intOf i).toNat)
              case atStart => exact ⟨0, rfl, Nat.zero_le _, H8.out⟩
              case round =>
                obtain ⟨k, rfl, hk, hV⟩ := hrel
                by_cases hlt : k < 8
                · have b0 : (0 : Int) ≤ (k : Int) := by omega
                  have b1 : (k : Int) < 8 := by omega
                  have HR := Lib.hid (lv_row hV hlt)
                  obtain ⟨n, en⟩ : ∃ n, n = (ofP L k).length := ⟨_, rfl⟩
                  rw [← en] at HR
                  have n100 : (n : Int) ≤ 100 := by have : (ofP L k).length ≤ L.length := List.length_filter_le _ _; have := HL.out; omega
                  clear hV en
                  go_wp2_with fail
                  refine HR.out.mono ?_
                  rintro e w9 ⟨A, c, rfl, hR9⟩
                  obtain ⟨A0, c0, g0, gl, _⟩ := hR9.cells hlt
                  have H9 := Lib.hid hR9
                  clear hR9
                  go_wp2_with fail
                  clear g0 gl
                  go_loopw [28] (fun i wy => ∃ j : Nat, i = .int .i64 (j : Int) ∧ j ≤ n ∧ LvRow w h g L L (ofP L k) A n c wy) (fun i _ => n - (intOf i).toNat)
                  case atStart => exact ⟨0, rfl, Nat.zero_le _, H9.out⟩
                  case round =>
                    obtain ⟨j, rfl, hj, hR⟩ := hrel
                    by_cases hlj : j < n
                    · obtain ⟨A1, c1, g0, gl, hc⟩ := hR.cells hlt
                      obtain ⟨a, b, y, rfl, rfl, ⟨a0, a1, a2⟩, ⟨e0, e1, e2⟩⟩ := hc j hlj
                      have d0 : (0 : Int) ≤ (j : Int) := by omega
                      have d1 : (j : Int) < (n : Int) := by omega
                      have HRR := Lib.hid hR
                      clear hR hc
                      go_wp2_with fail
                      go_big_quiet (fail)
                      go_wp2_with fail
                      all_goals exact ⟨⟨j + 1, by go_num, by omega, HRR.out.drewN _⟩, by simp [intOf]; omega⟩
                    · obtain rfl : j = n := by omega
                      have d1 : ¬ ((j : Int) < (j : Int)) := by omega
                      have HRR := Lib.hid hR.drop
                      clear hR
                      go_wp2_with fail
                      go_roundw
                      case rel => exact ⟨k + 1, by go_num, by omega, HRR.out⟩
                      case measure => simp [intOf]; omega
                · obtain rfl : k = 8 := by omega
                  have HV8 := Lib.hid hV
                  clear hV
                  go_wp2_with fail
                  go_ret
                  exact ⟨rfl, HV8.out.b⟩

set_option maxHeartbeats 4000000 in
set_option maxRecDepth 100000 in
theorem leaves_out (w : World) (A1 A2 : Option Addr) (n1 n2 c1 c2 : Nat) (id p fl : Int) (h : 100 < n1 ∨ n2 < n1) :
    Calls Try.prog 7 #[.slice A1 n1 c1, .slice A2 n2 c2, .int .i64 id, .int .i64 p, .int .i64 fl] w fun e w' => e = .returned (.bool true) ∧ Below w.heap.size w w' := by
  by_cases h1 : 100 < n1
  · have h3 : (100 : Int) < (n1 : Int) := by omega
    go_enter Try.func7, Try.ntmps7
    go_wp2_with fail
    refine (alive_any w).mono ?_
    rintro e w1 ⟨rfl, hb1⟩
    go_wp2_with fail
    go_ret
    exact ⟨rfl, hb1⟩
  · have h3 : (n1 : Int) ≤ 100 := by omega
    have h4 : n2 < n1 := by omega
    go_enter Try.func7, Try.ntmps7
    go_wp2_with fail
    refine (alive_any w).mono ?_
    rintro e w1 ⟨rfl, hb1⟩
    go_wp2_with fail
    go_ret
    exact ⟨rfl, hb1⟩
theorem leaves_law (w : World) (A1 A2 : Option Addr) (c1 c2 : Nat) (l1 l2 : List Int) (id p fl : Int) (hid : i64 id) (hp : i64 p) (hfl : i64 fl) (hA1 : ArgN .u16 65535 w A1 l1) (hA2 : ArgN .u8 255 w A2 l2) :
    Calls Try.prog 7 #[.slice A1 l1.length c1, .slice A2 l2.length c2, .int .i64 id, .int .i64 p, .int .i64 fl] w fun e w' => e = .returned (.bool true) ∧ Below w.heap.size w w' := by
  by_cases h : 100 < l1.length ∨ l2.length < l1.length
  · exact leaves_out w A1 A2 _ _ c1 c2 id p fl h
  · exact leaves_any w A1 A2 c1 c2 l1 l2 id p fl hid hp hfl (by omega) (by omega) hA1 hA2
end Go.Proofs.Ytlkmmbondelheaa
