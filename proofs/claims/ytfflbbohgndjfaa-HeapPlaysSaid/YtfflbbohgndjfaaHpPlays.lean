/-
  HeapPlays.
-/
import Derived.Test.YtfflbbohgndjfaaHpSwA
import Derived.Test.YtfflbbohgndjfaaHpSwB
import Derived.Deep.DeepCutAuto
import Derived.Deep.CutBlock
import Derived.BigQuiet
namespace Go.Proofs.Ytfflbbohgndjfaa
open Go.RowKit Go.Maps Go.ChangeMaps Go.Sort

/-- A call, as the law takes it. -/
structure Cal where
  k : Int
  x : It
def ArgOps (w : World) (A : Option Addr) (l : List Cal) : Prop :=
  (∀ c ∈ l, c.x.Ok) ∧ (0 < l.length → ∃ b off, A = some ⟨b, off, none⟩ ∧ b < w.heap.size ∧
    ∀ i c, l[i]? = some c → w.cell? ⟨b, off + i * 4, none⟩ = some (.int .i64 c.k) ∧ w.cell? ⟨b, off + i * 4 + 1, none⟩ = some (.int .i64 c.x.id) ∧ w.cell? ⟨b, off + i * 4 + 2, none⟩ = some (.int .u64 c.x.d) ∧ w.cell? ⟨b, off + i * 4 + 3, none⟩ = some (.int .u64 c.x.n))

/-- A row with so many cells. -/
def RowZ (w : World) (g n : Nat) : Prop := ∃ cs : Array Value, w.heap[g]? = some (.cells cs 31 (0, 0)) ∧ n ≤ cs.size
theorem own_rowZ {w : World} {B n c : Nat} {A : Option Addr} {P : List It} (h : OwnIt w B (.slice A n c) P) (h0 : 0 < P.length) : ∃ g, A = some ⟨g, 0, none⟩ ∧ B ≤ g ∧ RowZ w g (P.length * 3) := by
  rcases h.2 with ⟨_, e⟩ | ⟨g, cap, cur, e, hg, hh, hc, hm, hs, _⟩
  · omega
  · injection e with e1
    exact ⟨g, e1, hg, cur, hh, by omega⟩
theorem rowZ_set {w : World} {g n : Nat} {cs : Array Value} (h : w.heap[g]? = some (.cells cs 31 (0, 0))) (hs : n ≤ cs.size) (a b c : Nat) (x y z : Value) :
    RowZ (((w.setCell ⟨g, a, none⟩ x).setCell ⟨g, b, none⟩ y).setCell ⟨g, c, none⟩ z) g n :=
  ⟨_, Blk.set_ (Blk.set_ (Blk.set_ h a x) b y) c z, by simpa using hs⟩
theorem row_three {w : World} {g n j : Nat} {cs : Array Value} (h : w.heap[g]? = some (.cells cs 31 (0, 0))) (hs : n * 3 ≤ cs.size) (hj : j < n) :
    w.cell? ⟨g, j * 3, none⟩ = cs[j * 3]? ∧ w.cell? ⟨g, j * 3 + 1, none⟩ = cs[j * 3 + 1]? ∧ w.cell? ⟨g, j * 3 + 2, none⟩ = cs[j * 3 + 2]? ∧ w.frozen? ⟨g, j * 3, none⟩ = false ∧ w.frozen? ⟨g, j * 3 + 1, none⟩ = false ∧ w.frozen? ⟨g, j * 3 + 2, none⟩ = false ∧ g < w.heap.size :=
  ⟨Blk.cell h _, Blk.cell h _, Blk.cell h _, Blk.frozen h _, Blk.frozen h _, Blk.frozen h _, Blk.lt h⟩

set_option maxHeartbeats 4000000 in
set_option maxRecDepth 100000 in
theorem plays_long (w : World) (A : Option Addr) (n c : Nat) (hn : 200 < n) : Calls Try.prog 3 #[.slice A n c] w fun e w' => e = .returned (.bool true) ∧ Below w.heap.size w w' := by
  have hn' : (200 : Int) < (n : Int) := by omega
  go_enter Try.func3, Try.ntmps3
  go_wp2_with fail
  go_ret
  exact ⟨rfl, Below.refl _ _⟩

set_option maxHeartbeats 32000000 in
set_option maxRecDepth 100000 in
theorem plays_any (w : World) (A : Option Addr) (c : Nat) (l : List Cal) (hA : ArgOps w A l) (hn : l.length ≤ 200) :
    Calls Try.prog 3 #[.slice A l.length c] w fun e w' => e = .returned (.bool true) ∧ Below w.heap.size w w' := by
  have hn' : ¬ (200 : Int) < (l.length : Int) := by omega
  have HA := Lib.hid hA
  clear hA
  go_enter Try.func3, Try.ntmps3
  go_wp2_with fail
  refine (new_any w w.heap.size (Nat.le_refl _)).mono ?_
  rintro e w1 ⟨h, q, m, v0, rfl, H1, hb1, -⟩
  have P0 := Lib.hid (pl_new H1 hb1)
  obtain ⟨r, er⟩ : ∃ r, r = w1.heap.size := ⟨_, rfl⟩
  rw [← er] at P0
  have ER := Lib.hid er
  clear H1 hb1 er
  go_wp2_with fail
  rw [← ER.out]
  go_loopw [37] (fun i wr => ∃ k : Nat, i = .int .i64 (k : Int) ∧ k ≤ l.length ∧ ∃ v vr S, Pl w wr h q m v S r vr S ∧ S.length ≤ k) (fun i _ => l.length - (intOf i).toNat)
  case atStart => exact ⟨0, rfl, Nat.zero_le _, v0, _, [], P0.out, Nat.le_refl _⟩
  case round =>
    obtain ⟨k, rfl, hk, v, vr, S, P, hS⟩ := hrel
    by_cases hlt : k < l.length
    · obtain ⟨b, off, rfl, hbl, hcell⟩ := HA.out.2 (by omega)
      have hz := List.getElem?_eq_getElem hlt
      obtain ⟨z, ez⟩ : ∃ z, z = l[k] := ⟨_, rfl⟩
      rw [← ez] at hz
      obtain ⟨x0, x1, x2, x3⟩ := hcell k z hz
      have hok := HA.out.1 z (List.mem_of_getElem? hz)
      have x0 := (P.b.cell (p := ⟨b, _, none⟩) hbl).trans x0
      have x1 := (P.b.cell (p := ⟨b, _, none⟩) hbl).trans x1
      have x2 := (P.b.cell (p := ⟨b, _, none⟩) hbl).trans x2
      have x3 := (P.b.cell (p := ⟨b, _, none⟩) hbl).trans x3
      have hblr : b < wr.heap.size := Nat.lt_of_lt_of_le hbl P.b.size
      obtain ⟨kd, x⟩ := z
      dsimp only at x0 x1 x2 x3 hok
      have b0 : (0 : Int) ≤ (k : Int) := by omega
      have b1 : (k : Int) < (l.length : Int) := by omega
      have HP := Lib.hid (P.new #[.int .i64 x.id, .int .u64 x.d, .int .u64 x.n])
      have HQ := Lib.hid (And.intro hok (And.intro P.H.uniq (And.intro P.H.srt (And.intro hS (show S.length < 1000 by omega)))))
      obtain ⟨xb, exb⟩ : ∃ xb, xb = wr.heap.size := ⟨_, rfl⟩
      obtain ⟨W, eW⟩ : ∃ W, W = wr.alloc (.cells #[.int .i64 x.id, .int .u64 x.d, .int .u64 x.n] 31) := ⟨_, rfl⟩
      rw [← exb, ← eW] at HP
      have EW := Lib.hid (And.intro exb eW)
      have x0' : W.cell? ⟨b, off + k * 4, none⟩ = some (.int .i64 kd) := by rw [eW]; exact (((Below.refl _ wr).alloc (Nat.le_refl _) _).cell (p := ⟨b, _, none⟩) (Nat.lt_of_lt_of_le hbl P.b.size)).trans x0
      clear hcell ez hz exb eW hS P hok
      go_upto_block 2 with fail
      rw [← EW.out.1, ← EW.out.2]
      go_cut [7] (fun s7 wx => s7 = .bool true ∧ ∃ v' vr' S', Pl w wx h q m v' S' r vr' S' ∧ S'.length ≤ k + 1)
      case first =>
        rename_i J1 K1 hJ hM
        have HQ1 : Hid (x.Ok ∧ Uniq S ∧ Srt S ∧ S.length ≤ k ∧ S.length < 1000) := HQ
        by_cases hkd : kd = 0 ∨ kd = 1 ∨ kd = 2
        ·
          refine sw_a _ _ _ _ _ _ _ _ _ _ _ _ _ _ _ _ _ _ _ _ _ _ _ _ _ _ _ _ _ _ _ _ _ _ _ _ _ _ _ _ _ _ _ _ _ _ _ _ _ _ _ _ _ _ _ _ _ _ _ _ _ _ _ _ _ _ _ _ _ _ _ _ _ _ _ _ _ _ _ _ _ _ _ _ _ _ _ _ _ _ _ _ _ _ _ _ _ _ _ _ _ _ _ _ _ _ _ _ _ _ _ _ _ _ _ _ _ _ _ _ _ _ _ _ _ _ _ _ _ _ _ _ _ _ _ _ _ _ _ _ _ _ _ _ _ _ _ _ _ _ _ _ _ _ _ _ _ _ _ _ _ _ _ _ _ _ _ _ _ _ _ _ _ _ _ _ _ _ _ _ _ _ _ _ _ _ _ _ _ _ _ _ _ _ _ _ _ _ _ _ _ _ _ _ _ _ _ _ _ _ _ _ _ _ w W h q m r xb k v vr S kd x _ _ HP HQ1 hkd ?_
          intro d7 d8 d9 d10 d11 d12 d13 d14 d15 d16 d17 d18 d19 d20 d21 d22 d50 d51 d52 d53 d54 d55 d56 d57 d58 d59 d60 d61 d62 d63 d64 d65 d66 d67 d68 d69 d70 d71 d72 d73 d74 d75 d76 d77 d78 d79 d80 d81 d82 d83 d84 d85 d86 d87 d88 d89 d90 d91 d92 d93 d94 d95 d96 d97 d98 d99 d100 d101 d102 d103 d104 d105 d106 d107 d108 d109 d110 d111 d112 d113 d114 d115 d116 d117 d118 d119 d120 d121 d122 d123 d124 d125 d126 d127 d128 d129 d130 d131 d132 d133 d134 d135 d136 d137 d138 d139 d140 d141 d142 d143 d144 d145 d146 d147 d148 d149 d150 d151 d152 d153 d154 d155 d156 d157 d158 d159 d160 d161 d162 d163 d164 w' hd7 hsw
          obtain ⟨v', vr', S', P', hS'⟩ := hsw
          exact hM _ _ (hJ _ _ ⟨_, _, _, _, _, _, _, _, _, _, _, _, _, _, _, _, _, _, _, _, _, _, _, _, _, _, _, _, _, _, _, _, _, _, _, _, _, _, _, _, _, _, _, _, _, _, _, _, _, _, _, _, _, _, _, _, _, _, _, _, _, _, _, _, _, _, _, _, _, _, _, _, _, _, _, _, _, _, _, _, _, _, _, _, _, _, _, _, _, _, _, _, _, _, _, _, _, _, _, _, _, _, _, _, _, _, _, _, _, _, _, _, _, _, _, _, _, _, _, _, _, _, _, _, _, _, _, _, _, _, _, _, _, _, _, _, _, _, _, _, _, _, _, _, _, _, _, _, _, _, _, _, _, _, _, _, _, _, _, _, _, _, _, _, _, _, _, _, _, _, _, _, _, _, _, _, _, _, _, _, _, _, _, _, _, _, _, _, _, _, _, _, _, _, ⟨hd7, v', vr', S', P', hS'⟩, rfl⟩)
        · have n0 : (kd == 0) = false := by rw [beq_eq_false_iff_ne]; exact fun e => hkd (.inl e)
          have n1 : (kd == 1) = false := by rw [beq_eq_false_iff_ne]; exact fun e => hkd (.inr (.inl e))
          have n2 : (kd == 2) = false := by rw [beq_eq_false_iff_ne]; exact fun e => hkd (.inr (.inr e))
          refine sw_b _ _ _ _ _ _ _ _ _ _ _ _ _ _ _ _ _ _ _ _ _ _ _ _ _ _ _ _ _ _ _ _ _ _ _ _ _ _ _ _ _ _ _ _ _ _ _ _ _ _ _ _ _ _ _ _ _ _ _ _ _ _ _ _ _ _ _ _ _ _ _ _ _ _ _ _ _ _ _ _ _ _ _ _ _ _ _ _ _ _ _ _ _ _ _ _ _ _ _ _ _ _ _ _ _ _ _ _ _ _ _ _ _ _ _ _ _ _ _ _ _ _ _ _ _ _ _ _ _ _ _ _ _ _ _ _ _ _ _ _ _ _ _ _ _ _ _ _ _ _ _ _ _ _ _ _ _ _ _ _ _ _ _ _ _ _ _ _ _ _ _ _ _ _ _ _ _ _ _ _ _ _ _ _ _ _ _ _ _ _ _ _ _ _ _ _ _ _ _ _ _ _ _ _ _ _ _ _ _ _ _ _ _ _ w W h q m r xb k v vr S kd x _ _ HP HQ1 n0 n1 n2 (by omega) ?_
          intro d7 d8 d9 d10 d11 d12 d13 d14 d15 d16 d17 d18 d19 d20 d21 d22 d50 d51 d52 d53 d54 d55 d56 d57 d58 d59 d60 d61 d62 d63 d64 d65 d66 d67 d68 d69 d70 d71 d72 d73 d74 d75 d76 d77 d78 d79 d80 d81 d82 d83 d84 d85 d86 d87 d88 d89 d90 d91 d92 d93 d94 d95 d96 d97 d98 d99 d100 d101 d102 d103 d104 d105 d106 d107 d108 d109 d110 d111 d112 d113 d114 d115 d116 d117 d118 d119 d120 d121 d122 d123 d124 d125 d126 d127 d128 d129 d130 d131 d132 d133 d134 d135 d136 d137 d138 d139 d140 d141 d142 d143 d144 d145 d146 d147 d148 d149 d150 d151 d152 d153 d154 d155 d156 d157 d158 d159 d160 d161 d162 d163 d164 w' hd7 hsw
          obtain ⟨v', vr', S', P', hS'⟩ := hsw
          exact hM _ _ (hJ _ _ ⟨_, _, _, _, _, _, _, _, _, _, _, _, _, _, _, _, _, _, _, _, _, _, _, _, _, _, _, _, _, _, _, _, _, _, _, _, _, _, _, _, _, _, _, _, _, _, _, _, _, _, _, _, _, _, _, _, _, _, _, _, _, _, _, _, _, _, _, _, _, _, _, _, _, _, _, _, _, _, _, _, _, _, _, _, _, _, _, _, _, _, _, _, _, _, _, _, _, _, _, _, _, _, _, _, _, _, _, _, _, _, _, _, _, _, _, _, _, _, _, _, _, _, _, _, _, _, _, _, _, _, _, _, _, _, _, _, _, _, _, _, _, _, _, _, _, _, _, _, _, _, _, _, _, _, _, _, _, _, _, _, _, _, _, _, _, _, _, _, _, _, _, _, _, _, _, _, _, _, _, _, _, _, _, _, _, _, _, _, _, _, _, _, _, _, ⟨hd7, v', vr', S', P', hS'⟩, rfl⟩)
      case rest =>
        obtain ⟨rfl, v', vr', S', P', hS'⟩ := hcut
        clear HP HQ x0 x1 x2 x3 x0' hblr
        have hu := P'.H.uniq
        have hsr := P'.H.srt
        have HQ2 := Lib.hid (And.intro hS' (And.intro hu hsr))
        have F0 := Lib.hid P'
        clear hu hsr P' hS'
        cases hSe : S' with
        | nil =>
          subst hSe
          have hc1 := Lib.hid (top_none F0.out.H)
          go_wp2_with fail
          refine hc1.out.mono ?_
          rintro e w2 ⟨rfl, hb2⟩
          have N2 := (F0.out.below hb2).new #[.int .i64 0, .int .u64 0, .int .u64 0]
          have hc2 := Lib.hid (rtop_none N2.2.R)
          have F2 := Lib.hid N2
          clear N2 hb2
          go_wp2_with fail
          refine hc2.out.mono ?_
          rintro e w3 ⟨rfl, hb3⟩
          have N3 := (F2.out.2.below hb3).new #[.int .i64 0, .int .u64 0, .int .u64 0]
          have A3 := (F2.out.1.below hb3).alloc (.cells #[.int .i64 0, .int .u64 0, .int .u64 0] 31)
          obtain ⟨W3, eW3⟩ : ∃ W3, W3 = w3.alloc (.cells #[.int .i64 0, .int .u64 0, .int .u64 0] 31) := ⟨_, rfl⟩
          rw [← eW3] at N3 A3
          have hc3 := Lib.hid (all_any N3.2.H)
          have F3 := Lib.hid (And.intro N3 A3)
          have E3 := Lib.hid eW3
          clear N3 A3 hb3 eW3
          go_wp2_with fail
          rw [← E3.out]
          refine hc3.out.mono ?_
          rintro e w4 ⟨u, rfl, O4, hb4⟩
          have P4 := F3.out.1.2.below hb4
          obtain ⟨s0, s1, s2, sl⟩ := (F3.out.1.1.below hb4).c3
          obtain ⟨p0, p1, p2, pl⟩ := (F3.out.2.below hb4).c3
          obtain ⟨A4, c4, hu4, hsh4, -⟩ := O4.shows
          subst hu4
          obtain ⟨Ar, cr, hvr, hshr, -⟩ := P4.R.row.shows
          subst hvr
          have r0 : w4.cell? ⟨r, 0, none⟩ = some (.slice Ar 0 cr) := P4.R.blk.cell 0
          have HLen : ∀ n, Calls Try.prog 26 #[.pointer (some ⟨h, 0, none⟩)] (w4.drewN n) fun e w'' => e = .returned (.int .i64 0) ∧ ∃ j, w'' = w4.drewN j := fun n =>
            (len_any (P4.H.below (below_drewN (Below.refl _ w4) n))).mono fun e w'' ⟨he, hw⟩ => ⟨he, n, hw.symm⟩
          have HSame : ∀ n, Calls Try.prog 22 #[.slice A4 0 c4, .slice Ar 0 cr] (w4.drewN n) fun e w'' => e = .returned (.bool true) ∧ ∃ j, w'' = w4.drewN j := fun n =>
            (same_yes (w4.drewN n) A4 Ar c4 cr [] (by simp) (hsh4.below (below_drewN (Below.refl _ w4) n)) (hshr.below (below_drewN (Below.refl _ w4) n))).mono fun e w'' ⟨he, j, hw⟩ => ⟨he, n + j, by rw [hw, World.drewN_drewN]⟩
          have HL := Lib.hid HLen
          have HS := Lib.hid HSame
          have F4 := Lib.hid hb4
          have rl := P4.R.blk.lt
          simp only [List.length_nil]
          clear HLen HSame P4 O4 hb4 hsh4 hshr
          go_wp2_with fail
          go_quiet ((first
            | (go_at_call 26; exact HL.out _)
            | (go_at_call 22; exact HS.out _)))
          go_wp2_with fail
          go_loopw [210] (fun i wq => i = .int .i64 0 ∧ Below W3.heap.size W3 wq) (fun _ _ => 0)
          case atStart => exact ⟨rfl, F4.out.trans (below_drewN (Below.refl _ _) _)⟩
          case round =>
            obtain ⟨rfl, hbq⟩ := hrel
            have P5 := F3.out.1.2.below hbq
            have F5 := Lib.hid P5
            clear P5 hbq
            go_wp2_with fail
            go_roundw
            case rel => exact ⟨k + 1, by go_num, by omega, v', _, [], F5.out, HQ2.out.1⟩
            case measure => simp [intOf]; omega
        | cons y T =>
          subst hSe
          have hc1 := Lib.hid (top_some F0.out.H)
          go_wp2_with fail
          refine hc1.out.mono ?_
          rintro e w2 ⟨rfl, hb2⟩
          have N2 := (F0.out.below hb2).new #[.int .i64 y.id, .int .u64 y.d, .int .u64 y.n]
          have hc2 := Lib.hid (rtop_some N2.2.R)
          have F2 := Lib.hid N2
          clear N2 hb2
          go_wp2_with fail
          refine hc2.out.mono ?_
          rintro e w3 ⟨rfl, hb3⟩
          have N3 := (F2.out.2.below hb3).new #[.int .i64 y.id, .int .u64 y.d, .int .u64 y.n]
          have A3 := (F2.out.1.below hb3).alloc (.cells #[.int .i64 y.id, .int .u64 y.d, .int .u64 y.n] 31)
          obtain ⟨W3, eW3⟩ : ∃ W3, W3 = w3.alloc (.cells #[.int .i64 y.id, .int .u64 y.d, .int .u64 y.n] 31) := ⟨_, rfl⟩
          rw [← eW3] at N3 A3
          have hc3 := Lib.hid (all_any N3.2.H)
          have F3 := Lib.hid (And.intro N3 A3)
          have E3 := Lib.hid eW3
          clear N3 A3 hb3 eW3
          go_wp2_with fail
          rw [← E3.out]
          refine hc3.out.mono ?_
          rintro e w4 ⟨u, rfl, O4, hb4⟩
          have P4 := F3.out.1.2.below hb4
          obtain ⟨s0, s1, s2, sl⟩ := (F3.out.1.1.below hb4).c3
          obtain ⟨p0, p1, p2, pl⟩ := (F3.out.2.below hb4).c3
          obtain ⟨A4, c4, hu4, hsh4, -⟩ := O4.shows
          subst hu4
          obtain ⟨Ar, cr, hvr, hshr, -⟩ := P4.R.row.shows
          subst hvr
          have r0 : w4.cell? ⟨r, 0, none⟩ = some (.slice Ar (y :: T).length cr) := P4.R.blk.cell 0
          have hTl : (y :: T).length ≤ 100000 := by have := HQ2.out.1; omega
          have HLen : ∀ n, Calls Try.prog 26 #[.pointer (some ⟨h, 0, none⟩)] (w4.drewN n) fun e w'' => e = .returned (.int .i64 ((y :: T).length : Int)) ∧ ∃ j, w'' = w4.drewN j := fun n =>
            (len_any (P4.H.below (below_drewN (Below.refl _ w4) n))).mono fun e w'' ⟨he, hw⟩ => ⟨he, n, hw.symm⟩
          have HSame : ∀ n, Calls Try.prog 22 #[.slice A4 (y :: T).length c4, .slice Ar (y :: T).length cr] (w4.drewN n) fun e w'' => e = .returned (.bool true) ∧ ∃ j, w'' = w4.drewN j := fun n =>
            (same_yes (w4.drewN n) A4 Ar c4 cr (y :: T) hTl (hsh4.below (below_drewN (Below.refl _ w4) n)) (hshr.below (below_drewN (Below.refl _ w4) n))).mono fun e w'' ⟨he, j, hw⟩ => ⟨he, n + j, by rw [hw, World.drewN_drewN]⟩
          have HL := Lib.hid HLen
          have HS := Lib.hid HSame
          obtain ⟨g, hA4, hgB, hrow4⟩ : ∃ g, A4 = some ⟨g, 0, none⟩ ∧ W3.heap.size ≤ g ∧ RowZ w4 g ((y :: T).length * 3) := own_rowZ O4 (by simp)
          subst hA4
          have F4 := Lib.hid (And.intro hb4 hrow4)
          have HG := Lib.hid hgB
          have rl := P4.R.blk.lt
          obtain ⟨N, hN⟩ : ∃ N, (y :: T).length = N := ⟨_, rfl⟩
          have HN := Lib.hid hN
          rw [hN] at r0 HL HS ⊢
          clear HLen HSame P4 O4 hb4 hsh4 hshr hN hTl hrow4 hgB
          go_wp2_with fail
          go_quiet ((first
            | (go_at_call 26; exact HL.out _)
            | (go_at_call 22; exact HS.out _)))
          have N200 : N ≤ 1000 := by have := HN.out; have := HQ2.out.1; omega
          go_wp2_with fail
          go_loopw [210] (fun i wq => ∃ j : Nat, i = .int .i64 (j : Int) ∧ j ≤ N ∧ Below W3.heap.size W3 wq ∧ RowZ wq g (N * 3)) (fun i _ => N - (intOf i).toNat)
          case atStart => exact ⟨0, rfl, Nat.zero_le _, F4.out.1.trans (below_drewN (Below.refl _ _) _), by have := F4.out.2; rw [HN.out] at this; exact this⟩
          case round =>
            obtain ⟨j, rfl, hj, hbq, hrq⟩ := hrel
            by_cases hlt : j < N
            · obtain ⟨cs, hcs, hsz⟩ := hrq
              obtain ⟨g0, g1, g2, f0, f1, f2, gl⟩ := row_three hcs hsz hlt
              obtain ⟨q0, hq0⟩ : ∃ q0, cs[j * 3]? = some q0 := ⟨_, Array.getElem?_eq_getElem (by omega)⟩
              obtain ⟨q1, hq1⟩ : ∃ q1, cs[j * 3 + 1]? = some q1 := ⟨_, Array.getElem?_eq_getElem (by omega)⟩
              obtain ⟨q2, hq2⟩ : ∃ q2, cs[j * 3 + 2]? = some q2 := ⟨_, Array.getElem?_eq_getElem (by omega)⟩
              rw [hq0] at g0
              rw [hq1] at g1
              rw [hq2] at g2
              have HB := Lib.hid (And.intro hbq (And.intro hcs hsz))
              have b0 : (0 : Int) ≤ (j : Int) := by omega
              have b1 : (j : Int) < (N : Int) := by omega
              clear hbq hcs hsz hq0 hq1 hq2
              go_wp2_with fail
              go_roundw
              case rel => exact ⟨j + 1, by go_num, by omega, ((HB.out.1.setCell HG.out _).setCell HG.out _).setCell HG.out _, rowZ_set HB.out.2.1 HB.out.2.2 _ _ _ _ _ _⟩
              case measure => simp [intOf]; omega
            · have P5 := F3.out.1.2.below hbq
              have F5 := Lib.hid P5
              clear P5 hbq hrq
              go_wp2_with fail
              go_roundw
              case rel => exact ⟨k + 1, by go_num, by omega, v', _, y :: T, F5.out, HQ2.out.1⟩
              case measure => simp [intOf]; omega
    · have hkl : k = l.length := by omega
      subst hkl
      clear hk
      have F0 := Lib.hid P
      have HB := Lib.hid P.b
      clear P
      go_wp2_with fail
      go_ret
      exact ⟨rfl, HB.out⟩
end Go.Proofs.Ytfflbbohgndjfaa
