/-
  PrioPlays.
-/
import Derived.Test.YtlkmmbondelheaaPrPl
import Derived.Deep.CutBlock
import Derived.Deep.RegionHeld3
import Derived.Deep.DeepCutAuto
namespace Go.Proofs.Ytlkmmbondelheaa
open Go.RowKit Go.Maps Go.ChangeMaps Go.Shelf

def encC (x : Cal) : Array Value := #[.int .i64 x.k, .int .i64 x.pr, .int .i64 x.id, .int .i64 x.fl, .int .i64 x.ct]
def XB (xk : Nat) (x : Cal) : Lb := ⟨xk, 33, encC x⟩
theorem xb_cells {w W : World} {h r many xk : Nat} {v : Value} {L S : List It} {bs : List Lb} {x : Cal} (H : Pl w W h r many v L S bs) (hb : XB xk x ∈ bs) :
    W.cell? ⟨xk, 0, none⟩ = some (.int .i64 x.k) ∧ W.cell? ⟨xk, 1, none⟩ = some (.int .i64 x.pr) ∧ W.cell? ⟨xk, 2, none⟩ = some (.int .i64 x.id) ∧ W.cell? ⟨xk, 3, none⟩ = some (.int .i64 x.fl) ∧ W.cell? ⟨xk, 4, none⟩ = some (.int .i64 x.ct) ∧ xk < W.heap.size := by
  have b := H.at_ hb
  exact ⟨b.cell 0, b.cell 1, b.cell 2, b.cell 3, b.cell 4, b.lt⟩
theorem xk_c4 {w W : World} {h r many xk : Nat} {v : Value} {L S : List It} {bs : List Lb} {x : Cal} (H : Pl w W h r many v L S bs) (hb : XB xk x ∈ bs) :
    W.cell? ⟨xk, 1, none⟩ = some (.int .i64 x.pr) ∧ W.cell? ⟨xk, 2, none⟩ = some (.int .i64 x.id) ∧ W.cell? ⟨xk, 3, none⟩ = some (.int .i64 x.fl) ∧ W.cell? ⟨xk, 4, none⟩ = some (.int .i64 x.ct) := by
  have b := H.at_ hb
  exact ⟨b.cell 1, b.cell 2, b.cell 3, b.cell 4⟩
theorem xk_c2 {w W : World} {h r many xk : Nat} {v : Value} {L S : List It} {bs : List Lb} {x : Cal} (H : Pl w W h r many v L S bs) (hb : XB xk x ∈ bs) :
    W.cell? ⟨xk, 1, none⟩ = some (.int .i64 x.pr) ∧ W.cell? ⟨xk, 2, none⟩ = some (.int .i64 x.id) := by
  have b := H.at_ hb
  exact ⟨b.cell 1, b.cell 2⟩
theorem xk_c1 {w W : World} {h r many xk : Nat} {v : Value} {L S : List It} {bs : List Lb} {x : Cal} (H : Pl w W h r many v L S bs) (hb : XB xk x ∈ bs) :
    W.cell? ⟨xk, 2, none⟩ = some (.int .i64 x.id) := (H.at_ hb).cell 2
theorem batchL_len (L : List It) : (batchL L).length ≤ L.length := by
  unfold batchL
  split
  · simp
  · exact List.length_filter_le _ _
theorem pl_s9 {w W : World} {h r many za ya n c : Nat} {A : Option Addr} {v : Value} {L S : List It} {bs : List Lb} {y : It} (hv : v = .slice A n c)
    (H : Pl w W h r many v L S (⟨za, 48, #[.int .i64 y.id, .int .i64 y.fl, .int .i64 y.ct, .int .i64 (y.pr : Int)]⟩ :: ⟨ya, 44, #[.int .i64 y.id, .int .i64 y.fl, .int .i64 y.ct]⟩ :: bs)) :
    W.cell? ⟨za, 0, none⟩ = some (.int .i64 y.id) ∧ W.cell? ⟨za, 1, none⟩ = some (.int .i64 y.fl) ∧ W.cell? ⟨za, 2, none⟩ = some (.int .i64 y.ct) ∧ W.cell? ⟨za, 3, none⟩ = some (.int .i64 (y.pr : Int)) ∧
      W.cell? ⟨ya, 0, none⟩ = some (.int .i64 y.id) ∧ W.cell? ⟨ya, 1, none⟩ = some (.int .i64 y.fl) ∧ W.cell? ⟨ya, 2, none⟩ = some (.int .i64 y.ct) ∧ W.cell? ⟨r, 0, none⟩ = some (.int .i64 (many : Int)) ∧ W.cell? ⟨r, 1, none⟩ = some (.slice A n c) := by
  have bz := H.at_ List.mem_cons_self
  have by_ := H.at_ (List.mem_cons_of_mem _ List.mem_cons_self)
  have br := H.ref.blk
  exact ⟨bz.cell 0, bz.cell 1, bz.cell 2, bz.cell 3, by_.cell 0, by_.cell 1, by_.cell 2, br.cell 0, by rw [br.cell 1, ← hv]; rfl⟩
def PlMid (w : World) (h r many xk j : Nat) (x : Cal) (W : World) : Prop := ∃ v L, Pl w W h r many v L L [XB xk x] ∧ L.length ≤ j

set_option maxHeartbeats 16000000 in
set_option maxRecDepth 100000 in
theorem plays_any (w : World) (A : Option Addr) (c many : Nat) (l : List Cal) (hm : 1 ≤ many ∧ many ≤ 8) (hn : l.length ≤ 150) (hA : ArgOps w A l) :
    Calls Try.prog 3 #[.int .i64 (many : Int), .slice A l.length c] w fun e w' => e = .returned (.bool true) ∧ Below w.heap.size w w' := by
  have HA := Lib.hid hA
  clear hA
  go_enter Try.func3, Try.ntmps3
  go_wp2_with fail
  refine (new_yes w many hm.1 hm.2).mono ?_
  rintro e w1 ⟨h, Own, rfl, hQ, hb, hl⟩
  have H1 := Lib.hid (And.intro hQ hb)
  clear hQ hb hl
  go_wp2_with fail
  refine (rnew_yes w1 many hm.1 hm.2).mono ?_
  rintro e w2 ⟨rfl, hb2⟩
  have hS := pl_start (H1.out.1.below hb2) (H1.out.2.trans (hb2.mono H1.out.2.size)) (Nat.le_refl _)
  obtain ⟨r, er⟩ : ∃ r, r = w2.heap.size := ⟨_, rfl⟩
  rw [← er] at hS
  have ER := Lib.hid er
  have HS := Lib.hid hS
  clear hb2 hS er
  go_wp2_with fail
  rw [← ER.out]
  go_loopw [9] (fun i wr => ∃ k : Nat, i = .int .i64 (k : Int) ∧ k ≤ l.length ∧ ∃ v L, Pl w wr h r many v L L [] ∧ L.length ≤ k) (fun i _ => l.length - (intOf i).toNat)
  case atStart => exact ⟨0, rfl, Nat.zero_le _, _, _, HS.out, Nat.le_refl _⟩
  case round =>
    obtain ⟨k, rfl, hk, v, L, hP, hl⟩ := hrel
    by_cases hlt : k < l.length
    · obtain ⟨b, off, x, rfl, hbl, hz, hok, x0, x1, x2, x3, x4⟩ := HA.out.at_ hP.b hlt
      have hX := hP.blk 33 (encC x)
      have HO := Lib.hid (And.intro hok hl)
      have b0 : (0 : Int) ≤ (k : Int) := by omega
      have b1 : (k : Int) < (l.length : Int) := by omega
      obtain ⟨xk, exk⟩ : ∃ xk, xk = wr.heap.size := ⟨_, rfl⟩
      obtain ⟨W, eW⟩ : ∃ W, W = wr.alloc (.cells (encC x) 33) := ⟨_, rfl⟩
      rw [← exk, ← eW] at hX
      have HX := Lib.hid (show Pl w W h r many v L L [XB xk x] from hX)
      unfold encC at eW
      obtain ⟨kd, ekd⟩ : ∃ kd, kd = x.k := ⟨_, rfl⟩
      have EK := Lib.hid ekd
      have c0 := (xb_cells HX.out List.mem_cons_self).1
      rw [eW, exk] at c0
      rw [← ekd] at c0 x0 eW
      have EW := Lib.hid (And.intro exk eW)
      have hF := HX.out.facts
      have HF := Lib.hid hF
      have hlen := hl
      have HLn := Lib.hid (show L.length < 1000 ∧ L.length ≤ 1000 from ⟨by omega, by omega⟩)
      clear ekd exk eW hX hz hok hl hP hF hlen
      go_upto_block 2 with fail
      rw [← EW.out.1, ← EW.out.2]
      clear c0
      obtain ⟨c0, c1, c2, c3, c4, cl⟩ := xb_cells HX.out List.mem_cons_self
      rw [← EK.out] at c0
      go_cut [11] (fun s11 wx => s11 = .bool true ∧ PlMid w h r many xk (k + 1) x wx)
      case first =>
        have hE := HX.out.drew
        by_cases k0 : kd = 0
        · have HP := Lib.hid (pl_put hE x.pr x.id x.fl x.ct HO.out.1.pr HO.out.1.id HO.out.1.fl HO.out.1.ct HLn.out.1)
          subst k0
          go_wp2_with fail
          go_region_held3 (fun W' => W'.cell? ⟨xk, 1, none⟩ = some (.int .i64 x.pr) ∧ W'.cell? ⟨xk, 2, none⟩ = some (.int .i64 x.id) ∧ W'.cell? ⟨xk, 3, none⟩ = some (.int .i64 x.fl) ∧ W'.cell? ⟨xk, 4, none⟩ = some (.int .i64 x.ct))
            (exact xk_c4 hE List.mem_cons_self)
            (first
              | (go_at_call 10; refine HP.out.mono ?_; rintro e w3 ⟨rfl, bk, hE⟩; have HQ := Lib.hid (pl_rput hE HLn.out.2 HF.out.2.2 HF.out.2.1 x.pr x.id x.fl x.ct HO.out.1.fl HO.out.1.ct bk))
              | (go_at_call 11; refine HQ.out.mono ?_; rintro e w4 ⟨rfl, v4, hE⟩))
          have H4 := Lib.hid (show PlMid w h r many xk (k + 1) x w4 from ⟨_, _, hE, by have := putS_len many L x.pr x.id x.fl x.ct bk; have := HO.out.2; omega⟩)
          clear hE
          go_wp2_with fail
          go_meet
          case rel => exact ⟨by simp, H4.out⟩
        have n0 : (kd == 0) = false := by simpa using k0
        by_cases k1 : kd = 1
        · have HP := Lib.hid (pl_cut hE HO.out.1.id)
          subst k1
          clear k0
          go_wp2_with fail
          go_region_held3 (fun W' => W'.cell? ⟨xk, 2, none⟩ = some (.int .i64 x.id))
            (exact xk_c1 hE List.mem_cons_self)
            (first
              | (go_at_call 12; refine HP.out.mono ?_; rintro e w3 ⟨rfl, hE⟩; have HQ := Lib.hid (pl_rcut hE HLn.out.2 HF.out.2.2 x.id))
              | (go_at_call 13; refine HQ.out.mono ?_; rintro e w4 ⟨rfl, v4, hE⟩))
          have H4 := Lib.hid (show PlMid w h r many xk (k + 1) x w4 from ⟨_, _, hE, by have := cutL_len L x.id; have := HO.out.2; omega⟩)
          clear hE
          go_wp2_with fail
          go_meet
          case rel => exact ⟨by simp, H4.out⟩
        have n1 : (kd == 1) = false := by simpa using k1
        by_cases k2 : kd = 2
        · have HP := Lib.hid (pl_move hE (p := x.pr) HO.out.1.id)
          subst k2
          clear k0 k1
          go_wp2_with fail
          go_region_held3 (fun W' => W'.cell? ⟨xk, 1, none⟩ = some (.int .i64 x.pr) ∧ W'.cell? ⟨xk, 2, none⟩ = some (.int .i64 x.id))
            (exact xk_c2 hE List.mem_cons_self)
            (first
              | (go_at_call 14; refine HP.out.mono ?_; rintro e w3 ⟨rfl, hE⟩; have HQ := Lib.hid (pl_rmove hE HLn.out.2 HF.out.2.2 x.id x.pr))
              | (go_at_call 15; refine HQ.out.mono ?_; rintro e w4 ⟨rfl, v4, hE⟩))
          have H4 := Lib.hid (show PlMid w h r many xk (k + 1) x w4 from ⟨_, _, hE, by have := moveS_len many L x.id x.pr; have := HO.out.2; omega⟩)
          clear hE
          go_wp2_with fail
          go_meet
          case rel => exact ⟨by simp, H4.out⟩
        have n2 : (kd == 2) = false := by simpa using k2
        clear hE
        by_cases k3 : kd = 3
        · have HP := Lib.hid (pl_batch HX.out)
          have hbl : (batchL L).length ≤ 100000 := Nat.le_trans (batchL_len L) (Nat.le_trans HLn.out.2 (by omega))
          obtain ⟨n, en⟩ : ∃ n, n = (batchL L).length := ⟨_, rfl⟩
          rw [← en] at HP
          have EN := Lib.hid (And.intro en hbl)
          subst k3
          clear k0 k1 k2 en hbl
          go_wp2_with fail
          refine HP.out.mono ?_
          rintro e w3 ⟨A3, c3, rfl, hE⟩
          have HQ := pl_rbatch hE HLn.out.2 HF.out.2.2
          rw [← EN.out.1] at HQ
          have HQ := Lib.hid HQ
          clear hE
          go_wp2_with fail
          refine HQ.out.mono ?_
          rintro e w4 ⟨A4, c4, v4, rfl, hE, hs3, hs4⟩
          have HM := same_yes w4 A3 A4 c3 c4 (batchL L) EN.out.2 hs3 hs4
          rw [← EN.out.1] at HM
          have HM := Lib.hid HM
          have H4 := Lib.hid (fun j => show PlMid w h r many xk (k + 1) x (w4.drewN j) from ⟨_, _, hE.drewN j, by have := restL_len L; have := HO.out.2; omega⟩)
          clear hE hs3 hs4
          go_wp2_with fail
          refine HM.out.mono ?_
          rintro e w5 ⟨rfl, j, rfl⟩
          go_wp2_with fail
          go_meet
          case rel => exact ⟨rfl, H4.out j⟩
        · have n3 : (kd == 3) = false := by simpa using k3
          have H3 := Lib.hid (show PlMid w h r many xk (k + 1) x W from ⟨_, _, HX.out, by have := HO.out.2; omega⟩)
          clear k0 k1 k2 k3
          go_wp2_with fail
          go_meet
          case rel => exact ⟨rfl, H3.out⟩
      case rest =>
        clear c0 c1 c2 c3 c4 cl
        obtain ⟨rfl, v', L', hX', hl'⟩ := hcut
        have hF' := hX'.facts
        have HF' := Lib.hid (And.intro hl' hF')
        have HY := Lib.hid hX'
        have HLn' := Lib.hid (show L'.length < 1000 ∧ L'.length ≤ 1000 from ⟨by omega, by omega⟩)
        have HH := Lib.hid (pl_has hX' HO.out.1.id)
        obtain ⟨-, -, c2, -, -, cl⟩ := xb_cells hX' List.mem_cons_self
        obtain ⟨y, ey⟩ : ∃ y, y = hasX L' x.id := ⟨_, rfl⟩
        obtain ⟨hb, ehb⟩ : ∃ hb, hb = hasI L' x.id := ⟨_, rfl⟩
        rw [← ey, ← ehb] at HH
        have EY := Lib.hid (And.intro ey ehb)
        clear hX' hl' hF' HX EW x0 x1 x2 x3 x4 ey ehb HF HLn
        go_wp2_with fail
        refine HH.out.mono ?_
        rintro e w3 ⟨rfl, hP3⟩
        have hP4 := hP3.blk 44 #[.int .i64 y.id, .int .i64 y.fl, .int .i64 y.ct]
        obtain ⟨ya, eya⟩ : ∃ ya, ya = w3.heap.size := ⟨_, rfl⟩
        obtain ⟨W4, eW4⟩ : ∃ W4, W4 = w3.alloc (.cells #[.int .i64 y.id, .int .i64 y.fl, .int .i64 y.ct] 44) := ⟨_, rfl⟩
        rw [← eya, ← eW4] at hP4
        have EW4 := Lib.hid (And.intro eya eW4)
        have HP4 := Lib.hid hP4
        have hR4 := pl_rhas hP4 HLn'.out.2 HF'.out.2.2.2 x.id
        rw [← EY.out.1, ← EY.out.2] at hR4
        have HR4 := Lib.hid hR4
        clear c2 cl
        obtain ⟨-, -, c2, -, -, cl⟩ := xb_cells hP4 (List.mem_cons_of_mem _ List.mem_cons_self)
        rw [eW4] at c2
        clear hP3 hP4 hR4 eya eW4
        go_wp2_with fail
        rw [← EW4.out.1, ← EW4.out.2]
        clear c2 cl
        refine HR4.out.mono ?_
        rintro e w5 ⟨rfl, hP5⟩
        have hP6 := hP5.blk 48 #[.int .i64 y.id, .int .i64 y.fl, .int .i64 y.ct, .int .i64 (y.pr : Int)]
        obtain ⟨za, eza⟩ : ∃ za, za = w5.heap.size := ⟨_, rfl⟩
        obtain ⟨W6, eW6⟩ : ∃ W6, W6 = w5.alloc (.cells #[.int .i64 y.id, .int .i64 y.fl, .int .i64 y.ct, .int .i64 (y.pr : Int)] 48) := ⟨_, rfl⟩
        rw [← eza, ← eW6] at hP6
        have EW6 := Lib.hid (And.intro eza eW6)
        have HP6 := Lib.hid hP6
        obtain ⟨A6, c6, hv6, -, -⟩ := RowK.own_shows hP6.ref.row
        obtain ⟨n0, en0⟩ : ∃ n0, n0 = L'.length := ⟨_, rfl⟩
        rw [← en0] at hv6
        obtain ⟨q0, eq0⟩ : ∃ q0, q0 = leastI L' := ⟨_, rfl⟩
        have HV := Lib.hid hv6
        have HLen := Lib.hid (fun (W' : World) (bs : List Lb) (hE : Pl w W' h r many v' L' L' bs) => show Calls Try.prog 21 #[.pointer (some ⟨h, 0, none⟩)] W' fun e w'' => e = .returned (.int .i64 (n0 : Int)) ∧ W' = w'' from by rw [en0]; exact pl_len hE)
        have HLe := Lib.hid (fun (W' : World) (bs : List Lb) (hE : Pl w W' h r many v' L' L' bs) => show Calls Try.prog 22 #[.pointer (some ⟨h, 0, none⟩)] W' fun e w'' => e = .returned (.int .i64 q0) ∧ Pl w w'' h r many v' L' L' bs from by rw [eq0]; exact pl_least hE)
        have HRLe := Lib.hid (fun (W' : World) (bs : List Lb) (hE : Pl w W' h r many v' L' L' bs) => show Calls Try.prog 23 #[.pointer (some ⟨r, 0, none⟩)] W' fun e w'' => e = .returned (.int .i64 q0) ∧ W' = w'' from by rw [eq0]; exact pl_rleast hE HLn'.out.2)
        clear hP5 eza eW6 hP6 hv6 en0 eq0
        go_wp2_with fail
        rw [← EW6.out.2, ← EW6.out.1]
        have hE := HP6.out.drew
        go_region_held3 (fun W' => W'.cell? ⟨za, 0, none⟩ = some (.int .i64 y.id) ∧ W'.cell? ⟨za, 1, none⟩ = some (.int .i64 y.fl) ∧ W'.cell? ⟨za, 2, none⟩ = some (.int .i64 y.ct) ∧ W'.cell? ⟨za, 3, none⟩ = some (.int .i64 (y.pr : Int)) ∧
            W'.cell? ⟨ya, 0, none⟩ = some (.int .i64 y.id) ∧ W'.cell? ⟨ya, 1, none⟩ = some (.int .i64 y.fl) ∧ W'.cell? ⟨ya, 2, none⟩ = some (.int .i64 y.ct) ∧ W'.cell? ⟨r, 0, none⟩ = some (.int .i64 (many : Int)) ∧ W'.cell? ⟨r, 1, none⟩ = some (.slice A6 n0 c6))
          (exact pl_s9 HV.out hE)
          (first
            | (go_at_call 21; refine (HLen.out _ _ hE).mono ?_; rintro e w7 ⟨rfl, rfl⟩)
            | (go_at_call 22; refine (HLe.out _ _ hE).mono ?_; rintro e w7 ⟨rfl, hE⟩)
            | (go_at_call 23; refine (HRLe.out _ _ hE).mono ?_; rintro e w7 ⟨rfl, rfl⟩)
            | (go_at_call 24; refine (pl_many hE).mono ?_; rintro e w7 ⟨rfl, rfl⟩))
        have H7 := Lib.hid (hE.less (cs := []) (fun b hb => by simp at hb))
        clear hE
        go_wp2_with fail
        go_loopw [18] (fun z wr => ∃ z0 : Int, z = .int .i64 z0 ∧ -1 ≤ z0 ∧ z0 ≤ (many : Int) + 1 ∧ Pl w wr h r many v' L' L' []) (fun z _ => ((many : Int) + 1 - intOf z).toNat)
        case atStart => exact ⟨-1, rfl, by omega, by omega, H7.out⟩
        case round =>
          obtain ⟨z0, rfl, z1, z2, hP⟩ := hrel
          have r0 : wr.cell? ⟨r, 0, none⟩ = some (.int .i64 (many : Int)) := hP.ref.blk.cell 0
          have rl := hP.ref.blk.lt
          by_cases hz : z0 ≤ (many : Int)
          · have hLi := pl_list hP z0
            obtain ⟨n1, en⟩ : ∃ n1, n1 = (listP many L' z0).length := ⟨_, rfl⟩
            have hnl : (listP many L' z0).length ≤ 100000 := by
              have : (listP many L' z0).length ≤ L'.length := by
                unfold listP
                split
                · exact List.length_filter_le _ _
                · simp
              have := HLn'.out.2; omega
            rw [← en] at hLi
            have HLi := Lib.hid hLi
            have EN := Lib.hid (And.intro en hnl)
            clear hP hLi en hnl
            go_wp2_with fail
            refine HLi.out.mono ?_
            rintro e w8 ⟨A8, c8, rfl, hA8⟩
            have hRi := pl_rlist hA8 HLn'.out.2 (fun x hx => (HF'.out.2.2.1 x hx).pr) z0
            rw [← EN.out.1] at hRi
            have HRi := Lib.hid hRi
            clear hA8 hRi
            go_wp2_with fail
            refine HRi.out.mono ?_
            rintro e w9 ⟨A9, c9, rfl, hP9, hs1, hs2⟩
            have HM := same_yes w9 A8 A9 c8 c9 (listP many L' z0) EN.out.2 hs1 hs2
            rw [← EN.out.1] at HM
            have HM := Lib.hid HM
            have H9 := Lib.hid hP9
            clear hP9 hs1 hs2 r0 rl
            go_wp2_with fail
            refine HM.out.mono ?_
            rintro e wa ⟨rfl, j, rfl⟩
            go_wp2_with fail
            go_roundw
            case rel => exact ⟨z0 + 1, rfl, by omega, by omega, H9.out.drewN j⟩
            case measure => simp [intOf]; omega
          · have HP9 := Lib.hid hP
            clear hP
            go_wp2_with fail
            go_roundw
            case rel => exact ⟨k + 1, by go_num, by omega, _, _, HP9.out, HF'.out.1⟩
            case measure => simp [intOf]; omega
    · obtain rfl : k = l.length := by omega
      have b1 : ¬ ((l.length : Int) < (l.length : Int)) := by omega
      have HB := Lib.hid hP.b
      clear hP
      go_wp2_with fail
      go_ret
      exact ⟨rfl, HB.out⟩

set_option maxHeartbeats 4000000 in
set_option maxRecDepth 100000 in
theorem plays_out (w : World) (A : Option Addr) (n c : Nat) (m : Int) (h : 150 < n ∨ (m < 1 ∨ 8 < m)) : Calls Try.prog 3 #[.int .i64 m, .slice A n c] w fun e w' => e = .returned (.bool true) ∧ Below w.heap.size w w' := by
  by_cases h1 : 150 < n
  · have h3 : (150 : Int) < (n : Int) := by omega
    go_enter Try.func3, Try.ntmps3
    go_wp2_with fail
    go_ret
    exact ⟨rfl, Below.refl _ _⟩
  · have h3 : (n : Int) ≤ 150 := by omega
    have h4 : m < 1 ∨ 8 < m := by omega
    have HN := Lib.hid (And.intro (new_no w m h4) (rnew_no w m h4))
    clear h h4
    go_enter Try.func3, Try.ntmps3
    go_wp2_with fail
    refine HN.out.1.mono ?_
    rintro e w1 ⟨rfl, rfl⟩
    go_wp2_with fail
    refine HN.out.2.mono ?_
    rintro e w2 ⟨rfl, hb2⟩
    go_wp2_with fail
    go_ret
    exact ⟨rfl, hb2.alloc hb2.size _⟩

theorem plays_law (w : World) (A : Option Addr) (c : Nat) (l : List Cal) (m : Int) (hA : ArgOps w A l) :
    Calls Try.prog 3 #[.int .i64 m, .slice A l.length c] w fun e w' => e = .returned (.bool true) ∧ Below w.heap.size w w' := by
  by_cases h : 150 < l.length ∨ (m < 1 ∨ 8 < m)
  · exact plays_out w A l.length c m h
  · obtain ⟨k, rfl⟩ : ∃ k : Nat, m = (k : Int) := ⟨m.toNat, by omega⟩
    exact plays_any w A c k l (by omega) (by omega) hA
end Go.Proofs.Ytlkmmbondelheaa
