/-
  ChainFinds.
-/
import Derived.Test.YtkhkhjkacibocaaChAheadL
import Derived.BigQuiet
import Derived.Lib.Bytes
namespace Go.Proofs.Ytkhkhjkacibocaa
open Go.RowKit Go.Shelf Go.Maps Go.ChangeMaps

theorem strOfNums_inj {a b : List Int} (ha : Byt a) (hb : Byt b) (h : strOfNums a = strOfNums b) : a = b := by
  have h1 : (strOfNums a).data.toList = (strOfNums b).data.toList := by rw [h]
  rw [strOfNums_data, strOfNums_data] at h1
  have key : ∀ l : List Int, Byt l → (l.map fun n => UInt8.ofNat n.toNat).map (fun u => (u.toNat : Int)) = l := fun l hl => by
    rw [List.map_map]
    conv => rhs; rw [← List.map_id l]
    refine List.map_congr_left fun z hz => ?_
    obtain ⟨z0, z1⟩ := hl z hz
    simp only [Function.comp, id]
    rw [UInt8.toNat_ofNat']
    omega
  rw [← key a ha, ← key b hb, h1]
/-- s[x:x+e] -/
theorem Src.mid {W : World} {D : Nat → Nat → Prop} {A : Option Addr} {n c x e : Nat} {zs : List Int} (h : Src W D A n c zs) (hx : x + e ≤ n) : ∃ A', (∀ X, (Instr.slice 31 (.slice A n c) (some (.int .i64 (x : Int))) (some (.int .i64 ((x : Int) + (e : Int)))) none).run Try.prog X = .ok (.slice A' e (c - x)) X) ∧ Src W D A' e (c - x) ((zs.drop x).take e) := by
  have h1 := h.le
  have h2 := h.big
  have key : ∃ A', (∀ X, (Instr.slice 31 (.slice A n c) (some (.int .i64 (x : Int))) (some (.int .i64 ((x : Int) + (e : Int)))) none).run Try.prog X = .ok (.slice A' e (c - x)) X) ∧ (A' = none → c - x = 0) ∧ (∀ a, A' = some a → 0 < c - x → a.spot = none) ∧ (∀ b o, A = some ⟨b, o, none⟩ → 0 < e → A' = some ⟨b, o + x, none⟩) := by
    by_cases hc0 : 0 < c
    · cases hA : A with
      | none => have := h.nil hA; omega
      | some a =>
        obtain ⟨ab, ao, sp⟩ := a
        obtain rfl : sp = none := h.spot _ hA hc0
        obtain ⟨y, hy⟩ : ∃ y, y = x + e := ⟨_, rfl⟩
        have ey : (x : Int) + (e : Int) = (y : Int) := by omega
        rw [ey]
        obtain rfl : e = y - x := by omega
        have b0 : (0 : Int) ≤ (x : Int) := by omega
        have b1 : (x : Int) ≤ (y : Int) := by omega
        have b2 : (y : Int) ≤ (c : Int) := by omega
        have b4 : y ≤ c := by omega
        have b5 : x ≤ y := by omega
        clear h hA hy ey
        refine ⟨if c = x then some ⟨ab, ao, none⟩ else some ⟨ab, ao + x, none⟩, fun W => (by go_simp), (fun h => by split at h <;> (cases h)), (fun a h _ => by split at h <;> (cases h; rfl)), fun b o e h0 => ?_⟩
        rw [if_neg (by omega)]
        cases e; rfl
    · obtain rfl : c = 0 := by omega
      obtain rfl : n = 0 := by omega
      obtain rfl : x = 0 := by omega
      obtain rfl : e = 0 := by omega
      refine ⟨A, fun X => ?_, fun _ => rfl, fun _ _ h => by omega, fun _ _ _ h => by omega⟩
      clear h h1
      cases A with
      | none => go_simp
      | some a => go_simp
  obtain ⟨A', k1, k2, k3, k4⟩ := key
  refine ⟨A', k1, ⟨by rw [List.length_take, List.length_drop, h.len]; omega, by omega, by omega, k2, k3, fun h0 => ?_⟩⟩
  obtain ⟨b, o, ea, hb, hc⟩ := h.at_ (by omega)
  refine ⟨b, o + x, k4 b o ea h0, hb, fun i z hz => ?_⟩
  rw [List.getElem?_take] at hz
  split at hz
  · rw [List.getElem?_drop] at hz
    rw [Nat.add_assoc]
    exact hc _ z hz
  · cases hz
theorem Byt.take {a : List Int} (h : Byt a) (k : Nat) : Byt (a.take k) := fun z hz => h z (List.mem_of_mem_take hz)
theorem Byt.drop {a : List Int} (h : Byt a) (k : Nat) : Byt (a.drop k) := fun z hz => h z (List.mem_of_mem_drop hz)

theorem below_drewN {B : Nat} {W W' : World} (h : Below B W W') (j : Nat) : Below B W (W'.drewN j) := ⟨h.os, h.tape, h.output, h.size, h.block⟩
theorem bytes_ne {a b : ByteArray} (h : ¬ a = b) : (a.toList == b.toList) = false := by
  refine beq_eq_false_iff_ne.2 fun e => h ?_
  rw [Lib.toList_data, Lib.toList_data] at e
  exact ByteArray.ext (Array.toList_inj.1 e)
/-- Where a search ends. -/
def endF (n nz : Nat) : Option Nat → Int
  | none => (n : Int) - (nz : Int)
  | some i => (i : Int) - 1
theorem finds_not {zs z : List Int} {f : Int} {r : Option Nat} (h : FindA zs z f r) (hf : 0 ≤ f) {a : Nat} (ha : f.toNat ≤ a) (he : (a : Int) ≤ endF zs.length z.length r) : (zs.drop a).take z.length ≠ z := by
  unfold FindA at h
  rw [if_neg (by omega)] at h
  split at h
  · rename_i hz
    subst hz
    split at h
    · subst h; simp only [endF] at he; omega
    · subst h; simp only [endF, List.length_nil] at he; omega
  · cases r with
    | none => exact h a ha
    | some i => simp only [endF] at he; exact h.2.2 a ha (by omega)
theorem finds_copy {zs z : List Int} {f : Int} {i : Nat} (h : FindA zs z f (some i)) : f ≤ (i : Int) ∧ cpy zs (i : Int) (z.length : Int) = z ∧ i ≤ zs.length := by
  unfold FindA at h
  split at h
  · cases h
  · split at h
    · rename_i hz
      subst hz
      split at h
      · cases h
        refine ⟨by omega, by unfold cpy; rw [if_neg (by omega)]; simp, by assumption⟩
      · cases h
    · obtain ⟨h1, h2, _⟩ := h
      refine ⟨by omega, by unfold cpy; rw [if_neg (by omega)]; exact h2, ?_⟩
      have := h2.le (List.length_pos_iff.2 (by assumption))
      omega
theorem finds_end {zs z : List Int} {f : Int} {r : Option Nat} (h : FindA zs z f r) {a : Nat} (he : (a : Int) ≤ endF zs.length z.length r) : a + z.length ≤ zs.length := by
  cases r with
  | none => simp only [endF] at he; omega
  | some i =>
    obtain ⟨h1, h2, h3⟩ := finds_copy h
    simp only [endF] at he
    have := congrArg List.length h2
    unfold cpy at this
    rw [if_neg (by omega), List.length_take, List.length_drop] at this
    omega

set_option maxRecDepth 100000 in
set_option maxHeartbeats 8000000 in
theorem findsl_main (w : World) {A A2 Az : Option Addr} {n c m c2 nz cz : Nat} {zs xs z : List Int} (kind nn f many which : Int) (hb : Src w No2 A n c zs) (ha : Src w No2 A2 m c2 xs) (hz : Src w No2 Az nz cz z) (hx : Byt xs) (hy : Byt zs) (hw : Byt z) (hn : n ≤ 3000) (hm : m ≤ 300) (hnz : nz ≤ 100)
    (hf : -9223372036854775808 ≤ f ∧ f ≤ 9223372036854775807) :
    Calls Try.prog 6 #[.slice A n c, .slice A2 m c2, .agg #[.int .i64 kind, .int .u8 which, .slice Az nz cz, .int .i64 nn, .int .i64 f, .int .u32 many]] w fun e w' => e = .returned (.bool true) ∧ Below w.heap.size w w' := by
  have b1 : decide ((3000 : Int) < (n : Int)) = false := by simp; omega
  have b2 : decide ((300 : Int) < (m : Int)) = false := by simp; omega
  have b3 : decide ((100 : Int) < (nz : Int)) = false := by simp; omega
  obtain ⟨W1, hW1⟩ : ∃ W1, W1 = w.alloc (.cells #[.int .i64 kind, .int .u8 which, .slice Az nz cz, .int .i64 nn, .int .i64 f, .int .u32 many] 36) := ⟨_, rfl⟩
  obtain ⟨bx, hbx⟩ : ∃ bx, bx = w.heap.size := ⟨_, rfl⟩
  have kW : Kept (fun _ => False) w W1 := by rw [hW1]; exact (Kept.refl _ w).alloc _
  have bW : Below w.heap.size w W1 := by rw [hW1]; exact (Below.refl _ w).alloc (Nat.le_refl _) _
  have hcl : ∀ W, Below W1.heap.size W1 W → W.cell? ⟨bx, 2, none⟩ = some (.slice Az nz cz) ∧ W.cell? ⟨bx, 4, none⟩ = some (.int .i64 f) := fun W hW => by
    have hl : bx < W1.heap.size := by rw [hW1, hbx]; simp
    refine ⟨(hW.cell (p := ⟨bx, 2, none⟩) hl).trans ?_, (hW.cell (p := ⟨bx, 4, none⟩) hl).trans ?_⟩
    · rw [hW1, hbx]; exact (cell_of_row _ _ 2 _ _ (0, 0) (heap_alloc_new w _)).trans rfl
    · rw [hW1, hbx]; exact (cell_of_row _ _ 4 _ _ (0, 0) (heap_alloc_new w _)).trans rfl
  have hzl := hb.len
  have hzn := hz.len
  have hb1 := hb.kept kW
  have ha1 := ha.kept kW
  have hz1 := hz.kept kW
  obtain ⟨Tz, hTz⟩ : ∃ T, strOfNums z = T := ⟨_, rfl⟩
  have HW := Lib.hid (fun W (hW : Below W1.heap.size W1 W) => And.intro (hcl W hW).1 (And.intro (hcl W hW).2 (hTz ▸ (hz1.below (D := No2) hW (fun _ _ e => e.elim)).str)))
  have HA := Lib.hid (And.intro hb1 (And.intro ha1 (And.intro hx (And.intro hn hm))))
  have HY := Lib.hid (And.intro hy (And.intro hw (And.intro hTz (And.intro hzl (And.intro hzn bW)))))
  have HZ := Lib.hid hz1
  have HA1 := Lib.hid (alive_any W1)
  clear hb ha hz hx hy hw hcl hb1 ha1 hz1 hTz hzl hzn bW kW
  go_enter Try.func6, Try.ntmps6
  go_wp2_with fail
  rw [← hW1, ← hbx]
  refine HA1.out.mono ?_
  rintro e w0 ⟨rfl, hb0⟩
  obtain ⟨q2, q4, _⟩ := HW.out w0 hb0
  have HB0 := Lib.hid hb0
  have HWx := Lib.hid (And.intro hW1 hbx)
  clear hb0 hW1 hbx
  go_wp2_with fail
  have cn0 := (cn_new w0).more HB0.out.size
  have hbV := HB0.out.alloc HB0.out.size (.cells #[.pointer none, .pointer none, .int .i64 0] 29)
  obtain ⟨V, hV⟩ : ∃ V, V = w0.alloc (.cells #[.pointer none, .pointer none, .int .i64 0] 29) := ⟨_, rfl⟩
  rw [← hV] at cn0 hbV ⊢
  obtain ⟨ca, hca⟩ : ∃ x, x = w0.heap.size := ⟨_, rfl⟩
  rw [← hca] at cn0 ⊢
  refine (cutl_any HA.out.1 (HA.out.2.1.below hbV (fun _ _ e => e.elim)) HA.out.2.2.1 HA.out.2.2.2.2).mono ?_
  rintro e w3 ⟨v, ps, rfl, h1, h2, h3, h4, h5⟩
  have hap : ∀ k i, Fc ca [] k i → v.ownBlock ≠ some k := fun k i hf e => by
    have h6 := (RowK.own_lt h1 e).2
    have := cn0.lt hf; omega
  have hk3 : Kept (fun _ => False) V w3 := ⟨h5.os, h5.tape, h5.output, h5.size, fun k hk _ => h5.block k hk⟩
  have H3 := Lib.hid (show OvI W1 ca [] v ps [] w3 from ⟨cn0.kept hk3, rfl, ⟨_, h1⟩, hap, hbV.trans (h5.mono hbV.size)⟩)
  have HP := Lib.hid (And.intro h2 (And.intro h3 h4))
  obtain ⟨Ap, cp, rfl, hsh, _, hcp⟩ := RowK.own_shows h1
  have HS := Lib.hid hcp
  have kb : (ps.length : Int) ≤ 301 := by omega
  clear h1 h2 h3 h4 h5 cn0 hbV hV hca hap hk3 hsh hcp
  go_wp2_with fail
  go_loopw [43] (fun i wr => ∃ (k : Nat) (L : List Lk), i = .int .i64 (k : Int) ∧ k ≤ ps.length ∧ OvI W1 ca L (.slice Ap ps.length cp) ps (gps (ps.take k)) wr) (fun i _ => ps.length - (intOf i).toNat)
  case atStart => exact ⟨0, [], rfl, by omega, H3.out⟩
  case round =>
    obtain ⟨k, L, rfl, hk, hM⟩ := hrel
    by_cases hlt : k < ps.length
    · obtain ⟨B0, ho⟩ := hM.own
      obtain ⟨A1, c1, e1, hsh, _, _⟩ := RowK.own_shows ho
      cases e1
      obtain ⟨g, off, rfl, hg, hl⟩ := hsh (by omega)
      obtain ⟨p, hp⟩ : ∃ p, ps[k]? = some p := ⟨_, List.getElem?_eq_getElem hlt⟩
      have cx := hl k p hp 0 (by decide)
      rw [show off + (k * RP.n + 0) = off + k by simp [RP]] at cx
      replace cx : wr.cell? ⟨g, off + k, none⟩ = some (.slice p.A p.n p.c) := cx
      have hpo := HP.out.1 p (List.mem_of_getElem? hp)
      have hlen : p.n + (flat L).length ≤ 1048576 := by
        have e1 := gps_mem hp
        rw [HP.out.2.1] at e1
        have e2 := hpo.len
        have := HA.out.2.2.2.1
        have := HY.out.2.2.2.1
        rw [hM.fl]; omega
      have HAd := Lib.hid (add_yes hM.cc (hM.src hpo) hlen)
      have HM := Lib.hid (And.intro hM (And.intro hp hlt))
      have d1 : (k : Int) < (ps.length : Int) := by omega
      clear hM hp hk ho hsh hl hpo hlen hlt q2 q4
      go_wp2_with fail
      refine HAd.out.mono ?_
      rintro e w4 ⟨rfl, L', g1, g2, g3⟩
      have HE := Lib.hid (HM.out.1.step (ys := gps (ps.take (k + 1))) g1 (by rw [g2, HM.out.1.fl, gps_take HM.out.2.1]) g3)
      clear g1 g2 g3
      go_wp2_with fail
      refine ⟨⟨k + 1, L', by go_num, HM.out.2.2, HE.out⟩, by have := HM.out.2.2; simp [intOf]; omega⟩
    · obtain rfl : k = ps.length := by omega
      have hM2 : OvI W1 ca L (.slice Ap ps.length cp) ps zs wr := by rw [List.take_length, HP.out.2.1] at hM; exact hM
      have d1 : ¬ ((ps.length : Int) < (ps.length : Int)) := by omega
      have HF := Lib.hid (show ∀ W L, Cn W W1.heap.size 29 ca L → flat L = zs → Below W1.heap.size W1 W → Calls Try.prog 23 #[.pointer (some ⟨ca, 0, none⟩), .slice Az nz cz, .int .i64 f] W fun e w' => ∃ r, e = ansF r ∧ FindA zs z f r ∧ Kept (fun _ => False) W w' from fun W L h e hW => e ▸ find_any h (HZ.out.below (D := No2) hW (fun _ _ e => e.elim)) f hf)
      have HPu := Lib.hid (pull_yes (hM2.cc) n (by rw [hM2.fl, HY.out.2.2.2.1]; exact Nat.le_refl _))
      have H5 := Lib.hid (And.intro hM2.cc (And.intro hM2.fl hM2.bel))
      obtain ⟨q2, q4, _⟩ := HW.out wr H5.out.2.2
      clear hM hM2 hk hlt HPu
      go_wp2_with fail
      refine (HF.out _ _ H5.out.1 H5.out.2.1 H5.out.2.2).mono ?_
      rintro e w5 ⟨r, rfl, hr, k5⟩
      have H6 := Lib.hid (And.intro (H5.out.1.kept k5) (law_quiet H5.out.2.2 H5.out.1.base k5))
      have HPu := Lib.hid (pull_yes H6.out.1 n (by rw [H5.out.2.1, HY.out.2.2.2.1]; exact Nat.le_refl _))
      have HR := Lib.hid hr
      obtain ⟨q2, q4, _⟩ := HW.out w5 H6.out.2
      clear k5 hr
      cases r with
      | none =>
        simp only [ansF]
        go_wp2_with fail
        refine HPu.out.mono ?_
        rintro e w6 ⟨vp, rfl, _, L6, g1, g2, g3, _, _⟩
        have H7 := Lib.hid (And.intro g1 (And.intro (g2.trans H5.out.2.1) (law_step H6.out.1 H6.out.2 g3)))
        obtain ⟨q2, q4, _⟩ := HW.out w6 H7.out.2.2
        clear g1 g2 g3
        go_wp2_with fail
        refine (HF.out _ _ H7.out.1 H7.out.2.1 H7.out.2.2).mono ?_
        rintro e w7 ⟨r, rfl, hr, k7⟩
        obtain rfl := HR.out.unique hr
        have H8 := Lib.hid (law_quiet H7.out.2.2 H7.out.1.base k7)
        obtain ⟨q2, q4, qc⟩ := HW.out w7 H8.out
        clear hr k7
        simp only [ansF]
        go_wp2_with fail
        have wn : IntKind.i64.wrap ((n : Int) - (nz : Int)) = (n : Int) - (nz : Int) := IntWalk.i64_in _ (by omega)
        obtain ⟨a0, ha0⟩ : ∃ a0, a0 = f.toNat := ⟨_, rfl⟩
        have m1 : (if (0 : Int) < f then f else 0) = (a0 : Int) := by split <;> omega
        have m2 : (if f < (0 : Int) then 0 else f) = (a0 : Int) := by split <;> omega
        have m3 := Lib.hid (And.intro (show max f 0 = (a0 : Int) by omega) ha0)
        clear ha0
        obtain ⟨z2, z4, zc⟩ := HW.out w7.drew H8.out.drew
        have HT := Lib.hid (fun j => below_drewN H8.out j)
        go_quiet (fail)
        go_wp2_with fail
        go_loopw [18] (fun i wr => ∃ a : Nat, i = .int .i64 (a : Int) ∧ a0 ≤ a ∧ Below W1.heap.size W1 wr) (fun i _ => n + 1 - (intOf i).toNat)
        case atStart => exact ⟨a0, rfl, Nat.le_refl _, by first | exact HT.out _ | exact HT.out 0⟩
        case round =>
          obtain ⟨a, rfl, haa, hB⟩ := hrel
          have q2 : ∀ j, (wr.drewN j).cell? ⟨bx, 2, none⟩ = some (.slice Az nz cz) := fun j => (HW.out _ (below_drewN hB j)).1
          have qc : ∀ j, (convert 31 9 (.slice Az nz cz)).run Try.prog (wr.drewN j) = .ok (.string Tz) (wr.drewN j) := fun j => (HW.out _ (below_drewN hB j)).2.2
          obtain ⟨p2, p4, pc⟩ := HW.out wr hB
          by_cases hae : (a : Int) ≤ (n : Int) - (nz : Int)
          · have hmid := finds_end HR.out (a := a) (by rw [HY.out.2.2.2.1, HY.out.2.2.2.2.1]; exact hae)
            rw [HY.out.2.2.2.1, HY.out.2.2.2.2.1] at hmid
            obtain ⟨A3, r3, s3⟩ := HA.out.1.mid (x := a) (e := nz) hmid
            have c3 := fun j => (s3.below (D := No2) (below_drewN hB j) (fun _ _ e => e.elim)).str
            have u1 : IntKind.i64.wrap ((a : Int) + (nz : Int)) = (a : Int) + (nz : Int) := IntWalk.i64_in _ (by omega)
            have HQ := Lib.hid (And.intro haa (And.intro hB hmid))
            by_cases heq : (zs.drop a).take nz = z
            · have hf0 : f < 0 := by
                by_cases h : f < 0
                · exact h
                · exact (finds_not HR.out (by omega) (a := a) (by rw [m3.out.2] at haa; exact haa) (by rw [HY.out.2.2.2.1, HY.out.2.2.2.2.1]; exact hae) (by rw [HY.out.2.2.2.2.1]; exact heq)).elim
              simp only [heq, HY.out.2.2.1] at c3
              have f1 : decide (f < 0) = true := by simpa using hf0
              clear hmid s3 haa hB heq HR
              go_wp2_with fail
              go_quiet (fail)
              go_wp2_with fail
              go_ret
              exact ⟨rfl, HY.out.2.2.2.2.2.trans ((below_drewN HQ.out.2.1 _).mono HY.out.2.2.2.2.2.size)⟩
            · obtain ⟨T3, hT3⟩ : ∃ T, strOfNums ((zs.drop a).take nz) = T := ⟨_, rfl⟩
              have hne : ¬ T3 = Tz := fun e => heq (strOfNums_inj ((HY.out.1.drop a).take nz) HY.out.2.1 (by rw [hT3, HY.out.2.2.1]; exact e))
              simp only [hT3] at c3
              have e1 : (T3.toList == Tz.toList) = false := bytes_ne hne
              have HD := Lib.hid (fun j => below_drewN hB j)
              clear hmid s3 haa hB heq hT3
              go_wp2_with fail
              go_quiet (fail)
              go_wp2_with fail
              refine ⟨⟨a + 1, by go_num, by have := HQ.out.1; omega, HD.out _⟩, by have := HQ.out.2.2; simp [intOf]; omega⟩
          · have HD := Lib.hid hB
            clear hB
            go_wp2_with fail
            go_ret
            exact ⟨rfl, HY.out.2.2.2.2.2.trans (HD.out.mono HY.out.2.2.2.2.2.size)⟩
      | some i =>
        obtain ⟨hfi, hcpy, hiz⟩ := finds_copy HR.out
        rw [HY.out.2.2.2.2.1] at hcpy
        have HCp := Lib.hid (show ∀ W L, Cn W W1.heap.size 29 ca L ∧ flat L = zs → Calls Try.prog 26 #[.pointer (some ⟨ca, 0, none⟩), .int .i64 (i : Int), .int .i64 (nz : Int)] W fun e w' => ∃ v, e = .returned v ∧ (convert 31 9 v).run Try.prog w' = .ok (.string Tz) w' ∧ Kept (fun _ => False) W w' from fun W L h => by
          refine (copy_any h.1 (i : Int) (nz : Int) (by have := HY.out.2.2.2.1; omega) (by omega)).mono ?_
          rintro e2 w' ⟨v, rfl, h1, h2⟩
          rw [h.2, hcpy] at h1
          exact ⟨v, rfl, HY.out.2.2.1 ▸ rowB_str h1 (by have := HY.out.2.2.2.2.1; omega), h2⟩)
        have hin : (i : Int) ≤ 3000 := by have := HY.out.2.2.2.1; omega
        have f1 : decide ((i : Int) < f) = false := by simp; omega
        clear hcpy hiz
        simp only [ansF]
        go_wp2_with fail
        refine HPu.out.mono ?_
        rintro e w6 ⟨vp, rfl, _, L6, g1, g2, g3, _, _⟩
        have H7 := Lib.hid (And.intro g1 (And.intro (g2.trans H5.out.2.1) (law_step H6.out.1 H6.out.2 g3)))
        obtain ⟨q2, q4, _⟩ := HW.out w6 H7.out.2.2
        clear g1 g2 g3
        go_wp2_with fail
        refine (HF.out _ _ H7.out.1 H7.out.2.1 H7.out.2.2).mono ?_
        rintro e w7 ⟨r, rfl, hr, k7⟩
        obtain rfl := HR.out.unique hr
        have H8 := Lib.hid (And.intro (H7.out.1.kept k7) (And.intro H7.out.2.1 (law_quiet H7.out.2.2 H7.out.1.base k7)))
        obtain ⟨q2, q4, qc⟩ := HW.out w7 H8.out.2.2
        clear hr k7
        simp only [ansF]
        have HC := Lib.hid (HW.out w7.drew H8.out.2.2.drew)
        go_wp2_with fail
        refine wp_region_held_drew (S := (fun W => W.cell? ⟨bx, 2, none⟩ = some (.slice Az nz cz) ∧ W.cell? ⟨bx, 4, none⟩ = some (.int .i64 f) ∧ (convert 31 9 (.slice Az nz cz)).run Try.prog W = .ok (.string Tz) W)) (by kernel_rfl) HC.out (fun hHeld => ?_)
        refine wpAnyH_take (i := 0) (oi := { dst := some 84, op := Op.move (Operand.tmp 12), type := 4, pos := "outright.go:124", after := #[], guard := none }) (v := .bool true) rfl (by kernel_rfl) (by kernel_rfl) (by kernel_rfl) (fun _ _ _ h => h) (Or.inl ⟨by rfl, by intro w hSw; (try dsimp only at hSw); go_simp⟩) (by assumption) ?_
        try simp only [Act.put, List.setIfInBounds_toArray, List.set_cons_zero, List.set_cons_succ]
        refine wpAnyH_take (i := 1) (oi := { dst := some 85, op := Op.move (Operand.tmp 84), type := 4, pos := "outright.go:124", after := #[{ on := 0, ground := Ground.data }], guard := none }) (v := .bool true) rfl (by kernel_rfl) (by kernel_rfl) (by kernel_rfl) (fun _ _ _ h => h) (Or.inl ⟨by rfl, by intro w hSw; (try dsimp only at hSw); go_simp⟩) (by assumption) ?_
        try simp only [Act.put, List.setIfInBounds_toArray, List.set_cons_zero, List.set_cons_succ]
        refine wpAnyH_take (i := 2) (oi := { dst := some 86, op := Op.move (Operand.tmp 11), type := 3, pos := "outright.go:124", after := #[{ on := 1, ground := Ground.guard }], guard := some (1, true) }) (v := .int .i64 (i : Int)) rfl (by kernel_rfl) (by kernel_rfl) (by kernel_rfl) (fun _ _ _ h => h) (Or.inl ⟨by rfl, by intro w hSw; (try dsimp only at hSw); go_simp⟩) (by assumption) ?_
        try simp only [Act.put, List.setIfInBounds_toArray, List.set_cons_zero, List.set_cons_succ]
        refine wpAnyH_take (i := 3) (oi := { dst := some 87, op := Op.fieldAddr 36 (Operand.tmp 5) 4, type := 0, pos := "outright.go:124", after := #[{ on := 1, ground := Ground.guard }], guard := some (1, true) }) (v := .pointer (some ⟨bx, 4, none⟩)) rfl (by kernel_rfl) (by kernel_rfl) (by kernel_rfl) (fun _ _ _ h => h) (Or.inl ⟨by rfl, by intro w hSw; (try dsimp only at hSw); go_simp⟩) (by assumption) ?_
        try simp only [Act.put, List.setIfInBounds_toArray, List.set_cons_zero, List.set_cons_succ]
        refine wpAnyH_take (i := 4) (oi := { dst := some 88, op := Op.load 3 (Operand.tmp 87), type := 3, pos := "outright.go:124", after := #[{ on := 3, ground := Ground.data }, { on := 1, ground := Ground.guard }], guard := some (1, true) }) (v := .int .i64 f) rfl (by kernel_rfl) (by kernel_rfl) (by kernel_rfl) (fun _ _ _ h => h) (Or.inl ⟨by rfl, by intro w hSw; (try dsimp only at hSw); go_simp⟩) (by assumption) ?_
        try simp only [Act.put, List.setIfInBounds_toArray, List.set_cons_zero, List.set_cons_succ]
        refine wpAnyH_take (i := 5) (oi := { dst := some 89, op := Op.binOp BinOp.lss 3 (Operand.tmp 86) (Operand.tmp 88) 3, type := 4, pos := "outright.go:124", after := #[{ on := 2, ground := Ground.data }, { on := 4, ground := Ground.data }, { on := 1, ground := Ground.guard }], guard := some (1, true) }) (v := .bool false) rfl (by kernel_rfl) (by kernel_rfl) (by kernel_rfl) (fun _ _ _ h => h) (Or.inl ⟨by rfl, by intro w hSw; (try dsimp only at hSw); go_simp⟩) (by assumption) ?_
        try simp only [Act.put, List.setIfInBounds_toArray, List.set_cons_zero, List.set_cons_succ]
        refine wpAnyH_take (i := 6) (oi := { dst := some 90, op := Op.move (Operand.tmp 89), type := 4, pos := "outright.go:124", after := #[{ on := 5, ground := Ground.data }, { on := 1, ground := Ground.chain }, { on := 1, ground := Ground.guard }], guard := some (1, true) }) (v := .bool false) rfl (by kernel_rfl) (by kernel_rfl) (by kernel_rfl) (fun _ _ _ h => h) (Or.inl ⟨by rfl, by intro w hSw; (try dsimp only at hSw); go_simp⟩) (by assumption) ?_
        try simp only [Act.put, List.setIfInBounds_toArray, List.set_cons_zero, List.set_cons_succ]
        refine wpAnyH_take (i := 7) (oi := { dst := some 91, op := Op.move (Operand.tmp 11), type := 3, pos := "outright.go:124", after := #[{ on := 6, ground := Ground.guard }], guard := some (6, false) }) (v := .int .i64 (i : Int)) rfl (by kernel_rfl) (by kernel_rfl) (by kernel_rfl) (fun _ _ _ h => h) (Or.inl ⟨by rfl, by intro w hSw; (try dsimp only at hSw); go_simp⟩) (by assumption) ?_
        try simp only [Act.put, List.setIfInBounds_toArray, List.set_cons_zero, List.set_cons_succ]
        refine wpAnyH_take (i := 8) (oi := { dst := some 92, op := Op.fieldAddr 36 (Operand.tmp 5) 2, type := 0, pos := "outright.go:124", after := #[{ on := 6, ground := Ground.guard }], guard := some (6, false) }) (v := .pointer (some ⟨bx, 2, none⟩)) rfl (by kernel_rfl) (by kernel_rfl) (by kernel_rfl) (fun _ _ _ h => h) (Or.inl ⟨by rfl, by intro w hSw; (try dsimp only at hSw); go_simp⟩) (by assumption) ?_
        try simp only [Act.put, List.setIfInBounds_toArray, List.set_cons_zero, List.set_cons_succ]
        refine wpAnyH_take (i := 9) (oi := { dst := some 93, op := Op.load 31 (Operand.tmp 92), type := 31, pos := "outright.go:124", after := #[{ on := 8, ground := Ground.data }, { on := 6, ground := Ground.guard }], guard := some (6, false) }) (v := .slice Az nz cz) rfl (by kernel_rfl) (by kernel_rfl) (by kernel_rfl) (fun _ _ _ h => h) (Or.inl ⟨by rfl, by intro w hSw; (try dsimp only at hSw); go_simp⟩) (by assumption) ?_
        try simp only [Act.put, List.setIfInBounds_toArray, List.set_cons_zero, List.set_cons_succ]
        refine wpAnyH_take (i := 10) (oi := { dst := some 94, op := Op.call { callee := Callee.builtin Builtin.len, args := #[Operand.tmp 93], argTypes := #[31] }, type := 3, pos := "outright.go:124", after := #[{ on := 9, ground := Ground.data }, { on := 6, ground := Ground.guard }], guard := some (6, false) }) (v := .int .i64 (nz : Int)) rfl (by kernel_rfl) (by kernel_rfl) (by kernel_rfl) (fun _ _ _ h => h) (Or.inl ⟨by rfl, by intro w hSw; (try dsimp only at hSw); go_simp⟩) (by assumption) ?_
        try simp only [Act.put, List.setIfInBounds_toArray, List.set_cons_zero, List.set_cons_succ]
        refine wpAnyH_take (i := 13) (oi := { dst := some 97, op := Op.fieldAddr 36 (Operand.tmp 5) 2, type := 0, pos := "outright.go:124", after := #[{ on := 6, ground := Ground.guard }], guard := some (6, false) }) (v := .pointer (some ⟨bx, 2, none⟩)) rfl (by kernel_rfl) (by kernel_rfl) (by kernel_rfl) (fun _ _ _ h => h) (Or.inl ⟨by rfl, by intro w hSw; (try dsimp only at hSw); go_simp⟩) (by assumption) ?_
        try simp only [Act.put, List.setIfInBounds_toArray, List.set_cons_zero, List.set_cons_succ]
        refine wpAnyH_take (i := 14) (oi := { dst := some 98, op := Op.load 31 (Operand.tmp 97), type := 31, pos := "outright.go:124", after := #[{ on := 13, ground := Ground.data }, { on := 6, ground := Ground.guard }], guard := some (6, false) }) (v := .slice Az nz cz) rfl (by kernel_rfl) (by kernel_rfl) (by kernel_rfl) (fun _ _ _ h => h) (Or.inl ⟨by rfl, by intro w hSw; (try dsimp only at hSw); go_simp⟩) (by assumption) ?_
        try simp only [Act.put, List.setIfInBounds_toArray, List.set_cons_zero, List.set_cons_succ]
        refine wpAnyH_take (i := 15) (oi := { dst := some 99, op := Op.convert 31 9 (Operand.tmp 98), type := 9, pos := "outright.go:124", after := #[{ on := 14, ground := Ground.data }, { on := 6, ground := Ground.guard }], guard := some (6, false) }) (v := .string Tz) rfl (by kernel_rfl) (by kernel_rfl) (by kernel_rfl) (fun _ _ _ h => h) (Or.inl ⟨by rfl, by intro w hSw; (try dsimp only at hSw); go_simp⟩) (by assumption) ?_
        try simp only [Act.put, List.setIfInBounds_toArray, List.set_cons_zero, List.set_cons_succ]
        refine wpAnyH_ready (rs := [11]) (by kernel_rfl) (by simp) ?_
        refine AllReadyH.cons (o := { dst := some 95, op := Op.call { callee := Callee.value (Operand.func 26), args := #[Operand.tmp 8, Operand.tmp 91, Operand.tmp 94], argTypes := #[29, 3, 3] }, type := 31, pos := "outright.go:124", after := #[{ on := 7, ground := Ground.data }, { on := 10, ground := Ground.data }, { on := 6, ground := Ground.chain }, { on := 6, ground := Ground.guard }], guard := some (6, false) }) rfl (fun K hK => ?_) AllReadyH.nil
        go_simp
        refine (HCp.out _ _ ⟨H8.out.1.kept (Kept.refl _ _).drew, H8.out.2.1⟩).mono ?_
        rintro e w9 ⟨v9, rfl, hs9, k9⟩
        have H9 := Lib.hid (law_quiet H8.out.2.2.drew H8.out.1.base k9)
        have HC := Lib.hid (HW.out w9 H9.out)
        clear k9
        first | refine hK.out _ _ HC.out (fun hHeld2 => ?_) | (go_wp2_with fail; refine hK.out _ _ HC.out (fun hHeld2 => ?_))
        clear hK K hHeld
        have hHeld := hHeld2
        clear hHeld2
        try simp only [Act.put, List.setIfInBounds_toArray, List.set_cons_zero, List.set_cons_succ]
        refine wpAnyH_ready (rs := [12]) (by kernel_rfl) (by simp) ?_
        refine AllReadyH.cons (o := { dst := some 96, op := Op.convert 31 9 (Operand.tmp 95), type := 9, pos := "outright.go:124", after := #[{ on := 11, ground := Ground.data }, { on := 6, ground := Ground.guard }], guard := some (6, false) }) rfl (fun K hK => ?_) AllReadyH.nil
        go_simp
        first | refine hK.out _ _ HC.out (fun hHeld2 => ?_) | (go_wp2_with fail; refine hK.out _ _ HC.out (fun hHeld2 => ?_))
        clear hK K hHeld
        have hHeld := hHeld2
        clear hHeld2
        try simp only [Act.put, List.setIfInBounds_toArray, List.set_cons_zero, List.set_cons_succ]
        refine wpAnyH_take (i := 16) (oi := { dst := some 100, op := Op.binOp BinOp.neq 9 (Operand.tmp 96) (Operand.tmp 99) 9, type := 4, pos := "outright.go:124", after := #[{ on := 12, ground := Ground.data }, { on := 15, ground := Ground.data }, { on := 6, ground := Ground.guard }], guard := some (6, false) }) (v := .bool false) rfl (by kernel_rfl) (by kernel_rfl) (by kernel_rfl) (fun _ _ _ h => h) (Or.inl ⟨by rfl, by intro w hSw; (try dsimp only at hSw); go_simp⟩) (by assumption) ?_
        try simp only [Act.put, List.setIfInBounds_toArray, List.set_cons_zero, List.set_cons_succ]
        refine wpAnyH_take (i := 17) (oi := { dst := some 101, op := Op.pick (Operand.tmp 90) (Operand.const (Value.bool true)) (Operand.tmp 100), type := 4, pos := "outright.go:124", after := #[{ on := 6, ground := Ground.data }, { on := 16, ground := Ground.data }, { on := 1, ground := Ground.guard }], guard := some (1, true) }) (v := .bool false) rfl (by kernel_rfl) (by kernel_rfl) (by kernel_rfl) (fun _ _ _ h => h) (Or.inl ⟨by rfl, by intro w hSw; (try dsimp only at hSw); go_simp⟩) (by assumption) ?_
        try simp only [Act.put, List.setIfInBounds_toArray, List.set_cons_zero, List.set_cons_succ]
        refine wpAnyH_take (i := 18) (oi := { dst := some 102, op := Op.pick (Operand.tmp 85) (Operand.tmp 101) (Operand.const (Value.bool false)), type := 4, pos := "outright.go:124", after := #[{ on := 1, ground := Ground.data }, { on := 17, ground := Ground.data }], guard := none }) (v := .bool false) rfl (by kernel_rfl) (by kernel_rfl) (by kernel_rfl) (fun _ _ _ h => h) (Or.inl ⟨by rfl, by intro w hSw; (try dsimp only at hSw); go_simp⟩) (by assumption) ?_
        try simp only [Act.put, List.setIfInBounds_toArray, List.set_cons_zero, List.set_cons_succ]
        refine wpAnyH_done (by kernel_rfl) ?_ _
        have wn0 : IntKind.i64.wrap ((n : Int) - (nz : Int)) = (n : Int) - (nz : Int) := IntWalk.i64_in _ (by omega)
        obtain ⟨a0, ha0⟩ : ∃ a0, a0 = f.toNat := ⟨_, rfl⟩
        have m1 : (if (0 : Int) < f then f else 0) = (a0 : Int) := by split <;> omega
        have m2 : (if f < (0 : Int) then 0 else f) = (a0 : Int) := by split <;> omega
        have m3 := Lib.hid (And.intro (show max f 0 = (a0 : Int) by omega) ha0)
        clear ha0
        have wn : IntKind.i64.wrap ((i : Int) - 1) = (i : Int) - 1 := IntWalk.i64_in _ (by omega)
        obtain ⟨z2, z4, zc⟩ := HC.out
        have HT := Lib.hid (fun j => below_drewN H9.out j)
        go_wp2_with fail
        go_loopw [18] (fun i wr => ∃ a : Nat, i = .int .i64 (a : Int) ∧ a0 ≤ a ∧ Below W1.heap.size W1 wr) (fun i _ => n + 1 - (intOf i).toNat)
        case atStart => exact ⟨a0, rfl, Nat.le_refl _, by first | exact HT.out _ | exact HT.out 0⟩
        case round =>
          obtain ⟨a, rfl, haa, hB⟩ := hrel
          have q2 : ∀ j, (wr.drewN j).cell? ⟨bx, 2, none⟩ = some (.slice Az nz cz) := fun j => (HW.out _ (below_drewN hB j)).1
          have qc : ∀ j, (convert 31 9 (.slice Az nz cz)).run Try.prog (wr.drewN j) = .ok (.string Tz) (wr.drewN j) := fun j => (HW.out _ (below_drewN hB j)).2.2
          obtain ⟨p2, p4, pc⟩ := HW.out wr hB
          by_cases hae : (a : Int) ≤ (i : Int) - 1
          · have hmid := finds_end HR.out (a := a) (by rw [HY.out.2.2.2.1, HY.out.2.2.2.2.1]; exact hae)
            rw [HY.out.2.2.2.1, HY.out.2.2.2.2.1] at hmid
            obtain ⟨A3, r3, s3⟩ := HA.out.1.mid (x := a) (e := nz) hmid
            have c3 := fun j => (s3.below (D := No2) (below_drewN hB j) (fun _ _ e => e.elim)).str
            have u1 : IntKind.i64.wrap ((a : Int) + (nz : Int)) = (a : Int) + (nz : Int) := IntWalk.i64_in _ (by omega)
            have HQ := Lib.hid (And.intro haa (And.intro hB hmid))
            by_cases heq : (zs.drop a).take nz = z
            · have hf0 : f < 0 := by
                by_cases h : f < 0
                · exact h
                · exact (finds_not HR.out (by omega) (a := a) (by rw [m3.out.2] at haa; exact haa) (by rw [HY.out.2.2.2.1, HY.out.2.2.2.2.1]; exact hae) (by rw [HY.out.2.2.2.2.1]; exact heq)).elim
              simp only [heq, HY.out.2.2.1] at c3
              have f1 : decide (f < 0) = true := by simpa using hf0
              clear hmid s3 haa hB heq HR
              go_wp2_with fail
              go_quiet (fail)
              go_wp2_with fail
              go_ret
              exact ⟨rfl, HY.out.2.2.2.2.2.trans ((below_drewN HQ.out.2.1 _).mono HY.out.2.2.2.2.2.size)⟩
            · obtain ⟨T3, hT3⟩ : ∃ T, strOfNums ((zs.drop a).take nz) = T := ⟨_, rfl⟩
              have hne : ¬ T3 = Tz := fun e => heq (strOfNums_inj ((HY.out.1.drop a).take nz) HY.out.2.1 (by rw [hT3, HY.out.2.2.1]; exact e))
              simp only [hT3] at c3
              have e1 : (T3.toList == Tz.toList) = false := bytes_ne hne
              have HD := Lib.hid (fun j => below_drewN hB j)
              clear hmid s3 haa hB heq hT3
              go_wp2_with fail
              go_quiet (fail)
              go_wp2_with fail
              refine ⟨⟨a + 1, by go_num, by have := HQ.out.1; omega, HD.out _⟩, by have := HQ.out.2.2; simp [intOf]; omega⟩
          · have HD := Lib.hid hB
            clear hB
            go_wp2_with fail
            go_ret
            exact ⟨rfl, HY.out.2.2.2.2.2.trans (HD.out.mono HY.out.2.2.2.2.2.size)⟩

set_option maxRecDepth 100000 in
set_option maxHeartbeats 4000000 in
theorem findsl_law (w : World) {A A2 Az : Option Addr} {n c m c2 nz cz : Nat} {zs xs z : List Int} (kind nn f many which : Int) (hb : Src w No2 A n c zs) (ha : Src w No2 A2 m c2 xs) (hz : Src w No2 Az nz cz z) (hx : Byt xs) (hy : Byt zs) (hw : Byt z)
    (hf : -9223372036854775808 ≤ f ∧ f ≤ 9223372036854775807) :
    Calls Try.prog 6 #[.slice A n c, .slice A2 m c2, .agg #[.int .i64 kind, .int .u8 which, .slice Az nz cz, .int .i64 nn, .int .i64 f, .int .u32 many]] w fun e w' => e = .returned (.bool true) ∧ Below w.heap.size w w' := by
  by_cases hall : n ≤ 3000 ∧ m ≤ 300 ∧ nz ≤ 100
  · exact findsl_main w kind nn f many which hb ha hz hx hy hw hall.1 hall.2.1 hall.2.2 hf
  have bW : Below w.heap.size w (w.alloc (.cells #[.int .i64 kind, .int .u8 which, .slice Az nz cz, .int .i64 nn, .int .i64 f, .int .u32 many] 36)) := (Below.refl _ w).alloc (Nat.le_refl _) _
  have cb := cell_of_row _ _ 2 _ _ (0, 0) (heap_alloc_new w (.cells #[.int .i64 kind, .int .u8 which, .slice Az nz cz, .int .i64 nn, .int .i64 f, .int .u32 many] 36))
  have HB := Lib.hid (And.intro bW cb)
  clear hb ha hz hx hy hw bW cb
  by_cases hn : n ≤ 3000
  · have b1 : decide ((3000 : Int) < (n : Int)) = false := by simp; omega
    by_cases hm : m ≤ 300
    · have b2 : decide ((300 : Int) < (m : Int)) = false := by simp; omega
      have b3 : decide ((100 : Int) < (nz : Int)) = true := by simp; omega
      clear hall
      go_enter Try.func6, Try.ntmps6
      go_wp2_with fail
      refine (alive_any _).mono ?_
      rintro e w0 ⟨rfl, hb0⟩
      have q2 : w0.cell? ⟨w.heap.size, 2, none⟩ = some (.slice Az nz cz) := (hb0.cell (p := ⟨w.heap.size, 2, none⟩) (by simp)).trans (HB.out.2.trans rfl)
      have HD := Lib.hid (HB.out.1.trans (hb0.mono HB.out.1.size))
      clear hb0
      go_wp2_with fail
      go_ret
      exact ⟨rfl, HD.out⟩
    · have b2 : decide ((300 : Int) < (m : Int)) = true := by simp; omega
      clear hall
      go_enter Try.func6, Try.ntmps6
      go_wp2_with fail
      refine (alive_any _).mono ?_
      rintro e w0 ⟨rfl, hb0⟩
      have HD := Lib.hid (HB.out.1.trans (hb0.mono HB.out.1.size))
      clear hb0
      go_wp2_with fail
      go_ret
      exact ⟨rfl, HD.out⟩
  · have b1 : decide ((3000 : Int) < (n : Int)) = true := by simp; omega
    clear hall
    go_enter Try.func6, Try.ntmps6
    go_wp2_with fail
    refine (alive_any _).mono ?_
    rintro e w0 ⟨rfl, hb0⟩
    have HD := Lib.hid (HB.out.1.trans (hb0.mono HB.out.1.size))
    clear hb0
    go_wp2_with fail
    go_ret
    exact ⟨rfl, HD.out⟩
end Go.Proofs.Ytkhkhjkacibocaa
