/-
  WorldEnds.
-/
import Derived.Test.YtjejpgognfadoaaWdLaw
import Derived.Test.YtjejpgognfadoaaWdArg
import Derived.Lib.SmallJoins
namespace Go.Proofs.Ytjejpgognfadoaa
open Go.RowKit Go.Shelf Go.Maps Go.ChangeMaps

theorem convz (W : World) (A : Option Addr) (c : Nat) : (convert 32 9 (.slice A 0 c)).run Try.prog W = .ok (.string (strOfNums [])) W := by
  cases A with
  | none => exact run_convert_bytes_nil W 32 5 Try.underlying32 Try.underlying5 0 c 9 Try.underlying9
  | some a =>
    have hl : (loadCells a 0).run Try.prog W = .ok (([] : List Int).map (Value.int .u8)).toArray W := by simpa using run_loadCells_list (P := Try.prog) W a [] (by simp)
    rw [run_convert_bytes_string W 32 9 5 _ 0 c Try.underlying32 Try.underlying5 Try.underlying9, run_bytesToString W _ 0 c [] hl]
    rfl
/-- What a string of the first bytes of a slice is. -/
theorem Src.str_take {W : World} {G : Nat → Prop} {A : Option Addr} {n c : Nat} {zs : List Int} (h : Src W G (.slice A n c) zs) (k : Nat) (hk : k ≤ zs.length) : (convert 32 9 (.slice A k c)).run Try.prog W = .ok (.string (strOfNums (zs.take k))) W := by
  obtain ⟨A', c', e, h1, h2, hc⟩ := h
  cases e
  by_cases h0 : k = 0
  · subst h0
    rw [List.take_zero]
    exact convz W A c
  · obtain ⟨b, o, rfl, hl, _, hcell⟩ := hc (by omega)
    refine run_convert_bytes_arg W 32 5 Try.underlying32 Try.underlying5 b o k c (zs.take k) (by rw [List.length_take]; omega) (fun i hi => ?_) 9 Try.underlying9
    have hi' : i < (zs.take k).length := by rw [List.length_take]; omega
    rw [hcell i _ (List.getElem?_eq_getElem (by omega : i < zs.length))]
    simp only [List.getD, List.getElem?_eq_getElem hi', Option.getD_some]
    rw [List.getElem_take]

/-- The wire, when so many bytes were read. -/
structure Ed (ys : List Int) (cap q : Nat) (x : Wi) : Prop where
  can0 : (x.e false).can = true
  can1 : (x.e true).can = true
  bs0 : (x.e false).bs = ys.drop q
  sh0 : (x.e false).shut = false
  sh1 : (x.e true).shut = true
  is1 : (x.e true).is = 2
  bs1 : (x.e true).bs = []
  rs : x.reset = false
  cp : x.cap = cap
  wt : x.wait = []
section
variable {ys : List Int} {cap q m : Nat} {x : Wi}
theorem Ed.noWriter (h : Ed ys cap q x) : x.noWriter false = true := by
  unfold Wi.noWriter
  rw [show (!false) = true from rfl, h.sh1]
  simp
theorem Ed.drained (h : Ed ys cap q x) (m : Nat) : Ed ys cap (q + m) (x.drain false m) := by
  have hcut : Ed ys cap (q + m) (x.cut false m) := ⟨h.can0, h.can1, by show ((x.e false).bs.drop m) = _; rw [h.bs0, List.drop_drop], h.sh0, h.sh1, h.is1, h.bs1, h.rs, h.cp, h.wt⟩
  unfold Wi.drain
  split
  · unfold Wi.wrRise
    split
    · exact ⟨hcut.can0, hcut.can1, hcut.bs0, hcut.sh0, hcut.sh1, hcut.is1, hcut.bs1, hcut.rs, hcut.cp, hcut.wt⟩
    · exact hcut
  · exact hcut
theorem Ed.read_more (h : Ed ys cap q x) (hq : q < ys.length) (hm : 1 ≤ m) : x.read false (m : Int) = ((ys.drop q).take m, false, 0, x.drain false m) := by
  unfold Wi.read
  rw [if_neg (by simp [h.can0]), if_neg (by omega), if_neg (by simp [h.rs]), if_pos (by rw [h.bs0, List.length_drop]; omega), h.bs0, Int.toNat_natCast]
theorem Ed.read_end (h : Ed ys cap q x) (hq : ys.length ≤ q) (hm : 1 ≤ m) : x.read false (m : Int) = ([], true, 0, x) := by
  unfold Wi.read
  rw [if_neg (by simp [h.can0]), if_neg (by omega), if_neg (by simp [h.rs]), if_neg (by rw [h.bs0, List.length_drop]; omega), if_pos h.noWriter]
theorem Ed.ready (h : Ed ys cap q x) : x.ready false = ⟨true, true, x.out false, false, false, (x.e false).rd, (x.e false).wr⟩ := by
  have h1 : x.rin false = true := by unfold Wi.rin; simp [h.can0, h.noWriter]
  have h2 : x.noReader false = false := by unfold Wi.noReader; simp [h.is1]
  unfold Wi.ready
  rw [h1, h2, h.rs]
theorem Ed.write (h : Ed ys cap q x) (hc : 1 ≤ cap) (z : Int) : x.write false [z] = (1, 0, x.fill true [z]) := by
  have h2 : x.noReader false = false := by unfold Wi.noReader; simp [h.is1]
  unfold Wi.write
  rw [if_neg (by simp [h.can1]), if_neg (by simp [h.rs]), if_neg (by simp [h.sh0, h2]), if_neg (by simp [h.bs1, h.cp]; omega)]
  have : x.room (!false) [z].length = 1 := by
    show min 1 (x.cap - (x.e true).bs.length) = 1
    rw [h.bs1, h.cp]; simp; omega
  rw [this]; rfl
theorem Ed.start (cap : Nat) (zs : List Int) : Ed (zs.take (min zs.length cap)) cap 0 ((((outW cap).mark false 1).fill false zs).stop true) := by
  have hr : ((outW cap).mark false 1).room false zs.length = min zs.length cap := rfl
  have hp : ∀ y : Wi, Ed (zs.take (min zs.length cap)) cap 0 y → Ed (zs.take (min zs.length cap)) cap 0 (y.rdRise false) := fun y hy => by
    unfold Wi.rdRise
    split
    · exact ⟨hy.can0, hy.can1, hy.bs0, hy.sh0, hy.sh1, hy.is1, hy.bs1, hy.rs, hy.cp, hy.wt⟩
    · exact hy
  have key : ∀ y : Wi, (y.e false).can = true → (y.e true).can = true → (y.e false).bs = zs.take (min zs.length cap) → (y.e false).shut = false → (y.e true).shut = false → (y.e true).is = 2 → (y.e true).bs = [] → y.reset = false → y.cap = cap → y.wait = [] → Ed (zs.take (min zs.length cap)) cap 0 (y.stop true) := fun y a b c d e f g i j l => by
    unfold Wi.stop
    rw [if_neg (by simp [e])]
    exact hp _ ⟨a, b, c, d, rfl, f, g, i, j, l⟩
  unfold Wi.fill
  split
  · exact key _ rfl rfl rfl rfl rfl rfl rfl rfl rfl rfl
  · exact key _ rfl rfl rfl rfl rfl rfl rfl rfl rfl rfl
end

set_option maxRecDepth 100000 in
set_option maxHeartbeats 8000000 in
theorem ends_law (w : World) (cp n : Nat) (hcp : cp ≤ 255) (hn : n ≤ 255) (v : Value) (zs : List Int) (hv : Src w (fun _ => False) v zs) :
    Calls Try.prog 4 #[.int .u8 (cp : Int), v, .int .u8 (n : Int)] w fun x w' => x = .returned (.bool true) ∧ Below w.heap.size w w' := by
  obtain ⟨A, c, rfl, hc1, hc2, _⟩ := id hv
  have HA := Lib.hid (walive_any w)
  have HV := Lib.hid hv
  clear hv
  by_cases hl : 300 < zs.length
  · have b0 : (300 : Int) < (zs.length : Int) := by omega
    go_enter Try.func4, Try.ntmps4
    go_wp2_with fail
    refine HA.out.mono ?_
    rintro e w1 ⟨rfl, hb⟩
    have HE := Lib.hid hb
    clear hb
    go_wp2_with fail
    go_ret
    exact ⟨rfl, HE.out⟩
  · have b0 : ¬ (300 : Int) < (zs.length : Int) := by omega
    obtain ⟨room, hroom⟩ : ∃ room, room = 1 + cp % 60 := ⟨_, rfl⟩
    have e1 : 1 + (cp : Int) % 60 = (room : Int) := by omega
    obtain ⟨st, hst⟩ : ∃ st, st = 1 + n % 20 := ⟨_, rfl⟩
    have e2 : 1 + (n : Int) % 20 = (st : Int) := by omega
    have hs1 : 1 ≤ st := by omega
    have hs2 : st ≤ 20 := by omega
    clear hst
    have hr1 : 1 ≤ room := by omega
    have hr2 : room ≤ 60 := by omega
    clear hroom
    go_enter Try.func4, Try.ntmps4
    go_wp2_with fail
    refine HA.out.mono ?_
    rintro e w1 ⟨rfl, hb⟩
    have HB := Lib.hid hb
    clear hb
    go_wp2_with fail
    refine (Od.new (B := w.heap.size) (W := w) HB.out.size HB.out).mono ?_
    rintro e w2 ⟨p, rfl, O⟩
    have HT := Lib.hid (O.outer room hr1 (by omega) (by decide) frees_new)
    clear O
    go_wp2_with fail
    refine HT.out.mono ?_
    rintro e w3 ⟨rfl, O, _⟩
    rw [S1_outer] at O
    rw [show Ws.new.ws.length = 0 from rfl]
    obtain ⟨K, hK⟩ : ∃ K, K = min zs.length room := ⟨_, rfl⟩
    have HV3 : Src w3 (fun b => w.heap.size ≤ b) (.slice A zs.length c) zs := HV.out.at0 O.bel (fun _ e => e)
    have hx := Ed.start room zs
    have hx2 : (((outW room).mark false 1).putO zs) = ((K : Int), 0, ((outW room).mark false 1).fill false zs) := by rw [hK]; rfl
    have HT := Lib.hid (O.put (n := 0) (S1_out _ rfl) rfl _ zs HV3 (by omega) hx2)
    obtain ⟨x1, hx1⟩ : ∃ x1, x1 = ((outW room).mark false 1).fill false zs := ⟨_, rfl⟩
    rw [← hx1] at hx HT
    have hx1o : (x1.e true).is = 2 := by
      rw [hx1]; unfold Wi.fill Wi.rdRise
      repeat' split
      all_goals rfl
    have HX := Lib.hid (And.intro hx hx1o)
    have HK := Lib.hid hK
    clear O HV3 hx hx2 hx1 hx1o hK
    go_wp2_with fail
    refine HT.out.mono ?_
    rintro e w4 ⟨rfl, O, _⟩
    rw [show (S1 ((outW room).mark false 1)).setW (0 : Int).toNat ((K : Int), (0 : Int), x1).2.2 = S1 x1 from rfl] at O
    have HT := Lib.hid (O.peerShut (n := 0) (S1_out x1 HX.out.2) (by omega))
    clear O
    go_wp2_with fail
    refine HT.out.mono ?_
    rintro e w5 ⟨rfl, O, _⟩
    rw [show (S1 x1).setW (0 : Int).toNat (x1.stop true) = S1 (x1.stop true) from rfl] at O
    have hE := HX.out.1
    rw [← HK.out] at hE
    obtain ⟨x2, hx2⟩ : ∃ x2, x2 = x1.stop true := ⟨_, rfl⟩
    rw [← hx2] at O hE
    have HT := Lib.hid (O.putC (n := 0) (S1_out x2 hE.is1) hE.can0 [1] (0, 0) (by decide) (by simp; omega) (r := (0, 114, x2)) (by unfold Wi.putO; rw [if_neg (by simp [hE.rs]), if_pos (.inl hE.sh1)]))
    have HE2 := Lib.hid hE
    clear O hE hx2
    go_wp2_with fail
    refine HT.out.mono ?_
    rintro e w6 ⟨rfl, O, _⟩
    rw [show (S1 x2).setW (0 : Int).toNat ((0 : Int), (114 : Int), x2).2.2 = S1 x2 from rfl] at O
    have HO := Lib.hid O
    have m1 : (if room < zs.length then (room : Int) else (zs.length : Int)) = (K : Int) := by rw [HK.out]; split <;> omega
    have m2 : (if (room : Int) < (zs.length : Int) then (room : Int) else (zs.length : Int)) = (K : Int) := by rw [HK.out]; split <;> omega
    have m3 : min (zs.length : Int) (room : Int) = (K : Int) := by rw [HK.out]; omega
    clear O
    go_wp2_with fail
    obtain ⟨ys, hys⟩ : ∃ ys, ys = zs.take K := ⟨_, rfl⟩
    have hyl : ys.length = K := by rw [hys, List.length_take, HK.out]; omega
    rw [← hys] at HE2
    have HYS := Lib.hid hys
    have H0 := Lib.hid (show Od w.heap.size w p (S1 x2) (1000 + 0) (fun _ => False) w6 from HO.out.more (by simp; omega))
    clear hys
    go_loopw [18, 19] (fun gs iv wr => ∃ (i q : Nat) (x : Wi) (G : ByteArray), iv = .int .i64 (i : Int) ∧ i ≤ zs.length + 1 ∧ gs = .string G ∧ G = strOfNums (ys.take q) ∧ (i ≤ q ∨ K ≤ q) ∧ Ed ys room q x ∧ Od w.heap.size w p (S1 x) (1000 + i) (fun _ => False) wr) (fun _ iv _ => zs.length + 1 - (intOf iv).toNat)
    case atStart => exact ⟨0, 0, x2, _, rfl, by omega, rfl, by rw [List.take_zero]; rfl, .inl (Nat.le_refl _), HE2.out, H0.out⟩
    case round =>
      obtain ⟨i, q, x, G, rfl, hi, rfl, hG, hiq, hEd, O⟩ := hrel
      have hGs : G.size ≤ 300 := by rw [hG, strOfNums_size, List.length_take, hyl, HK.out]; omega
      by_cases hil : i ≤ zs.length
      · have b1 : (i : Int) ≤ (zs.length : Int) := by omega
        by_cases hq : q < K
        · obtain ⟨xs, hxs⟩ : ∃ xs, xs = (ys.drop q).take st := ⟨_, rfl⟩
          have hrd := hEd.read_more (by omega : q < ys.length) hs1
          rw [← hxs] at hrd
          have hxl : xs.length ≠ 0 := by rw [hxs, List.length_take, List.length_drop]; omega
          have hxl2 : xs.length ≤ 20 := by rw [hxs, List.length_take]; omega
          obtain ⟨T, hT⟩ : ∃ T, T = strOfNums xs := ⟨_, rfl⟩
          have hTs : T.size ≤ 20 := by rw [hT, strOfNums_size]; exact hxl2
          have z1 : G.size + T.size ≤ 9223372036854775807 := by omega
          have z2 : ¬ 9223372036854775807 < G.size + T.size := by omega
          have HN := Lib.hid (show G ++ T = strOfNums (ys.take (q + st)) from by rw [hG, hT, strs_append, hxs, List.take_add])
          have HQ := Lib.hid (show (i + 1 ≤ q + st ∨ K ≤ q + st) from by omega)
          have HD := Lib.hid (hEd.drained st)
          have HT := Lib.hid (O.read (n := 0) (S1_fd x) (S1_get x) (st : Int) (by omega) (by omega) hrd)
          clear O hEd hrd hxs hiq hG hGs hTs hxl2
          go_wp2_with fail
          refine HT.out.mono ?_
          rintro e w7 ⟨v, rfl, hv, ⟨O, _⟩, _⟩
          rw [show (S1 x).setW 0 (xs, false, (0 : Int), x.drain false st).2.2.2 = S1 (x.drain false st) from rfl] at O
          have hcv := rowB_str hv
          obtain ⟨A7, hvf, _⟩ := hv.form
          rw [show (xs, false, (0 : Int), x.drain false st).1 = xs from rfl] at hcv hvf
          rw [← hT] at hcv
          subst hvf
          obtain ⟨L, hL⟩ : ∃ L, L = xs.length := ⟨_, rfl⟩
          rw [← hL] at hcv hxl ⊢
          have q1 : ((L : Int) == 0) = false := by simp; omega
          have q2 : ¬ (L : Int) = 0 := by omega
          have HOo := Lib.hid O
          clear O hv hL hT
          go_wp2_with fail
          refine ⟨⟨i + 1, q + st, x.drain false st, G ++ T, by go_num, by omega, rfl, HN.out, HQ.out, HD.out, by rw [show 1000 + (i + 1) = 1000 + i + 1 by omega]; exact HOo.out⟩, ?_⟩
          simp [intOf] <;> omega
        · have hrd := hEd.read_end (by omega : ys.length ≤ q) hs1
          have HD := Lib.hid (And.intro hEd hG)
          have z1 : G.size + (strOfNums []).size ≤ 9223372036854775807 := by rw [strOfNums_size]; simp; omega
          obtain ⟨T, hT⟩ : ∃ T, T = strOfNums [] := ⟨_, rfl⟩
          have z2 : ¬ 9223372036854775807 < G.size + T.size := by rw [hT, strOfNums_size]; simp; omega
          have z3 : G.size + T.size ≤ 9223372036854775807 := by omega
          have HN := Lib.hid (show G ++ T = strOfNums (ys.take q) from by rw [hG, hT, strs_append, List.append_nil])
          have HT := Lib.hid (O.read (n := 0) (S1_fd x) (S1_get x) (st : Int) (by omega) (by omega) hrd)
          clear O hEd hrd hiq hG hGs z1
          go_wp2_with fail
          refine HT.out.mono ?_
          rintro e w7 ⟨v, rfl, hv, ⟨O, _⟩, _⟩
          rw [show (S1 x).setW 0 (([] : List Int), true, (0 : Int), x).2.2.2 = S1 x from rfl] at O
          have hcv := rowB_str hv
          obtain ⟨A7, hvf, _⟩ := hv.form
          rw [show (([] : List Int), true, (0 : Int), x).1 = [] from rfl] at hcv hvf
          rw [← hT] at hcv
          rw [show ([] : List Int).length = 0 from rfl] at hvf
          subst hvf
          have HOo := Lib.hid O
          clear O hv hT
          go_wp2_with fail
          refine ⟨⟨i + 1, q, x, G ++ T, by go_num, by omega, rfl, HN.out, .inr (by omega), HD.out.1, by rw [show 1000 + (i + 1) = 1000 + i + 1 by omega]; exact HOo.out⟩, ?_⟩
          simp [intOf] <;> omega
      · obtain rfl : i = zs.length + 1 := by omega
        have b1 : ¬ ((zs.length + 1 : Nat) : Int) ≤ (zs.length : Int) := by omega
        have b2 : ¬ ((zs.length : Int) + 1) ≤ (zs.length : Int) := by omega
        have hqK : K ≤ q := by have := HK.out; omega
        have hGK : G = strOfNums (zs.take K) := by rw [hG, List.take_of_length_le (by omega), HYS.out]
        have HGK0 := Lib.hid hGK
        have HT := Lib.hid (O.read (n := 0) (S1_fd x) (S1_get x) (1 : Int) (by omega) (by omega) (hEd.read_end (by omega : ys.length ≤ q) (Nat.le_refl 1)))
        have HD := Lib.hid hEd
        clear O hEd hiq hG
        go_wp2_with fail
        refine HT.out.mono ?_
        rintro e w7 ⟨v, rfl, hv, ⟨O, _⟩, _⟩
        rw [show (S1 x).setW 0 (([] : List Int), true, (0 : Int), x).2.2.2 = S1 x from rfl] at O
        have HT := Lib.hid (O.ready (n := 0) (S1_fd x) (S1_get x) HD.out.ready)
        clear O hv
        unfold rdyV at HT
        go_wp2_with fail
        refine HT.out.mono ?_
        rintro e w8 ⟨rfl, O, _⟩
        obtain ⟨xo, hxo⟩ : ∃ xo, xo = x.out false := ⟨_, rfl⟩
        obtain ⟨xr, hxr⟩ : ∃ xr, xr = (((x.e false).rd : Nat) : Int) := ⟨_, rfl⟩
        obtain ⟨xw, hxw⟩ : ∃ xw, xw = (((x.e false).wr : Nat) : Int) := ⟨_, rfl⟩
        simp only [← hxo, ← hxr, ← hxw]
        have b0' := Blk.new w8 45 #[.bool true, .bool true, .bool xo, .bool false, .bool false, .int .u64 xr, .int .u64 xw]
        have HB8 := Lib.hid b0'
        have e8 : (w8.alloc (.cells #[.bool true, .bool true, .bool xo, .bool false, .bool false, .int .u64 xr, .int .u64 xw] 45)).heap.size = w8.heap.size + 1 := World.size_alloc _ _
        have kc := fun (C : Array Value) (n c : Nat) => Joins.run_convert_bytes_const_at (P := Try.prog) (w8.alloc (.cells #[.bool true, .bool true, .bool xo, .bool false, .bool false, .int .u64 xr, .int .u64 xw] 45)) 32 5 C n c (w8.heap.size + 1) e8.symm Try.underlying32 Try.underlying5
        have HT := Lib.hid ((O.alloc (.cells #[.bool true, .bool true, .bool xo, .bool false, .bool false, .int .u64 xr, .int .u64 xw] 45)).writeC (n := 0) (S1_fd x) (S1_get x) [97] (1, 2) (by decide) (by omega) (HD.out.write hr1 97))
        rw [e8] at HT
        have HO8 := Lib.hid (And.intro O.bel (And.intro HGK0.out HK.out))
        clear O b0' hxo hxr hxw e8
        go_wp2_with fail
        refine HT.out.mono ?_
        rintro e w9 ⟨rfl, O, hD, _⟩
        have b5 : Blk w9 w8.heap.size 45 #[.bool true, .bool true, .bool xo, .bool false, .bool false, .int .u64 xr, .int .u64 xw] := HB8.out.same (hD _ (.inl rfl))
        have lb := b5.lt
        have c1 := b5.cell 1
        have c3 := b5.cell 3
        simp at c1 c3
        have HE := Lib.hid O.bel
        have hsrc : Src w9 (fun b => w.heap.size ≤ b) (.slice A zs.length c) zs := HV.out.at0 O.bel (fun _ e => e)
        have hcv := hsrc.str_take K (by rw [HK.out]; omega)
        have k1 : (K : Int) ≤ (c : Int) := by have := HK.out; omega
        have k2 : K ≤ c := by have := HK.out; omega
        have k3 : (0 : Int) ≤ (K : Int) := by omega
        clear O hD b5 hsrc kc
        go_wp2_with fail
        go_ret
        exact ⟨by first | rfl | simp, HE.out⟩
theorem ends_all (w : World) (cp n : Int) (hcp : 0 ≤ cp ∧ cp ≤ 255) (hn : 0 ≤ n ∧ n ≤ 255) (v : Value) (zs : List Int) (hv : Src w (fun _ => False) v zs) :
    Calls Try.prog 4 #[.int .u8 cp, v, .int .u8 n] w fun x w' => x = .returned (.bool true) ∧ Below w.heap.size w w' := by
  obtain ⟨a, rfl⟩ : ∃ a : Nat, cp = (a : Int) := ⟨cp.toNat, by omega⟩
  obtain ⟨b, rfl⟩ : ∃ b : Nat, n = (b : Int) := ⟨n.toNat, by omega⟩
  exact ends_law w a b (by omega) (by omega) v zs hv
end Go.Proofs.Ytjejpgognfadoaa
