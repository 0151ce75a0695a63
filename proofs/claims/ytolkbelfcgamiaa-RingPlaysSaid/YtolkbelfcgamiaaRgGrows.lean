/-
  RingGrows.
-/
import Derived.Test.YtolkbelfcgamiaaRgNames
namespace Go.Proofs.Ytolkbelfcgamiaa
open Go.RowKit Go.Shelf Go.Maps Go.ChangeMaps

/-- What was readable ahead of a law is readable for a ring that it made. -/
theorem Src.at_ {w w1 : World} {F : Nat → Prop} {v : Value} {zs : List Int} (h : Src w (fun _ => False) v zs) (hb : Below w.heap.size w w1) (hF : ∀ k, F k → w.heap.size ≤ k) : Src w1 F v zs := by
  obtain ⟨A, c, rfl, h1, h2, h3⟩ := h
  refine ⟨A, c, rfl, h1, h2, fun h0 => ?_⟩
  obtain ⟨b, o, rfl, hl, _, hc⟩ := h3 h0
  exact ⟨b, o, rfl, Nat.lt_of_lt_of_le hl hb.size, fun hf => by have := hF b hf; omega, fun i z hz => (hb.cell (p := ⟨b, o + i, none⟩) hl).trans (hc i z hz)⟩
theorem strOfNums_append (xs ys : List Int) : strOfNums xs ++ strOfNums ys = strOfNums (xs ++ ys) := by
  apply ByteArray.ext
  rw [ByteArray.data_append]
  apply Array.toList_inj.1
  simp [strOfNums]
/-- A ring that a law made, and all that has been done since. -/
def St (w w1 : World) (r : Nat) (F : Nat → Prop) (cap : Nat) (bs : List Int) (inn out : Nat) : Prop := Rg w1 w.heap.size r F cap bs inn out ∧ Below w.heap.size w w1
section
variable {w w1 w2 : World} {r cap inn out : Nat} {F : Nat → Prop} {bs : List Int}
theorem St.base (h : St w w1 r F cap bs inn out) : w.heap.size ≤ w1.heap.size := h.1.base
theorem St.drewN (h : St w w1 r F cap bs inn out) (q : Nat) : St w (w1.drewN q) r F cap bs inn out := ⟨h.1.drewN q, below_drewN h.2 q⟩
theorem St.kept (h : St w w1 r F cap bs inn out) (k : Kept (fun _ => False) w1 w2) : St w w2 r F cap bs inn out := ⟨h.1.kept k (fun _ _ e => e), law_quiet h.2 h.1.base k (fun _ e => e)⟩
theorem st_put (h : St w w1 r F cap bs inn out) {v : Value} {zs : List Int} (hs : Src w1 F v zs) (hin : inn + min zs.length (cap - bs.length) ≤ 1000000000) {n : Nat} {bs' : List Int} {inn' : Nat} (hn : min zs.length (cap - bs.length) = n) (hb : bs ++ zs.take n = bs') (hi : inn + n = inn') :
    Calls Try.prog 12 #[.pointer (some ⟨r, 0, none⟩), v] w1 fun e w' => e = .returned (.int .i64 (n : Int)) ∧ ∃ F', St w w' r F' cap bs' inn' out ∧ Mv w1 w' F F' := by
  subst hn; subst hb; subst hi
  refine (put_any h.1 v zs hs hin).mono ?_
  rintro e w' ⟨rfl, F', h1, h2⟩
  exact ⟨rfl, F', ⟨h1, law_step h.1 h.2 h2⟩, h2⟩
theorem st_take (h : St w w1 r F cap bs inn out) (n : Int) (hn : -9223372036854775808 ≤ n ∧ n ≤ 9223372036854775807) {xs bs' : List Int} {out' : Nat} (h1 : bs.take n.toNat = xs) (h2 : bs.drop n.toNat = bs') (h3 : out + xs.length = out') :
    Calls Try.prog 14 #[.pointer (some ⟨r, 0, none⟩), .int .i64 n] w1 fun e w' => ∃ A L, e = .returned (.slice A L L) ∧ (L : Int) = (xs.length : Int) ∧ (∀ q, (convert 28 9 (.slice A L L)).run Try.prog (w'.drewN q) = .ok (.string (strOfNums xs)) (w'.drewN q)) ∧ St w w' r F cap bs' inn out' ∧ Kept F w1 w' := by
  refine (take_num h.1 n hn h1 h2 h3).mono ?_
  rintro e w' ⟨v, rfl, g1, g2, g3⟩
  obtain ⟨A, hv, _⟩ := g1.form
  exact ⟨A, xs.length, by rw [hv], rfl, fun q => by have := rowB_str (g1.same (w' := w'.drewN q) (fun _ _ => rfl)); rw [hv] at this; exact this, ⟨g2, law_keep h.1 h.2 g3⟩, g3⟩
theorem st_look (h : St w w1 r F cap bs inn out) (n : Int) (hn : -9223372036854775808 ≤ n ∧ n ≤ 9223372036854775807) {xs : List Int} (h1 : bs.take n.toNat = xs) :
    Calls Try.prog 16 #[.pointer (some ⟨r, 0, none⟩), .int .i64 n] w1 fun e w' => ∃ A L, e = .returned (.slice A L L) ∧ (L : Int) = (xs.length : Int) ∧ (∀ q, (convert 28 9 (.slice A L L)).run Try.prog (w'.drewN q) = .ok (.string (strOfNums xs)) (w'.drewN q)) ∧ St w w' r F cap bs inn out ∧ Kept (fun _ => False) w1 w' := by
  refine (look_num h.1 n hn h1).mono ?_
  rintro e w' ⟨v, rfl, g1, g3⟩
  obtain ⟨A, hv, _⟩ := g1.form
  exact ⟨A, xs.length, by rw [hv], rfl, fun q => by have := rowB_str (g1.same (w' := w'.drewN q) (fun _ _ => rfl)); rw [hv] at this; exact this, h.kept g3, g3⟩
end

theorem quo2 (n : Int) (hn : -9223372036854775808 ≤ n ∧ n ≤ 9223372036854775807) : IntKind.i64.wrap (n.tdiv 2) = n.tdiv 2 ∧ -9223372036854775808 ≤ n.tdiv 2 ∧ n.tdiv 2 ≤ 9223372036854775807 := by
  have h : n.tdiv 2 = if 0 ≤ n then n / 2 else -(-n / 2) := by
    split
    · rename_i h; exact Int.tdiv_eq_ediv_of_nonneg h
    · rename_i h
      rw [show n = -(-n) by omega, Int.neg_tdiv, Int.tdiv_eq_ediv_of_nonneg (by omega)]; simp
  rw [h]
  split <;> exact ⟨IntWalk.i64_in _ (by omega), by omega, by omega⟩

set_option maxRecDepth 100000 in
set_option maxHeartbeats 8000000 in
theorem grows_main (w : World) (k : Nat) (v : Value) (zs : List Int) (n other : Int) (hk : k ≤ 1000) (hz : zs.length ≤ 2000) (hn : -9223372036854775808 ≤ n ∧ n ≤ 9223372036854775807) (ho : -9223372036854775808 ≤ other ∧ other ≤ 9223372036854775807) (hv : Src w (fun _ => False) v zs) :
    Calls Try.prog 7 #[.int .i64 (k : Int), v, .int .i64 n, .int .i64 other] w fun e w' => e = .returned (.bool true) ∧ Below w.heap.size w w' := by
  obtain ⟨q1, q2, q3⟩ := quo2 n hn
  obtain ⟨hf, hhf⟩ : ∃ hf, n.tdiv 2 = hf := ⟨_, rfl⟩
  rw [hhf] at q1 q2 q3
  have hc := hv
  obtain ⟨A, c, rfl, hc1, hc2, _⟩ := hc
  have k0 : (0 : Int) ≤ (k : Int) := by omega
  have k1 : (k : Int) ≤ 1000 := by omega
  have z1 : (zs.length : Int) ≤ 2000 := by omega
  have b1 : decide ((k : Int) < 0) = false := by simp
  have b2 : decide (1000 < (k : Int)) = false := by simp; omega
  have b3 : decide (2000 < (zs.length : Int)) = false := by simp; omega
  have HV := Lib.hid hv
  clear hv hc1 hc2
  go_enter Try.func7, Try.ntmps7
  go_wp2_with (go_at_call 24; refine (alive_any _).mono ?_; rintro e w0 ⟨rfl, hb0⟩)
  refine (new_yes _ k (by omega)).mono ?_
  rintro e w1 ⟨r, F, rfl, hR, hb1, hrl⟩
  have S1 : St w w1 r F k [] 0 0 := ⟨hR.more hb0.size, hb0.trans (hb1.mono hb0.size)⟩
  obtain ⟨m1, hm1⟩ : ∃ m, min zs.length (k - ([] : List Int).length) = m := ⟨_, rfl⟩
  obtain ⟨bs1, hbs1⟩ : ∃ x, ([] : List Int) ++ zs.take m1 = x := ⟨_, rfl⟩
  have hl1 : bs1.length ≤ 2000 ∧ bs1.length = m1 := by subst hbs1; simp; omega
  have HP := Lib.hid (st_put S1 (HV.out.at_ S1.2 (fun i e => (S1.1.lt e).2)) (by omega) hm1 hbs1 (Nat.zero_add m1))
  clear S1 hR hb1 hb0 hrl hbs1 hm1
  go_wp2_with fail
  refine HP.out.mono ?_
  rintro e w2 ⟨rfl, F2, S2, m2⟩
  obtain ⟨bs2, hbs2⟩ : ∃ x, bs1.drop hf.toNat = x := ⟨_, rfl⟩
  obtain ⟨xs2, hxs2⟩ : ∃ x, bs1.take hf.toNat = x := ⟨_, rfl⟩
  obtain ⟨o2, ho2⟩ : ∃ o, 0 + xs2.length = o := ⟨_, rfl⟩
  have HT := Lib.hid (st_take S2 hf ⟨q2, q3⟩ hxs2 hbs2 ho2)
  have HF := Lib.hid hhf
  clear S2 m2 hbs2 hxs2 ho2 hhf
  go_wp2_with fail
  rw [HF.out]
  refine HT.out.mono ?_
  rintro e w3 ⟨A3, L3, rfl, _, _, S3, _⟩
  have HL := Lib.hid (len_any S3.1)
  obtain ⟨al, hal⟩ : ∃ s, strOfNums bs2 = s := ⟨_, rfl⟩
  have hb2 : bs2.length ≤ 65536 := by have := S3.1.facts; omega
  have HK := Lib.hid (fun q => st_look (S3.drewN q) (bs2.length : Int) ⟨by omega, by omega⟩ (show bs2.take ((bs2.length : Int)).toNat = bs2 by simp))
  have H3 := Lib.hid (And.intro S3 hal)
  clear S3 hal
  go_wp2_with fail
  refine HL.out.mono ?_
  rintro e w4 ⟨rfl, q4, rfl⟩
  go_wp2_with fail
  refine (HK.out q4).mono ?_
  rintro e w5 ⟨A5, L5, rfl, _, hcv, S5, _⟩
  have hcv5 := hcv 0
  rw [H3.out.2, World.drewN_zero] at hcv5
  have HC := Lib.hid (counts_any S5.1)
  have H5 := Lib.hid S5
  clear S5 hcv
  go_wp2_with fail
  refine HC.out.mono ?_
  rintro e w6 ⟨rfl, q6, rfl⟩
  clear hcv5
  by_cases hg : other < (bs2.length : Int) ∨ 65536 < other
  · -- refused: all stays as it was
    have HG := Lib.hid (fun q => grow_no (H5.out.1.drewN q) other hg ho)
    clear hg
    go_wp2_with fail
    refine (HG.out _).mono ?_
    rintro e w7 ⟨rfl, q7, hw7⟩
    have HS := Lib.hid (show St w w7 r F2 k bs2 m1 o2 from by rw [hw7]; exact (H5.out.drewN q6).drewN q7)
    clear hw7

    obtain ⟨d, hd⟩ : ∃ d, k - bs2.length = d := ⟨_, rfl⟩
    have hfa := HS.out.1.facts
    have ed : IntKind.i64.wrap ((k : Int) - (bs2.length : Int)) = (d : Int) := by rw [IntWalk.i64_in _ (by omega)]; omega
    have HC2 := Lib.hid (counts_any HS.out.1)
    have HR2 := Lib.hid (fun q => hd ▸ room_any (HS.out.1.drewN q))
    have HL2 := Lib.hid (fun q => len_any (HS.out.1.drewN q))
    have HK2 := Lib.hid (fun q => st_look (HS.out.drewN q) (bs2.length : Int) ⟨by omega, by omega⟩ (show bs2.take ((bs2.length : Int)).toNat = bs2 by simp))
    clear hfa hd
    go_wp2_with fail
    refine HC2.out.mono ?_
    rintro e wa ⟨rfl, qa, rfl⟩
    go_wp2_with fail
    refine (HR2.out _).mono ?_
    rintro e wa ⟨rfl, qb, rfl⟩
    go_wp2_with fail
    refine (HL2.out _).mono ?_
    rintro e wa ⟨rfl, qc, rfl⟩
    go_wp2_with fail
    refine (HL2.out _).mono ?_
    rintro e wa ⟨rfl, qd, rfl⟩
    go_wp2_with fail
    refine (HK2.out _).mono ?_
    rintro e wb ⟨Ab, Lb, rfl, _, hcv, Sb, _⟩
    have hcvb := hcv 0
    rw [H3.out.2, World.drewN_zero] at hcvb
    obtain ⟨xs, hxs⟩ : ∃ x, bs2.take n.toNat = x := ⟨_, rfl⟩
    obtain ⟨ys, hys⟩ : ∃ x, bs2.drop n.toNat = x := ⟨_, rfl⟩
    obtain ⟨T, hT⟩ : ∃ s, strOfNums xs = s := ⟨_, rfl⟩
    obtain ⟨D, hD⟩ : ∃ s, strOfNums ys = s := ⟨_, rfl⟩
    have hTD : T ++ D = al := by rw [← hT, ← hD, strOfNums_append, ← hxs, ← hys, List.take_append_drop]; exact H3.out.2
    have hTs : T.size = xs.length := by rw [← hT, strOfNums_size]
    have hlen : bs2.length = xs.length + ys.length := by rw [← hxs, ← hys, ← List.length_append, List.take_append_drop]
    obtain ⟨o3, ho3⟩ : ∃ o, o2 + xs.length = o := ⟨_, rfl⟩
    have el : IntKind.i64.wrap ((bs2.length : Int) - (T.size : Int)) = (ys.length : Int) := by rw [IntWalk.i64_in _ (by omega)]; omega
    have HK3 := Lib.hid (st_look Sb n hn hxs)
    have HH := Lib.hid (And.intro hxs (And.intro hys (And.intro hT (And.intro hD (And.intro hTD ho3)))))
    have hyl : ys.length ≤ 65536 := by omega
    have hds : D.size = ys.length := by rw [← hD, strOfNums_size]
    have hsb : T.size + D.size ≤ 9223372036854775807 := by omega
    have hnb : ¬ 9223372036854775807 < T.size + D.size := by omega
    clear hcv Sb hxs hys hT hD hTD hTs hlen ho3 hds
    go_wp2_with fail
    clear hcvb
    refine HK3.out.mono ?_
    rintro e wc ⟨Ac, Lc, rfl, _, hcv, Sc, _⟩
    have hcvc := hcv 0
    rw [HH.out.2.2.1, World.drewN_zero] at hcvc
    have HL4 := Lib.hid (len_any Sc.1)
    have HT4 := Lib.hid (fun q => st_take (Sc.drewN q) n hn HH.out.1 HH.out.2.1 HH.out.2.2.2.2.2)
    clear hcv Sc
    go_wp2_with fail
    clear hcvc
    refine HL4.out.mono ?_
    rintro e wd ⟨rfl, qe, rfl⟩
    go_wp2_with fail
    refine (HT4.out _).mono ?_
    rintro e we ⟨Ae, Le, rfl, _, hcv, Se, _⟩
    have hcve := hcv 0
    rw [HH.out.2.2.1, World.drewN_zero] at hcve
    have HL5 := Lib.hid (fun q => len_any (Se.drewN q).1)
    have HK5 := Lib.hid (fun q => st_look (Se.drewN q) (ys.length : Int) ⟨by omega, by omega⟩ (show ys.take ((ys.length : Int)).toNat = ys by simp))
    clear hcv Se
    go_wp2_with fail
    clear hcve
    refine (HL5.out 0).mono ?_
    rintro e wf ⟨rfl, qf, rfl⟩
    go_wp2_with fail
    refine (HL5.out _).mono ?_
    rintro e wf ⟨rfl, qg, rfl⟩
    go_wp2_with fail
    refine (HK5.out _).mono ?_
    rintro e wh ⟨Ah, Lh, rfl, _, hcv, Sh, _⟩
    have hcvh := hcv 0
    rw [HH.out.2.2.2.1, World.drewN_zero] at hcvh
    have hTD := HH.out.2.2.2.2.1
    have HB := Lib.hid Sh.2
    clear hcv Sh
    go_wp2_with fail
    go_ret
    exact ⟨rfl, HB.out⟩
  · obtain ⟨m, rfl⟩ : ∃ m : Nat, other = (m : Int) := ⟨other.toNat, by omega⟩
    have HG := Lib.hid (fun q => grow_yes (H5.out.1.drewN q) m (by omega) (by omega))
    clear hg
    go_wp2_with fail
    refine (HG.out _).mono ?_
    rintro e w7 ⟨rfl, F7, hR7, m7⟩
    have HS := Lib.hid (show St w w7 r F7 m bs2 m1 o2 from ⟨hR7, law_step (H5.out.1.drewN q6) (below_drewN H5.out.2 q6) m7⟩)
    clear hR7 m7

    obtain ⟨d, hd⟩ : ∃ d, m - bs2.length = d := ⟨_, rfl⟩
    have hfa := HS.out.1.facts
    have ed : IntKind.i64.wrap ((m : Int) - (bs2.length : Int)) = (d : Int) := by rw [IntWalk.i64_in _ (by omega)]; omega
    have HC2 := Lib.hid (counts_any HS.out.1)
    have HR2 := Lib.hid (fun q => hd ▸ room_any (HS.out.1.drewN q))
    have HL2 := Lib.hid (fun q => len_any (HS.out.1.drewN q))
    have HK2 := Lib.hid (fun q => st_look (HS.out.drewN q) (bs2.length : Int) ⟨by omega, by omega⟩ (show bs2.take ((bs2.length : Int)).toNat = bs2 by simp))
    clear hfa hd
    go_wp2_with fail
    refine HC2.out.mono ?_
    rintro e wa ⟨rfl, qa, rfl⟩
    go_wp2_with fail
    refine (HR2.out _).mono ?_
    rintro e wa ⟨rfl, qb, rfl⟩
    go_wp2_with fail
    refine (HL2.out _).mono ?_
    rintro e wa ⟨rfl, qc, rfl⟩
    go_wp2_with fail
    refine (HL2.out _).mono ?_
    rintro e wa ⟨rfl, qd, rfl⟩
    go_wp2_with fail
    refine (HK2.out _).mono ?_
    rintro e wb ⟨Ab, Lb, rfl, _, hcv, Sb, _⟩
    have hcvb := hcv 0
    rw [H3.out.2, World.drewN_zero] at hcvb
    obtain ⟨xs, hxs⟩ : ∃ x, bs2.take n.toNat = x := ⟨_, rfl⟩
    obtain ⟨ys, hys⟩ : ∃ x, bs2.drop n.toNat = x := ⟨_, rfl⟩
    obtain ⟨T, hT⟩ : ∃ s, strOfNums xs = s := ⟨_, rfl⟩
    obtain ⟨D, hD⟩ : ∃ s, strOfNums ys = s := ⟨_, rfl⟩
    have hTD : T ++ D = al := by rw [← hT, ← hD, strOfNums_append, ← hxs, ← hys, List.take_append_drop]; exact H3.out.2
    have hTs : T.size = xs.length := by rw [← hT, strOfNums_size]
    have hlen : bs2.length = xs.length + ys.length := by rw [← hxs, ← hys, ← List.length_append, List.take_append_drop]
    obtain ⟨o3, ho3⟩ : ∃ o, o2 + xs.length = o := ⟨_, rfl⟩
    have el : IntKind.i64.wrap ((bs2.length : Int) - (T.size : Int)) = (ys.length : Int) := by rw [IntWalk.i64_in _ (by omega)]; omega
    have HK3 := Lib.hid (st_look Sb n hn hxs)
    have HH := Lib.hid (And.intro hxs (And.intro hys (And.intro hT (And.intro hD (And.intro hTD ho3)))))
    have hyl : ys.length ≤ 65536 := by omega
    have hds : D.size = ys.length := by rw [← hD, strOfNums_size]
    have hsb : T.size + D.size ≤ 9223372036854775807 := by omega
    have hnb : ¬ 9223372036854775807 < T.size + D.size := by omega
    clear hcv Sb hxs hys hT hD hTD hTs hlen ho3 hds
    go_wp2_with fail
    clear hcvb
    refine HK3.out.mono ?_
    rintro e wc ⟨Ac, Lc, rfl, _, hcv, Sc, _⟩
    have hcvc := hcv 0
    rw [HH.out.2.2.1, World.drewN_zero] at hcvc
    have HL4 := Lib.hid (len_any Sc.1)
    have HT4 := Lib.hid (fun q => st_take (Sc.drewN q) n hn HH.out.1 HH.out.2.1 HH.out.2.2.2.2.2)
    clear hcv Sc
    go_wp2_with fail
    clear hcvc
    refine HL4.out.mono ?_
    rintro e wd ⟨rfl, qe, rfl⟩
    go_wp2_with fail
    refine (HT4.out _).mono ?_
    rintro e we ⟨Ae, Le, rfl, _, hcv, Se, _⟩
    have hcve := hcv 0
    rw [HH.out.2.2.1, World.drewN_zero] at hcve
    have HL5 := Lib.hid (fun q => len_any (Se.drewN q).1)
    have HK5 := Lib.hid (fun q => st_look (Se.drewN q) (ys.length : Int) ⟨by omega, by omega⟩ (show ys.take ((ys.length : Int)).toNat = ys by simp))
    clear hcv Se
    go_wp2_with fail
    clear hcve
    refine (HL5.out 0).mono ?_
    rintro e wf ⟨rfl, qf, rfl⟩
    go_wp2_with fail
    refine (HL5.out _).mono ?_
    rintro e wf ⟨rfl, qg, rfl⟩
    go_wp2_with fail
    refine (HK5.out _).mono ?_
    rintro e wh ⟨Ah, Lh, rfl, _, hcv, Sh, _⟩
    have hcvh := hcv 0
    rw [HH.out.2.2.2.1, World.drewN_zero] at hcvh
    have hTD := HH.out.2.2.2.2.1
    have HB := Lib.hid Sh.2
    clear hcv Sh
    go_wp2_with fail
    go_ret
    exact ⟨rfl, HB.out⟩

set_option maxRecDepth 100000 in
set_option maxHeartbeats 2000000 in
theorem grows_law (w : World) (k : Int) (v : Value) (zs : List Int) (n other : Int) (hk : -9223372036854775808 ≤ k ∧ k ≤ 9223372036854775807) (hn : -9223372036854775808 ≤ n ∧ n ≤ 9223372036854775807) (ho : -9223372036854775808 ≤ other ∧ other ≤ 9223372036854775807) (hv : Src w (fun _ => False) v zs) :
    Calls Try.prog 7 #[.int .i64 k, v, .int .i64 n, .int .i64 other] w fun e w' => e = .returned (.bool true) ∧ Below w.heap.size w w' := by
  by_cases h0 : 0 ≤ k ∧ k ≤ 1000 ∧ zs.length ≤ 2000
  · obtain ⟨m, rfl⟩ : ∃ m : Nat, k = (m : Int) := ⟨k.toNat, by omega⟩
    exact grows_main w m v zs n other (by omega) h0.2.2 hn ho hv
  · obtain ⟨A, c, rfl, _⟩ := hv
    by_cases h1 : k < 0
    · have b1 : decide (k < 0) = true := by simpa using h1
      clear h0
      go_enter Try.func7, Try.ntmps7
      go_wp2_with (go_at_call 24; refine (alive_any _).mono ?_; rintro e w0 ⟨rfl, hb0⟩)
      go_ret
      exact ⟨rfl, hb0⟩
    · have b1 : decide (k < 0) = false := by simpa using h1
      by_cases h2 : 1000 < k
      · have b2 : decide (1000 < k) = true := by simpa using h2
        clear h0
        go_enter Try.func7, Try.ntmps7
        go_wp2_with (go_at_call 24; refine (alive_any _).mono ?_; rintro e w0 ⟨rfl, hb0⟩)
        go_ret
        exact ⟨rfl, hb0⟩
      · have b2 : decide (1000 < k) = false := by simpa using h2
        have h3 : 2000 < (zs.length : Int) := by omega
        have b3 : decide (2000 < (zs.length : Int)) = true := by simpa using h3
        clear h0
        go_enter Try.func7, Try.ntmps7
        go_wp2_with (go_at_call 24; refine (alive_any _).mono ?_; rintro e w0 ⟨rfl, hb0⟩)
        go_ret
        exact ⟨rfl, hb0⟩
end Go.Proofs.Ytolkbelfcgamiaa
