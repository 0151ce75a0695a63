/-
  MovesTime.
-/
import Derived.Test.YtlephnfepofbbaaGreatDoorMtSame
import Derived.Test.YtlephnfepofbbaaGreatDoorMtBase
import Derived.Test.YtlephnfepofbbaaGreatDoorMvRefText
namespace Go.Proofs.YtlephnfepofbbaaGreatDoor
open Go.RowKit Go.Shelf Go.Maps Go.ChangeMaps
variable {E : Prop}

set_option maxRecDepth 100000 in
theorem new_wrong (l : List St) (v : Value) (w : World) (hT : TabF w) (hx : SrcS (Lt w.heap.size) w v l) (hok : allOk l = false) : Calls Tryz.prog 11 #[v] w fun e w' => e = .returned (.tuple #[.pointer none, .int .i64 120]) ∧ Below w.heap.size w w' := by
  have hC := checkAll_any l v w hT hx
  have e0 : allE l = 120 := by unfold allE; rw [if_neg (by rw [hok]; simp)]
  rw [e0] at hC
  have HC := Lib.hid hC
  clear hC e0 hok hx hT
  go_enter Tryz.func11, Tryz.ntmps11
  go_wp2_with (go_at_call 36; refine HC.out.mono ?_; rintro e w1 ⟨rfl, hb1⟩; have HB1 := Lib.hid hb1; clear hb1)
  go_ret2
  exact ⟨rfl, HB1.out⟩
section
variable {B : Nat} {W w w' : World} {p : Nat} {S : Ws} {sb kb : Nat} {D : Nat → Prop} {l : List St} {o : List Int} {p2 : Nat} {S2 : Ws} {sb2 kb2 : Nat} {D2 : Nat → Prop} {l2 : List St} {o2 : List Int} {X : Nat → Prop}
theorem Sc2.now_ (h : Sc2 B W p S sb kb D l o p2 S2 sb2 kb2 D2 l2 o2 X w) : Calls Tryz.prog 16 #[.pointer (some ⟨p, 0, none⟩)] w fun e w' => e = .returned (.int .u64 (S.now : Int)) ∧ w = w' := by
  obtain ⟨N, D3, ho⟩ := h.od
  exact ho.now
theorem Sc2.image {now : Nat} {x : Wi} (h : Sc2 B W p (oneS now x) sb kb D l o p2 S2 sb2 kb2 D2 l2 o2 X w) (h1 : One x) (hE : EnvI E B W) (hn : now < 18446744073709551616) : Calls Tryz.prog 23 #[.pointer (some ⟨p, 0, none⟩)] w (ImgO w (imgL now x)) := by
  obtain ⟨N, D3, L, rfl, h2, _⟩ := h.od
  exact image_one h2 h1 (hE.below h.bel) hn
/-- Two scripts of the same steps, two new worlds with a wire each. -/
theorem sc2_of {w3 w4 w6 w8 : World} (hok : allOk l = true) (hwf : ∀ x ∈ l, x.Wf) (hlen : l.length ≤ 100)
    (a1 : Blk w3 sb 88 #[.pointer (some ⟨kb, 0, none⟩)]) (a2 : Sk D kb w3 l []) (a3 : ∀ b, D b → W.heap.size ≤ b ∧ b < w3.heap.size) (a5 : ¬ D sb) (c1 : Blk w4 sb2 88 #[.pointer (some ⟨kb2, 0, none⟩)]) (c2 : Sk D2 kb2 w4 l []) (c3 : ∀ b, D2 b → w3.heap.size ≤ b ∧ b < w4.heap.size) (c4 : w3.heap.size ≤ sb2) (c5 : ¬ D2 sb2) (c6 : Below w3.heap.size w3 w4) (h3 : W.heap.size ≤ w3.heap.size)
    (h46 : Below w4.heap.size w4 w6) (hg : G2 W.heap.size W p (oneS 0 oW) 0 p2 (oneS 0 oW) 0 (fun b => ((D b ∨ b = sb) ∨ (D2 b ∨ b = sb2)) ∨ False) w8) (h68 : ∀ b, (((D b ∨ b = sb) ∨ (D2 b ∨ b = sb2)) ∨ False) → w8.heap[b]? = w6.heap[b]?) :
    Sc2 W.heap.size W p (oneS 0 oW) sb kb D l [] p2 (oneS 0 oW) sb2 kb2 D2 l [] (fun _ => False) w8 := by
  have k1 : ∀ b, (D b ∨ b = sb) → w8.heap[b]? = w3.heap[b]? := fun b hb => by
    have hb3 : b < w3.heap.size := by
      rcases hb with hb | rfl
      · exact (a3 b hb).2
      · exact a1.lt
    exact (h68 b (Or.inl (Or.inl hb))).trans ((h46.block b (Nat.lt_of_lt_of_le hb3 c6.size)).trans (c6.block b hb3))
  have k2 : ∀ b, (D2 b ∨ b = sb2) → w8.heap[b]? = w4.heap[b]? := fun b hb => by
    have hb3 : b < w4.heap.size := by
      rcases hb with hb | rfl
      · exact (c3 b hb).2
      · exact c1.lt
    exact (h68 b (Or.inl (Or.inr hb))).trans (h46.block b hb3)
  have hgd : Good l := fun x hx => ⟨(allOk_parts hok).2 x hx, hwf x hx⟩
  exact ⟨⟨0, 0, hg, by omega, by omega⟩, a1.same (k1 sb (Or.inr rfl)), c1.same (k2 sb2 (Or.inr rfl)), a2.same (fun b hb => k1 b (Or.inl hb)), c2.same (fun b hb => k2 b (Or.inl hb)),
    ⟨fun b h1 h2 => by have := (a3 b h1).2; have := (c3 b h2).1; omega, a5, c5, fun h => by have := (a3 _ h).2; omega, fun h => by have := (c3 _ h).1; have := a1.lt; omega⟩, fun _ h => h.elim, ⟨fun b hb => (a3 b hb).1, fun b hb => Nat.le_trans h3 (c3 b hb).1⟩, hgd, hgd, ⟨oW, rfl, one_oW⟩, ⟨oW, rfl, one_oW⟩, by show 0 ≤ _; omega, by show 0 ≤ _; omega⟩
end
set_option maxRecDepth 100000 in
set_option maxHeartbeats 16000000 in
theorem time_law (l : List St) (v : Value) (a b : Nat) (w : World) (hE : EnvI False w.heap.size w) (hx : SrcS (Lt w.heap.size) w v l) (hwf : ∀ x ∈ l, x.Wf) (ha : a ≤ 18446744073709551615) (hb : b ≤ 18446744073709551615) :
    Calls Tryz.prog 5 #[v, .int .u64 (a : Int), .int .u64 (b : Int)] w fun e w' => e = .returned (.bool true) ∧ Below w.heap.size w w' := by
  obtain ⟨A, c, rfl, a1, a2, a3⟩ := hx.form
  have HA := Lib.hid (malive_any w hE.env)
  have HX := Lib.hid hx
  have HE := Lib.hid hE
  have HW := Lib.hid hwf
  have HG := Lib.hid (fun (W : World) (hb : Below w.heap.size w W) => great_any l _ W ((hx.below hb).weak (fun g _ hg => Nat.lt_of_lt_of_le hg hb.size)))
  have HT := Lib.hid (show ∀ W', Below w.heap.size w W' → TabF W' from fun W' h => (hE.env.below h).f)
  obtain ⟨n, hn⟩ : ∃ n, l.length = n := ⟨_, rfl⟩
  rw [hn] at a1 HX HG ⊢
  have HN := Lib.hid hn
  clear hx hE hwf hn a3
  go_enter Tryz.func5, Tryz.ntmps5
  go_wp2_with fail
  refine HA.out.mono ?_
  rintro e w1 ⟨rfl, hb1⟩
  have HB1 := Lib.hid hb1
  clear hb1 HA
  go_wp2_with fail
  refine (HG.out w1 HB1.out).mono ?_
  rintro e w2 ⟨⟨rfl, hf⟩ | rfl, hb2⟩
  case inr =>
    have HB2 := Lib.hid (HB1.out.trans (hb2.mono HB1.out.size))
    clear hb2
    go_wp2_with fail
    go_ret
    exact ⟨rfl, HB2.out⟩
  have HB2 := Lib.hid (HB1.out.trans (hb2.mono HB1.out.size))
  have HF := Lib.hid hf
  clear hb2 hf HG
  by_cases h1 : 4611686018427387904 ≤ a
  · have h1' : (4611686018427387904 : Int) ≤ (a : Int) := by omega
    clear h1
    go_wp2_with fail
    go_ret
    exact ⟨rfl, HB2.out⟩
  have h1' : decide ((4611686018427387904 : Int) ≤ (a : Int)) = false := decide_eq_false (by omega)
  by_cases h2 : 4611686018427387904 ≤ b
  · have h2' : (4611686018427387904 : Int) ≤ (b : Int) := by omega
    clear h2
    go_wp2_with fail
    go_ret
    exact ⟨rfl, HB2.out⟩
  have h2' : decide ((4611686018427387904 : Int) ≤ (b : Int)) = false := decide_eq_false (by omega)
  have HAB := Lib.hid (show a < 4611686018427387904 ∧ b < 4611686018427387904 by omega)
  clear h1 h2
  cases hok : allOk l with
  | false =>
    have HN1 := Lib.hid (fun W (hb : Below w.heap.size w W) => new_wrong l _ W (HT.out W hb) ((HX.out.below hb).weak (fun g _ hg => Nat.lt_of_lt_of_le hg hb.size)) hok)
    clear hok
    go_wp2_with fail
    refine (HN1.out _ HB2.out).mono ?_
    rintro e w3 ⟨rfl, hb3⟩
    have HB3 := Lib.hid (HB2.out.trans (hb3.mono HB2.out.size))
    clear hb3
    go_wp2_with fail
    refine (HN1.out _ HB3.out).mono ?_
    rintro e w4 ⟨rfl, hb4⟩
    have HB4 := Lib.hid (HB3.out.trans (hb4.mono HB3.out.size))
    clear hb4
    go_wp2_with fail
    go_ret
    exact ⟨rfl, HB4.out⟩
  | true =>
    have HOK := Lib.hid hok
    have HN1 := Lib.hid (fun W (hb : Below w.heap.size w W) => snew_any l _ W (HT.out W hb) ((HX.out.below hb).weak (fun g _ hg => Nat.lt_of_lt_of_le hg hb.size)) hok)
    clear hok
    go_wp2_with fail
    refine (HN1.out _ HB2.out).mono ?_
    rintro e w3 ⟨kb, sb, D, rfl, x1, x2, x3, x4, x5, hb3⟩
    have HB3 := Lib.hid (HB2.out.trans (hb3.mono HB2.out.size))
    have HS1 := Lib.hid (And.intro x1 (And.intro x2 (And.intro (show ∀ b, D b → w.heap.size ≤ b ∧ b < w3.heap.size from fun b hb => ⟨Nat.le_trans HB2.out.size (x3 b hb).1, (x3 b hb).2⟩) (And.intro x4 x5))))
    clear hb3 x1 x2 x3 x4 x5
    go_wp2_with fail
    refine (HN1.out _ HB3.out).mono ?_
    rintro e w4 ⟨kb2, sb2, D2, rfl, y1, y2, y3, y4, y5, hb4⟩
    have HB4 := Lib.hid (HB3.out.trans (hb4.mono HB3.out.size))
    have HS2 := Lib.hid (And.intro y1 (And.intro y2 (And.intro y3 (And.intro y4 (And.intro y5 hb4)))))
    clear hb4 y1 y2 y3 y4 y5 HN1
    have HO := Lib.hid (od_new (B := w.heap.size) (W := w) (w := w4) HB4.out.size HB4.out (D := fun b => ((D b ∨ b = sb) ∨ (D2 b ∨ b = sb2)) ∨ False) (fun b hb => by
      have q := HS2.out.2.2.2.2.2.size
      rcases hb with ((hb | rfl) | (hb | rfl)) | hb
      · have := (HS1.out.2.2.1 b hb).2; omega
      · have := HS1.out.1.lt; omega
      · exact (HS2.out.2.2.1 b hb).2
      · exact HS2.out.1.lt
      · exact hb.elim))
    go_wp2_with fail
    refine HO.out.mono ?_
    rintro e w5 ⟨p, rfl, ho, hb5⟩
    have HG2 := Lib.hid (g2_new ho)
    have HB5 := Lib.hid hb5
    clear ho hb5 HO
    go_wp2_with fail
    refine HG2.out.mono ?_
    rintro e w6 ⟨p2, rfl, hg, hb6⟩
    have HB6 := Lib.hid (HB5.out.trans (hb6.mono HB5.out.size))
    have HOU := Lib.hid hg.outer
    clear hg hb6 HG2
    go_wp2_with fail
    refine HOU.out.mono ?_
    rintro e w7 ⟨⟨z1, z2, z3, rfl⟩, hg, hk7, hz7⟩
    have HK7 := Lib.hid hk7
    have HOU2 := Lib.hid hg.swap.outer
    clear hg hk7 hz7 HOU
    go_wp2_with fail
    refine HOU2.out.mono ?_
    rintro e w8 ⟨⟨z4, z5, z6, rfl⟩, hg, hk8, hz8⟩
    have HSC := Lib.hid (sc2_of HOK.out HW.out HF.out.len HS1.out.1 HS1.out.2.1 HS1.out.2.2.1 HS1.out.2.2.2.2 HS2.out.1 HS2.out.2.1 HS2.out.2.2.1 HS2.out.2.2.2.1 HS2.out.2.2.2.2.1 HS2.out.2.2.2.2.2 HB3.out.size HB6.out hg.swap (fun b hb => (hk8 b hb).trans (HK7.out b hb)))
    clear hg hk8 hz8 HOU2 HK7 HB6 HB5 HB4 HB3 HS1 HS2
    have HSL := Lib.hid (HSC.out.sleep HT.out a ha)
    go_wp2_with fail
    refine HSL.out.mono ?_
    rintro e w9 ⟨i, l1, o1, S1, he1, rfl, hsc, hq1, hq2⟩
    have hend := slL_end (mk := mkL) (fun S ms => mkL_now ms S) l a [] (oneS 0 oW) (by show 0 + a ≤ _; omega) he1
    obtain ⟨f, hf⟩ : ∃ f, f = S1.now := ⟨_, rfl⟩
    have HNW := Lib.hid hsc.now_
    have HLF := Lib.hid hsc.left
    have HSC1 := Lib.hid hsc
    rw [← hf] at hend HNW
    have HE1 := Lib.hid (And.intro he1 hf)
    clear he1 hf hsc HSL HSC hq1 hq2
    obtain ⟨z, hz⟩ : ∃ z : Int, z = (i : Int) := ⟨_, rfl⟩
    rw [← hz]
    rcases hend with ⟨rfl, hfa⟩ | ⟨rfl, hfa0, hfa⟩
    · have hfa' : f = a := by rw [hfa]; exact Nat.zero_add a
      clear hfa
      subst hfa'
      have hz' : z = 2 := hz
      clear hz
      subst hz'
      go_wp2_with fail
      refine HNW.out.mono ?_
      rintro e w10 ⟨rfl, rfl⟩
      go_wp2_with fail
      refine HLF.out.mono ?_
      rintro e w11 ⟨lv, ps, rfl, hp, hm, hb11⟩
      obtain ⟨hcells, A0, c0, rfl⟩ : (∀ x r, l1 = x :: r → ∃ g, lv.ownBlock = some g ∧ (w9.heap.size ≤ g ∧ g < w11.heap.size) ∧ (∃ c0, lv = .slice (some ⟨g, 0, none⟩) (r.length + 1) c0) ∧ w11.cell? ⟨g, 0, none⟩ = some (.int .u64 (x.t : Int))) ∧ ∃ A0 c0, lv = .slice A0 l1.length c0 := by
        have hlen : ps.length = l1.length := by rw [← hm, List.length_map]
        refine ⟨fun x r e => ?_, ?_⟩
        · rcases RowK.own_form hp.own with ⟨_, rfl⟩ | ⟨g, c0, rfl, hg1, hg2, _, hl⟩
          · rw [e] at hlen; simp at hlen
          · refine ⟨g, rfl, (RowK.own_lt hp.own rfl).symm, ⟨c0, by rw [hlen, e]; rfl⟩, ?_⟩
            cases ps with
            | nil => rw [e] at hlen; simp at hlen
            | cons q ps =>
              have := hl 0 q rfl 0 (by decide)
              have e2 : q.x = x := by rw [e] at hm; injection hm
              rw [← e2]
              exact this
        · obtain ⟨A1, n1, c1, e⟩ := RowK.own_slice hp.own
          rcases RowK.own_form hp.own with ⟨e3, rfl⟩ | ⟨g, c0, e3, _⟩
          · rw [← hlen]; exact ⟨_, _, e3⟩
          · rw [← hlen]; exact ⟨_, _, e3⟩
      have HSC2 := Lib.hid (HSC1.out.grow hb11)
      have HCL := Lib.hid hcells
      clear hp hm hb11 hcells HLF HNW HSC1
      have HSL2 := Lib.hid (HSC2.out.sleep HT.out b hb)
      go_wp2_with fail
      refine HSL2.out.mono ?_
      rintro e w12 ⟨j, l2, o2, S2, he2, rfl, hsc2, hx2, hz12⟩
      have hend2 := slL_end (mk := mkL) (fun S ms => mkL_now ms S) l1 b o1 S1 (by rw [← HE1.out.2]; have := HAB.out; omega) he2
      rw [← HE1.out.2] at hend2
      obtain ⟨n2, hn2⟩ : ∃ n2, n2 = S2.now := ⟨_, rfl⟩
      have HNW2 := Lib.hid hsc2.now_
      rw [← hn2] at hend2 HNW2
      have HSC3 := Lib.hid hsc2
      have HX2 := Lib.hid (And.intro hx2 hz12)
      have HE2 := Lib.hid (And.intro he2 hn2)
      have h62 := HAB.out
      clear he2 hn2 hsc2 hx2 hz12 HSL2
      obtain ⟨z, hz⟩ : ∃ z : Int, z = (j : Int) := ⟨_, rfl⟩
      rw [← hz]
      rcases hend2 with ⟨rfl, hnb⟩ | ⟨rfl, hnb0, hnb⟩
      · have hz' : z = 2 := hz
        clear hz
        subst hz'
        have e1 : IntKind.u64.wrap ((n2 : Int) - (f : Int)) = (b : Int) := by rw [IntWalk.u64_in _ (by omega)]; omega
        have e2 : IntKind.u64.wrap ((f : Int) + (b : Int)) = ((f + b : Nat) : Int) := by rw [IntWalk.u64_in _ (by omega)]; omega
        have HNB := Lib.hid hnb
        clear hnb h62
        have HL2 := Lib.hid (slL_add (mk := mkL) (fun S ms => mkL_now ms S) l f b [] (oneS 0 oW) (by show 0 + f + b ≤ _; have := HAB.out; omega) HE1.out.1 (l1 := l1) (l2 := l2) (o2 := o2) (S2 := S2))
        go_wp2_with fail
        refine HNW2.out.mono ?_
        rintro e w13 ⟨rfl, rfl⟩
        go_wp2_with fail
        refine HNW2.out.mono ?_
        rintro e w13 ⟨rfl, rfl⟩
        cases l1 with
        | nil =>
          have HFIN := Lib.hid (HL2.out (by simp) HE2.out.1)
          simp only [List.length_nil]
          clear HL2
          have HSL3 := Lib.hid (HSC3.out.swap.sleep HT.out (f + b) (by have := HAB.out; omega))
          go_wp2_with fail
          refine HSL3.out.mono ?_
          rintro e w14 ⟨i3, l3, o3, S3, he3, rfl, hsc4, hx4, hz4⟩
          obtain ⟨z, hz⟩ : ∃ z : Int, z = (i3 : Int) := ⟨_, rfl⟩
          rw [← hz]
          have he4 := he3.symm.trans HFIN.out
          injection he4 with e5 he4
          injection he4 with e6 he4
          injection he4 with e7 he4
          subst e5 e6 e7 he4
          have hz' : z = 2 := hz
          clear hz
          subst hz'
          clear he3 hx4 hz4 HSL3 HFIN HX2 HCL
          obtain ⟨x2, hS2, hx2⟩ := hsc4.o1
          have hlt := hsc4.n1
          rw [← HE2.out.2] at hS2 hlt
          have hsc5 := hsc4.swap
          rw [hS2] at hsc5
          have HSC5 := Lib.hid hsc5
          have HX5 := Lib.hid hx2
          have HLT := Lib.hid (show n2 < 18446744073709551616 by omega)
          have HIM1 := Lib.hid (hsc5.image hx2 HE.out HLT.out)
          clear hsc4 hS2 hx2 hlt hsc5
          go_wp2_with fail
          refine HIM1.out.mono ?_
          rintro e w15 ⟨iv, rfl, hr1, hb15⟩
          have HIM2 := Lib.hid (((HSC5.out.on hb15).swap).image HX5.out HE.out HLT.out)
          obtain ⟨A5, c5, hiv, _⟩ := RS.at_ hr1
          subst hiv
          have HR1 := Lib.hid hr1
          have HB15 := Lib.hid hb15
          clear hr1 hb15 HIM1
          go_wp2_with fail
          refine HIM2.out.mono ?_
          rintro e w16 ⟨iv2, rfl, hr2, hb16⟩
          obtain ⟨A6, c6, hiv, _⟩ := RS.at_ hr2
          subst hiv
          have HSM := Lib.hid (same_rows (RowK.own_same HR1.out fun j e => hb16.block j (RowK.own_lt HR1.out e).1) hr2 (by simp [imgL]))
          have HSC6 := Lib.hid ((HSC5.out.on HB15.out).on hb16)
          clear hr2 hb16 HIM2 HB15 HR1
          go_wp2_with fail
          refine HSM.out.mono ?_
          rintro e w17 ⟨rfl, q, rfl⟩
          have HSC7 := Lib.hid (HSC6.out.on (w' := w16.drewN q) (below_drewN2 (Below.refl _ _) q))
          have HL3 := Lib.hid HSC7.out.left
          clear HSM
          go_wp2_with fail
          refine HL3.out.mono ?_
          rintro e w18 ⟨lv2, ps2, rfl, hp2, hm2, hb18⟩
          have hs18 := hp2.src
          rw [hm2] at hs18
          obtain ⟨A7, c7, rfl, _⟩ := hs18.form
          have HS18 := Lib.hid hs18
          have HSC8 := Lib.hid (HSC7.out.on hb18)
          have HL4 := Lib.hid HSC8.out.swap.left
          clear hp2 hm2 hb18 hs18 HL3
          go_wp2_with fail
          refine HL4.out.mono ?_
          rintro e w19 ⟨lv3, ps3, rfl, hp3, hm3, hb19⟩
          have hs19 := hp3.src
          rw [hm3] at hs19
          obtain ⟨A8, c8, rfl, _⟩ := hs19.form
          have HSA := Lib.hid (same_true l3 _ _ w19 ((HS18.out.below hb19).weak (fun g _ hg => Nat.lt_of_lt_of_le hg hb19.size)) hs19 (fun x hx => (HSC8.out.l1 x hx).2) (fun x hx => (HSC8.out.l1 x hx).1))
          have HB19 := Lib.hid ((HSC8.out.on hb19).bel)
          clear hp3 hm3 hb19 hs19 HL4
          go_wp2_with fail
          refine HSA.out.mono ?_
          rintro e w20 ⟨rfl, hb20⟩
          have HB20 := Lib.hid (HB19.out.trans (hb20.mono HB19.out.size))
          clear hb20
          go_wp2_with fail
          go_ret
          exact ⟨rfl, HB20.out⟩
        | cons x1 r1 =>
          obtain ⟨g, hg0, hg1, ⟨c9, hg2⟩, hg3⟩ := HCL.out x1 r1 rfl
          have hg2 : (Value.slice A0 (r1.length + 1) c0) = .slice (some ⟨g, 0, none⟩) (r1.length + 1) c9 := hg2
          injection hg2 with hA0 _ hc0
          subst hA0 hc0
          have cg : w12.cell? ⟨g, 0, none⟩ = some (.int .u64 (x1.t : Int)) := (World.cell?_of_block (HX2.out.1 g (Or.inr hg1))).trans hg3
          have lg : g < w12.heap.size := Nat.lt_of_lt_of_le hg1.2 HX2.out.2
          have r0 : (0 : Int) < (r1.length : Int) + 1 := by omega
          have r2 : 0 < r1.length + 1 := by omega
          clear hg0 hg1 hg3
          simp only [List.length_cons]
          by_cases hx0 : x1.t = 0
          · rw [hx0] at cg
            have cg : w12.cell? ⟨g, 0, none⟩ = some (.int .u64 0) := cg
            clear hx0
            go_wp2_with fail
            go_ret
            exact ⟨rfl, HSC3.out.bel⟩
          · have hx1 : ¬ (x1.t : Int) = 0 := by omega
            have HFIN := Lib.hid (HL2.out (by simpa using hx0) HE2.out.1)
            clear HL2
            have HSL3 := Lib.hid (HSC3.out.swap.sleep HT.out (f + b) (by have := HAB.out; omega))
            go_wp2_with fail
            refine HSL3.out.mono ?_
            rintro e w14 ⟨i3, l3, o3, S3, he3, rfl, hsc4, hx4, hz4⟩
            obtain ⟨z, hz⟩ : ∃ z : Int, z = (i3 : Int) := ⟨_, rfl⟩
            rw [← hz]
            have he4 := he3.symm.trans HFIN.out
            injection he4 with e5 he4
            injection he4 with e6 he4
            injection he4 with e7 he4
            subst e5 e6 e7 he4
            have hz' : z = 2 := hz
            clear hz
            subst hz'
            clear he3 hx4 hz4 HSL3 HFIN HX2 HCL
            obtain ⟨x2, hS2, hx2⟩ := hsc4.o1
            have hlt := hsc4.n1
            rw [← HE2.out.2] at hS2 hlt
            have hsc5 := hsc4.swap
            rw [hS2] at hsc5
            have HSC5 := Lib.hid hsc5
            have HX5 := Lib.hid hx2
            have HLT := Lib.hid (show n2 < 18446744073709551616 by omega)
            have HIM1 := Lib.hid (hsc5.image hx2 HE.out HLT.out)
            clear hsc4 hS2 hx2 hlt hsc5
            go_wp2_with fail
            refine HIM1.out.mono ?_
            rintro e w15 ⟨iv, rfl, hr1, hb15⟩
            have HIM2 := Lib.hid (((HSC5.out.on hb15).swap).image HX5.out HE.out HLT.out)
            obtain ⟨A5, c5, hiv, _⟩ := RS.at_ hr1
            subst hiv
            have HR1 := Lib.hid hr1
            have HB15 := Lib.hid hb15
            clear hr1 hb15 HIM1
            go_wp2_with fail
            refine HIM2.out.mono ?_
            rintro e w16 ⟨iv2, rfl, hr2, hb16⟩
            obtain ⟨A6, c6, hiv, _⟩ := RS.at_ hr2
            subst hiv
            have HSM := Lib.hid (same_rows (RowK.own_same HR1.out fun j e => hb16.block j (RowK.own_lt HR1.out e).1) hr2 (by simp [imgL]))
            have HSC6 := Lib.hid ((HSC5.out.on HB15.out).on hb16)
            clear hr2 hb16 HIM2 HB15 HR1
            go_wp2_with fail
            refine HSM.out.mono ?_
            rintro e w17 ⟨rfl, q, rfl⟩
            have HSC7 := Lib.hid (HSC6.out.on (w' := w16.drewN q) (below_drewN2 (Below.refl _ _) q))
            have HL3 := Lib.hid HSC7.out.left
            clear HSM
            go_wp2_with fail
            refine HL3.out.mono ?_
            rintro e w18 ⟨lv2, ps2, rfl, hp2, hm2, hb18⟩
            have hs18 := hp2.src
            rw [hm2] at hs18
            obtain ⟨A7, c7, rfl, _⟩ := hs18.form
            have HS18 := Lib.hid hs18
            have HSC8 := Lib.hid (HSC7.out.on hb18)
            have HL4 := Lib.hid HSC8.out.swap.left
            clear hp2 hm2 hb18 hs18 HL3
            go_wp2_with fail
            refine HL4.out.mono ?_
            rintro e w19 ⟨lv3, ps3, rfl, hp3, hm3, hb19⟩
            have hs19 := hp3.src
            rw [hm3] at hs19
            obtain ⟨A8, c8, rfl, _⟩ := hs19.form
            have HSA := Lib.hid (same_true l3 _ _ w19 ((HS18.out.below hb19).weak (fun g _ hg => Nat.lt_of_lt_of_le hg hb19.size)) hs19 (fun x hx => (HSC8.out.l1 x hx).2) (fun x hx => (HSC8.out.l1 x hx).1))
            have HB19 := Lib.hid ((HSC8.out.on hb19).bel)
            clear hp3 hm3 hb19 hs19 HL4
            go_wp2_with fail
            refine HSA.out.mono ?_
            rintro e w20 ⟨rfl, hb20⟩
            have HB20 := Lib.hid (HB19.out.trans (hb20.mono HB19.out.size))
            clear hb20
            go_wp2_with fail
            go_ret
            exact ⟨rfl, HB20.out⟩
      · have hz' : z = 3 := hz
        clear hz
        subst hz'
        obtain ⟨d, hd⟩ : ∃ d, d = n2 - f := ⟨_, rfl⟩
        have e1 : IntKind.u64.wrap ((n2 : Int) - (f : Int)) = (d : Int) := by rw [IntWalk.u64_in _ (by omega)]; omega
        have q1 : ¬ (b : Int) < (d : Int) := by omega
        have q2 : ¬ b < d := by omega
        clear hnb hnb0 h62 hd
        go_wp2_with fail
        refine HNW2.out.mono ?_
        rintro e w13 ⟨rfl, rfl⟩
        go_wp2_with fail
        go_ret
        exact ⟨rfl, HSC3.out.bel⟩
    · replace hfa : f ≤ a := by have h0 : (oneS 0 oW).now = 0 := rfl; omega
      have hz' : z = 3 := hz
      clear hz
      subst hz'
      have q1 : ¬ (a : Int) < (f : Int) := by omega
      have q2 : ¬ a < f := by omega
      have HFA := Lib.hid hfa
      clear hfa hfa0
      go_wp2_with fail
      refine HNW.out.mono ?_
      rintro e w10 ⟨rfl, rfl⟩
      go_wp2_with fail
      refine HLF.out.mono ?_
      rintro e w11 ⟨lv, ps, rfl, hp, hm, hb11⟩
      obtain ⟨A0, n0, c0, rfl⟩ := RowK.own_slice hp.own
      have HSC2 := Lib.hid (HSC1.out.grow hb11)
      clear hp hm hb11 HLF HNW HSC1
      have HSL2 := Lib.hid (HSC2.out.sleep HT.out b hb)
      go_wp2_with fail
      refine HSL2.out.mono ?_
      rintro e w12 ⟨j, l2, o2, S2, he2, rfl, hsc2, hx2, hz12⟩
      have hend2 := slL_end (mk := mkL) (fun S ms => mkL_now ms S) l1 b o1 S1 (by rw [← HE1.out.2]; have := HAB.out; have := HFA.out; omega) he2
      rw [← HE1.out.2] at hend2
      obtain ⟨n2, hn2⟩ : ∃ n2, n2 = S2.now := ⟨_, rfl⟩
      have HNW2 := Lib.hid hsc2.now_
      rw [← hn2] at hend2 HNW2
      have HSC3 := Lib.hid hsc2
      have h62 := HAB.out
      have hfa3 := HFA.out
      clear he2 hn2 hsc2 hx2 hz12 HSL2
      obtain ⟨z, hz⟩ : ∃ z : Int, z = (j : Int) := ⟨_, rfl⟩
      rw [← hz]
      rcases hend2 with ⟨rfl, hnb⟩ | ⟨rfl, hnb0, hnb⟩
      · have hz' : z = 2 := hz
        clear hz
        subst hz'
        have e1 : IntKind.u64.wrap ((n2 : Int) - (f : Int)) = (b : Int) := by rw [IntWalk.u64_in _ (by omega)]; omega
        clear hnb h62 hfa3
        go_wp2_with fail
        refine HNW2.out.mono ?_
        rintro e w13 ⟨rfl, rfl⟩
        go_wp2_with fail
        refine HNW2.out.mono ?_
        rintro e w13 ⟨rfl, rfl⟩
        go_wp2_with fail
        go_ret
        exact ⟨rfl, HSC3.out.bel⟩
      · have hz' : z = 3 := hz
        clear hz
        subst hz'
        obtain ⟨d, hd⟩ : ∃ d, d = n2 - f := ⟨_, rfl⟩
        have e1 : IntKind.u64.wrap ((n2 : Int) - (f : Int)) = (d : Int) := by rw [IntWalk.u64_in _ (by omega)]; omega
        have q3 : ¬ (b : Int) < (d : Int) := by omega
        have q4 : ¬ b < d := by omega
        clear hnb hnb0 h62 hd hfa3
        go_wp2_with fail
        refine HNW2.out.mono ?_
        rintro e w13 ⟨rfl, rfl⟩
        go_wp2_with fail
        go_ret
        exact ⟨rfl, HSC3.out.bel⟩
end Go.Proofs.YtlephnfepofbbaaGreatDoor
