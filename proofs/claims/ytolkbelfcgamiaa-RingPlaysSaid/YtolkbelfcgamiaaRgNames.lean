/-
  RingNames.
-/
import Derived.Test.YtolkbelfcgamiaaRgLaw
namespace Go.Proofs.Ytolkbelfcgamiaa
open Go.RowKit Go.Shelf Go.Maps Go.ChangeMaps

theorem below_drewN {B : Nat} {w w' : World} (h : Below B w w') (n : Nat) : Below B w (w'.drewN n) := ⟨h.os, h.tape, h.output, h.size, h.block⟩
theorem Rg.more {w : World} {B B' r cap inn out : Nat} {F : Nat → Prop} {bs : List Int} (h : Rg w B r F cap bs inn out) (hB : B' ≤ B) : Rg w B' r F cap bs inn out := by
  obtain ⟨cb, v, ps, h1, h2, h3, h4, h5⟩ := h
  exact ⟨cb, v, ps, h1, Nat.le_trans hB h2, Nat.le_trans hB h3, ⟨h4.blk, h4.row.mono hB, Nat.le_trans hB h4.hB, h4.lies, h4.le, h4.big, h4.fit, h4.hin, h4.sm⟩, h5⟩

set_option maxRecDepth 100000 in
set_option maxHeartbeats 8000000 in
theorem names_any (w : World) : Calls Try.prog 4 #[] w fun e w' => e = .returned (.bool true) ∧ Below w.heap.size w w' := by
  have kc := fun (w : World) (C : Array Value) (n c : Nat) => Lib.run_convert_bytes_const (P := Try.prog) w 28 5 C n c Try.underlying28 Try.underlying5
  go_enter Try.func4, Try.ntmps4
  go_wp2_with fail
  refine (new_yes w 4 (by decide)).mono ?_
  rintro e w1 ⟨r, F, rfl, hR, hb, hrl⟩
  have HP1 := Lib.hid (put_const hR [97, 98, 99, 100] (by decide) (by decide) (z := 4) (bs' := [97, 98, 99, 100]) (inn' := 4) rfl rfl rfl)
  have H1 := Lib.hid (And.intro hR hb)
  clear hR hb
  go_wp2_with fail
  refine HP1.out.mono ?_
  rintro e w2 ⟨rfl, F2, hR, m2⟩
  have hb := law_step H1.out.1 H1.out.2 m2
  have HT := Lib.hid (take_num hR 2 (by decide) (xs := [97, 98]) (bs' := [99, 100]) (out' := 2) rfl rfl rfl)
  have H2 := Lib.hid (And.intro hR hb)
  clear hR hb m2
  go_wp2_with fail
  refine HT.out.mono ?_
  rintro e w3 ⟨v, rfl, hrow, hR, m3⟩
  have hb := law_keep H2.out.1 H2.out.2 m3
  have HP2 := Lib.hid (put_const hR [101, 102] (by decide) (by decide) (z := 2) (bs' := [99, 100, 101, 102]) (inn' := 6) rfl rfl rfl)
  have H3 := Lib.hid (And.intro hR hb)
  clear hR hb m3 hrow
  go_wp2_with fail
  refine HP2.out.mono ?_
  rintro e w4 ⟨rfl, F4, hR, m4⟩
  have hb := law_step H3.out.1 H3.out.2 m4
  have HC := Lib.hid (counts_any hR)
  have HG1 := Lib.hid (fun q => grow_no (hR.drewN q) 3 (.inl (by decide)) (by decide))
  have HG2 := Lib.hid (fun q => grow_no (hR.drewN q) 65537 (.inr (by decide)) (by decide))
  have HG3 := Lib.hid (fun q => grow_yes (hR.drewN q) 4 (by decide) (by decide))
  have H4 := Lib.hid (And.intro hR hb)
  clear hR hb m4
  go_wp2_with fail
  refine HC.out.mono ?_
  rintro e w5 ⟨rfl, q5, rfl⟩
  go_wp2_with fail
  refine (HG1.out q5).mono ?_
  rintro e w6 ⟨rfl, q6, rfl⟩
  go_wp2_with fail
  refine (HG2.out (q5 + q6)).mono ?_
  rintro e w7 ⟨rfl, q7, rfl⟩
  go_wp2_with fail
  refine (HG3.out (q5 + q6 + q7)).mono ?_
  rintro e w8 ⟨rfl, F8, hR, m8⟩
  have hb := law_step (H4.out.1.drewN _) (below_drewN H4.out.2 _) m8
  have H8 := Lib.hid (And.intro hR hb)
  clear hR hb m8
  go_wp2_with fail
  refine (new_no _ (-1) (.inl (by decide)) (by decide)).mono ?_
  rintro e w9 ⟨rfl, rfl⟩
  go_wp2_with fail
  refine (new_no _ 65537 (.inr (by decide)) (by decide)).mono ?_
  rintro e w9 ⟨rfl, rfl⟩
  go_wp2_with fail
  refine (new_yes _ 0 (by decide)).mono ?_
  rintro e wa ⟨z, G, rfl, hZ, hbz, hzl⟩
  have hR := H8.out.1.below hbz
  have hap : ∀ i, F8 i → ¬ G i := fun i e g => by have := (H8.out.1.lt e).1; have := (hZ.lt g).2; omega
  have hb := H8.out.2.trans (hbz.mono H8.out.1.base)
  have Ha := Lib.hid (And.intro hR (And.intro (hZ.more H8.out.1.base) (And.intro hap hb)))
  clear hR hZ hap hb hbz
  go_wp2_with fail
  refine (alive_any _).mono ?_
  rintro e wb ⟨rfl, hbb⟩
  have hR := Ha.out.1.below hbb
  have hZ := Ha.out.2.1.below hbb
  have hb := Ha.out.2.2.2.trans (hbb.mono Ha.out.1.base)
  have HRo := Lib.hid (room_any hR)
  have HPz := Lib.hid (fun q => put_const (hZ.drewN q) [97] (by decide) (by decide) (z := 0) (bs' := []) (inn' := 0) rfl rfl rfl)
  have Hb := Lib.hid (And.intro hR (And.intro hZ hb))
  clear hR hZ hb hbb
  go_wp2_with fail
  refine HRo.out.mono ?_
  rintro e wc ⟨rfl, qc, rfl⟩
  have kc2 : ∀ (C : Array Value) (n c : Nat), (convert 28 28 (.slice (some ⟨wb.heap.size, 0, none⟩) n c)).run Try.prog ((wb.drewN qc).alloc (.cells C 5)) = .ok (.slice (some ⟨wb.heap.size, 0, none⟩) n c) ((wb.drewN qc).alloc (.cells C 5 (C.size, C.size + 1))) := fun C n c => kc (wb.drewN qc) C n c
  go_wp2_with fail
  refine (HPz.out qc).mono ?_
  rintro e wd ⟨rfl, G2, hZ, md⟩
  obtain ⟨hR, hap⟩ := (Hb.out.1.drewN qc).apart md Ha.out.2.2.1
  have hb := law_step (Hb.out.2.1.drewN qc) (below_drewN Hb.out.2.2 _) md
  have HTz := Lib.hid (take_num hZ 1 (by decide) (xs := []) (bs' := []) (out' := 0) rfl rfl rfl)
  have Hd := Lib.hid (And.intro hR (And.intro hZ (And.intro hap hb)))
  clear hR hZ hb hap md
  go_wp2_with fail
  refine HTz.out.mono ?_
  rintro e we ⟨vz, rfl, hrow, hZ, me⟩
  obtain ⟨Az, hvz, _⟩ := hrow.form
  have hR := Hd.out.1.kept me Hd.out.2.2.1
  have hb := law_keep Hd.out.2.1 Hd.out.2.2.2 me
  have He := Lib.hid (And.intro hR hb)
  simp only [List.length_nil] at hvz
  subst hvz
  clear hR hZ hb hrow me
  go_wp2_with fail
  refine (put_nil _ _ _ _).mono ?_
  rintro e wf ⟨rfl, rfl⟩
  have hR := He.out.1.alloc (conB [97])
  have hb := He.out.2.alloc He.out.1.base (conB [97])
  have HTn := Lib.hid (take_num hR (-1) (by decide) (xs := []) (bs' := [99, 100, 101, 102]) (out' := 2) rfl rfl rfl)
  have Hf := Lib.hid (And.intro hR hb)
  clear hR hb
  go_wp2_with fail
  refine (grow_nil _ 1).mono ?_
  rintro e wg ⟨rfl, rfl⟩
  go_wp2_with fail
  refine (len_nil _).mono ?_
  rintro e wg ⟨rfl, rfl⟩
  go_wp2_with fail
  refine HTn.out.mono ?_
  rintro e wh ⟨vn, rfl, hrow, hR, mh⟩
  obtain ⟨An, hvn, _⟩ := hrow.form
  simp only [List.length_nil] at hvn
  subst hvn
  have hb := law_keep Hf.out.1 Hf.out.2 mh
  have HCl := Lib.hid (clear_any hR)
  have Hh := Lib.hid (And.intro hR hb)
  clear hR hb hrow mh
  go_wp2_with fail
  refine HCl.out.mono ?_
  rintro e wi ⟨rfl, hR, mi⟩
  have hb := law_keep Hh.out.1 Hh.out.2 mi
  have HLn := Lib.hid (len_any hR)
  have Hi := Lib.hid hb
  clear hR hb mi
  go_wp2_with fail
  refine HLn.out.mono ?_
  rintro e wj ⟨rfl, qj, rfl⟩
  go_wp2_with fail
  go_ret
  exact ⟨rfl, below_drewN Hi.out _⟩
end Go.Proofs.Ytolkbelfcgamiaa
