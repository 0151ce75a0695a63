/-
  MovesTexts: the program's and the document's texts beside each other.
-/
import Derived.Test.YtlephnfepofbbaaDoorMvRefParse
import Derived.Test.YtlephnfepofbbaaDoorMvGreat
import Derived.Test.YtlephnfepofbbaaDoorMvTextW
namespace Go.Proofs.YtlephnfepofbbaaDoor
open Go.RowKit Go.Shelf Go.Maps Go.ChangeMaps

theorem textB_len (l : List St) (h : allOk l = true) (hw : ∀ x ∈ l, x.Wf) (hl : l.length ≤ 100) : (textB l).length ≤ 40000000 := by
  obtain ⟨_, hok⟩ := allOk_parts h
  have : ∀ l : List St, (∀ x ∈ l, stOk x = true) → (∀ x ∈ l, x.Wf) → (textB l).length ≤ l.length * 105001 := fun l => by
    induction l with
    | nil => intro _ _; simp [textB]
    | cons x l ih =>
      intro h1 h2
      have a := line_len x (h1 x (by simp)) (h2 x (by simp))
      have b := ih (fun y hy => h1 y (List.mem_cons_of_mem _ hy)) (fun y hy => h2 y (List.mem_cons_of_mem _ hy))
      unfold textB at b ⊢
      rw [List.flatMap_cons, List.length_append, List.length_append, List.length_cons]
      simp only [List.length_cons, List.length_nil]
      omega
  have := this l hok hw
  omega
/-- Both sides' Text. -/
theorem both_texts (l : List St) (v : Value) (w : World) (hE : Env w.heap.size w) (hx : SrcS (Lt w.heap.size) w v l) (hwf : ∀ x ∈ l, x.Wf) (hl : l.length ≤ 100) : ∃ (S : ByteArray) (e : Int),
    (∀ W, Below w.heap.size w W → Calls Tryd.prog 7 #[v] W fun r w' => r = .returned (.tuple #[.string S, .int .i64 e]) ∧ Below W.heap.size W w') ∧
    (∀ W, Below w.heap.size w W → Calls Tryd.prog 8 #[v] W fun r w' => r = .returned (.tuple #[.string S, .int .i64 e]) ∧ Below W.heap.size W w') := by
  have up : ∀ W, Below w.heap.size w W → SrcS (Lt W.heap.size) W v l := fun W hb => (hx.below hb).weak (fun g _ hg => Nat.lt_of_lt_of_le hg hb.size)
  have ue : ∀ W, Below w.heap.size w W → Env W.heap.size W := fun W hb => (hE.below hb).more hb.size (Nat.le_refl _)
  cases h : allOk l with
  | true => exact ⟨⟨(textB l).toArray⟩, 0, fun W hb => text_yes l v W (ue W hb) (up W hb) hwf h (textB_len l h hwf hl), fun W hb => rtext_yes l v W (up W hb) hwf h (textB_len l h hwf hl)⟩
  | false => exact ⟨⟨#[]⟩, 120, fun W hb => text_no l v W (ue W hb) (up W hb) h, fun W hb => rtext_no l v W (up W hb) h⟩
set_option maxRecDepth 100000 in
set_option maxHeartbeats 16000000 in
theorem texts_law (l : List St) (v : Value) (s : ByteArray) (w : World) (hE : Env w.heap.size w) (hx : SrcS (Lt w.heap.size) w v l) (hwf : ∀ x ∈ l, x.Wf) :
    Calls Tryd.prog 3 #[v, .string s] w fun e w' => e = .returned (.bool true) ∧ Below w.heap.size w w' := by
  obtain ⟨A, c, rfl, a1, a2, a3⟩ := hx.form
  have hg := great_any l _ w hx
  have HX := Lib.hid hx
  have HE := Lib.hid hE
  have HW := Lib.hid hwf
  obtain ⟨n, hn⟩ : ∃ n, l.length = n := ⟨_, rfl⟩
  rw [hn] at a1 hg HX ⊢
  have HG := Lib.hid hg
  have HN := Lib.hid hn
  obtain ⟨L, hL⟩ : ∃ L, s.size = L := ⟨_, rfl⟩
  clear hx hE hwf hn a3 hg
  go_enter Tryd.func3, Tryd.ntmps3
  go_wp2_with fail
  refine HG.out.mono ?_
  rintro e w1 ⟨⟨rfl, hf⟩ | rfl, hb⟩
  case inr =>
    go_wp2_with fail
    go_ret
    exact ⟨rfl, hb⟩
  by_cases h1 : 10000 < L
  · have h1' : (10000 : Int) < (L : Int) := by omega
    clear h1
    go_wp2_with fail
    go_ret
    exact ⟨rfl, hb⟩
  have h1' : ¬ (10000 : Int) < (L : Int) := by omega
  have HF := Lib.hid hf
  have HB1 := Lib.hid hb
  clear hb hf
  go_wp2_with fail
  go_loopw [28, 5, 6, 7] (fun i _ _ _ wr => ∃ j : Nat, j ≤ n ∧ i = .int .i64 j ∧ Hid (Below w.heap.size w wr)) (fun i _ _ _ _ => n - (intOf i).toNat)
  case atStart => exact ⟨0, Nat.zero_le _, rfl, HB1⟩
  case round =>
    obtain ⟨j, hj, rfl, HB⟩ := hrel
    by_cases hlt : j < n
    · have hlt' : (j : Int) < (n : Int) := by omega
      have hjl : j < l.length := by have := HN.out; omega
      have hb := HB.out
      obtain ⟨g, off, ov, mv, rfl, hg, hg2, ⟨q0, q1, q2, q3⟩, hS⟩ := HX.out.at_ (k := j) hjl
      have q0 := (hb.cell (p := ⟨g, off + j * 4, none⟩) hg).trans q0
      have q1 := (hb.cell (p := ⟨g, off + j * 4 + 1, none⟩) hg).trans q1
      have q2 := (hb.cell (p := ⟨g, off + j * 4 + 2, none⟩) hg).trans q2
      have q3 := (hb.cell (p := ⟨g, off + j * 4 + 3, none⟩) hg).trans q3
      obtain ⟨z, hz⟩ : ∃ z, l[j] = z := ⟨_, rfl⟩
      rw [hz] at q0 q1 hS
      obtain ⟨E, e2, F, f2, rfl, rfl⟩ := hS.forms
      have HS := Lib.hid hS
      have hck := check_any z _ _ wr (HE.out.below hb).f ((hS.below hb).weak (fun g _ hg => Nat.lt_of_lt_of_le hg hb.size))
      have HCK := Lib.hid hck
      have hgl : g < wr.heap.size := Nat.lt_of_lt_of_le hg hb.size
      have HQ := Lib.hid (And.intro q0 (And.intro q1 (And.intro q2 (And.intro q3 hgl))))
      clear hz hg hg2 hS hck hb
      cases hv : stOk z with
      | true =>
        have hE0 : chkE z = 0 := by unfold chkE; rw [if_pos hv]
        rw [hE0] at HCK
        have HV := Lib.hid hv
        clear hv hE0
        go_wp2_with (first
          | (go_at_call 5; refine HCK.out.mono ?_; rintro e w2 ⟨rfl, hb2⟩; have HB2 := Lib.hid hb2; have q0 := (hb2.cell (p := ⟨g, off + j * 4, none⟩) hgl).trans q0; have q1 := (hb2.cell (p := ⟨g, off + j * 4 + 1, none⟩) hgl).trans q1; have q2 := (hb2.cell (p := ⟨g, off + j * 4 + 2, none⟩) hgl).trans q2; have q3 := (hb2.cell (p := ⟨g, off + j * 4 + 3, none⟩) hgl).trans q3; have HBB := Lib.hid (HB.out.trans (hb2.mono HB.out.size)); have hmay := rMay_any z _ _ w2 ((HS.out.below HBB.out).weak (fun g _ hg => Nat.lt_of_lt_of_le hg HBB.out.size)); rw [HV.out] at hmay; have HMAY := Lib.hid hmay; clear hb2 hmay)
          | (go_at_call 6; refine HMAY.out.mono ?_; rintro e w3 ⟨rfl, hb3⟩; have HB3 := Lib.hid (HBB.out.trans (hb3.mono HBB.out.size)); clear hb3))
        go_roundw
        case rel => exact ⟨j + 1, by omega, by go_num, HB3⟩
        case measure => simp [intOf] <;> omega
      | false =>
        have hE0 : chkE z = 120 := by unfold chkE; rw [if_neg (by rw [hv]; simp)]
        rw [hE0] at HCK
        have HV := Lib.hid hv
        clear hv hE0
        go_wp2_with (first
          | (go_at_call 5; refine HCK.out.mono ?_; rintro e w2 ⟨rfl, hb2⟩; have HB2 := Lib.hid hb2; have q0 := (hb2.cell (p := ⟨g, off + j * 4, none⟩) hgl).trans q0; have q1 := (hb2.cell (p := ⟨g, off + j * 4 + 1, none⟩) hgl).trans q1; have q2 := (hb2.cell (p := ⟨g, off + j * 4 + 2, none⟩) hgl).trans q2; have q3 := (hb2.cell (p := ⟨g, off + j * 4 + 3, none⟩) hgl).trans q3; have HBB := Lib.hid (HB.out.trans (hb2.mono HB.out.size)); have hmay := rMay_any z _ _ w2 ((HS.out.below HBB.out).weak (fun g _ hg => Nat.lt_of_lt_of_le hg HBB.out.size)); rw [HV.out] at hmay; have HMAY := Lib.hid hmay; clear hb2 hmay)
          | (go_at_call 6; refine HMAY.out.mono ?_; rintro e w3 ⟨rfl, hb3⟩; have HB3 := Lib.hid (HBB.out.trans (hb3.mono HBB.out.size)); clear hb3))
        go_roundw
        case rel => exact ⟨j + 1, by omega, by go_num, HB3⟩
        case measure => simp [intOf] <;> omega
    · obtain rfl : j = n := by omega
      have hlt' : ¬ (j : Int) < (j : Int) := by omega
      obtain ⟨S, ee, ht, hr⟩ := both_texts l _ w HE.out HX.out HW.out HF.out.len
      have HT := Lib.hid ht
      have HRT := Lib.hid hr
      have hs : s.size ≤ 100000 := by omega
      have hp : ∀ W, Below w.heap.size w W → Calls Tryd.prog 9 #[.string s] W (ParseR W (parseS s.data.toList)) := fun W hb => parse_any s hs W ((HE.out.below hb).more hb.size (Nat.le_refl _))
      have hq : ∀ W, Below w.heap.size w W → Calls Tryd.prog 10 #[.string s] W (ParseR W (parseS s.data.toList)) := fun W _ => rparse_any s hs W
      cases ho : parseS s.data.toList with
      | error k =>
        rw [ho] at hp hq
        have HP := Lib.hid hp
        have HQ := Lib.hid hq
        clear hp hq ho ht hr hs
        go_wp2_with (first
          | (go_at_call 7; refine (HT.out _ HB.out).mono ?_; rintro e w2 ⟨rfl, hb2⟩; have HB2 := Lib.hid (HB.out.trans (hb2.mono HB.out.size)); clear hb2)
          | (go_at_call 8; refine (HRT.out _ HB2.out).mono ?_; rintro e w3 ⟨rfl, hb3⟩; have HB3 := Lib.hid (HB2.out.trans (hb3.mono HB2.out.size)); clear hb3)
          | (go_at_call 9; refine (HP.out _ HB3.out).mono ?_; rintro e w4 ⟨hb4, rfl⟩; have HB4 := Lib.hid (HB3.out.trans (hb4.mono HB3.out.size)); clear hb4)
          | (go_at_call 10; refine (HQ.out _ HB4.out).mono ?_; rintro e w5 ⟨hb5, rfl⟩; have HB5 := Lib.hid (HB4.out.trans (hb5.mono HB4.out.size)); clear hb5))
        go_ret
        exact ⟨rfl, HB5.out⟩
      | ok l2 =>
        obtain ⟨_, hok, hin⟩ := parseS_ok ho
        rw [ho] at hp hq
        have HP := Lib.hid hp
        have HQ := Lib.hid hq
        have HOK := Lib.hid (And.intro (allOk_parts hok).2 hin)
        obtain ⟨k, hk⟩ : ∃ k, l2.length = k := ⟨_, rfl⟩
        have HK := Lib.hid hk
        clear hp hq ho ht hr hs hok hin hk
        go_wp2_with (first
          | (go_at_call 7; refine (HT.out _ HB.out).mono ?_; rintro e w2 ⟨rfl, hb2⟩; have HB2 := Lib.hid (HB.out.trans (hb2.mono HB.out.size)); clear hb2)
          | (go_at_call 8; refine (HRT.out _ HB2.out).mono ?_; rintro e w3 ⟨rfl, hb3⟩; have HB3 := Lib.hid (HB2.out.trans (hb3.mono HB2.out.size)); clear hb3)
          | (go_at_call 9; refine (HP.out _ HB3.out).mono ?_; rintro e w4 ⟨hb4, v1, ps1, rfl, hp1, he1⟩; obtain ⟨A1, c1, rfl, _, _, _⟩ := RowK.own_shows hp1.own; have hs1 := hp1.src; rw [show ps1.length = k from (by rw [← HK.out, ← he1, List.length_map])] at hs1 ⊢; rw [he1] at hs1; have HS1 := Lib.hid hs1; have HB4 := Lib.hid (HB3.out.trans (hb4.mono HB3.out.size)); clear hb4 hp1 he1 hs1)
          | (go_at_call 10; refine (HQ.out _ HB4.out).mono ?_; rintro e w5 ⟨hb5, v2, ps2, rfl, hp2, he2⟩; obtain ⟨A2, c2, rfl, _, _, _⟩ := RowK.own_shows hp2.own; have hs2 := hp2.src; rw [show ps2.length = k from (by rw [← HK.out, ← he2, List.length_map])] at hs2 ⊢; rw [he2] at hs2; have HSA := Lib.hid (same_true l2 _ _ w5 ((HS1.out.below hb5).weak (fun g _ hg => Nat.lt_of_lt_of_le hg hb5.size)) hs2 (fun x hx => St.wf_of (HOK.out.1 x hx) (HOK.out.2 x hx)) HOK.out.1); have HB5 := Lib.hid (HB4.out.trans (hb5.mono HB4.out.size)); clear hb5 hp2 he2 hs2)
          | (go_at_call 11; refine HSA.out.mono ?_; rintro e w6 ⟨rfl, hb6⟩; have HB6 := Lib.hid (HB5.out.trans (hb6.mono HB5.out.size)); clear hb6))
        go_ret
        exact ⟨rfl, HB6.out⟩
end Go.Proofs.YtlephnfepofbbaaDoor
