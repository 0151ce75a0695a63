/-
  MovesBack: steps are read from their text as they were.
-/
import Derived.Test.YtlephnfepofbbaaGreatDoorMsAlive
import Derived.Test.YtlephnfepofbbaaGreatDoorMvParse
import Derived.Test.YtlephnfepofbbaaGreatDoorMvGreat
import Derived.Test.YtlephnfepofbbaaGreatDoorMvRefText
namespace Go.Proofs.YtlephnfepofbbaaGreatDoor
open Go.RowKit Go.Shelf Go.Maps Go.ChangeMaps

theorem textB_len2 (l : List St) (h : allOk l = true) (hw : ∀ x ∈ l, x.Wf) (hl : l.length ≤ 100) : (textB l).length ≤ 20000000 := by
  obtain ⟨_, hok⟩ := allOk_parts h
  have : ∀ l : List St, (∀ x ∈ l, stOk x = true) → (∀ x ∈ l, x.Wf) → (textB l).length ≤ l.length * 105001 := fun l => by
    induction l with
    | nil => intro _ _; simp [textB]
    | cons x l ih =>
      intro h1 h2
      have a := line_len x (h1 x (by simp)) (h2 x (by simp))
      have b := ih (fun y hy => h1 y (List.mem_cons_of_mem _ hy)) (fun y hy => h2 y (List.mem_cons_of_mem _ hy))
      unfold textB at b ⊢
      rw [List.flatMap_cons, List.length_append, List.length_append, List.length_cons]
      simp only [List.length_cons, List.length_nil]
      omega
  have := this l hok hw
  omega
theorem wf2 {x : St} (h : stOk x = true) (hi : x.In) : x.Wf := by
  obtain ⟨h1, h2, h3, h4⟩ := stOk_parts h
  refine ⟨by have := hi.1; omega, fun n hn => by have := h3 n hn; unfold I64; omega, fun m hm => ?_⟩
  obtain ⟨⟨a1, a2⟩, _⟩ := mvOk_parts (h4 m hm)
  obtain ⟨b1, b2⟩ := hi.2 m hm
  unfold Mo.Wf I64
  omega
/-- The document's first line: what is read from these steps' text; what is read from any text. -/
theorem back_parse (l : List St) (w : World) (hE : Env w.heap.size w) (hwf : ∀ x ∈ l, x.Wf) (hl : l.length ≤ 100) (h : allOk l = true) : ∀ W, Below w.heap.size w W → Calls Tryz.prog 10 #[.string ⟨(textB l).toArray⟩] W (ParseR W (.ok l)) := fun W hb => by
  have := textB_len2 l h hwf hl
  have hp := parse_any ⟨(textB l).toArray⟩ (by show (textB l).toArray.size ≤ _; simp only [List.size_toArray]; omega) W ((hE.below hb).more hb.size (Nat.le_refl _))
  rw [show (⟨(textB l).toArray⟩ : ByteArray).data.toList = textB l from rfl, parseS_text h (fun x hx => (hwf x hx).in_)] at hp
  exact hp
theorem back_text (s : ByteArray) (hs : s.size ≤ 10000) (l2 : List St) (ho : parseS s.data.toList = .ok l2) (w : World) (hE : Env w.heap.size w) : ∀ W v, Below w.heap.size w W → SrcS (Lt W.heap.size) W v l2 → Calls Tryz.prog 14 #[v] W fun r w' => r = .returned (.tuple #[.string s, .int .i64 0]) ∧ Below W.heap.size W w' := fun W v hb hx => by
  obtain ⟨e, hok, hin⟩ := parseS_ok ho
  have hz : (textB l2).length ≤ 40000000 := by
    have : s.data.toList.length = s.size := rfl
    rw [e, this]; omega
  have := text_yes l2 v W ((hE.below hb).more hb.size (Nat.le_refl _)) hx (fun x hx => wf2 ((allOk_parts hok).2 x hx) (hin x hx)) hok hz
  rw [e] at this
  exact this
set_option maxRecDepth 100000 in
set_option maxHeartbeats 16000000 in
theorem back_law (l : List St) (v : Value) (s : ByteArray) (w : World) (hE : Env w.heap.size w) (hx : SrcS (Lt w.heap.size) w v l) (hwf : ∀ x ∈ l, x.Wf) :
    Calls Tryz.prog 4 #[v, .string s] w fun e w' => e = .returned (.bool true) ∧ Below w.heap.size w w' := by
  obtain ⟨A, c, rfl, a1, a2, a3⟩ := hx.form
  have HA := Lib.hid (malive_any w hE)
  have HX := Lib.hid hx
  have HE := Lib.hid hE
  have HW := Lib.hid hwf
  have HG := Lib.hid (fun (W : World) (hb : Below w.heap.size w W) => great_any l _ W ((hx.below hb).weak (fun g _ hg => Nat.lt_of_lt_of_le hg hb.size)))
  obtain ⟨n, hn⟩ : ∃ n, l.length = n := ⟨_, rfl⟩
  rw [hn] at a1 HX HG ⊢
  have HN := Lib.hid hn
  obtain ⟨L, hL⟩ : ∃ L, s.size = L := ⟨_, rfl⟩
  clear hx hE hwf hn a3
  go_enter Tryz.func4, Tryz.ntmps4
  go_wp2_with fail
  refine HA.out.mono ?_
  rintro e w1 ⟨rfl, hb1⟩
  have HB1 := Lib.hid hb1
  clear hb1 HA
  go_wp2_with fail
  refine (HG.out w1 HB1.out).mono ?_
  rintro e w2 ⟨⟨rfl, hf⟩ | rfl, hb⟩
  case inr =>
    have HB2 := Lib.hid (HB1.out.trans (hb.mono HB1.out.size))
    clear hb
    go_wp2_with fail
    go_ret
    exact ⟨rfl, HB2.out⟩
  have HB2 := Lib.hid (HB1.out.trans (hb.mono HB1.out.size))
  have HF := Lib.hid hf
  clear hb hf HG
  by_cases h1 : 10000 < L
  · have h1' : (10000 : Int) < (L : Int) := by omega
    clear h1
    go_wp2_with fail
    go_ret
    exact ⟨rfl, HB2.out⟩
  have h1' : ¬ (10000 : Int) < (L : Int) := by omega
  have hs : s.size ≤ 10000 := by omega
  have hp0 : ∀ W, Below w.heap.size w W → Calls Tryz.prog 10 #[.string s] W (ParseR W (parseS s.data.toList)) := fun W hb => parse_any s (by omega) W ((HE.out.below hb).more hb.size (Nat.le_refl _))
  cases ho : parseS s.data.toList with
  | error k =>
    rw [ho] at hp0
    have HPS := Lib.hid hp0
    clear hp0 ho hs
    cases h : allOk l with
    | false =>
      have HT := Lib.hid (fun (W : World) (hb : Below w.heap.size w W) => text_no l _ W ((HE.out.below hb).more hb.size (Nat.le_refl _)) ((HX.out.below hb).weak (fun g _ hg => Nat.lt_of_lt_of_le hg hb.size)) h)
      clear h
      go_wp2_with (first
        | (go_at_call 14; refine (HT.out _ HB2.out).mono ?_; rintro e w3 ⟨rfl, hb3⟩; have HB3 := Lib.hid (HB2.out.trans (hb3.mono HB2.out.size)); clear hb3 HT)
        | (go_at_call 10; (refine (HPS.out _ HB3.out).mono ?_; rintro e w6 ⟨hb6, rfl⟩; have HB6 := Lib.hid (HB3.out.trans (hb6.mono HB3.out.size)); clear hb6)))
      go_ret
      exact ⟨rfl, HB6.out⟩
    | true =>
      have HT := Lib.hid (fun (W : World) (hb : Below w.heap.size w W) => text_yes l _ W ((HE.out.below hb).more hb.size (Nat.le_refl _)) ((HX.out.below hb).weak (fun g _ hg => Nat.lt_of_lt_of_le hg hb.size)) HW.out h (by have := textB_len2 l h HW.out HF.out.len; omega))
      have HPT := Lib.hid (back_parse l w HE.out HW.out HF.out.len h)
      have HOK := Lib.hid (allOk_parts h).2
      clear h
      go_wp2_with (first
        | (go_at_call 14; refine (HT.out _ HB2.out).mono ?_; rintro e w3 ⟨rfl, hb3⟩; have HB3 := Lib.hid (HB2.out.trans (hb3.mono HB2.out.size)); clear hb3 HT)
        | (go_at_call 10; first | (refine (HPT.out _ HB3.out).mono ?_; rintro e w4 ⟨hb4, v1, ps1, rfl, hp1, he1⟩; obtain ⟨A1, c1, rfl, _, _, _⟩ := RowK.own_shows hp1.own; have hs1 := hp1.src; have hl1 : ps1.length = n := (by rw [← HN.out, ← he1, List.length_map]); rw [he1] at hs1; rw [hl1] at hs1 ⊢; have HSA := Lib.hid (same_true l _ _ w4 hs1 ((HX.out.below (HB3.out.trans (hb4.mono HB3.out.size))).weak (fun g _ hg => Nat.lt_of_lt_of_le hg (HB3.out.trans (hb4.mono HB3.out.size)).size)) HW.out HOK.out); have HB4 := Lib.hid (HB3.out.trans (hb4.mono HB3.out.size)); clear hb4 hp1 he1 hs1 hl1 HPT) | (refine (HPS.out _ HB5.out).mono ?_; rintro e w6 ⟨hb6, rfl⟩; have HB6 := Lib.hid (HB5.out.trans (hb6.mono HB5.out.size)); clear hb6))
        | (go_at_call 20; refine HSA.out.mono ?_; rintro e w5 ⟨rfl, hb5⟩; have HB5 := Lib.hid (HB4.out.trans (hb5.mono HB4.out.size)); clear hb5))
      go_ret
      exact ⟨rfl, HB6.out⟩
  | ok l2 =>
    rw [ho] at hp0
    have HPS := Lib.hid hp0
    have HTX := Lib.hid (back_text s hs l2 ho w HE.out)
    clear hp0 ho hs
    cases h : allOk l with
    | false =>
      have HT := Lib.hid (fun (W : World) (hb : Below w.heap.size w W) => text_no l _ W ((HE.out.below hb).more hb.size (Nat.le_refl _)) ((HX.out.below hb).weak (fun g _ hg => Nat.lt_of_lt_of_le hg hb.size)) h)
      clear h
      go_wp2_with (first
        | (go_at_call 14; first | (refine (HT.out _ HB2.out).mono ?_; rintro e w3 ⟨rfl, hb3⟩; have HB3 := Lib.hid (HB2.out.trans (hb3.mono HB2.out.size)); clear hb3 HT) | (refine HT2.out.mono ?_; rintro e w7 ⟨rfl, hb7⟩; have HB7 := Lib.hid (HB6.out.trans (hb7.mono HB6.out.size)); clear hb7))
        | (go_at_call 10; (refine (HPS.out _ HB3.out).mono ?_; rintro e w6 ⟨hb6, v2, ps2, rfl, hp2, he2⟩; obtain ⟨A2, c2, rfl, _, _, _⟩ := RowK.own_shows hp2.own; have hs2 := hp2.src; rw [he2] at hs2; have HB6 := Lib.hid (HB3.out.trans (hb6.mono HB3.out.size)); have HT2 := Lib.hid (HTX.out _ _ HB6.out hs2); clear hb6 hp2 he2 hs2)))
      go_ret
      exact ⟨rfl, HB7.out⟩
    | true =>
      have HT := Lib.hid (fun (W : World) (hb : Below w.heap.size w W) => text_yes l _ W ((HE.out.below hb).more hb.size (Nat.le_refl _)) ((HX.out.below hb).weak (fun g _ hg => Nat.lt_of_lt_of_le hg hb.size)) HW.out h (by have := textB_len2 l h HW.out HF.out.len; omega))
      have HPT := Lib.hid (back_parse l w HE.out HW.out HF.out.len h)
      have HOK := Lib.hid (allOk_parts h).2
      clear h
      go_wp2_with (first
        | (go_at_call 14; first | (refine (HT.out _ HB2.out).mono ?_; rintro e w3 ⟨rfl, hb3⟩; have HB3 := Lib.hid (HB2.out.trans (hb3.mono HB2.out.size)); clear hb3 HT) | (refine HT2.out.mono ?_; rintro e w7 ⟨rfl, hb7⟩; have HB7 := Lib.hid (HB6.out.trans (hb7.mono HB6.out.size)); clear hb7))
        | (go_at_call 10; first | (refine (HPT.out _ HB3.out).mono ?_; rintro e w4 ⟨hb4, v1, ps1, rfl, hp1, he1⟩; obtain ⟨A1, c1, rfl, _, _, _⟩ := RowK.own_shows hp1.own; have hs1 := hp1.src; have hl1 : ps1.length = n := (by rw [← HN.out, ← he1, List.length_map]); rw [he1] at hs1; rw [hl1] at hs1 ⊢; have HSA := Lib.hid (same_true l _ _ w4 hs1 ((HX.out.below (HB3.out.trans (hb4.mono HB3.out.size))).weak (fun g _ hg => Nat.lt_of_lt_of_le hg (HB3.out.trans (hb4.mono HB3.out.size)).size)) HW.out HOK.out); have HB4 := Lib.hid (HB3.out.trans (hb4.mono HB3.out.size)); clear hb4 hp1 he1 hs1 hl1 HPT) | (refine (HPS.out _ HB5.out).mono ?_; rintro e w6 ⟨hb6, v2, ps2, rfl, hp2, he2⟩; obtain ⟨A2, c2, rfl, _, _, _⟩ := RowK.own_shows hp2.own; have hs2 := hp2.src; rw [he2] at hs2; have HB6 := Lib.hid (HB5.out.trans (hb6.mono HB5.out.size)); have HT2 := Lib.hid (HTX.out _ _ HB6.out hs2); clear hb6 hp2 he2 hs2))
        | (go_at_call 20; refine HSA.out.mono ?_; rintro e w5 ⟨rfl, hb5⟩; have HB5 := Lib.hid (HB4.out.trans (hb5.mono HB4.out.size)); clear hb5))
      go_ret
      exact ⟨rfl, HB7.out⟩
end Go.Proofs.YtlephnfepofbbaaGreatDoor
