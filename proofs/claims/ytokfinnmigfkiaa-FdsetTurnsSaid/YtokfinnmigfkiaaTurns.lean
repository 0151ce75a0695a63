/-
  FdsetTurns, the walk: for any two sets and any number it returns true, and nothing that lay has turned.
-/
import Derived.Test.YtokfinnmigfkiaaOf
import Derived.Test.YtokfinnmigfkiaaOps
import Derived.Laws.AppendOwnNone
namespace Go.Proofs.Ytokfinnmigfkiaa
open Go.RowKit

theorem same_law (xs ys : List Int) (u v : Value) (w : World) (hu : IsL w u xs) (hv : IsL w v ys) :
    Calls Try.prog 7 #[u, v] w fun e w' => e = .returned (.bool (sameB xs ys)) ∧ Below w.heap.size w w' := by
  go_enter Try.func7, Try.ntmps7
  go_wp2_with (go_at_call 17; refine (same_any xs ys u v _ hu hv).mono ?_; rintro e w2 ⟨rfl, hb⟩)
  go_ret
  exact ⟨rfl, hb⟩
theorem same_true (xs ys : List Int) (u v : Value) (w : World) (hu : IsL w u xs) (hv : IsL w v ys) (h : xs = ys) :
    Calls Try.prog 7 #[u, v] w fun e w' => e = .returned (.bool true) ∧ Below w.heap.size w w' :=
  (same_law xs ys u v w hu hv).mono fun _ _ ⟨he, hw⟩ => ⟨by rw [he]; simp [sameB, h], hw⟩

theorem cell_below {w w' : World} {p : Addr} {v : Value} (hb : Below w.heap.size w w') (h : w.cell? p = some v) : w'.cell? p = some v := (hb.cell (World.block_lt_of_cell? w p h)).trans h
theorem IsSet.below {w w' : World} {B a b : Nat} (h : IsSet w B a b) (hb : Below w.heap.size w w') : IsSet w' B a b :=
  ⟨cell_below hb h.1, cell_below hb h.2.1, (hb.frozen (p := ⟨B, 0, none⟩) h.lt).trans h.2.2.1, (hb.frozen (p := ⟨B, 1, none⟩) h.lt).trans h.2.2.2⟩
theorem below_end {w w' w'' : World} (h : Below w.heap.size w w') (k : Below w'.heap.size w' w'') : Below w.heap.size w w'' := h.trans (k.mono h.size)

/-! ### What the lists are -/
theorem all_okI_memI (a b : Nat) : (memI a b).all okI = true := by
  rw [List.all_eq_true]
  intro z hz
  have := (mem_memI a b z).1 hz
  simp [okI]; omega
theorem inB_append (n z : Int) (l : List Int) : inB n (l ++ [z]) = (inB n l || decide (n = z)) := by
  unfold inB
  rw [Bool.eq_iff_iff]
  simp
theorem inB_one (n z : Int) : inB n [z] = decide (n = z) := by unfold inB; simp
theorem memI_zero : memI 0 0 = [] := by
  unfold memI mem
  rw [List.map_eq_nil_iff, List.filter_eq_nil_iff]
  intro k _
  simp [hasB]
theorem memI_with (a b : Nat) (n : Int) (h0 : 0 ≤ n) (h1 : n < 64) : memI (w0 a n.toNat) (w1 b n.toNat) = upTo (fun k => inB (k : Int) (memI a b ++ [n])) 64 := by
  rw [memI_upTo]
  refine upTo_congr _ _ _ fun k hk => ?_
  rw [hasB_with _ _ _ _ (by omega) hk, inB_append, inB_memI _ _ _ hk, decide_eq_decide.2 (show k = n.toNat ↔ (k : Int) = n by omega)]
theorem memI_without (a b : Nat) (n : Int) (h0 : 0 ≤ n) (h1 : n < 64) : memI (o0 a n.toNat) (o1 b n.toNat) = upTo (fun k => inB (k : Int) (memI a b) && !inB (k : Int) [n]) 64 := by
  rw [memI_upTo]
  refine upTo_congr _ _ _ fun k hk => ?_
  rw [hasB_without _ _ _ _ (by omega) hk, inB_one, inB_memI _ _ _ hk, decide_eq_decide.2 (show k = n.toNat ↔ (k : Int) = n by omega)]
theorem memI_without_out (a b : Nat) (n : Int) (h : n < 0 ∨ 64 ≤ n) : memI a b = upTo (fun k => inB (k : Int) (memI a b) && !inB (k : Int) [n]) 64 := by
  conv => lhs; rw [memI_upTo]
  refine upTo_congr _ _ _ fun k hk => ?_
  rw [inB_one, inB_memI _ _ _ hk, decide_eq_false (show ¬ (k : Int) = n by omega)]
  simp
theorem memI_and (a b c d : Nat) : memI (a &&& c) (b &&& d) = upTo (fun k => inB (k : Int) (memI a b) && inB (k : Int) (memI c d)) 64 := by
  rw [memI_upTo]
  refine upTo_congr _ _ _ fun k hk => ?_
  rw [hasB_and, inB_memI _ _ _ hk, inB_memI _ _ _ hk]
theorem memI_or (a b c d : Nat) : memI (a ||| c) (b ||| d) = upTo (fun k => inB (k : Int) (memI a b) || inB (k : Int) (memI c d)) 64 := by
  rw [memI_upTo]
  refine upTo_congr _ _ _ fun k hk => ?_
  rw [hasB_or, inB_memI _ _ _ hk, inB_memI _ _ _ hk]
theorem memI_less (a b c d : Nat) (hc : c < 4294967296) (hd : d < 4294967296) : memI (a &&& (4294967295 - c)) (b &&& (4294967295 - d)) = upTo (fun k => inB (k : Int) (memI a b) && !inB (k : Int) (memI c d)) 64 := by
  rw [memI_upTo]
  refine upTo_congr _ _ _ fun k hk => ?_
  rw [hasB_less _ _ _ _ _ hc hd hk, inB_memI _ _ _ hk, inB_memI _ _ _ hk]

/-- What With leaves, and the document's Of of the members and that number. -/
def WithOf (a b : Nat) (n : Int) (p q : Nat) (code : Int) : Prop :=
  (code = 0 ∧ (memI a b ++ [n]).all okI = true ∧ memI p q = upTo (fun k => inB (k : Int) (memI a b ++ [n])) 64) ∨ (code = 10 ∧ (memI a b ++ [n]).all okI = false ∧ memI p q = [])
theorem with_any (a b : Nat) (n : Int) (ha : a < 4294967296) (hb : b < 4294967296) : ∃ (p q : Nat) (code : Int), p < 4294967296 ∧ q < 4294967296 ∧ WithOf a b n p q code ∧
    ∀ w, Calls Try.prog 5 #[.agg #[.int .u32 (a : Int), .int .u32 (b : Int)], .int .i64 n] w fun e w' => e = .returned (.tuple #[.agg #[.int .u32 (p : Int), .int .u32 (q : Int)], .int .i64 code]) ∧ Below w.heap.size w w' := by
  by_cases h : n < 0 ∨ 64 ≤ n
  · refine ⟨0, 0, 10, by omega, by omega, .inr ⟨rfl, ?_, memI_zero⟩, fun w => with_out a b n w h⟩
    rw [List.all_append]
    simp [okI]; omega
  · refine ⟨w0 a n.toNat, w1 b n.toNat, 0, w0_lt _ ha, w1_lt _ hb, .inl ⟨rfl, ?_, memI_with a b n (by omega) (by omega)⟩, fun w => ?_⟩
    · rw [List.all_append, all_okI_memI]
      simp [okI]; omega
    · have h2 := with_in a b n.toNat w ha hb (by omega)
      rwa [show ((n.toNat : Nat) : Int) = n from by omega] at h2
theorem without_any (a b : Nat) (n : Int) (ha : a < 4294967296) (hb : b < 4294967296) : ∃ p q : Nat, p < 4294967296 ∧ q < 4294967296 ∧ memI p q = upTo (fun k => inB (k : Int) (memI a b) && !inB (k : Int) [n]) 64 ∧
    ∀ w, Calls Try.prog 8 #[.agg #[.int .u32 (a : Int), .int .u32 (b : Int)], .int .i64 n] w (RetS w p q) := by
  by_cases h : n < 0 ∨ 64 ≤ n
  · exact ⟨a, b, ha, hb, memI_without_out a b n h, fun w => without_out a b n w h⟩
  · refine ⟨o0 a n.toNat, o1 b n.toNat, o0_lt _ ha, o1_lt _ hb, memI_without a b n (by omega) (by omega), fun w => ?_⟩
    have h2 := without_in a b n.toNat w ha hb (by omega)
    rwa [show ((n.toNat : Nat) : Int) = n from by omega] at h2
theorem isL_nil (w : World) : IsL w (.slice none 0 0) [] := ⟨none, 0, rfl, by unfold maxLen; simp, fun _ => rfl, .inl rfl⟩
theorem isL_one (w : World) (n : Int) : IsL (w.alloc (.cells #[.int .i64 n] 3)) (.slice (some ⟨w.heap.size, 0, none⟩) 1 1) [n] := by
  refine ⟨_, 1, rfl, by unfold maxLen; simp, (fun h => by cases h), .inr ⟨w.heap.size, 0, rfl, by simp, fun j hj => ?_⟩⟩
  obtain rfl : j = 0 := by simp at hj; omega
  rw [Nat.zero_add, World.cell?_alloc_at _ _ _ _ rfl]; rfl
theorem of_both (a b : Nat) (n : Int) (p q : Nat) (code : Int) (h : WithOf a b n p q code) (v : Value) (w : World) (hv : IsL w v (memI a b ++ [n])) :
    Calls Try.prog 6 #[v] w fun e w' => ∃ vo, e = .returned (.tuple #[vo, .int .i64 code]) ∧ IsL w' vo (memI p q) ∧ Below w.heap.size w w' := by
  rcases h with ⟨rfl, h1, h2⟩ | ⟨rfl, h1, h2⟩
  · refine (of_ok _ v w hv h1).mono ?_
    rintro e w' ⟨vo, rfl, hvo, hb⟩
    exact ⟨vo, rfl, by rw [h2]; exact hvo, hb⟩
  · refine (of_bad _ v w hv h1).mono ?_
    rintro e w' ⟨rfl, rfl⟩
    exact ⟨_, rfl, by rw [h2]; exact isL_nil _, Below.refl _ _⟩

theorem owns_lit (W : World) (g : Nat) (hg : g = W.heap.size) : (W.alloc (.cells #[] 3)).ownsRow g 3 1 (.slice (some ⟨g, 0, none⟩) 0 0) 0 [] := by
  subst hg; exact World.ownsRow_made W #[] 0 (Nat.le_refl _) (by unfold maxLen; omega) (by simp)
/-- What stays at hand through the walk: the two sets in their boxes, the two lists; nothing that lay has turned. -/
def Env (w : World) (a b c d : Nat) (vl vm : Value) (W : World) : Prop := IsSet W w.heap.size a b ∧ IsSet W (w.heap.size + 1) c d ∧ IsL W vl (memI a b) ∧ IsL W vm (memI c d) ∧ Below w.heap.size w W
theorem Env.below {w : World} {a b c d : Nat} {vl vm : Value} {W W' : World} (h : Env w a b c d vl vm W) (hb : Below W.heap.size W W') : Env w a b c d vl vm W' :=
  ⟨h.1.below hb, h.2.1.below hb, h.2.2.1.below hb, h.2.2.2.1.below hb, below_end h.2.2.2.2 hb⟩

set_option maxRecDepth 100000 in
set_option maxHeartbeats 2000000 in
theorem turns_any (a b c d : Nat) (n : Int) (w : World) (ha : a < 4294967296) (hb : b < 4294967296) (hc : c < 4294967296) (hd : d < 4294967296) :
    Calls Try.prog 3 #[.agg #[.int .u32 (a : Int), .int .u32 (b : Int)], .agg #[.int .u32 (c : Int), .int .u32 (d : Int)], .int .i64 n] w fun e w' => e = .returned (.bool true) ∧ Below w.heap.size w w' := by
  obtain ⟨i0, hi, hz0, hz1, hz2⟩ := info_parts infoInt
  obtain ⟨X, hX⟩ : ∃ X, (w.alloc (.cells #[.int .u32 (a : Int), .int .u32 (b : Int)] 24)).alloc (.cells #[.int .u32 (c : Int), .int .u32 (d : Int)] 24) = X := ⟨_, rfl⟩
  have hbel : Below w.heap.size w X := by rw [← hX]; exact ((Below.refl _ _).alloc (Nat.le_refl _) _).alloc (by simp) _
  have hs1 : IsSet X w.heap.size a b := by rw [← hX]; exact (isSet_new w a b).grown (World.grownBy_alloc _ _ none) (by simp)
  have hs2 : IsSet X (w.heap.size + 1) c d := by
    rw [← hX]
    simpa using isSet_new (w.alloc (.cells #[.int .u32 (a : Int), .int .u32 (b : Int)] 24)) c d
  have Hs1 := Lib.hid hs1
  have Hs2 := Lib.hid hs2
  obtain ⟨p0, p1, _, _⟩ := hs1
  obtain ⟨q0, q1, _, _⟩ := hs2
  have HX := Lib.hid hX
  clear hX
  obtain ⟨p, q, code, hp, hq, hwo, hwith⟩ := with_any a b n ha hb
  obtain ⟨r, s, hr, hs, hrs, hwithout⟩ := without_any a b n ha hb
  have Hrs := Lib.hid hrs
  have Hwo := Lib.hid hwo
  have Hwith := Lib.hid hwith
  have Hwithout := Lib.hid hwithout
  clear hrs hwo hwith hwithout
  go_enter Try.func3, Try.ntmps3
  go_wp2_with fail
  rw [HX.out]
  go_region_held3 (fun w' => w'.cell? ⟨w.heap.size, 0, none⟩ = some (.int .u32 (a : Int)) ∧ w'.cell? ⟨w.heap.size, 1, none⟩ = some (.int .u32 (b : Int)) ∧ w'.cell? ⟨w.heap.size + 1, 0, none⟩ = some (.int .u32 (c : Int)) ∧ w'.cell? ⟨w.heap.size + 1, 1, none⟩ = some (.int .u32 (d : Int)))
    (first | (go_split_ands; refine ⟨cell_below bm ?_, cell_below bm ?_, cell_below bm ?_, cell_below bm ?_⟩ <;> assumption) | (go_split_ands; refine ⟨cell_below bl ?_, cell_below bl ?_, cell_below bl ?_, cell_below bl ?_⟩ <;> assumption) | go_keep)
    (first | (go_at_call 4; ((with_reducible refine (list_any a b _ ha hb).mono ?_); rintro e wl ⟨vl, rfl, hl, bl⟩)) | (go_at_call 4; ((with_reducible refine (list_any c d _ hc hd).mono ?_); rintro e wm ⟨vm, rfl, hm, bm⟩)))
  have henv : Env w a b c d vl vm wm := ⟨((IsSet.drewn Hs1.out).below bl).below bm, ((IsSet.drewn Hs2.out).below bl).below bm, hl.below bm, hm, below_end (below_end hbel.drew bl) bm⟩
  clear p0 p1 q0 q1 hl hm bl bm hbel Hs1 Hs2 HX
  go_split_ands
  go_wp2_with fail
  refine (Hwith.out _).mono ?_
  rintro e w1 ⟨rfl, hb1⟩
  have henv1 := henv.below hb1
  clear henv
  have hle := length_memI a b
  have hset1 := isSet_new w1 p q
  have henv2 := henv1.below ((Below.refl _ _).alloc (Nat.le_refl _) (.cells #[.int .u32 (p : Int), .int .u32 (q : Int)] 24))
  rcases henv1.2.2.1.src with ⟨rfl, hnil⟩ | ⟨ad, cap, rfl, hsrc⟩
  · have Hnil := Lib.hid hnil
    clear hnil
    go_wp2_with (first | (at_builtin; refine wpList_append_own_none rfl (.tmp 24) (.tmp 25) 25 rfl (w1.heap.size + 1) 3 i0 1 Try.underlying25 hi (.slice (some ⟨w1.heap.size + 1, 0, none⟩) 0 0) 0 [] rfl (owns_lit _ (w1.heap.size + 1) (by simp)) rfl ?_; obtain ⟨v1, hv1⟩ : ∃ v1 : Value, v1 = .slice (some ⟨w1.heap.size + 1, 0, none⟩) 0 0 := ⟨_, rfl⟩; obtain ⟨w2, hw2⟩ : ∃ w2 : World, w2 = (w1.alloc (.cells #[.int .u32 (p : Int), .int .u32 (q : Int)] 24)).alloc (.cells #[] 3) := ⟨_, rfl⟩; have hown1 : w2.ownsRow (w1.heap.size + 1) 3 1 v1 (memI a b).length ((memI a b).map (Value.int .i64)) := (by rw [Hnil.out, hv1, hw2]; exact owns_lit _ _ (by simp)); have hg1 : Below (w1.heap.size + 1) (w1.alloc (.cells #[.int .u32 (p : Int), .int .u32 (q : Int)] 24)) w2 := (by rw [hw2]; exact (Below.refl _ _).alloc (by simp) _); have hz2' := hg1.size; have hgrow1 := True.intro; rw [← hv1, ← hw2]; clear hv1 hw2) | (at_builtin; refine wpList_append_own _ rfl (.tmp 26) (.tmp 28) 25 rfl (w1.heap.size + 1) 3 i0 (.int .i64 0) 1 8 Try.underlying25 hi hz0 hz1 hz2 rfl (by decide) _ _ _ rfl (hown1.alloc _) ⟨w2.heap.size, 0, none⟩ 1 1 [.int .i64 n] rfl rfl (cell_one_new _ _ _) (by simp [Value.oneCell']) (by unfold maxLen; omega) (by omega) (by simp at hz2' ⊢; omega) ?_; intro v2 w3 hown2 hgrow2 _; have hg2 : Below (w1.heap.size + 1) (w1.alloc (.cells #[.int .u32 (p : Int), .int .u32 (q : Int)] 24)) w3 := (hg1.alloc (by simpa using hz2') _).grown hgrow2 (by simp at hz2' ⊢; omega) (fun k hk => (hown1.lt k hk).1)))
    have hg3 : Below (w1.alloc (.cells #[.int .u32 (p : Int), .int .u32 (q : Int)] 24)).heap.size (w1.alloc (.cells #[.int .u32 (p : Int), .int .u32 (q : Int)] 24)) w3 := by simpa using hg2
    have henv3 := henv2.below hg3
    have hset3 := hset1.below hg3
    have hv2 : IsL w3 v2 (memI a b ++ [n]) := isL_of_owns (by simp; unfold maxLen; omega) (by simpa using hown2)
    clear hown1 hown2 hgrow1 hgrow2 hg1 hg2 hg3 henv1 henv2 hset1 hz2'
    refine (of_both a b n p q code Hwo.out v2 _ hv2).mono ?_
    rintro e w4 ⟨vo, rfl, hvo, hb4⟩
    have henv4 := henv3.below hb4
    have hset4 := hset3.below hb4
    obtain ⟨m0, m1, _, _⟩ := hset4
    clear henv3 hset3 hv2
    go_wp2_with fail
    refine (list_any p q _ hp hq).mono ?_
    rintro e w5 ⟨v5, rfl, hv5, hb5⟩
    go_wp2_with fail
    refine (same_true _ _ _ _ _ hv5 (hvo.below hb5) rfl).mono ?_
    rintro e w6 ⟨rfl, hb6⟩
    have henv6 := (henv4.below hb5).below hb6
    clear hv5 hvo hb5 hb6 henv4 m0 m1
    obtain ⟨⟨p0, p1, _, _⟩, ⟨q0, q1, _, _⟩, _⟩ := id henv6
    go_wp2_with fail
    refine (Hwithout.out _).mono ?_
    rintro e w7 ⟨rfl, hb7⟩
    go_wp2_with fail
    refine (list_any r s _ hr hs).mono ?_
    rintro e w8 ⟨v8, rfl, hv8, hb8⟩
    have henv8 := (henv6.below hb7).below hb8
    clear henv6 p0 p1 q0 q1 hb7 hb8
    have hal : Below w8.heap.size w8 (w8.alloc (.cells #[.int .i64 n] 3)) := (Below.refl _ _).alloc (Nat.le_refl _) _
    go_wp2_with fail
    refine (some_4 (memI a b) [n] _ _ _ (henv8.below hal).2.2.1 (isL_one _ n)).mono ?_
    rintro e w9 ⟨v9, rfl, hv9, hb9⟩
    go_wp2_with fail
    refine (same_true _ _ _ _ _ ((hv8.below hal).below hb9) hv9 Hrs.out).mono ?_
    rintro e w10 ⟨rfl, hb10⟩
    have henv10 := ((henv8.below hal).below hb9).below hb10
    clear henv8 hv8 hal hv9 hb9 hb10
    obtain ⟨⟨p0, p1, _, _⟩, ⟨q0, q1, _, _⟩, _⟩ := id henv10
    go_wp2_with fail
    refine (and_any a b c d _ ha hb hc hd).mono ?_
    rintro e x10 ⟨rfl, hbx⟩
    go_wp2_with fail
    refine (list_any (a &&& c) (b &&& d) _ (and_lt c ha) (and_lt d hb)).mono ?_
    rintro e y10 ⟨vy, rfl, hvy, hby⟩
    have henvy := (henv10.below hbx).below hby
    go_wp2_with fail
    refine (some_3 (memI a b) (memI c d) _ _ _ henvy.2.2.1 henvy.2.2.2.1).mono ?_
    rintro e z10 ⟨vz, rfl, hvz, hbz⟩
    go_wp2_with fail
    refine (same_true _ _ _ _ _ (hvy.below hbz) hvz (memI_and a b c d)).mono ?_
    rintro e t10 ⟨rfl, hbt⟩
    have henv11 := (henvy.below hbz).below hbt
    clear henv10 henvy hbx hvy hby hvz hbz hbt p0 p1 q0 q1
    obtain ⟨⟨p0, p1, _, _⟩, ⟨q0, q1, _, _⟩, _⟩ := id henv11
    go_wp2_with fail
    refine (or_any a b c d _ ha hb hc hd).mono ?_
    rintro e x11 ⟨rfl, hbx⟩
    go_wp2_with fail
    refine (list_any (a ||| c) (b ||| d) _ (or_lt ha hc) (or_lt hb hd)).mono ?_
    rintro e y11 ⟨vy, rfl, hvy, hby⟩
    have henvy := (henv11.below hbx).below hby
    go_wp2_with fail
    refine (some_1 (memI a b) (memI c d) _ _ _ henvy.2.2.1 henvy.2.2.2.1).mono ?_
    rintro e z11 ⟨vz, rfl, hvz, hbz⟩
    go_wp2_with fail
    refine (same_true _ _ _ _ _ (hvy.below hbz) hvz (memI_or a b c d)).mono ?_
    rintro e t11 ⟨rfl, hbt⟩
    have henv12 := (henvy.below hbz).below hbt
    clear henv11 henvy hbx hvy hby hvz hbz hbt p0 p1 q0 q1
    obtain ⟨⟨p0, p1, _, _⟩, ⟨q0, q1, _, _⟩, _⟩ := id henv12
    go_wp2_with fail
    refine (less_any a b c d _ ha hb hc hd).mono ?_
    rintro e x12 ⟨rfl, hbx⟩
    go_wp2_with fail
    refine (list_any (a &&& (4294967295 - c)) (b &&& (4294967295 - d)) _ (and_lt _ ha) (and_lt _ hb)).mono ?_
    rintro e y12 ⟨vy, rfl, hvy, hby⟩
    have henvy := (henv12.below hbx).below hby
    go_wp2_with fail
    refine (some_4 (memI a b) (memI c d) _ _ _ henvy.2.2.1 henvy.2.2.2.1).mono ?_
    rintro e z12 ⟨vz, rfl, hvz, hbz⟩
    go_wp2_with fail
    refine (same_true _ _ _ _ _ (hvy.below hbz) hvz (memI_less a b c d hc hd)).mono ?_
    rintro e t12 ⟨rfl, hbt⟩
    have henv13 := (henvy.below hbz).below hbt
    clear henv12 henvy hbx hvy hby hvz hbz hbt p0 p1 q0 q1
    obtain ⟨⟨p0, p1, _, _⟩, ⟨q0, q1, _, _⟩, _⟩ := id henv13
    go_wp2
    go_ret
    exact ⟨rfl, henv13.2.2.2.2⟩
  · have hsrc2 : ∀ j u, ((memI a b).map (Value.int .i64))[j]? = some u → ((w1.alloc (.cells #[.int .u32 (p : Int), .int .u32 (q : Int)] 24)).alloc (.cells #[] 3)).cell? (ad.add j) = some u := fun j u hu => cell_below ((Below.refl _ _).alloc (Nat.le_refl _) _) (cell_below ((Below.refl _ _).alloc (Nat.le_refl _) _) (hsrc j u hu))
    have Hsrc := Lib.hid hsrc2
    clear hsrc hsrc2
    go_wp2_with (first | (at_builtin; refine wpList_append_own _ rfl (.tmp 24) (.tmp 25) 25 rfl (w1.heap.size + 1) 3 i0 (.int .i64 0) 1 8 Try.underlying25 hi hz0 hz1 hz2 rfl (by decide) (.slice (some ⟨w1.heap.size + 1, 0, none⟩) 0 0) 0 [] rfl (owns_lit _ (w1.heap.size + 1) (by simp)) ad (memI a b).length cap ((memI a b).map (Value.int .i64)) rfl (by simp) Hsrc.out (ints_oneCell _ _) (by unfold maxLen; omega) (by omega) (by simp) ?_; intro v1 w2 hown1 hgrow1 _; simp only [Nat.zero_add, List.nil_append] at hown1; have hg1 : Below (w1.heap.size + 1) (w1.alloc (.cells #[.int .u32 (p : Int), .int .u32 (q : Int)] 24)) w2 := ((Below.refl _ _).alloc (by simp) _).grown hgrow1 (by simp) (fun k hk => by cases hk; exact Nat.le_refl _); have hz2' := hg1.size) | (at_builtin; refine wpList_append_own _ rfl (.tmp 26) (.tmp 28) 25 rfl (w1.heap.size + 1) 3 i0 (.int .i64 0) 1 8 Try.underlying25 hi hz0 hz1 hz2 rfl (by decide) _ _ _ rfl (hown1.alloc _) ⟨w2.heap.size, 0, none⟩ 1 1 [.int .i64 n] rfl rfl (cell_one_new _ _ _) (by simp [Value.oneCell']) (by unfold maxLen; omega) (by omega) (by simp at hz2' ⊢; omega) ?_; intro v2 w3 hown2 hgrow2 _; have hg2 : Below (w1.heap.size + 1) (w1.alloc (.cells #[.int .u32 (p : Int), .int .u32 (q : Int)] 24)) w3 := (hg1.alloc (by simpa using hz2') _).grown hgrow2 (by simp at hz2' ⊢; omega) (fun k hk => (hown1.lt k hk).1)))
    clear Hsrc
    have hg3 : Below (w1.alloc (.cells #[.int .u32 (p : Int), .int .u32 (q : Int)] 24)).heap.size (w1.alloc (.cells #[.int .u32 (p : Int), .int .u32 (q : Int)] 24)) w3 := by simpa using hg2
    have henv3 := henv2.below hg3
    have hset3 := hset1.below hg3
    have hv2 : IsL w3 v2 (memI a b ++ [n]) := isL_of_owns (by simp; unfold maxLen; omega) (by simpa using hown2)
    clear hown1 hown2 hgrow1 hgrow2 hg1 hg2 hg3 henv1 henv2 hset1 hz2'
    refine (of_both a b n p q code Hwo.out v2 _ hv2).mono ?_
    rintro e w4 ⟨vo, rfl, hvo, hb4⟩
    have henv4 := henv3.below hb4
    have hset4 := hset3.below hb4
    obtain ⟨m0, m1, _, _⟩ := hset4
    clear henv3 hset3 hv2
    go_wp2_with fail
    refine (list_any p q _ hp hq).mono ?_
    rintro e w5 ⟨v5, rfl, hv5, hb5⟩
    go_wp2_with fail
    refine (same_true _ _ _ _ _ hv5 (hvo.below hb5) rfl).mono ?_
    rintro e w6 ⟨rfl, hb6⟩
    have henv6 := (henv4.below hb5).below hb6
    clear hv5 hvo hb5 hb6 henv4 m0 m1
    obtain ⟨⟨p0, p1, _, _⟩, ⟨q0, q1, _, _⟩, _⟩ := id henv6
    go_wp2_with fail
    refine (Hwithout.out _).mono ?_
    rintro e w7 ⟨rfl, hb7⟩
    go_wp2_with fail
    refine (list_any r s _ hr hs).mono ?_
    rintro e w8 ⟨v8, rfl, hv8, hb8⟩
    have henv8 := (henv6.below hb7).below hb8
    clear henv6 p0 p1 q0 q1 hb7 hb8
    have hal : Below w8.heap.size w8 (w8.alloc (.cells #[.int .i64 n] 3)) := (Below.refl _ _).alloc (Nat.le_refl _) _
    go_wp2_with fail
    refine (some_4 (memI a b) [n] _ _ _ (henv8.below hal).2.2.1 (isL_one _ n)).mono ?_
    rintro e w9 ⟨v9, rfl, hv9, hb9⟩
    go_wp2_with fail
    refine (same_true _ _ _ _ _ ((hv8.below hal).below hb9) hv9 Hrs.out).mono ?_
    rintro e w10 ⟨rfl, hb10⟩
    have henv10 := ((henv8.below hal).below hb9).below hb10
    clear henv8 hv8 hal hv9 hb9 hb10
    obtain ⟨⟨p0, p1, _, _⟩, ⟨q0, q1, _, _⟩, _⟩ := id henv10
    go_wp2_with fail
    refine (and_any a b c d _ ha hb hc hd).mono ?_
    rintro e x10 ⟨rfl, hbx⟩
    go_wp2_with fail
    refine (list_any (a &&& c) (b &&& d) _ (and_lt c ha) (and_lt d hb)).mono ?_
    rintro e y10 ⟨vy, rfl, hvy, hby⟩
    have henvy := (henv10.below hbx).below hby
    go_wp2_with fail
    refine (some_3 (memI a b) (memI c d) _ _ _ henvy.2.2.1 henvy.2.2.2.1).mono ?_
    rintro e z10 ⟨vz, rfl, hvz, hbz⟩
    go_wp2_with fail
    refine (same_true _ _ _ _ _ (hvy.below hbz) hvz (memI_and a b c d)).mono ?_
    rintro e t10 ⟨rfl, hbt⟩
    have henv11 := (henvy.below hbz).below hbt
    clear henv10 henvy hbx hvy hby hvz hbz hbt p0 p1 q0 q1
    obtain ⟨⟨p0, p1, _, _⟩, ⟨q0, q1, _, _⟩, _⟩ := id henv11
    go_wp2_with fail
    refine (or_any a b c d _ ha hb hc hd).mono ?_
    rintro e x11 ⟨rfl, hbx⟩
    go_wp2_with fail
    refine (list_any (a ||| c) (b ||| d) _ (or_lt ha hc) (or_lt hb hd)).mono ?_
    rintro e y11 ⟨vy, rfl, hvy, hby⟩
    have henvy := (henv11.below hbx).below hby
    go_wp2_with fail
    refine (some_1 (memI a b) (memI c d) _ _ _ henvy.2.2.1 henvy.2.2.2.1).mono ?_
    rintro e z11 ⟨vz, rfl, hvz, hbz⟩
    go_wp2_with fail
    refine (same_true _ _ _ _ _ (hvy.below hbz) hvz (memI_or a b c d)).mono ?_
    rintro e t11 ⟨rfl, hbt⟩
    have henv12 := (henvy.below hbz).below hbt
    clear henv11 henvy hbx hvy hby hvz hbz hbt p0 p1 q0 q1
    obtain ⟨⟨p0, p1, _, _⟩, ⟨q0, q1, _, _⟩, _⟩ := id henv12
    go_wp2_with fail
    refine (less_any a b c d _ ha hb hc hd).mono ?_
    rintro e x12 ⟨rfl, hbx⟩
    go_wp2_with fail
    refine (list_any (a &&& (4294967295 - c)) (b &&& (4294967295 - d)) _ (and_lt _ ha) (and_lt _ hb)).mono ?_
    rintro e y12 ⟨vy, rfl, hvy, hby⟩
    have henvy := (henv12.below hbx).below hby
    go_wp2_with fail
    refine (some_4 (memI a b) (memI c d) _ _ _ henvy.2.2.1 henvy.2.2.2.1).mono ?_
    rintro e z12 ⟨vz, rfl, hvz, hbz⟩
    go_wp2_with fail
    refine (same_true _ _ _ _ _ (hvy.below hbz) hvz (memI_less a b c d hc hd)).mono ?_
    rintro e t12 ⟨rfl, hbt⟩
    have henv13 := (henvy.below hbz).below hbt
    clear henv12 henvy hbx hvy hby hvz hbz hbt p0 p1 q0 q1
    obtain ⟨⟨p0, p1, _, _⟩, ⟨q0, q1, _, _⟩, _⟩ := id henv13
    go_wp2
    go_ret
    exact ⟨rfl, henv13.2.2.2.2⟩

end Go.Proofs.Ytokfinnmigfkiaa
