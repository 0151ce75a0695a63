/-
  FdsetTexts, the walk: for any set and any text it returns true, and nothing that lay has turned.
-/
import Derived.Test.YthpinbngggcgcaaDoorFtParse
import Derived.Test.YthpinbngggcgcaaDoorBack
import Derived.Test.YthpinbngggcgcaaDoorSame
import Derived.Deep.RegionHeld3
namespace Go.Proofs.YthpinbngggcgcaaDoor
open Go.RowKit

/-- The document's text of a set's list. -/
theorem rtext_set (a b : Nat) (ha : a < 4294967296) (hb : b < 4294967296) (v : Value) (w : World) (hv : IsL w v (memI a b)) :
    Calls Tryd.prog 25 #[v] w fun e w' => e = .returned (.string ⟨(textB a b).toArray⟩) ∧ Below w.heap.size w w' := by
  by_cases hz : a = 0 ∧ b = 0
  · obtain ⟨rfl, rfl⟩ := hz
    rw [textB_zero]
    rw [memI_zero] at hv
    exact rtext_nil v w hv
  · obtain ⟨rs, hp, h⟩ := parse_text a b ha hb hz
    obtain ⟨h1, h2, h3⟩ := parseR_some _ _ hp
    rw [memI_upTo, flat_upTo rs h2 _ h] at hv
    rw [h3]
    exact rtext_any rs h2 h1 v w hv

/-- What both make of a text: the same error number, the same descriptors. -/
def BothP (w : World) (t : ByteArray) (c d : Nat) (er : Int) : Prop := c < 4294967296 ∧ d < 4294967296 ∧
  ∀ W : World, Calls Tryd.prog 23 #[.string t] W fun e W' => ∃ v, e = .returned (.tuple #[v, .int .i64 er]) ∧ IsL W' v (memI c d) ∧ Below W.heap.size W W'
theorem both_any (t : ByteArray) (ht : t.size ≤ 1000) (w : World) (hE : Errs w) :
    Calls Tryd.prog 22 #[.string t] w fun e w' => ∃ c d er, BothP w t c d er ∧ RetP w c d er e w' := by
  by_cases hne : t = ⟨#[110, 111, 110, 101]⟩
  · subst hne
    refine (parse_empty w).mono fun e w' h => ⟨0, 0, 0, ⟨by omega, by omega, fun W => (rparse_any _ ht W).mono fun e W' hr => ?_⟩, h⟩
    obtain ⟨hb, ⟨_, rfl⟩ | ⟨h1, _⟩ | ⟨h1, _⟩⟩ := hr
    · exact ⟨_, rfl, by rw [memI_zero]; exact isL_nil _, hb⟩
    · exact absurd rfl h1
    · exact absurd rfl h1
  · have hnz : ¬ t.data.toList = [110, 111, 110, 101] := fun h => hne (ba_ext h)
    refine (parse_any t (by omega) hne w hE).mono fun e w' h => ?_
    rcases h with ⟨hp, hr⟩ | ⟨rs, a, b, hp, ⟨ha, hb, hrs⟩, hr⟩
    · refine ⟨0, 0, 11, ⟨by omega, by omega, fun W => (rparse_any _ ht W).mono fun e W' hr => ?_⟩, hr⟩
      obtain ⟨hb, ⟨h1, _⟩ | ⟨_, _, rfl⟩ | ⟨_, rs, v, h1, _⟩⟩ := hr
      · exact absurd h1 hnz
      · exact ⟨_, rfl, by rw [memI_zero]; exact isL_nil _, hb⟩
      · rw [hp] at h1; cases h1
    · refine ⟨a, b, 0, ⟨ha, hb, fun W => (rparse_any _ ht W).mono fun e W' hr => ?_⟩, hr⟩
      obtain ⟨hb, ⟨h1, _⟩ | ⟨_, h1, _⟩ | ⟨_, rs', v, h1, rfl, hv⟩⟩ := hr
      · exact absurd h1 hnz
      · rw [hp] at h1; cases h1
      · rw [hp] at h1
        obtain rfl := Option.some.inj h1
        refine ⟨v, rfl, ?_, hb⟩
        rw [memI_upTo, flat_upTo rs (parseR_some _ _ hp).2.1 _ hrs]
        exact hv

/-- What stays at hand: the two sets in their variables, the document's list, the tables and the errors. -/
def EnvTx (w : World) (B C a b c d : Nat) (v : Value) (W : World) : Prop := EnvBk w B a b W ∧ IsSet W C c d ∧ IsL W v (memI c d)
theorem EnvTx.below {w : World} {B C a b c d : Nat} {v : Value} {W W' : World} (h : EnvTx w B C a b c d v W) (hb : Below W.heap.size W W') : EnvTx w B C a b c d v W' := ⟨h.1.below hb, h.2.1.below hb, h.2.2.below hb⟩
theorem EnvTx.four {w : World} {B C a b c d : Nat} {v : Value} {W : World} (h : EnvTx w B C a b c d v W) :
    W.cell? ⟨B, 0, none⟩ = some (.int .u32 (a : Int)) ∧ W.cell? ⟨B, 1, none⟩ = some (.int .u32 (b : Int)) ∧ W.cell? ⟨C, 0, none⟩ = some (.int .u32 (c : Int)) ∧ W.cell? ⟨C, 1, none⟩ = some (.int .u32 (d : Int)) := ⟨h.1.1.1, h.1.1.2.1, h.2.1.1, h.2.1.2.1⟩

set_option maxRecDepth 100000 in
set_option maxHeartbeats 4000000 in
theorem texts_any (a b : Nat) (t : ByteArray) (_ : t.size ≤ maxLen) (w : World) (ha : a < 4294967296) (hb : b < 4294967296) (hh : HereE w) :
    Calls Tryd.prog 4 #[.agg #[.int .u32 (a : Int), .int .u32 (b : Int)], .string t] w fun e w' => e = .returned (.bool true) ∧ Below w.heap.size w w' := by
  have h0 := envBk_new w a b hh
  obtain ⟨Y, hY⟩ : ∃ Y, w.alloc (.cells #[.int .u32 (a : Int), .int .u32 (b : Int)] 25) = Y := ⟨_, rfl⟩
  rw [hY] at h0
  have HY := Lib.hid hY
  clear hY
  by_cases hlong : 1000 < t.size
  · have hl : (1000 : Int) < (t.size : Int) := by omega
    have Hh := Lib.hid h0
    clear h0 hh
    go_enter Tryd.func4, Tryd.ntmps4
    go_wp2_with fail
    rw [HY.out]
    go_ret
    exact ⟨rfl, Hh.out.2.2⟩
  · have hl : ¬ (1000 : Int) < (t.size : Int) := by omega
    have hs : t.size ≤ 1000 := by omega
    go_enter Tryd.func4, Tryd.ntmps4
    go_wp2_with fail
    rw [HY.out]
    refine (both_any t hs _ h0.2.1.2).mono ?_
    rintro e w1 ⟨c, d, er, hP, rfl, hb1⟩
    have h1 := h0.below hb1
    clear h0 hb1
    have n1 := isSet_new w1 c d
    have h2 := h1.below ((Below.refl _ _).alloc (Nat.le_refl _) (.cells #[.int .u32 (c : Int), .int .u32 (d : Int)] 25))
    clear h1
    have HP := Lib.hid hP
    have H2 := Lib.hid h2
    have N1 := Lib.hid n1
    clear hP h2 n1
    go_wp2_with fail
    refine (HP.out.2.2 _).mono ?_
    rintro e w3 ⟨v3, rfl, hv3, hb3⟩
    have h3 : EnvTx w w.heap.size w1.heap.size a b c d v3 w3 := ⟨H2.out.below hb3, N1.out.below hb3, hv3⟩
    have HC := Lib.hid (And.intro HP.out.1 HP.out.2.1)
    obtain ⟨p0, p1, _, _⟩ := h3.1.1
    obtain ⟨q0, q1, _, _⟩ := h3.2.1
    have H3 := Lib.hid h3
    clear hb3 hv3 h3 H2 N1 HP
    go_wp2_with fail
    have hE := H3.out.below ((Below.refl _ _).drew)
    go_region_held3 (fun W => W.cell? ⟨w.heap.size, 0, none⟩ = some (.int .u32 (a : Int)) ∧ W.cell? ⟨w.heap.size, 1, none⟩ = some (.int .u32 (b : Int)) ∧ W.cell? ⟨w1.heap.size, 0, none⟩ = some (.int .u32 (c : Int)) ∧ W.cell? ⟨w1.heap.size, 1, none⟩ = some (.int .u32 (d : Int)))
      (exact hE.four)
      (first
        | (go_at_call 24; refine (text_all a b ha hb _ hE.1.2.1.1).mono ?_; rintro e w' ⟨rfl, hbx⟩; have hE := hE.below hbx)
        | (go_at_call_of 14 (Value.agg #[.int .u32 (a : Int), .int .u32 (b : Int)]); refine (list_any a b _ ha hb).mono ?_; rintro e w' ⟨vl, rfl, hvl, hbx⟩; have hE := hE.below hbx)
        | (go_at_call 25; refine (rtext_set a b ha hb vl _ hvl).mono ?_; rintro e w' ⟨rfl, hbx⟩; have hE := hE.below hbx)
        | (go_at_call_of 14 (Value.agg #[.int .u32 (c : Int), .int .u32 (d : Int)]); refine (list_any c d _ HC.out.1 HC.out.2).mono ?_; rintro e w' ⟨vt, rfl, hvt, hbx⟩; have hE := hE.below hbx)
        | (go_at_call 13; refine (same_true _ _ _ _ _ hvt hE.2.2 rfl).mono ?_; rintro e w' ⟨rfl, hbx⟩; have hE := hE.below hbx))
    go_wp2_with fail
    go_ret
    exact ⟨rfl, hE.1.2.2⟩
end Go.Proofs.YthpinbngggcgcaaDoor
