/-
  From the rows' condition on the listed variables to what MovesTime's walk asks.
-/
import Derived.Test.YtlephnfepofbbaaGreatDoorMvLaid
import Derived.Test.YtlephnfepofbbaaGreatDoorMtLaw
namespace Go.Proofs.YtlephnfepofbbaaGreatDoor
open Go.ChangeShapes Go.WideShapes Go.ChangeAt Go.RowKit

theorem gWd : Tryz.prog.globalNamed "roundhouse/world.words" = some 2 := by kernel_rfl
theorem gWdType : (Tryz.prog.globals[2]?).map (·.type) = some 164 := by kernel_rfl
theorem cells4S : Tryz.prog.cellsOf 164 = 4 := by kernel_rfl
theorem tabD_of {W : World} (h : laidMet Tryz.prog [("roundhouse/world.words", Rows.laid_roundhouse_world_words)] W) : 2 < W.heap.size ∧ ∀ i, i < 4 → W.cell? ⟨2, i, none⟩ = some (.string (wordsB i)) := by
  obtain ⟨ps, ⟨g, t, cs, fuel, p, q, hg, ht, hvar, hd, _, _⟩, _⟩ := h
  obtain rfl := Option.some.inj (gWd.symm.trans hg)
  obtain rfl := Option.some.inj (gWdType.symm.trans ht)
  have key : cs = #[.string ⟨#[110, 111, 110, 101]⟩, .string ⟨#[105, 110]⟩, .string ⟨#[111, 117, 116]⟩, .string ⟨#[99, 108, 111, 115, 101, 100]⟩] := by
    obtain ⟨l⟩ := cs
    cases fuel with
    | zero => simp [DataW.trod] at hd
    | succ fuel =>
      simp only [DataW.trod, Tryz.underlying164, cells4S, cellsS] at hd
      split at hd
      · rename_i hl
        obtain ⟨c0, c1, c2, c3, rfl⟩ : ∃ c0 c1 c2 c3, l = [c0, c1, c2, c3] := by
          match l, hl with
          | [a, b, c, d], _ => exact ⟨a, b, c, d, rfl⟩
        have e : List.range 4 = [0, 1, 2, 3] := rfl
        rw [e] at hd
        simp only [Option.map_eq_some_iff, List.mapM_cons, List.mapM_nil, Option.bind_eq_bind, Option.bind_eq_some_iff, Option.pure_def, Option.some.injEq] at hd
        obtain ⟨xs, ⟨y0, h0, _, ⟨y1, h1, _, ⟨y2, h2, _, ⟨y3, h3, _, rfl, rfl⟩, rfl⟩, rfl⟩, rfl⟩, hx⟩ := hd
        obtain ⟨n0, rfl, rfl⟩ := str_of_trod h0
        obtain ⟨n1, rfl, rfl⟩ := str_of_trod h1
        obtain ⟨n2, rfl, rfl⟩ := str_of_trod h2
        obtain ⟨n3, rfl, rfl⟩ := str_of_trod h3
        simp only [Rows.laid_roundhouse_world_words, List.map_cons, List.map_nil, Prod.mk.injEq, DataW.agg.injEq, List.cons.injEq, DataW.lit.injEq, Lit.string.injEq, and_true] at hx
        obtain ⟨⟨e0, e1, e2, e3⟩, _⟩ := hx
        rw [ba_of_list e0, ba_of_list e1, ba_of_list e2, ba_of_list e3]
      · cases hd
  subst key
  have c : ∀ i, W.cell? ⟨2, i, none⟩ = _ := World.var?_cell gWd hvar
  refine ⟨World.block_lt_of_cell? W _ (c 0), fun i hi => ?_⟩
  rcases (show i = 0 ∨ i = 1 ∨ i = 2 ∨ i = 3 by omega) with rfl | rfl | rfl | rfl
  · exact c 0
  · exact c 1
  · exact c 2
  · exact c 3
/-- The six listed variables. -/
def laid6 : List (String × DataW Unit) := [("math/bits.deBruijn32tab", Rows.laid_math_bits_deBruijn32tab), ("math/bits.deBruijn64tab", Rows.laid_math_bits_deBruijn64tab), ("internal/strconv.uint64pow10", Rows.laid_internal_strconv_uint64pow10), ("roundhouse/world.words", Rows.laid_roundhouse_world_words), ("roundhouse/moves.moveFields", Rows.laid_roundhouse_moves_moveFields), ("roundhouse/moves.moveWords", Rows.laid_roundhouse_moves_moveWords)]
theorem laid6_pow : laid6.filter (fun x => x.1 == "internal/strconv.uint64pow10") = [("internal/strconv.uint64pow10", Lib.tabData .u64 Lib.pow10Tab)] := by kernel_rfl
theorem laid6_fields : laid6.filter (fun x => x.1 == "roundhouse/moves.moveFields") = [("roundhouse/moves.moveFields", Rows.laid_roundhouse_moves_moveFields)] := by kernel_rfl
theorem laid6_words : laid6.filter (fun x => x.1 == "roundhouse/moves.moveWords") = [("roundhouse/moves.moveWords", Rows.laid_roundhouse_moves_moveWords)] := by kernel_rfl
theorem laid6_wd : laid6.filter (fun x => x.1 == "roundhouse/world.words") = [("roundhouse/world.words", Rows.laid_roundhouse_world_words)] := by kernel_rfl
theorem envI_of {W : World} (h : laidMet Tryz.prog laid6 W) : EnvI False W.heap.size W := by
  have hF := tabF_of (laid6_fields ▸ laidMet.filter (fun x => x.1 == "roundhouse/moves.moveFields") h)
  have hW := tabW_of (laid6_words ▸ laidMet.filter (fun x => x.1 == "roundhouse/moves.moveWords") h)
  have hD := tabD_of (laid6_wd ▸ laidMet.filter (fun x => x.1 == "roundhouse/world.words") h)
  have hP : Lib.TabBelow Tryz.prog W.heap.size W "internal/strconv.uint64pow10" .u64 Lib.pow10Tab :=
    Lib.tabBelow_of_tabIs (Lib.tabIs_of_head gPow gPowType Tryz.underlying184 Tryz.underlying33 cellsU cellsPow (laid6_pow ▸ laidMet.filter (fun x => x.1 == "internal/strconv.uint64pow10") h))
  exact ⟨⟨Nat.le_refl _, hF.lt, hW.1, fun h => h.elim, fun h => h.elim, hF, hW.2, fun h => h.elim, hP⟩, hD.1, hD.2⟩
/-- The law for the row's own arguments. -/
theorem time_row (l : List St) (v : Value) (a b : Int) (w : World) (hE : EnvI False w.heap.size w) (hx : SrcS (Lt w.heap.size) w v l) (hwf : ∀ x ∈ l, x.Wf) (ha : 0 ≤ a ∧ a ≤ 18446744073709551615) (hb : 0 ≤ b ∧ b ≤ 18446744073709551615) :
    Calls Tryz.prog 5 #[v, .int .u64 a, .int .u64 b] w fun e w' => e = .returned (.bool true) ∧ Below w.heap.size w w' := by
  have h := time_law l v a.toNat b.toNat w hE hx hwf (by omega) (by omega)
  rwa [Int.toNat_of_nonneg ha.1, Int.toNat_of_nonneg hb.1] at h
end Go.Proofs.YtlephnfepofbbaaGreatDoor
