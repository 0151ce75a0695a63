/-
  From the rows' condition on the listed variables to what the walks ask.
-/
import Derived.Test.YtlephnfepofbbaaGreatDoorMtBase
import Derived.Test.YtlephnfepofbbaaGreatDoorMvApp
import Derived.Lib.LaidTab
import Derived.LaidMore
import Derived.LaidSub
import Derived.Stop.Joined
import Derived.Stop.LaidErr
namespace Go.Proofs.YtlephnfepofbbaaGreatDoor
open Go.ChangeShapes Go.WideShapes Go.ChangeAt Go.RowKit

theorem gFl : Tryz.prog.globalNamed "roundhouse/moves.moveFields" = some 0 := by kernel_rfl
theorem gFlType : (Tryz.prog.globals[0]?).map (·.type) = some 143 := by kernel_rfl
theorem gWo : Tryz.prog.globalNamed "roundhouse/moves.moveWords" = some 1 := by kernel_rfl
theorem gWoType : (Tryz.prog.globals[1]?).map (·.type) = some 154 := by kernel_rfl
theorem cells8I : Tryz.prog.cellsOf 143 = 8 := by kernel_rfl
theorem cells8S : Tryz.prog.cellsOf 154 = 8 := by kernel_rfl
theorem cellsS : Tryz.prog.cellsOf 9 = 1 := by kernel_rfl
theorem str_of_trod {H : Type} {enc : TypeId × Value → H} {w : World} {base : Nat} {sp : Nat → Bool} {held : Bool} {fuel : Nat} {c : Value} {y : DataW H × List MemPlace}
    (h : DataW.trod enc Tryz.prog w base sp held fuel 9 [c] = some y) : ∃ s : ByteArray, c = .string s ∧ y = (.lit (.string s.data.toList), []) := by
  obtain ⟨s, hc, hy, _⟩ := DataW.trod_string Tryz.underlying9 h
  simp only [List.cons.injEq, and_true] at hc
  exact ⟨s, hc, hy⟩
theorem int_of_trod {H : Type} {enc : TypeId × Value → H} {w : World} {base : Nat} {sp : Nat → Bool} {held : Bool} {fuel : Nat} {c : Value} {y : DataW H × List MemPlace}
    (h : DataW.trod enc Tryz.prog w base sp held fuel 3 [c] = some y) : ∃ n : Int, c = .int .i64 n ∧ y = (.lit (.int .i64 n), []) := by
  obtain ⟨s, hc, hy, _⟩ := DataW.trod_int Tryz.underlying3 h
  simp only [List.cons.injEq, and_true] at hc
  exact ⟨s, hc, hy⟩
theorem ba_of_list {s : ByteArray} {l : List UInt8} (h : s.data.toList = l) : s = ⟨l.toArray⟩ := by rw [← h]
theorem tabF_of {W : World} (h : laidMet Tryz.prog [("roundhouse/moves.moveFields", Rows.laid_roundhouse_moves_moveFields)] W) : TabF W := by
  obtain ⟨ps, ⟨g, t, cs, fuel, p, q, hg, ht, hvar, hd, _, _⟩, _⟩ := h
  obtain rfl := Option.some.inj (gFl.symm.trans hg)
  obtain rfl := Option.some.inj (gFlType.symm.trans ht)
  have key : cs = #[.int .i64 0, .int .i64 5, .int .i64 3, .int .i64 1, .int .i64 1, .int .i64 1, .int .i64 3, .int .i64 2] := by
    obtain ⟨l⟩ := cs
    cases fuel with
    | zero => simp [DataW.trod] at hd
    | succ fuel =>
      simp only [DataW.trod, Tryz.underlying143, cells8I, cellsI] at hd
      split at hd
      · rename_i hl
        obtain ⟨c0, c1, c2, c3, c4, c5, c6, c7, rfl⟩ : ∃ c0 c1 c2 c3 c4 c5 c6 c7, l = [c0, c1, c2, c3, c4, c5, c6, c7] := by
          match l, hl with
          | [a, b, c, d, e, f, g, h], _ => exact ⟨a, b, c, d, e, f, g, h, rfl⟩
        have e : List.range 8 = [0, 1, 2, 3, 4, 5, 6, 7] := rfl
        rw [e] at hd
        simp only [Option.map_eq_some_iff, List.mapM_cons, List.mapM_nil, Option.bind_eq_bind, Option.bind_eq_some_iff, Option.pure_def, Option.some.injEq] at hd
        obtain ⟨xs, ⟨y0, h0, _, ⟨y1, h1, _, ⟨y2, h2, _, ⟨y3, h3, _, ⟨y4, h4, _, ⟨y5, h5, _, ⟨y6, h6, _, ⟨y7, h7, _, rfl, rfl⟩, rfl⟩, rfl⟩, rfl⟩, rfl⟩, rfl⟩, rfl⟩, rfl⟩, hx⟩ := hd
        obtain ⟨n0, rfl, rfl⟩ := int_of_trod h0
        obtain ⟨n1, rfl, rfl⟩ := int_of_trod h1
        obtain ⟨n2, rfl, rfl⟩ := int_of_trod h2
        obtain ⟨n3, rfl, rfl⟩ := int_of_trod h3
        obtain ⟨n4, rfl, rfl⟩ := int_of_trod h4
        obtain ⟨n5, rfl, rfl⟩ := int_of_trod h5
        obtain ⟨n6, rfl, rfl⟩ := int_of_trod h6
        obtain ⟨n7, rfl, rfl⟩ := int_of_trod h7
        simp [Rows.laid_roundhouse_moves_moveFields] at hx
        obtain ⟨⟨rfl, rfl, rfl, rfl, rfl, rfl, rfl, rfl⟩, _⟩ := hx
        rfl
      · cases hd
  subst key
  have c : ∀ i, W.cell? ⟨0, i, none⟩ = _ := World.var?_cell gFl hvar
  exact ⟨World.block_lt_of_cell? W _ (c 0), c 0, c 1, c 2, c 3, c 4, c 5, c 6, c 7⟩
theorem tabW_of {W : World} (h : laidMet Tryz.prog [("roundhouse/moves.moveWords", Rows.laid_roundhouse_moves_moveWords)] W) : 1 < W.heap.size ∧ TabW W := by
  obtain ⟨ps, ⟨g, t, cs, fuel, p, q, hg, ht, hvar, hd, _, _⟩, _⟩ := h
  obtain rfl := Option.some.inj (gWo.symm.trans hg)
  obtain rfl := Option.some.inj (gWoType.symm.trans ht)
  have key : cs = #[.string ⟨#[]⟩, .string ⟨#[112, 117, 116]⟩, .string ⟨#[116, 97, 107, 101]⟩, .string ⟨#[115, 104, 117, 116]⟩, .string ⟨#[99, 108, 111, 115, 101]⟩, .string ⟨#[114, 101, 115, 101, 116]⟩, .string ⟨#[99, 111, 110, 110, 101, 99, 116]⟩, .string ⟨#[114, 97, 105, 115, 101]⟩] := by
    obtain ⟨l⟩ := cs
    cases fuel with
    | zero => simp [DataW.trod] at hd
    | succ fuel =>
      simp only [DataW.trod, Tryz.underlying154, cells8S, cellsS] at hd
      split at hd
      · rename_i hl
        obtain ⟨c0, c1, c2, c3, c4, c5, c6, c7, rfl⟩ : ∃ c0 c1 c2 c3 c4 c5 c6 c7, l = [c0, c1, c2, c3, c4, c5, c6, c7] := by
          match l, hl with
          | [a, b, c, d, e, f, g, h], _ => exact ⟨a, b, c, d, e, f, g, h, rfl⟩
        have e : List.range 8 = [0, 1, 2, 3, 4, 5, 6, 7] := rfl
        rw [e] at hd
        simp only [Option.map_eq_some_iff, List.mapM_cons, List.mapM_nil, Option.bind_eq_bind, Option.bind_eq_some_iff, Option.pure_def, Option.some.injEq] at hd
        obtain ⟨xs, ⟨y0, h0, _, ⟨y1, h1, _, ⟨y2, h2, _, ⟨y3, h3, _, ⟨y4, h4, _, ⟨y5, h5, _, ⟨y6, h6, _, ⟨y7, h7, _, rfl, rfl⟩, rfl⟩, rfl⟩, rfl⟩, rfl⟩, rfl⟩, rfl⟩, rfl⟩, hx⟩ := hd
        obtain ⟨n0, rfl, rfl⟩ := str_of_trod h0
        obtain ⟨n1, rfl, rfl⟩ := str_of_trod h1
        obtain ⟨n2, rfl, rfl⟩ := str_of_trod h2
        obtain ⟨n3, rfl, rfl⟩ := str_of_trod h3
        obtain ⟨n4, rfl, rfl⟩ := str_of_trod h4
        obtain ⟨n5, rfl, rfl⟩ := str_of_trod h5
        obtain ⟨n6, rfl, rfl⟩ := str_of_trod h6
        obtain ⟨n7, rfl, rfl⟩ := str_of_trod h7
        simp only [Rows.laid_roundhouse_moves_moveWords, List.map_cons, List.map_nil, Prod.mk.injEq, DataW.agg.injEq, List.cons.injEq, DataW.lit.injEq, Lit.string.injEq, and_true] at hx
        obtain ⟨⟨e0, e1, e2, e3, e4, e5, e6, e7⟩, _⟩ := hx
        rw [ba_of_list e0, ba_of_list e1, ba_of_list e2, ba_of_list e3, ba_of_list e4, ba_of_list e5, ba_of_list e6, ba_of_list e7]
      · cases hd
  subst key
  have c : ∀ i, W.cell? ⟨1, i, none⟩ = _ := World.var?_cell gWo hvar
  exact ⟨World.block_lt_of_cell? W _ (c 0), c 1, c 2, c 3, c 4, c 5, c 6, c 7, c 0⟩
theorem gRange : Tryz.prog.globalNamed "strconv.ErrRange" = some 10 := by kernel_rfl
theorem gRangeType : (Tryz.prog.globals[10]?).map (·.type) = some 178 := by kernel_rfl
theorem gSyntax : Tryz.prog.globalNamed "strconv.ErrSyntax" = some 9 := by kernel_rfl
theorem gSyntaxType : (Tryz.prog.globals[9]?).map (·.type) = some 178 := by kernel_rfl
theorem cellsErrStr : Tryz.prog.cellsOf 219 = 1 := by kernel_rfl
theorem starErr : "*" ++ "errors.errorString" = "*errors.errorString" := by decide
theorem rowErr (u : TypeId) (h : Tryz.prog.typeName? 3 u = some "*errors.errorString") : u = 217 :=
  typeName_ptr_named (nm := "errors.errorString") (by rw [starErr]; kernel_rfl) (by kernel_rfl) (by decide) u (by rw [starErr]; exact h)
theorem cellsPow : Tryz.prog.cellsOf 184 = 20 := by kernel_rfl
theorem gPow : Tryz.prog.globalNamed "internal/strconv.uint64pow10" = some 3 := by kernel_rfl
theorem gPowType : (Tryz.prog.globals[3]?).map (·.type) = some 184 := by kernel_rfl
/-- The nine listed variables. -/
def laid9 : List (String × DataW Unit) := [("math/bits.deBruijn32tab", Rows.laid_math_bits_deBruijn32tab), ("math/bits.deBruijn64tab", Rows.laid_math_bits_deBruijn64tab), ("internal/strconv.uint64pow10", Rows.laid_internal_strconv_uint64pow10), ("unicode/utf8.acceptRanges", Rows.laid_unicode_utf8_acceptRanges), ("strconv.ErrRange", Rows.laid_strconv_ErrRange), ("strconv.ErrSyntax", Rows.laid_strconv_ErrSyntax), ("roundhouse/moves.moveFields", Rows.laid_roundhouse_moves_moveFields), ("roundhouse/moves.moveWords", Rows.laid_roundhouse_moves_moveWords), ("unicode/utf8.first", Rows.laid_unicode_utf8_first)]
theorem laid9_pow : laid9.filter (fun x => x.1 == "internal/strconv.uint64pow10") = [("internal/strconv.uint64pow10", Lib.tabData .u64 Lib.pow10Tab)] := by kernel_rfl
theorem laid9_fields : laid9.filter (fun x => x.1 == "roundhouse/moves.moveFields") = [("roundhouse/moves.moveFields", Rows.laid_roundhouse_moves_moveFields)] := by kernel_rfl
theorem laid9_words : laid9.filter (fun x => x.1 == "roundhouse/moves.moveWords") = [("roundhouse/moves.moveWords", Rows.laid_roundhouse_moves_moveWords)] := by kernel_rfl
theorem env_of {W : World} (h : laidMet Tryz.prog laid9 W) : Env W.heap.size W := by
  have hF := tabF_of (laid9_fields ▸ laidMet.filter (fun x => x.1 == "roundhouse/moves.moveFields") h)
  have hW := tabW_of (laid9_words ▸ laidMet.filter (fun x => x.1 == "roundhouse/moves.moveWords") h)
  have hP : Lib.TabBelow Tryz.prog W.heap.size W "internal/strconv.uint64pow10" .u64 Lib.pow10Tab :=
    Lib.tabBelow_of_tabIs (Lib.tabIs_of_head gPow gPowType Tryz.underlying184 Tryz.underlying33 cellsU cellsPow (laid9_pow ▸ laidMet.filter (fun x => x.1 == "internal/strconv.uint64pow10") h))
  have h4 := h.tail.tail.tail.tail
  obtain ⟨a, s, hv, _⟩ := laid_sentinel h4 gRange gRangeType Tryz.underlying178 rowErr Tryz.underlying217 Tryz.underlying219 rfl rfl Tryz.underlying9 cellsErrStr cellsS
  obtain ⟨a', s', hv', _⟩ := laid_sentinel h4.tail gSyntax gSyntaxType Tryz.underlying178 rowErr Tryz.underlying217 Tryz.underlying219 rfl rfl Tryz.underlying9 cellsErrStr cellsS
  have cR : W.cell? ⟨10, 0, none⟩ = some (.iface 217 (.pointer (some a))) := by simpa using World.var?_cell gRange hv 0
  have cS : W.cell? ⟨9, 0, none⟩ = some (.iface 217 (.pointer (some a'))) := by simpa using World.var?_cell gSyntax hv' 0
  exact ⟨Nat.le_refl _, hF.lt, hW.1, fun _ => World.block_lt_of_cell? W _ cS, fun _ => World.block_lt_of_cell? W _ cR, hF, hW.2, fun _ => ⟨⟨_, cS, .inr ⟨_, _, rfl⟩⟩, ⟨_, cR, .inr ⟨_, _, rfl⟩⟩⟩, hP⟩
end Go.Proofs.YtlephnfepofbbaaGreatDoor
