/-
  From the rows' conditions on the listed tables to what the walks ask of them: each table's cells.
-/
import Derived.Test.YtbpgoopmfofcnaaDoorRows
import Derived.WalkKit
import Derived.Lib.Hide
import Derived.Lib.LaidTab
import Derived.LaidMore
import Derived.LaidSub
import Derived.Stop.Joined
import Derived.ProofKit
import Derived.OpenShut
import Derived.Carry
namespace Go.Proofs.YtbpgoopmfofcnaaDoor
open Go.ChangeShapes Go.WideShapes Go.ChangeAt Go.RowKit

theorem own : ownKnob Tryd.prog.godebug = none := by kernel_rfl
theorem laidOut : laidOutB Tryd.prog = true := by kernel_rfl

/-- The word of an event's bit, by the bit's number. -/
def wordB : Nat → ByteArray
  | 0 => ⟨#[116, 105, 109, 101, 111, 117, 116]⟩
  | 1 => ⟨#[114, 101, 97, 100]⟩
  | 2 => ⟨#[119, 114, 105, 116, 101]⟩
  | 3 => ⟨#[115, 105, 103, 110, 97, 108]⟩
  | 4 => ⟨#[112, 101, 114, 115, 105, 115, 116]⟩
  | _ => ⟨#[101, 100, 103, 101]⟩
/-- The word of a feature's bit. -/
def featB : Nat → ByteArray
  | 0 => ⟨#[101, 100, 103, 101]⟩
  | 1 => ⟨#[98, 105, 103]⟩
  | 2 => ⟨#[115, 105, 103, 110, 97, 108, 115]⟩
  | _ => ⟨#[99, 104, 97, 110, 103, 101, 115]⟩
/-- A driver's word. -/
def nameB : Nat → ByteArray
  | 1 => ⟨#[115, 101, 108, 101, 99, 116]⟩
  | 2 => ⟨#[112, 111, 108, 108]⟩
  | 3 => ⟨#[101, 112, 111, 108, 108]⟩
  | 4 => ⟨#[107, 113, 117, 101, 117, 101]⟩
  | _ => ⟨#[]⟩
/-- What a driver has. -/
def featsI : Nat → Int
  | 2 => 2
  | 3 => 11
  | 4 => 15
  | _ => 0

/-- The three tables, as they lie. -/
structure TabW (W : World) : Prop where
  lt : 1 < W.heap.size
  c0 : W.cell? ⟨1, 0, none⟩ = some (.string (wordB 0))
  c1 : W.cell? ⟨1, 1, none⟩ = some (.string (wordB 1))
  c2 : W.cell? ⟨1, 2, none⟩ = some (.string (wordB 2))
  c3 : W.cell? ⟨1, 3, none⟩ = some (.string (wordB 3))
  c4 : W.cell? ⟨1, 4, none⟩ = some (.string (wordB 4))
  c5 : W.cell? ⟨1, 5, none⟩ = some (.string (wordB 5))
structure TabF (W : World) : Prop where
  lt : 2 < W.heap.size
  c0 : W.cell? ⟨2, 0, none⟩ = some (.string (featB 0))
  c1 : W.cell? ⟨2, 1, none⟩ = some (.string (featB 1))
  c2 : W.cell? ⟨2, 2, none⟩ = some (.string (featB 2))
  c3 : W.cell? ⟨2, 3, none⟩ = some (.string (featB 3))
structure TabD (W : World) : Prop where
  lt : 0 < W.heap.size
  c0 : W.cell? ⟨0, 0, none⟩ = some (.int .i64 4)
  c1 : W.cell? ⟨0, 1, none⟩ = some (.string (nameB 4))
  c2 : W.cell? ⟨0, 2, none⟩ = some (.int .i64 15)
  c3 : W.cell? ⟨0, 3, none⟩ = some (.int .i64 3)
  c4 : W.cell? ⟨0, 4, none⟩ = some (.string (nameB 3))
  c5 : W.cell? ⟨0, 5, none⟩ = some (.int .i64 11)
  c6 : W.cell? ⟨0, 6, none⟩ = some (.int .i64 2)
  c7 : W.cell? ⟨0, 7, none⟩ = some (.string (nameB 2))
  c8 : W.cell? ⟨0, 8, none⟩ = some (.int .i64 2)
  c9 : W.cell? ⟨0, 9, none⟩ = some (.int .i64 1)
  c10 : W.cell? ⟨0, 10, none⟩ = some (.string (nameB 1))
  c11 : W.cell? ⟨0, 11, none⟩ = some (.int .i64 0)
theorem TabW.below {W W' : World} (h : TabW W) (b : Below W.heap.size W W') : TabW W' :=
  ⟨Nat.lt_of_lt_of_le h.lt b.size, (b.cell h.lt).trans h.c0, (b.cell h.lt).trans h.c1, (b.cell h.lt).trans h.c2, (b.cell h.lt).trans h.c3, (b.cell h.lt).trans h.c4, (b.cell h.lt).trans h.c5⟩
theorem TabF.below {W W' : World} (h : TabF W) (b : Below W.heap.size W W') : TabF W' :=
  ⟨Nat.lt_of_lt_of_le h.lt b.size, (b.cell h.lt).trans h.c0, (b.cell h.lt).trans h.c1, (b.cell h.lt).trans h.c2, (b.cell h.lt).trans h.c3⟩
theorem TabD.below {W W' : World} (h : TabD W) (b : Below W.heap.size W W') : TabD W' :=
  ⟨Nat.lt_of_lt_of_le h.lt b.size, (b.cell h.lt).trans h.c0, (b.cell h.lt).trans h.c1, (b.cell h.lt).trans h.c2, (b.cell h.lt).trans h.c3, (b.cell h.lt).trans h.c4, (b.cell h.lt).trans h.c5, (b.cell h.lt).trans h.c6, (b.cell h.lt).trans h.c7, (b.cell h.lt).trans h.c8, (b.cell h.lt).trans h.c9, (b.cell h.lt).trans h.c10, (b.cell h.lt).trans h.c11⟩

theorem gW : Tryd.prog.globalNamed "roundhouse/flag.flagWords" = some 1 := by kernel_rfl
theorem gWType : (Tryd.prog.globals[1]?).map (·.type) = some 59 := by kernel_rfl
theorem gF : Tryd.prog.globalNamed "roundhouse/flag.featureWords" = some 2 := by kernel_rfl
theorem gFType : (Tryd.prog.globals[2]?).map (·.type) = some 60 := by kernel_rfl
theorem gD : Tryd.prog.globalNamed "roundhouse/flag.drivers" = some 0 := by kernel_rfl
theorem gDType : (Tryd.prog.globals[0]?).map (·.type) = some 53 := by kernel_rfl
theorem cells6 : Tryd.prog.cellsOf 59 = 6 := by kernel_rfl
theorem cells4 : Tryd.prog.cellsOf 60 = 4 := by kernel_rfl
theorem cellsD : Tryd.prog.cellsOf 53 = 12 := by kernel_rfl
theorem cellsK : Tryd.prog.cellsOf 52 = 3 := by kernel_rfl
theorem cells1 : Tryd.prog.cellsOf 9 = 1 := by kernel_rfl
theorem cellsI : Tryd.prog.cellsOf 3 = 1 := by kernel_rfl

theorem str_of_trod {H : Type} {enc : TypeId × Value → H} {w : World} {base : Nat} {sp : Nat → Bool} {held : Bool} {fuel : Nat} {c : Value} {y : DataW H × List MemPlace}
    (h : DataW.trod enc Tryd.prog w base sp held fuel 9 [c] = some y) : ∃ s : ByteArray, c = .string s ∧ y = (.lit (.string s.data.toList), []) := by
  obtain ⟨s, hc, hy, _⟩ := DataW.trod_string Tryd.underlying9 h
  simp only [List.cons.injEq, and_true] at hc
  exact ⟨s, hc, hy⟩
theorem int_of_trod {H : Type} {enc : TypeId × Value → H} {w : World} {base : Nat} {sp : Nat → Bool} {held : Bool} {fuel : Nat} {c : Value} {y : DataW H × List MemPlace}
    (h : DataW.trod enc Tryd.prog w base sp held fuel 3 [c] = some y) : ∃ n : Int, c = .int .i64 n ∧ y = (.lit (.int .i64 n), []) := by
  obtain ⟨s, hc, hy, _⟩ := DataW.trod_int Tryd.underlying3 h
  simp only [List.cons.injEq, and_true] at hc
  exact ⟨s, hc, hy⟩
theorem ba_of_list {s : ByteArray} {l : List UInt8} (h : s.data.toList = l) : s = ⟨l.toArray⟩ := by rw [← h]

theorem tabW_of {W : World} (h : laidMet Tryd.prog [("roundhouse/flag.flagWords", Rows.laid_roundhouse_flag_flagWords)] W) : TabW W := by
  obtain ⟨ps, ⟨g, t, cs, fuel, p, q, hg, ht, hvar, hd, _, _⟩, _⟩ := h
  obtain rfl := Option.some.inj (gW.symm.trans hg)
  obtain rfl := Option.some.inj (gWType.symm.trans ht)
  have key : cs = #[.string (wordB 0), .string (wordB 1), .string (wordB 2), .string (wordB 3), .string (wordB 4), .string (wordB 5)] := by
    obtain ⟨l⟩ := cs
    cases fuel with
    | zero => simp [DataW.trod] at hd
    | succ fuel =>
      simp only [DataW.trod, Tryd.underlying59, cells6, cells1] at hd
      split at hd
      · rename_i hl
        obtain ⟨c0, c1, c2, c3, c4, c5, rfl⟩ : ∃ c0 c1 c2 c3 c4 c5, l = [c0, c1, c2, c3, c4, c5] := by
          match l, hl with
          | [a, b, c, d, e, f], _ => exact ⟨a, b, c, d, e, f, rfl⟩
        have e : List.range 6 = [0, 1, 2, 3, 4, 5] := rfl
        rw [e] at hd
        simp only [Option.map_eq_some_iff, List.mapM_cons, List.mapM_nil, Option.bind_eq_bind, Option.bind_eq_some_iff, Option.pure_def, Option.some.injEq] at hd
        obtain ⟨xs, ⟨y0, h0, _, ⟨y1, h1, _, ⟨y2, h2, _, ⟨y3, h3, _, ⟨y4, h4, _, ⟨y5, h5, _, rfl, rfl⟩, rfl⟩, rfl⟩, rfl⟩, rfl⟩, rfl⟩, hx⟩ := hd
        obtain ⟨n0, rfl, rfl⟩ := str_of_trod h0
        obtain ⟨n1, rfl, rfl⟩ := str_of_trod h1
        obtain ⟨n2, rfl, rfl⟩ := str_of_trod h2
        obtain ⟨n3, rfl, rfl⟩ := str_of_trod h3
        obtain ⟨n4, rfl, rfl⟩ := str_of_trod h4
        obtain ⟨n5, rfl, rfl⟩ := str_of_trod h5
        simp [Rows.laid_roundhouse_flag_flagWords] at hx
        obtain ⟨⟨e0, e1, e2, e3, e4, e5⟩, _⟩ := hx
        rw [ba_of_list e0, ba_of_list e1, ba_of_list e2, ba_of_list e3, ba_of_list e4, ba_of_list e5]
        rfl
      · cases hd
  subst key
  have c : ∀ i, W.cell? ⟨1, i, none⟩ = _ := World.var?_cell gW hvar
  exact ⟨World.block_lt_of_cell? W _ (c 0), c 0, c 1, c 2, c 3, c 4, c 5⟩

theorem tabF_of {W : World} (h : laidMet Tryd.prog [("roundhouse/flag.featureWords", Rows.laid_roundhouse_flag_featureWords)] W) : TabF W := by
  obtain ⟨ps, ⟨g, t, cs, fuel, p, q, hg, ht, hvar, hd, _, _⟩, _⟩ := h
  obtain rfl := Option.some.inj (gF.symm.trans hg)
  obtain rfl := Option.some.inj (gFType.symm.trans ht)
  have key : cs = #[.string (featB 0), .string (featB 1), .string (featB 2), .string (featB 3)] := by
    obtain ⟨l⟩ := cs
    cases fuel with
    | zero => simp [DataW.trod] at hd
    | succ fuel =>
      simp only [DataW.trod, Tryd.underlying60, cells4, cells1] at hd
      split at hd
      · rename_i hl
        obtain ⟨c0, c1, c2, c3, rfl⟩ : ∃ c0 c1 c2 c3, l = [c0, c1, c2, c3] := by
          match l, hl with
          | [a, b, c, d], _ => exact ⟨a, b, c, d, rfl⟩
        have e : List.range 4 = [0, 1, 2, 3] := rfl
        rw [e] at hd
        simp only [Option.map_eq_some_iff, List.mapM_cons, List.mapM_nil, Option.bind_eq_bind, Option.bind_eq_some_iff, Option.pure_def, Option.some.injEq] at hd
        obtain ⟨xs, ⟨y0, h0, _, ⟨y1, h1, _, ⟨y2, h2, _, ⟨y3, h3, _, rfl, rfl⟩, rfl⟩, rfl⟩, rfl⟩, hx⟩ := hd
        obtain ⟨n0, rfl, rfl⟩ := str_of_trod h0
        obtain ⟨n1, rfl, rfl⟩ := str_of_trod h1
        obtain ⟨n2, rfl, rfl⟩ := str_of_trod h2
        obtain ⟨n3, rfl, rfl⟩ := str_of_trod h3
        simp [Rows.laid_roundhouse_flag_featureWords] at hx
        obtain ⟨⟨e0, e1, e2, e3⟩, _⟩ := hx
        rw [ba_of_list e0, ba_of_list e1, ba_of_list e2, ba_of_list e3]
        rfl
      · cases hd
  subst key
  have c : ∀ i, W.cell? ⟨2, i, none⟩ = _ := World.var?_cell gF hvar
  exact ⟨World.block_lt_of_cell? W _ (c 0), c 0, c 1, c 2, c 3⟩

theorem known_of_trod {H : Type} {enc : TypeId × Value → H} {w : World} {base : Nat} {sp : Nat → Bool} {held : Bool} {fuel : Nat} {a b c : Value} {y : DataW H × List MemPlace}
    (h : DataW.trod enc Tryd.prog w base sp held fuel 52 [a, b, c] = some y) :
    ∃ (m : Int) (s : ByteArray) (n : Int), a = .int .i64 m ∧ b = .string s ∧ c = .int .i64 n ∧ y = (.agg [.lit (.int .i64 m), .lit (.string s.data.toList), .lit (.int .i64 n)], []) := by
  cases fuel with
  | zero => simp [DataW.trod] at h
  | succ fuel =>
    simp only [DataW.trod, Tryd.underlying52, cellsK] at h
    split at h
    · simp only [Option.map_eq_some_iff, List.mapM_cons, List.mapM_nil, Option.bind_eq_bind, Option.bind_eq_some_iff, Option.pure_def, Option.some.injEq, cells1, cellsI] at h
      obtain ⟨xs, ⟨y0, h0, _, ⟨y1, h1, _, ⟨y2, h2, _, rfl, rfl⟩, rfl⟩, rfl⟩, hx⟩ := h
      obtain ⟨n0, rfl, rfl⟩ := int_of_trod h0
      obtain ⟨n1, rfl, rfl⟩ := str_of_trod h1
      obtain ⟨n2, rfl, rfl⟩ := int_of_trod h2
      exact ⟨n0, n1, n2, rfl, rfl, rfl, hx.symm⟩
    · cases h

theorem tabD_of {W : World} (h : laidMet Tryd.prog [("roundhouse/flag.drivers", Rows.laid_roundhouse_flag_drivers)] W) : TabD W := by
  obtain ⟨ps, ⟨g, t, cs, fuel, p, q, hg, ht, hvar, hd, _, _⟩, _⟩ := h
  obtain rfl := Option.some.inj (gD.symm.trans hg)
  obtain rfl := Option.some.inj (gDType.symm.trans ht)
  have key : cs = #[.int .i64 4, .string (nameB 4), .int .i64 15, .int .i64 3, .string (nameB 3), .int .i64 11, .int .i64 2, .string (nameB 2), .int .i64 2, .int .i64 1, .string (nameB 1), .int .i64 0] := by
    obtain ⟨l⟩ := cs
    cases fuel with
    | zero => simp [DataW.trod] at hd
    | succ fuel =>
      simp only [DataW.trod, Tryd.underlying53, cellsD, cellsK] at hd
      split at hd
      · rename_i hl
        obtain ⟨a0, b0, c0, a1, b1, c1, a2, b2, c2, a3, b3, c3, rfl⟩ : ∃ a0 b0 c0 a1 b1 c1 a2 b2 c2 a3 b3 c3, l = [a0, b0, c0, a1, b1, c1, a2, b2, c2, a3, b3, c3] := by
          match l, hl with
          | [a0, b0, c0, a1, b1, c1, a2, b2, c2, a3, b3, c3], _ => exact ⟨a0, b0, c0, a1, b1, c1, a2, b2, c2, a3, b3, c3, rfl⟩
        have e : List.range 4 = [0, 1, 2, 3] := rfl
        rw [e] at hd
        simp only [Option.map_eq_some_iff, List.mapM_cons, List.mapM_nil, Option.bind_eq_bind, Option.bind_eq_some_iff, Option.pure_def, Option.some.injEq] at hd
        obtain ⟨xs, ⟨y0, h0, _, ⟨y1, h1, _, ⟨y2, h2, _, ⟨y3, h3, _, rfl, rfl⟩, rfl⟩, rfl⟩, rfl⟩, hx⟩ := hd
        obtain ⟨m0, s0, n0, rfl, rfl, rfl, rfl⟩ := known_of_trod h0
        obtain ⟨m1, s1, n1, rfl, rfl, rfl, rfl⟩ := known_of_trod h1
        obtain ⟨m2, s2, n2, rfl, rfl, rfl, rfl⟩ := known_of_trod h2
        obtain ⟨m3, s3, n3, rfl, rfl, rfl, rfl⟩ := known_of_trod h3
        simp [Rows.laid_roundhouse_flag_drivers] at hx
        obtain ⟨⟨⟨rfl, e0, rfl⟩, ⟨rfl, e1, rfl⟩, ⟨rfl, e2, rfl⟩, ⟨rfl, e3, rfl⟩⟩, _⟩ := hx
        rw [ba_of_list e0, ba_of_list e1, ba_of_list e2, ba_of_list e3]
        rfl
      · cases hd
  subst key
  have c : ∀ i, W.cell? ⟨0, i, none⟩ = _ := World.var?_cell gD hvar
  exact ⟨World.block_lt_of_cell? W _ (c 0), c 0, c 1, c 2, c 3, c 4, c 5, c 6, c 7, c 8, c 9, c 10, c 11⟩

/-- Each row's list holds the tables that it names. -/
theorem tabs_of {W : World} {l : List (String × DataW Unit)} (h : laidMet Tryd.prog l W) :
    ((l.filter (fun x => x.1 == "roundhouse/flag.flagWords") = [("roundhouse/flag.flagWords", Rows.laid_roundhouse_flag_flagWords)]) → TabW W) ∧
    ((l.filter (fun x => x.1 == "roundhouse/flag.featureWords") = [("roundhouse/flag.featureWords", Rows.laid_roundhouse_flag_featureWords)]) → TabF W) ∧
    ((l.filter (fun x => x.1 == "roundhouse/flag.drivers") = [("roundhouse/flag.drivers", Rows.laid_roundhouse_flag_drivers)]) → TabD W) :=
  ⟨fun e => tabW_of (e ▸ laidMet.filter _ h), fun e => tabF_of (e ▸ laidMet.filter _ h), fun e => tabD_of (e ▸ laidMet.filter _ h)⟩
end Go.Proofs.YtbpgoopmfofcnaaDoor
