/-
  The contract of package fdset's appendRun: behind what is there it writes a comma if anything is there, the first descriptor in digits, and, if there are more, a hyphen and the last one.
-/
import Derived.Test.YthpinbngggcgcaaDoorShelfApp
import Derived.Test.YthpinbngggcgcaaDoorList
import Derived.Lib.OthersKept
import Derived.Lib.AppendIntMem
import Derived.Lib.ItoaNum
namespace Go.Proofs.YthpinbngggcgcaaDoor
open Go.RowKit

/-- The digits of a number below 100. -/
def dig2 (n : Nat) : List UInt8 := if n < 10 then [UInt8.ofNat (48 + n)] else [UInt8.ofNat (48 + n / 10), UInt8.ofNat (48 + n % 10)]
theorem itoa_dig (n : Nat) (h : n < 100) : Lib.itoa (n : Int) = dig2 n := by
  unfold Lib.itoa dig2
  rw [if_neg (by omega), Int.toNat_natCast]
  split
  · exact Lib.decDigits_one (by assumption)
  · exact Lib.decDigits_two (by assumption) h
theorem dig2_len (n : Nat) : (dig2 n).length ≤ 2 := by unfold dig2; split <;> simp
/-- A run, in bytes. -/
def runB (f l : Nat) : List UInt8 := dig2 f ++ (if f < l then 45 :: dig2 l else [])
/-- What is there, and a run more. -/
def addRun (bs : List UInt8) (f l : Nat) : List UInt8 := (if bs = [] then [] else bs ++ [44]) ++ runB f l

theorem infoByte : (Tryd.prog.info? 5).map (fun i => (i.zero, i.size, i.bytes)) = some (some (.int .u8 0), 1, 1) := by kernel_rfl
/-- The table of tens, whatever is written from block B on. -/
def Pow (B : Nat) (w : World) : Prop := Lib.TabBelow Tryd.prog B w "internal/strconv.uint64pow10" .u64 Lib.pow10Tab

theorem row_kind {w : World} {B : Nat} {e : TypeId} {size n : Nat} {v : Value} {xs : List Value} (h : w.ownsRow B e size v n xs) : ∀ g, v.ownBlock = some g → ∃ c fz, w.heap[g]? = some (.cells c e fz) := by
  intro g hg
  rcases h.2 with ⟨rfl, _⟩ | ⟨g', cap, cur, rfl, _, hgg, _⟩
  · simp [Value.ownBlock] at hg
  · simp [Value.ownBlock] at hg
    subst hg
    exact ⟨cur, (0, 0), hgg⟩

/-- A row of bytes that the call owns. -/
def Bytes (B : Nat) (v : Value) (bs : List UInt8) (w : World) : Prop := w.ownsRow B 5 1 v bs.length (Lib.byteCells bs)
/-- It returns a row of these bytes; what lay below B, and all that is no row of bytes, has not turned. -/
def RetB (B : Nat) (w : World) (bs : List UInt8) (e : Ending) (w' : World) : Prop := ∃ v, e = .returned v ∧ Bytes B v bs w' ∧ Below B w w' ∧ Lib.OthersKept 5 none w w'

theorem appendInt_any (B : Nat) (bs : List UInt8) (n : Nat) (hn : n < 64) (v : Value) (w : World) (h : Bytes B v bs w) (hB : B ≤ w.heap.size) (hlen : bs.length ≤ 1000) (hp : Pow B w) :
    Calls Tryd.prog 51 #[v, .int .i64 (n : Int), .int .i64 10] w (RetB B w (bs ++ dig2 n)) := by
  rw [← itoa_dig n (by omega)]
  refine (Tryd.strconv_AppendInt_10 B bs.length (n : Int) (by omega) (by omega) v (Lib.byteCells bs) w h hB (by omega) hp).mono ?_
  rintro e w' ⟨v', rfl, h1, h2, h3⟩
  refine ⟨v', rfl, ?_, h2, h3⟩
  unfold Bytes
  rw [List.length_append, show Lib.byteCells (bs ++ Lib.itoa (n : Int)) = Lib.byteCells bs ++ Lib.byteCells (Lib.itoa (n : Int)) from by simp [Lib.byteCells]]
  exact h1

theorem one_more {B : Nat} {bs : List UInt8} {v v' : Value} {c : UInt8} {w w' : World} {o : Obj} (h : Bytes B v bs w) (hB : B ≤ w.heap.size)
    (hown : w'.ownsRow B 5 1 v' (bs.length + 1) (Lib.byteCells bs ++ [.int .u8 (c.toNat : Int)])) (hg : (w.alloc o).grownBy w' v.ownBlock) :
    Bytes B v' (bs ++ [c]) w' ∧ Below B w w' ∧ Lib.OthersKept 5 none w w' := by
  refine ⟨?_, ?_, ?_⟩
  · unfold Bytes
    rw [List.length_append, show Lib.byteCells (bs ++ [c]) = Lib.byteCells bs ++ [.int .u8 (c.toNat : Int)] from by simp [Lib.byteCells]]
    exact hown
  · exact ((Below.refl _ _).alloc hB _).grown hg (by simp; omega) (fun k hk => (h.lt k hk).1)
  · exact ((Lib.OthersKept.refl _ _ _).alloc o).grown hg (row_kind (h.alloc o))
set_option maxRecDepth 100000 in
set_option maxHeartbeats 4000000 in
theorem appendRun_any (B : Nat) (bs : List UInt8) (f l : Nat) (hf : f < 64) (hl : l < 64) (v : Value) (w : World) (h : Bytes B v bs w) (hB : B ≤ w.heap.size) (hlen : bs.length ≤ 900) (hp : Pow B w) :
    Calls Tryd.prog 43 #[v, .int .i64 (f : Int), .int .i64 (l : Int)] w (RetB B w (addRun bs f l)) := by
  obtain ⟨i0, hi, hz0, hz1, hz2⟩ := info_parts infoByte
  have Hp := Lib.hid hp
  clear hp
  have hdf := dig2_len f
  obtain ⟨a, cap, rfl⟩ : ∃ a cap, v = .slice a bs.length cap := by
    rcases h.2 with ⟨rfl, h0⟩ | ⟨g, cap, cur, rfl, _⟩
    · exact ⟨none, 0, by rw [h0]⟩
    · exact ⟨_, cap, rfl⟩
  have H := Lib.hid h
  clear h
  -- the first number, behind what is there and, maybe, a comma
  obtain ⟨cs, hcs⟩ : ∃ cs, (if bs = [] then [] else bs ++ [44]) = cs := ⟨_, rfl⟩
  have hcl : cs.length ≤ 901 := by rw [← hcs]; split <;> simp; omega
  have hres : addRun bs f l = (cs ++ dig2 f) ++ (if f < l then 45 :: dig2 l else []) := by unfold addRun runB; rw [hcs]; simp
  rw [hres]
  clear hres
  by_cases hfl : f < l
  · rw [if_pos hfl]
    by_cases he : bs = []
    · have hce : cs = [] := by rw [← hcs, if_pos he]
      subst hce he
      go_enter Tryd.func43, Tryd.ntmps43
      go_wp2_with fail
      obtain ⟨hb1, hbw1, hok1⟩ : Bytes B _ [] w ∧ Below B w w ∧ Lib.OthersKept 5 none w w := ⟨H.out, Below.refl _ _, Lib.OthersKept.refl _ _ _⟩
      clear H
      have hl2 : ([] ++ dig2 f).length ≤ 910 := by simp; omega
      refine (appendInt_any B [] f hf _ _ hb1 (Nat.le_trans hB hbw1.size) (by first | omega | simp | (simp; omega)) (Hp.out.on hbw1)).mono ?_
      rintro e w2 ⟨v2, rfl, hb2, hbw2, hok2⟩
      have hbw2' := hbw1.trans hbw2
      have hok2' := hok1.trans hok2
      have hsz2 : B ≤ w2.heap.size := Nat.le_trans hB hbw2'.size
      clear hb1 hbw1 hok1 hbw2 hok2
      go_wp2_with (at_builtin; refine wpList_append_own _ rfl _ _ 65 rfl B 5 i0 (.int .u8 0) 1 1 Tryd.underlying65 hi hz0 hz1 hz2 rfl (by decide) _ _ _ rfl (hb2.alloc _) ⟨w2.heap.size, 0, none⟩ 1 1 [.int .u8 45] rfl rfl (cell_one_new _ _ _) (by simp [Value.oneCell']) (by unfold maxLen; omega) (by omega) (by simp; omega) ?_; intro v3 w3 hown' hgrow _)
      obtain ⟨hb3, hbw3, hok3⟩ := one_more (c := 45) hb2 hsz2 hown' hgrow
      have hbw3' := hbw2'.trans hbw3
      have hok3' := hok2'.trans hok3
      clear hown' hgrow hb2 hbw2' hok2' hbw3 hok3
      refine (appendInt_any B ([] ++ dig2 f ++ [45]) l hl _ _ hb3 (Nat.le_trans hB hbw3'.size) (by simp at hcl ⊢; omega) (Hp.out.on hbw3')).mono ?_
      rintro e w4 ⟨v4, rfl, hb4, hbw4, hok4⟩
      go_wp2
      go_ret
      exact ⟨_, rfl, by simpa using hb4, hbw3'.trans hbw4, hok3'.trans hok4⟩
    · have hce : cs = bs ++ [44] := by rw [← hcs, if_neg he]
      subst hce
      have hpos : 0 < bs.length := List.length_pos_iff.2 he
      have hpi : (0 : Int) < (bs.length : Int) := by omega
      go_enter Tryd.func43, Tryd.ntmps43
      go_wp2_with (at_builtin; refine wpList_append_own _ rfl _ _ 65 rfl B 5 i0 (.int .u8 0) 1 1 Tryd.underlying65 hi hz0 hz1 hz2 rfl (by decide) _ _ _ rfl (H.out.alloc _) ⟨w.heap.size, 0, none⟩ 1 1 [.int .u8 44] rfl rfl (cell_one_new _ _ _) (by simp [Value.oneCell']) (by unfold maxLen; omega) (by omega) (by simp; omega) ?_; intro v1 w1 hown' hgrow _)
      obtain ⟨hb1, hbw1, hok1⟩ := one_more (c := 44) H.out hB hown' hgrow
      clear hown' hgrow H
      have hl2 : ((bs ++ [44]) ++ dig2 f).length ≤ 910 := by simp; omega
      refine (appendInt_any B (bs ++ [44]) f hf _ _ hb1 (Nat.le_trans hB hbw1.size) (by first | omega | simp | (simp; omega)) (Hp.out.on hbw1)).mono ?_
      rintro e w2 ⟨v2, rfl, hb2, hbw2, hok2⟩
      have hbw2' := hbw1.trans hbw2
      have hok2' := hok1.trans hok2
      have hsz2 : B ≤ w2.heap.size := Nat.le_trans hB hbw2'.size
      clear hb1 hbw1 hok1 hbw2 hok2
      go_wp2_with (at_builtin; refine wpList_append_own _ rfl _ _ 65 rfl B 5 i0 (.int .u8 0) 1 1 Tryd.underlying65 hi hz0 hz1 hz2 rfl (by decide) _ _ _ rfl (hb2.alloc _) ⟨w2.heap.size, 0, none⟩ 1 1 [.int .u8 45] rfl rfl (cell_one_new _ _ _) (by simp [Value.oneCell']) (by unfold maxLen; omega) (by omega) (by simp; omega) ?_; intro v3 w3 hown' hgrow _)
      obtain ⟨hb3, hbw3, hok3⟩ := one_more (c := 45) hb2 hsz2 hown' hgrow
      have hbw3' := hbw2'.trans hbw3
      have hok3' := hok2'.trans hok3
      clear hown' hgrow hb2 hbw2' hok2' hbw3 hok3
      refine (appendInt_any B ((bs ++ [44]) ++ dig2 f ++ [45]) l hl _ _ hb3 (Nat.le_trans hB hbw3'.size) (by simp at hcl ⊢; omega) (Hp.out.on hbw3')).mono ?_
      rintro e w4 ⟨v4, rfl, hb4, hbw4, hok4⟩
      go_wp2
      go_ret
      exact ⟨_, rfl, by simpa using hb4, hbw3'.trans hbw4, hok3'.trans hok4⟩
  · rw [if_neg hfl, List.append_nil]
    have hfl2 : l ≤ f := by omega
    by_cases he : bs = []
    · have hce : cs = [] := by rw [← hcs, if_pos he]
      subst hce he
      go_enter Tryd.func43, Tryd.ntmps43
      go_wp2_with fail
      obtain ⟨hb1, hbw1, hok1⟩ : Bytes B _ [] w ∧ Below B w w ∧ Lib.OthersKept 5 none w w := ⟨H.out, Below.refl _ _, Lib.OthersKept.refl _ _ _⟩
      clear H
      have hl2 : ([] ++ dig2 f).length ≤ 910 := by simp; omega
      refine (appendInt_any B [] f hf _ _ hb1 (Nat.le_trans hB hbw1.size) (by first | omega | simp | (simp; omega)) (Hp.out.on hbw1)).mono ?_
      rintro e w2 ⟨v2, rfl, hb2, hbw2, hok2⟩
      have hbw2' := hbw1.trans hbw2
      have hok2' := hok1.trans hok2
      have hsz2 : B ≤ w2.heap.size := Nat.le_trans hB hbw2'.size
      clear hb1 hbw1 hok1 hbw2 hok2
      go_wp2
      go_ret
      exact ⟨_, rfl, hb2, hbw2', hok2'⟩
    · have hce : cs = bs ++ [44] := by rw [← hcs, if_neg he]
      subst hce
      have hpos : 0 < bs.length := List.length_pos_iff.2 he
      have hpi : (0 : Int) < (bs.length : Int) := by omega
      go_enter Tryd.func43, Tryd.ntmps43
      go_wp2_with (at_builtin; refine wpList_append_own _ rfl _ _ 65 rfl B 5 i0 (.int .u8 0) 1 1 Tryd.underlying65 hi hz0 hz1 hz2 rfl (by decide) _ _ _ rfl (H.out.alloc _) ⟨w.heap.size, 0, none⟩ 1 1 [.int .u8 44] rfl rfl (cell_one_new _ _ _) (by simp [Value.oneCell']) (by unfold maxLen; omega) (by omega) (by simp; omega) ?_; intro v1 w1 hown' hgrow _)
      obtain ⟨hb1, hbw1, hok1⟩ := one_more (c := 44) H.out hB hown' hgrow
      clear hown' hgrow H
      have hl2 : ((bs ++ [44]) ++ dig2 f).length ≤ 910 := by simp; omega
      refine (appendInt_any B (bs ++ [44]) f hf _ _ hb1 (Nat.le_trans hB hbw1.size) (by first | omega | simp | (simp; omega)) (Hp.out.on hbw1)).mono ?_
      rintro e w2 ⟨v2, rfl, hb2, hbw2, hok2⟩
      have hbw2' := hbw1.trans hbw2
      have hok2' := hok1.trans hok2
      have hsz2 : B ≤ w2.heap.size := Nat.le_trans hB hbw2'.size
      clear hb1 hbw1 hok1 hbw2 hok2
      go_wp2
      go_ret
      exact ⟨_, rfl, hb2, hbw2', hok2'⟩
end Go.Proofs.YthpinbngggcgcaaDoor
