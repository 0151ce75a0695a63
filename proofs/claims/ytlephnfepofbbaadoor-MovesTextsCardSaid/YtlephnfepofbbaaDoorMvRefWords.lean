/-
  The document's words of a line.
-/
import Derived.Test.YtlephnfepofbbaaDoorMvRefVal
import Derived.Test.YtlephnfepofbbaaDoorMvRefDig
import Derived.Laws.DeepStrings4
import Derived.Deep.RegionLaw
namespace Go.Proofs.YtlephnfepofbbaaDoor
open Go.RowKit Go.Shelf Go.Maps Go.ChangeMaps

/-- Strings in a row. -/
def RW : RowK Tryd.prog ByteArray where
  e := 9
  s := 71
  n := 1
  bytes := 16
  zero := .string ⟨#[]⟩
  enc := fun s => [.string s]
  pos := by decide
  by_ := by decide
  len := fun _ => rfl
  one := fun x u hu => by
    simp at hu
    subst hu; rfl
  und := Tryd.underlying71
  info := by kernel_rfl
  zs := rfl
theorem rw_new (w : World) (s : ByteArray) : RW.own (w.alloc (.cells #[.string s] 9)) w.heap.size (.slice (some ⟨w.heap.size, 0, none⟩) 1 1) [s] :=
  ⟨rfl, .inr ⟨w.heap.size, 1, _, rfl, Nat.le_refl _, heap_alloc_new w _, Nat.le_refl _, by unfold maxLen; omega, rfl, rfl⟩⟩
def lw (ws : List ByteArray) : List (List UInt8) := ws.map (fun s => s.data.toList)
theorem split_snoc (c : UInt8) : ∀ (l : List UInt8) (x : UInt8), splitB c (l ++ [x]) = if x = c then splitB c l ++ [[]] else (splitB c l).dropLast ++ [((splitB c l).getLast (split_ne c l)) ++ [x]]
  | [], x => by
    simp only [List.nil_append, splitB]
    split <;> simp
  | y :: r, x => by
    have ih := split_snoc c r x
    have hne := split_ne c r
    rw [List.cons_append, splitB]
    by_cases hy : y = c
    · rw [if_pos hy, ih]
      have e : splitB c (y :: r) = [] :: splitB c r := by rw [splitB, if_pos hy]
      split
      · rw [e]; rfl
      · simp only [e]
        rw [List.dropLast_cons_of_ne_nil hne, List.getLast_cons hne]; rfl
    · rw [if_neg hy, ih]
      obtain ⟨h, t, ht⟩ : ∃ h t, splitB c r = h :: t := by
        cases hz : splitB c r with
        | nil => exact absurd hz hne
        | cons h t => exact ⟨h, t, rfl⟩
      have e : splitB c (y :: r) = (y :: h) :: t := by rw [splitB, if_neg hy, ht]
      by_cases hx : x = c
      · rw [if_pos hx, if_pos hx]
        simp only [e, ht]
        rfl
      · rw [if_neg hx, if_neg hx]
        simp only [e, ht]
        cases t with
        | nil => simp
        | cons a t => simp
theorem split_len (c : UInt8) : ∀ l : List UInt8, (splitB c l).length ≤ l.length + 1
  | [] => by simp [splitB]
  | x :: r => by
    have ih := split_len c r
    unfold splitB
    split
    · simp; exact ih
    · split
      · rename_i h; rw [h] at ih; simp at ih ⊢; omega
      · simp
theorem split_piece (c : UInt8) (l p : List UInt8) (h : p ∈ splitB c l) : p.length ≤ l.length := by
  induction l generalizing p with
  | nil => simp [splitB] at h; simp [h]
  | cons x r ih =>
    unfold splitB at h
    split at h
    · rcases List.mem_cons.1 h with rfl | h
      · simp
      · have := ih p h; simp; omega
    · split at h
      · rename_i a t he
        rcases List.mem_cons.1 h with rfl | h
        · have := ih a (by rw [he]; simp); simp; exact this
        · have := ih p (by rw [he]; simp [h]); simp; omega
      · simp at h; simp [h]
theorem own_snoc {w : World} {B : Nat} {v : Value} {ws : List ByteArray} {x : ByteArray} (h : RW.own w B v (ws ++ [x])) : ∃ g c, v = .slice (some ⟨g, 0, none⟩) (ws ++ [x]).length c := by
  rcases RowK.own_form h with ⟨_, e⟩ | ⟨g, c, e, _⟩
  · simp at e
  · exact ⟨g, c, e⟩
theorem sz_okk {a : ByteArray} {c : UInt8} (h : a.size ≤ 100000) : ¬ (9223372036854775807 : Int) < ((a.size + (⟨#[c]⟩ : ByteArray).size : Nat) : Int) := by
  have : (⟨#[c]⟩ : ByteArray).size = 1 := rfl
  omega
theorem dl_app' (a b : ByteArray) : (a ++ b).data.toList = a.data.toList ++ b.data.toList := by rw [ByteArray.data_append, Array.toList_append]
theorem ext_slice (s : ByteArray) (a b : Nat) : (s.extract a b).data.toList = (s.data.toList.take b).drop a := by
  simp [List.drop_take]
theorem cut1_run (s : ByteArray) (j : Nat) (c : UInt8) (hc : s.data.toList[j]? = some c) (V : World) : (Instr.slice 9 (.string s) (some (.int .i64 (j : Int))) (some (.int .i64 ((j : Int) + 1))) none).run Tryd.prog V = .ok (.string ⟨#[c]⟩) V := by
  have hj : j < s.data.toList.length := (List.getElem?_eq_some_iff.1 hc).1
  have hsz := Lib.size_eq s
  rw [run_slice_string_if _ _ _ _ _ _ _ Tryd.underlying9, if_pos ⟨by omega, by omega⟩, if_pos ⟨by omega, by omega⟩]
  have e : s.extract j (j + 1) = ⟨#[c]⟩ := ba_ext (by
    rw [ext_slice, List.take_add_one, hc, List.drop_append_of_le_length (by simp; omega)]
    simp)
  have e2 : ((j : Int) + 1).toNat = j + 1 := by omega
  rw [Int.toNat_natCast, e2, e]
/-- What words returns. -/
def WordsR (w : World) (l : List UInt8) (e : Ending) (w' : World) : Prop := ∃ v ws, e = .returned v ∧ RW.own w' w.heap.size v ws ∧ lw ws = splitB 32 l ∧ Below w.heap.size w w'
set_option maxRecDepth 100000 in
set_option maxHeartbeats 8000000 in
theorem rwords_any (s : ByteArray) (hs : s.size ≤ 100000) (w : World) : Calls Tryd.prog 40 #[.string s] w (WordsR w s.data.toList) := by
  obtain ⟨n, hn⟩ : ∃ n, s.size = n := ⟨_, rfl⟩
  have hl : s.data.toList.length = n := by rw [← Lib.size_eq, hn]
  have HL := Lib.hid hl
  rw [hn] at hs
  have H0 := Lib.hid (rw_new w ⟨#[]⟩)
  clear hl
  go_enter Tryd.func40, Tryd.ntmps40
  go_wp2_with fail
  go_loopw [3, 4] (fun v i wr => ∃ (j : Nat) (ws : List ByteArray) (L g cap : Nat), j ≤ n ∧ i = .int .i64 j ∧ v = .slice (some ⟨g, 0, none⟩) L cap ∧ 0 < L ∧ L ≤ j + 1 ∧ Hid (ws.length = L) ∧ Hid (RW.own wr w.heap.size (.slice (some ⟨g, 0, none⟩) L cap) ws) ∧ Hid (lw ws = splitB 32 (s.data.toList.take j)) ∧ Hid (Below w.heap.size w wr)) (fun _ i _ => n - (intOf i).toNat)
  case atStart => exact ⟨0, [⟨#[]⟩], 1, _, 1, Nat.zero_le _, rfl, rfl, by omega, by omega, Lib.hid rfl, Lib.hid H0.out, Lib.hid (by simp [lw, splitB]), Lib.hid ((Below.refl _ _).alloc (Nat.le_refl _) _)⟩
  case round =>
    obtain ⟨j, ws, L, g, cap, hj, rfl, rfl, L0, L1, HLn, HO, HW, HB⟩ := hrel
    by_cases hlt : j < n
    · have hlt' : (j : Int) < (n : Int) := by omega
      have hL := HL.out
      obtain ⟨c, hc⟩ : ∃ c, s.data.toList[j]? = some c := ⟨_, List.getElem?_eq_getElem (by omega)⟩
      have htake : s.data.toList.take (j + 1) = s.data.toList.take j ++ [c] := by rw [List.take_add_one, hc]; rfl
      have i1 := str_run s j c hc (j : Int) rfl
      have hsp := split_snoc 32 (s.data.toList.take j) c
      rw [← htake] at hsp
      by_cases h32 : c = 32
      · subst h32
        rw [if_pos rfl] at hsp
        have HS := Lib.hid hsp
        clear hsp htake hc hL
        go_wp2_with (at_builtin; refine RowK.append (R := RW) rfl _ _ rfl w.heap.size _ ws [⟨#[]⟩] rfl (RowK.own_below HO.out ((Below.refl _ _).alloc (Nat.le_refl _) _)) (some ⟨wr.heap.size, 0, none⟩) 1 1 rfl rfl (fun _ => ⟨_, 0, rfl, by simp, RowK.lies_new (R := RW) wr ⟨#[]⟩ _⟩) (fun e => by cases e) (by have := HLn.out; simp; omega) (by have := HB.out.size; simp; omega) ?_; intro v1 w1 h1 hg1 hat1; obtain ⟨g2, c2, rfl⟩ := own_snoc h1; have H1 := Lib.hid h1; have HB1 := Lib.hid ((HB.out.alloc HB.out.size (.cells #[.string ⟨#[]⟩] 9)).grown hg1 (by have := HB.out.size; simp; omega) (fun k e => (RowK.own_lt HO.out e).2)); clear h1 hg1 hat1)
        go_roundw
        case rel => exact ⟨j + 1, ws ++ [⟨#[]⟩], L + 1, g2, c2, by omega, by go_num, by rw [HLn.out], by omega, by omega, Lib.hid (by have := HLn.out; simp; omega), Lib.hid (by have h := H1.out; rw [show (ws ++ [(⟨#[]⟩ : ByteArray)]).length = L + 1 by have := HLn.out; simp; omega] at h; exact h), Lib.hid (by rw [HS.out, ← HW.out]; simp [lw]), HB1⟩
        case measure => simp [intOf]; omega
      · have hne : ((c.toNat : Int) == 32) = false := by
          rw [beq_eq_false_iff_ne]
          exact fun e => h32 (u8_eq (by have : (32 : UInt8).toNat = 32 := rfl; omega))
        have hne2 : ¬ (c.toNat : Int) = 32 := by
          exact fun e => h32 (u8_eq (by have : (32 : UInt8).toNat = 32 := rfl; omega))
        rw [if_neg h32] at hsp
        obtain ⟨pre, last, hpl⟩ : ∃ pre last, ws = pre ++ [last] := by
          have : ws ≠ [] := fun e => by have := HLn.out; rw [e] at this; simp at this; omega
          exact ⟨ws.dropLast, ws.getLast this, (List.dropLast_concat_getLast this).symm⟩
        have hpn : pre.length + 1 = L := by have := HLn.out; rw [hpl] at this; simpa using this
        have hS2 : splitB 32 (s.data.toList.take (j + 1)) = lw pre ++ [last.data.toList ++ [c]] := by
          rw [hsp]
          have hw : splitB 32 (s.data.toList.take j) = lw pre ++ [last.data.toList] := by rw [← HW.out, hpl]; simp [lw]
          simp only [hw]
          simp
        obtain ⟨k, hk⟩ : ∃ k, pre.length = k := ⟨_, rfl⟩
        obtain rfl : L = k + 1 := by omega
        have sl := cut1_run s j c hc
        have hat := List.getElem?_eq_some_iff.2 (⟨by rw [HLn.out]; omega, by simp [hpl, ← hk]⟩ : ∃ h : k < ws.length, ws[k] = last)
        obtain ⟨g', c', e, hcl, hgl, hB, hli⟩ := (RowK.own_form HO.out).resolve_left (fun e => by cases e.1)
        injection e with e1 e2 e3
        injection e1 with e1
        injection e1 with e1
        subst e1
        have hcell : wr.cell? ⟨g, k, none⟩ = some (.string last) := by
          have := hli k last hat 0 (by decide)
          simpa [RW] using this
        have hfz : wr.frozen? ⟨g, k, none⟩ = false := RowK.own_frozen (xs := ws) (by rw [HLn.out]; exact HO.out) k
        have s1 : IntKind.i64.wrap (k : Int) = (k : Int) := IntWalk.i64_in _ (by omega)
        have s2 : IntKind.i64.wrap ((j : Int) + 1) = (j : Int) + 1 := IntWalk.i64_in _ (by omega)
        have b1 : (k : Int) < (k : Int) + 1 := by omega
        have b0 : (0 : Int) ≤ (k : Int) := by omega
        have hls : last.size ≤ 100000 := by
          have hm : last.data.toList ∈ splitB 32 (s.data.toList.take j) := by rw [← HW.out, hpl]; simp [lw]
          have := split_piece _ _ _ hm
          have h3 := List.length_take_le j s.data.toList
          rw [Lib.size_eq]; omega
        have hsz : ¬ 9223372036854775807 < last.size + 1 := by omega
        have hsz2 : ¬ (9223372036854775807 : Int) < (last.size : Int) + 1 := by omega
        have HS2 := Lib.hid hS2
        have HPL := Lib.hid (And.intro hpl hk)
        have HAT := Lib.hid hat
        have hB2 := hB
        clear hB
        clear hsp htake hc hL hS2 hpl hpn hk hat hli e2 e3 hls h32 hne hcl
        go_wp2_with fail
        go_region_law (fail)
        have hset := RowK.own_set (R := RW) (w := wr) (B := w.heap.size) (g := g) (c := cap) (xs := ws) (j := k) (y := last) (by rw [HLn.out]; exact HO.out) HAT.out (last ++ ⟨#[c]⟩)
        have hset : RW.own (wr.setCell ⟨g, k, none⟩ (.string (last ++ ⟨#[c]⟩))) w.heap.size (.slice (some ⟨g, 0, none⟩) (k + 1) cap) (ws.set k (last ++ ⟨#[c]⟩)) := by
          have e : k * RW.n = k := Nat.mul_one k
          rw [HLn.out, e] at hset
          exact hset
        have HST := Lib.hid hset
        clear hset sl i1 hcell hfz
        go_wp2_with fail
        go_roundw
        case rel => exact ⟨j + 1, ws.set k (last ++ ⟨#[c]⟩), k + 1, g, cap, by omega, by go_num, rfl, by omega, by omega, Lib.hid (by rw [List.length_set]; exact HLn.out), Lib.hid (RowK.own_same HST.out (fun _ _ => rfl)), Lib.hid (by
          rw [HS2.out, HPL.out.1, ← HPL.out.2]
          simp [lw, List.set_append_right, dl_app']), Lib.hid (by
          have hb := HB.out.setCell (p := ⟨g, k, none⟩) (by exact hB2) (.string (last ++ ⟨#[c]⟩))
          exact ⟨hb.os, hb.tape, hb.output, hb.size, hb.block⟩)⟩
        case measure => simp [intOf]; omega
    · obtain rfl : j = n := by omega
      have hlt' : ¬ (j : Int) < (j : Int) := by omega
      have HW2 : Hid (lw ws = splitB 32 s.data.toList) := Lib.hid (by have := HW.out; rwa [List.take_of_length_le (by have := HL.out; omega)] at this)
      go_wp2_with fail
      go_ret
      exact ⟨_, ws, rfl, HO.out, HW2.out, HB.out⟩
end Go.Proofs.YtlephnfepofbbaaDoor
