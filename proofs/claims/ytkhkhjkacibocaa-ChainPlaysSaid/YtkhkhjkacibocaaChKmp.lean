/-
  finder: a function that is called with byte after byte, and says when what ends there.
-/
import Derived.Test.YtkhkhjkacibocaaChBytes
namespace Go.Proofs.Ytkhkhjkacibocaa
open Go.RowKit Go.Maps Go.ChangeMaps

theorem run_store_fn {P : Program} {w : World} {a : Addr} {m : Mode} (f : Fn) (r cs : Array Value) : (store a (.func f r cs) m).run P w = stored P w a (.func f r cs) m := run_store P w a _ m rfl
attribute [local go_sem] run_store_fn

/-- What the search reads: what is looked for, and the table. -/
structure Tab (W : World) (b1 b3 gb : Nat) (A : Option Addr) (m c : Nat) (z : List Int) (T : List Nat) : Prop where
  bo1 : Boxed W b1 31 (.slice A m c)
  src : Src W No2 A m c z
  bo3 : Boxed W b3 45 (.slice (some ⟨gb, 0, none⟩) m m)
  row : Blk W gb 3 (T.map fun k : Nat => Value.int .i64 (k : Int)).toArray
  len : T.length = m
  pos : 0 < m
  big : m ≤ 1048576
/-- The table is right up to q. -/
def Upto (z : List Int) (T : List Nat) (q : Nat) : Prop := ∀ j, 1 ≤ j → j ≤ q → ∀ b, T[j]? = some b → Back z j b

theorem Tab.same {W W' : World} {b1 b3 gb m c : Nat} {A : Option Addr} {z : List Int} {T : List Nat} (h : Tab W b1 b3 gb A m c z T) {D : Nat → Nat → Prop} (k : Kc D W W') (h1 : ∀ i, ¬ D b1 i) (h3 : ∀ i, ¬ D b3 i) (hg : ∀ i, ¬ D gb i) (hs : ∀ b o, A = some ⟨b, o, none⟩ → ∀ i, ¬ D b i) : Tab W' b1 b3 gb A m c z T :=
  ⟨(k.same h.bo1.lt h1).trans h.bo1, ⟨h.src.len, h.src.le, h.src.big, h.src.nil, h.src.spot, fun h0 => by
    obtain ⟨b, o, e, hb, hc⟩ := h.src.at_ h0
    exact ⟨b, o, e, Nat.lt_of_lt_of_le hb k.size, fun i z hz => ⟨fun e => e, (k.cell hb (hs b o e _)).trans (hc i z hz).2⟩⟩⟩, (k.same h.bo3.lt h3).trans h.bo3, h.row.kc k hg, h.len, h.pos, h.big⟩

set_option maxRecDepth 100000 in
set_option maxHeartbeats 4000000 in
theorem next_any {w : World} {b1 b3 gb m c : Nat} {A : Option Addr} {z : List Int} {T : List Nat} (h : Tab w b1 b3 gb A m c z T) {s : List Int} {n : Nat} (hn : n < m) (hs : IsM z s n) (hT : Upto z T n) (x : Int) :
    Calls Try.prog 54 #[.int .i64 (n : Int), .int .u8 x, .pointer (some ⟨b1, 0, none⟩), .pointer (some ⟨b3, 0, none⟩)] w fun e w' => ∃ k : Nat, e = .returned (.int .i64 (k : Int)) ∧ IsM z (s ++ [x]) k ∧ w = w' := by
  have hzl := h.src.len
  obtain ⟨b, o, rfl, hb, hc⟩ := h.src.at_ h.pos
  have c1 := h.bo1.cell
  have c3 := h.bo3.cell
  have l1 := h.bo1.lt
  have l3 := h.bo3.lt
  have hrow := Lib.hid h.row
  have hlen := h.len
  have hbig := h.big
  have HC := Lib.hid hc
  have HS := Lib.hid hs
  have HT := Lib.hid hT
  have hmc := h.src.le
  clear h hc hs hT
  go_enter Try.func54, Try.ntmps54
  go_wp2_with fail
  go_loop [0] (fun v => ∃ k : Nat, v = .int .i64 (k : Int) ∧ k ≤ n ∧ NextI z s x k) (fun v => (intOf v).toNat)
  case atStart => exact ⟨n, rfl, Nat.le_refl _, NextI.start HS.out (by omega) x⟩
  case round =>
    obtain ⟨k, rfl, hkn, hN⟩ := hrel
    have hkz : k < z.length := hN.lt
    obtain ⟨y, hy⟩ : ∃ y, z[k] = y := ⟨_, rfl⟩
    have cy := (HC.out k y (by rw [List.getElem?_eq_getElem hkz, hy])).2
    have b0 : (0 : Int) ≤ (k : Int) := by omega
    have b1 : (k : Int) < (m : Int) := by omega
    have b2 : k < m := by omega
    have HN := Lib.hid (And.intro hN hy)
    have hbl : b < w.heap.size := hb
    by_cases hk0 : 0 < k
    · have b3' : (0 : Int) < (k : Int) := by omega
      have b4 : decide ((0 : Int) < (k : Int)) = true := by simpa using hk0
      by_cases hyx : y = x
      · subst hyx
        have b5 : (y != y) = false := by simp
        clear hN hy
        go_wp2_with fail
        go_ret
        exact ⟨k + 1, by simp, HN.out.1.yes HN.out.2, rfl⟩
      · have b5 : (y != x) = true := by simpa using hyx
        have b6 : ¬ y = x := hyx
        obtain ⟨bk, hbk⟩ : ∃ bk, T[k]? = some bk := ⟨_, List.getElem?_eq_getElem (by omega)⟩
        have ct : w.cell? ⟨gb, k, none⟩ = some (.int .i64 (bk : Int)) := by rw [hrow.out.cell]; simp [hbk]
        have lg := hrow.out.lt
        have HB := Lib.hid hbk
        clear hN hy hbk
        go_wp2_with fail
        go_round
        case rel =>
          have hB : Back z k bk := HT.out k hk0 hkn bk HB.out
          have := hB.lt hk0 (by omega)
          exact ⟨bk, rfl, by omega, HN.out.1.step hB hk0 (by rw [HN.out.2]; exact b6)⟩
        case measure =>
          have hB : Back z k bk := HT.out k hk0 hkn bk HB.out
          have := hB.lt hk0 (by omega)
          simp [intOf]; omega
    · obtain rfl : k = 0 := by omega
      rw [Nat.add_zero] at cy
      by_cases hyx : y = x
      · subst hyx
        clear hN hy
        go_wp2_with fail
        go_ret
        exact ⟨1, rfl, HN.out.1.yes HN.out.2, rfl⟩
      · have b5 : (y == x) = false := by simpa using hyx
        have b6 : ¬ y = x := hyx
        clear hN hy
        go_wp2_with fail
        go_ret
        exact ⟨0, rfl, HN.out.1.no (by rw [HN.out.2]; exact b6), rfl⟩

theorem isM_upto (z s : List Int) : ∀ N, N ≤ z.length → ∃ k, k ≤ N ∧ z.take k <:+ s ∧ ∀ j, j ≤ N → z.take j <:+ s → j ≤ k
  | 0, _ => ⟨0, Nat.le_refl _, by simp, fun j hj _ => hj⟩
  | N + 1, hN => by
    obtain ⟨k, h1, h2, h3⟩ := isM_upto z s N (by omega)
    by_cases h : z.take (N + 1) <:+ s
    · exact ⟨N + 1, Nat.le_refl _, h, fun j hj _ => hj⟩
    · refine ⟨k, by omega, h2, fun j hj hs => ?_⟩
      by_cases e : j = N + 1
      · subst e; exact absurd hs h
      · exact h3 j (by omega) hs
theorem isM_ex (z s : List Int) : ∃ k, IsM z s k := by
  obtain ⟨k, h1, h2, h3⟩ := isM_upto z s z.length (Nat.le_refl _)
  exact ⟨k, h1, h2, h3⟩
theorem next_at {w : World} {b1 b3 gb m c : Nat} {A : Option Addr} {z : List Int} {T : List Nat} (h : Tab w b1 b3 gb A m c z T) {s : List Int} {n : Nat} (hn : n < m) (hs : IsM z s n) (hT : Upto z T n) (x : Int) {k : Nat} (hk : IsM z (s ++ [x]) k) :
    Calls Try.prog 54 #[.int .i64 (n : Int), .int .u8 x, .pointer (some ⟨b1, 0, none⟩), .pointer (some ⟨b3, 0, none⟩)] w fun e w' => e = .returned (.int .i64 (k : Int)) ∧ w' = w := by
  refine (next_any h hn hs hT x).mono ?_
  rintro e w' ⟨k', rfl, hk', rfl⟩
  rw [isM_unique hk' hk]
  exact ⟨rfl, rfl⟩

/-- A search under way: its function, how much of what is looked for fits. -/
structure Fin (W : World) (b1 b3 b4 b6 gb : Nat) (A : Option Addr) (m c : Nat) (z : List Int) (T : List Nat) (s : List Int) (n : Nat) : Prop where
  tab : Tab W b1 b3 gb A m c z T
  bo4 : Boxed W b4 91 (.func (.func 54) #[] #[.pointer (some ⟨b1, 0, none⟩), .pointer (some ⟨b3, 0, none⟩)])
  bo6 : Boxed W b6 3 (.int .i64 (n : Int))
  fit : IsM z s n
  upto : Upto z T (m - 1)
  ne : gb ≠ b6
  neA : ∀ b o, A = some ⟨b, o, none⟩ → b ≠ b6

set_option maxRecDepth 100000 in
set_option maxHeartbeats 2000000 in
theorem ends_any {w : World} {b1 b3 b4 b6 gb m c n : Nat} {A : Option Addr} {z s : List Int} {T : List Nat} (h : Fin w b1 b3 b4 b6 gb A m c z T s n) (hn : n < m) (x : Int) :
    Calls Try.prog 55 #[.int .u8 x, .pointer (some ⟨b4, 0, none⟩), .pointer (some ⟨b6, 0, none⟩), .pointer (some ⟨b1, 0, none⟩)] w fun e w' =>
      ∃ k : Nat, e = .returned (.bool (decide (k = m))) ∧ Fin w' b1 b3 b4 b6 gb A m c z T (s ++ [x]) k ∧ Kc (fun j _ => j = b6) w w' ∧ k ≤ m := by
  have HN := Lib.hid (next_any h.tab hn h.fit (fun j h1 h2 => h.upto j h1 (by omega)) x)
  have c1 := h.tab.bo1.cell
  have c4 := h.bo4.cell
  have c6 := h.bo6.cell
  have f6 := h.bo6.frozen
  have l1 := h.tab.bo1.lt
  have l4 := h.bo4.lt
  have l6 := h.bo6.lt
  have ne1 : b1 ≠ b6 := fun e => by
    have h1 := h.tab.bo1; have h2 := h.bo6; unfold Boxed at h1 h2; rw [e, h2] at h1; injection h1 with h1; injection h1 with _ h1; revert h1; decide
  have ne3 : b3 ≠ b6 := fun e => by
    have h1 := h.tab.bo3; have h2 := h.bo6; unfold Boxed at h1 h2; rw [e, h2] at h1; injection h1 with h1; injection h1 with _ h1; revert h1; decide
  have ne4 : b4 ≠ b6 := fun e => by
    have h1 := h.bo4; have h2 := h.bo6; unfold Boxed at h1 h2; rw [e, h2] at h1; injection h1 with h1; injection h1 with _ h1; revert h1; decide
  have H := Lib.hid h
  clear h
  go_enter Try.func55, Try.ntmps55
  go_wp2_with fail
  refine HN.out.mono ?_
  rintro e w' ⟨k, rfl, hk, rfl⟩
  have hkm : k ≤ m := by have := hk.1; have := H.out.tab.src.len; omega
  have HE := Lib.hid (show Fin (w.setCell ⟨b6, 0, none⟩ (.int .i64 (k : Int))) b1 b3 b4 b6 gb A m c z T (s ++ [x]) k ∧ Kc (fun j _ => j = b6) w (w.setCell ⟨b6, 0, none⟩ (.int .i64 (k : Int))) from by
    have h := H.out
    have hb : Blk w b6 3 #[.int .i64 (n : Int)] := h.bo6
    have kk := (Kc.refl (fun j _ => j = b6) w).setCell (p := ⟨b6, 0, none⟩) hb rfl (fun _ => rfl) (.int .i64 (k : Int))
    refine ⟨⟨h.tab.same kk (fun _ => ne1) (fun _ => ne3) (fun _ => h.ne) (fun b o e _ => h.neA b o e), (kk.same h.bo4.lt (fun _ => ne4)).trans h.bo4, ?_, hk, h.upto, h.ne, h.neA⟩, kk⟩
    have := hb.set_ 0 (.int .i64 (k : Int))
    simpa [Boxed, Blk] using this)
  have HK := Lib.hid (And.intro hk hkm)
  clear hk
  by_cases hkm2 : k = m
  · subst hkm2
    go_wp2_with fail
    go_ret
    exact ⟨k, by simp, HE.out.1, HE.out.2, Nat.le_refl _⟩
  · have b1' : ¬ (k : Int) = (m : Int) := by omega
    have b2' : ((k : Int) == (m : Int)) = false := by rw [beq_eq_false_iff_ne]; exact b1'
    go_wp2_with fail
    go_ret
    exact ⟨k, by simp [hkm2], HE.out.1, HE.out.2, HK.out.2⟩

/-- While the table is laid. -/
structure FdR (w : World) (b1 b3 b4 gb : Nat) (A : Option Addr) (m c : Nat) (z : List Int) (T : List Nat) (q : Nat) (W : World) : Prop where
  tab : Tab W b1 b3 gb A m c z T
  bo4 : Boxed W b4 91 (.func (.func 54) #[] #[.pointer (some ⟨b1, 0, none⟩), .pointer (some ⟨b3, 0, none⟩)])
  upto : Upto z T q
  kc : Kc No2 w W
  sz : w.heap.size ≤ W.heap.size

set_option maxRecDepth 100000 in
set_option maxHeartbeats 8000000 in
theorem finder_any {w : World} {A : Option Addr} {m c : Nat} {z : List Int} (hs : Src w No2 A m c z) (h0 : 0 < m) (hm : m ≤ 1048576) :
    Calls Try.prog 52 #[.slice A m c] w fun e w' => ∃ b1 b3 b4 b6 gb T, e = .returned (.func (.func 55) #[] #[.pointer (some ⟨b4, 0, none⟩), .pointer (some ⟨b6, 0, none⟩), .pointer (some ⟨b1, 0, none⟩)]) ∧
      Fin w' b1 b3 b4 b6 gb A m c z T [] 0 ∧ Kept (fun _ => False) w w' ∧ w.heap.size ≤ b6 := by
  obtain ⟨Z, hZ⟩ : ∃ Z : Array Value, Z = ((List.replicate m 0).map fun k : Nat => Value.int .i64 (k : Int)).toArray := ⟨_, rfl⟩
  have hmk : ∀ U : World, (Instr.makeSlice 45 (.int .i64 (m : Int)) (.int .i64 (m : Int))).run Try.prog U = .ok (.slice (some ⟨U.heap.size, 0, none⟩) m m) (U.alloc (.cells Z 3)) := fun U => by
    obtain ⟨i, hi, h1, h2, h3⟩ := info_parts (show (Try.prog.info? 3).map (fun i => (i.zero, i.size, i.bytes)) = some (some (.int .i64 0), 1, 8) by kernel_rfl)
    have := run_make (P := Try.prog) U 45 3 i (.int .i64 0) Try.underlying45 hi h1 .i64 .i64 (m : Int) (m : Int) (by omega) (by omega) (by rw [h3]; omega) (by omega)
    rw [this, h2, hZ]
    have e : madeCells (Value.cells (.int .i64 0)) ((m : Int).toNat * 1) = ((List.replicate m 0).map fun k : Nat => Value.int .i64 (k : Int)).toArray := by
      apply Array.toList_inj.1
      refine List.ext_getElem? fun j => ?_
      simp [madeCells, Value.cells]
      by_cases hj : j < m
      · simp [hj, Array.getElem?_range, List.getElem?_replicate, Nat.mod_one]
      · simp [hj, List.getElem?_replicate]
    rw [e]
    simp
  have HZ := Lib.hid hZ
  have H := Lib.hid hs
  clear hZ hs
  go_enter Try.func52, Try.ntmps52
  go_wp2_with fail
  obtain ⟨V, hV⟩ : ∃ V, V = (((w.alloc (.cells #[.slice A m c] 31)).alloc (.cells Z 3)).alloc (.cells #[.slice (some ⟨w.heap.size + 1, 0, none⟩) m m] 45)).alloc (.cells #[.func (.func 54) #[] #[.pointer (some ⟨w.heap.size, 0, none⟩), .pointer (some ⟨w.heap.size + 1 + 1, 0, none⟩)]] 91) := ⟨_, rfl⟩
  rw [← hV]
  have hkV : Kept (fun _ => False) w V := by rw [hV]; exact ((((Kept.refl _ w).alloc _).alloc _).alloc _).alloc _
  have hVz : V.heap.size = w.heap.size + 4 := by rw [hV]; simp
  have v1 : Boxed V w.heap.size 31 (.slice A m c) := by rw [hV]; exact (((Boxed.new w _ _).alloc _).alloc _).alloc _
  have vr : Blk V (w.heap.size + 1) 3 Z := by
    rw [hV]
    have := ((Blk.new (w.alloc (.cells #[.slice A m c] 31)) 3 Z).alloc (.cells #[.slice (some ⟨w.heap.size + 1, 0, none⟩) m m] 45)).alloc (.cells #[.func (.func 54) #[] #[.pointer (some ⟨w.heap.size, 0, none⟩), .pointer (some ⟨w.heap.size + 1 + 1, 0, none⟩)]] 91)
    simpa using this
  have v3 : Boxed V (w.heap.size + 1 + 1) 45 (.slice (some ⟨w.heap.size + 1, 0, none⟩) m m) := by
    rw [hV]
    have := (Boxed.new ((w.alloc (.cells #[.slice A m c] 31)).alloc (.cells Z 3)) 45 (.slice (some ⟨w.heap.size + 1, 0, none⟩) m m)).alloc (.cells #[.func (.func 54) #[] #[.pointer (some ⟨w.heap.size, 0, none⟩), .pointer (some ⟨w.heap.size + 1 + 1, 0, none⟩)]] 91)
    simpa using this
  have v4 : Boxed V (w.heap.size + 1 + 1 + 1) 91 (.func (.func 54) #[] #[.pointer (some ⟨w.heap.size, 0, none⟩), .pointer (some ⟨w.heap.size + 1 + 1, 0, none⟩)]) := by
    rw [hV]
    have := Boxed.new (((w.alloc (.cells #[.slice A m c] 31)).alloc (.cells Z 3)).alloc (.cells #[.slice (some ⟨w.heap.size + 1, 0, none⟩) m m] 45)) 91 (.func (.func 54) #[] #[.pointer (some ⟨w.heap.size, 0, none⟩), .pointer (some ⟨w.heap.size + 1 + 1, 0, none⟩)])
    simpa using this
  have hzl := H.out.len
  have R0 : FdR w w.heap.size (w.heap.size + 1 + 1) (w.heap.size + 1 + 1 + 1) (w.heap.size + 1) A m c z (List.replicate m 0) 1 V :=
    ⟨⟨v1, H.out.kept hkV, v3, by rw [HZ.out] at vr; exact vr, by simp, h0, hm⟩, v4, (fun j h1 h2 b hb => by
      obtain rfl : j = 1 := by omega
      rw [List.getElem?_replicate] at hb
      split at hb
      · cases hb; exact back_one z (by omega)
      · cases hb), Kc.of_kept hkV, by omega⟩
  have R0 := Lib.hid R0
  clear hV hkV v1 vr v3 v4
  go_loopw [5] (fun v wr => ∃ (q : Nat) (T : List Nat), v = .int .i64 (q : Int) ∧ 1 ≤ q ∧ (q ≤ m - 1 ∨ q = 1) ∧ FdR w w.heap.size (w.heap.size + 1 + 1) (w.heap.size + 1 + 1 + 1) (w.heap.size + 1) A m c z T q wr) (fun v _ => m - (intOf v).toNat)
  case atStart => exact ⟨1, _, rfl, Nat.le_refl _, .inr rfl, R0.out⟩
  case round =>
    obtain ⟨q, T, rfl, hq1, hq2, hI⟩ := hrel
    have c1 := hI.tab.bo1.cell
    have c3 := hI.tab.bo3.cell
    have c4 := hI.bo4.cell
    have l1 := hI.tab.bo1.lt
    have l3 := hI.tab.bo3.lt
    have l4 := hI.bo4.lt
    have e0 : IntKind.i64.wrap ((m : Int) - 1) = (m : Int) - 1 := IntWalk.i64_in _ (by omega)
    by_cases hlt : q < m - 1
    · obtain ⟨b, o, hA, hb, hc⟩ := hI.tab.src.at_ h0
      have hTl := hI.tab.len
      obtain ⟨bq, hbq⟩ : ∃ bq, T[q]? = some bq := ⟨_, List.getElem?_eq_getElem (by omega)⟩
      have hB : Back z q bq := hI.upto q hq1 (Nat.le_refl _) bq hbq
      have hBl := hB.lt hq1 (by omega)
      obtain ⟨y, hy⟩ : ∃ y, z[q]? = some y := ⟨_, List.getElem?_eq_getElem (by omega)⟩
      have cy := (hc q y hy).2
      have ct : wr.cell? ⟨w.heap.size + 1, q, none⟩ = some (.int .i64 (bq : Int)) := by rw [hI.tab.row.cell]; simp [hbq]
      have ft := hI.tab.row.frozen (q + 1)
      have ct2 : wr.cell? ⟨w.heap.size + 1, q + 1, none⟩ = some (.int .i64 ((T.getD (q + 1) 0 : Nat) : Int)) := by
        rw [hI.tab.row.cell]
        have hq : q + 1 < T.length := by omega
        simp [List.getD, List.getElem?_eq_getElem hq]
      have lg := hI.tab.row.lt
      obtain ⟨k, hk⟩ := isM_ex z ((z.take q).drop 1 ++ [y])
      have HNx := Lib.hid (fun (W : World) (ht : Tab W w.heap.size (w.heap.size + 1 + 1) (w.heap.size + 1) A m c z T) => next_at ht (by omega) hB (fun j h1 h2 => hI.upto j h1 (by omega)) y hk)
      have HTab := Lib.hid (show Tab wr.drew w.heap.size (w.heap.size + 1 + 1) (w.heap.size + 1) A m c z T from hI.tab.same ((Kc.refl No2 wr).drew) (fun _ e => e) (fun _ e => e) (fun _ e => e) (fun _ _ _ _ e => e))
      have e1 : IntKind.i64.wrap ((q : Int) + 1) = (q : Int) + 1 := IntWalk.i64_in _ (by omega)
      have b0 : (0 : Int) ≤ (q : Int) := by omega
      have b1 : (q : Int) < (m : Int) := by omega
      have b2 : (q : Int) < (m : Int) - 1 := by omega
      have b3 : (q : Int) + 1 < (m : Int) := by omega
      have b4 : (0 : Int) ≤ (q : Int) + 1 := by omega
      have b5 : ((q : Int) + 1).toNat = q + 1 := by omega
      have b6 : q + 1 < m := by omega
      have b7 : q < m := by omega
      have HI := Lib.hid (And.intro hI (And.intro hq1 (And.intro hq2 (And.intro hlt (And.intro hbq (And.intro hB (And.intro hy hk)))))))
      clear hI hq1 hq2 hlt hbq hB hBl hy hk hTl hc
      subst hA
      go_wp2_with fail
      refine wp_region_still_tail 14 (by kernel_rfl) (by kernel_rfl) ?_
      change wpStill _ _ wr.drew _ _ _
      simp only [List.take_succ_cons, List.take_zero, List.drop_succ_cons, List.drop_zero]
      repeat still_step
      still_call (HNx.out wr.drew HTab.out)
      repeat still_step
      refine wpStill_nil ?_
      change wpList _ _ _ _ _ wr.drew
      go_wp2_with fail
      obtain ⟨hI, hq1, hq2, hlt, hbq, hB, hy, hk⟩ := HI.out
      have HE := Lib.hid (show FdR w w.heap.size (w.heap.size + 1 + 1) (w.heap.size + 1 + 1 + 1) (w.heap.size + 1) (some ⟨b, o, none⟩) m c z (T.set (q + 1) k) (q + 1) (wr.drew.setCell ⟨w.heap.size + 1, q + 1, none⟩ (.int .i64 (k : Int))) from by
        have hrw : Blk wr.drew (w.heap.size + 1) 3 _ := hI.tab.row.same rfl
        have kk := ((Kc.refl (fun j _ => j = w.heap.size + 1) wr).drew).setCell (p := ⟨w.heap.size + 1, q + 1, none⟩) hrw rfl (fun _ => rfl) (.int .i64 (k : Int))
        have hbo : b ≠ w.heap.size + 1 := by
          obtain ⟨b', o', e, hb', hc'⟩ := H.out.at_ h0
          cases e
          omega
        refine ⟨⟨(kk.same hI.tab.bo1.lt (fun _ => by omega)).trans hI.tab.bo1, ?_, (kk.same hI.tab.bo3.lt (fun _ => by omega)).trans hI.tab.bo3, ?_, by rw [List.length_set]; exact hI.tab.len, hI.tab.pos, hI.tab.big⟩, (kk.same hI.bo4.lt (fun _ => by omega)).trans hI.bo4, fun j h1 h2 b' hb' => ?_, hI.kc.andThen kk fun i j hi e => by omega, Nat.le_trans hI.sz kk.size⟩
        · refine ⟨hI.tab.src.len, hI.tab.src.le, hI.tab.src.big, hI.tab.src.nil, hI.tab.src.spot, fun h => ?_⟩
          obtain ⟨b', o', e, hb', hc'⟩ := hI.tab.src.at_ h
          cases e
          exact ⟨b, o, rfl, Nat.lt_of_lt_of_le hb' kk.size, fun i z hz => ⟨fun e => e, (kk.cell hb' hbo).trans (hc' i z hz).2⟩⟩
        · have := hrw.set_ (q + 1) (.int .i64 (k : Int))
          have e : ((T.set (q + 1) k).map fun k : Nat => Value.int .i64 (k : Int)).toArray = ((T.map fun k : Nat => Value.int .i64 (k : Int)).toArray).setIfInBounds (q + 1) (.int .i64 (k : Int)) := by
            apply Array.toList_inj.1
            simp [List.map_set]
          rw [e]; exact this
        · by_cases e : j = q + 1
          · subst e
            rw [List.getElem?_set_self (by have := hI.tab.len; omega)] at hb'
            cases hb'
            refine back_snoc hq1 (by omega) ?_
            have : z[q]'(by omega) = y := by
              have := List.getElem?_eq_getElem (show q < z.length by omega)
              rw [hy] at this
              exact (Option.some.inj this).symm
            rw [this]; exact hk
          · rw [List.getElem?_set_ne (by omega)] at hb'
            exact hI.upto j h1 (by omega) b' hb')
      have HQ := Lib.hid (And.intro hq1 hlt)
      clear hI hq1 hq2 hlt hbq hB hy hk
      go_wp2_with fail
      go_roundw
      case rel => exact ⟨q + 1, T.set (q + 1) k, by simp, by omega, .inl (by have := HQ.out; omega), HE.out⟩
      case measure => have := HQ.out; simp [intOf]; omega
    · have b2 : (m : Int) - 1 ≤ (q : Int) := by omega
      have b3 : ¬ (q : Int) < (m : Int) - 1 := by omega
      have HE := Lib.hid (show ∃ b1 b3 b4 b6 gb T, Ending.returned (.func (.func 55) #[] #[.pointer (some ⟨w.heap.size + 1 + 1 + 1, 0, none⟩), .pointer (some ⟨wr.heap.size, 0, none⟩), .pointer (some ⟨w.heap.size, 0, none⟩)]) = .returned (.func (.func 55) #[] #[.pointer (some ⟨b4, 0, none⟩), .pointer (some ⟨b6, 0, none⟩), .pointer (some ⟨b1, 0, none⟩)]) ∧
          Fin (wr.alloc (.cells #[.int .i64 0] 3)) b1 b3 b4 b6 gb A m c z T [] 0 ∧ Kept (fun _ => False) w (wr.alloc (.cells #[.int .i64 0] 3)) ∧ w.heap.size ≤ b6 from by
        have kk : Kept (fun _ => False) wr (wr.alloc (.cells #[.int .i64 0] 3)) := (Kept.refl _ wr).alloc _
        refine ⟨w.heap.size, w.heap.size + 1 + 1, w.heap.size + 1 + 1 + 1, wr.heap.size, w.heap.size + 1, T, rfl, ⟨hI.tab.same (Kc.of_kept (D := No2) kk) (fun _ e => e) (fun _ e => e) (fun _ e => e) (fun _ _ _ _ e => e), hI.bo4.alloc _, Boxed.new wr _ _, isM_nil z, fun j h1 h2 => hI.upto j h1 (by omega), ?_, fun b o e => ?_⟩, (hI.kc.quiet fun _ _ _ e => e).trans kk, hI.sz⟩
        · have := hI.tab.row.lt; omega
        · obtain ⟨b', o', e', hb', _⟩ := hI.tab.src.at_ h0
          rw [e] at e'; cases e'
          omega)
      clear hI hq1 hq2 hlt
      go_wp2_with fail
      go_ret
      obtain ⟨b1, b3, b4, b6, gb, T, he, h1⟩ := HE.out
      exact ⟨b1, b3, b4, b6, he, ⟨gb, T, h1.1⟩, h1.2⟩
end Go.Proofs.Ytkhkhjkacibocaa
