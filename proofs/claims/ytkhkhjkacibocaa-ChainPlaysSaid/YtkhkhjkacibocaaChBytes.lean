/-
  Bytes in memory: slices that may be read, cut; a row made, filled; append where there is room.
-/
import Derived.Test.YtkhkhjkacibocaaChMem
import Derived.Test.YtkhkhjkacibocaaCmRound
import Derived.Laws.CopyOwn
import Derived.Laws.MakeOwn
import Derived.ArgAppend
import Derived.Laws.BytesArg
import Derived.Lib.SlBytesConst
import Derived.Control
import Derived.ControlIn
namespace Go.Proofs.Ytkhkhjkacibocaa
open Go.RowKit Go.Maps Go.ChangeMaps

def encB (zs : List Int) : List Value := zs.map (Value.int .u8)
theorem encB_length (zs : List Int) : (encB zs).length = zs.length := by simp [encB]
theorem encB_get (zs : List Int) (i : Nat) : (encB zs)[i]? = (zs[i]?).map (Value.int .u8) := by simp [encB]
theorem encB_one (zs : List Int) : ∀ v ∈ encB zs, v.oneCell' = true := fun v hv => by
  obtain ⟨z, _, rfl⟩ := List.mem_map.1 hv; rfl
theorem infoB1 : (Try.prog.info? 5).map (·.size) = some 1 := by kernel_rfl
theorem add_plain (b o j : Nat) : (⟨b, o, none⟩ : Addr).add j = ⟨b, o + j, none⟩ := by unfold Addr.add; split <;> simp_all

/-- A slice of bytes that may be read: A, n, c are its parts; zs are its bytes, apart from the cells of D. -/
structure Src (W : World) (D : Nat → Nat → Prop) (A : Option Addr) (n c : Nat) (zs : List Int) : Prop where
  len : zs.length = n
  le : n ≤ c
  big : c ≤ 9223372036854775807
  nil : A = none → c = 0
  spot : ∀ a, A = some a → 0 < c → a.spot = none
  at_ : 0 < n → ∃ b o, A = some ⟨b, o, none⟩ ∧ b < W.heap.size ∧ ∀ i z, zs[i]? = some z → ¬ D b (o + i) ∧ W.cell? ⟨b, o + i, none⟩ = some (.int .u8 z)

section
variable {W W' : World} {D D' E : Nat → Nat → Prop} {A : Option Addr} {n c m : Nat} {zs : List Int}
theorem Kc.cell (h : Kc D W W') {b i : Nat} (hb : b < W.heap.size) (hd : ¬ D b i) : W'.cell? ⟨b, i, none⟩ = W.cell? ⟨b, i, none⟩ := by
  rcases h.block b hb with e | ⟨cs, cs', t, e1, e2, h1, h2⟩
  · exact World.cell?_of_block e
  · rw [cell_of_row W' b i cs' t (0, 0) e2, cell_of_row W b i cs t (0, 0) e1]; exact h2 i hd
theorem Src.mc (h : Src W D A n c zs) (m : Mc W W' D D') : Src W' D' A n c zs := ⟨h.len, h.le, h.big, h.nil, h.spot, fun h0 => by
  obtain ⟨b, o, e, hb, hc⟩ := h.at_ h0
  refine ⟨b, o, e, Nat.lt_of_lt_of_le hb m.k.size, fun i z hz => ?_⟩
  obtain ⟨h1, h2⟩ := hc i z hz
  refine ⟨fun hd => ?_, (m.k.cell hb h1).trans h2⟩
  rcases m.o b (o + i) hd with h3 | h3
  · exact h1 h3
  · omega⟩
theorem Src.kept (h : Src W D A n c zs) (k : Kept (fun _ => False) W W') : Src W' D A n c zs := h.mc (Mc.of_kept k)
theorem Src.kc (h : Src W D A n c zs) (k : Kc E W W') (hE : ∀ j i, j < W.heap.size → E j i → D j i) : Src W' D A n c zs := h.mc ⟨k.mono hE, fun _ _ e => .inl e⟩
theorem Src.weak (h : Src W D A n c zs) (hD : ∀ j i, j < W.heap.size → D' j i → D j i) : Src W D' A n c zs := ⟨h.len, h.le, h.big, h.nil, h.spot, fun h0 => by
  obtain ⟨b, o, e, hb, hc⟩ := h.at_ h0
  exact ⟨b, o, e, hb, fun i z hz => ⟨fun hd => (hc i z hz).1 (hD _ _ hb hd), (hc i z hz).2⟩⟩⟩
theorem Src.below (h : Src W No2 A n c zs) (hb : Below W.heap.size W W') (hD : ∀ j i, D j i → W.heap.size ≤ j) : Src W' D A n c zs := ⟨h.len, h.le, h.big, h.nil, h.spot, fun h0 => by
  obtain ⟨b, o, e, hl, hc⟩ := h.at_ h0
  exact ⟨b, o, e, Nat.lt_of_lt_of_le hl hb.size, fun i z hz => ⟨fun hd => by have := hD _ _ hd; omega, (hb.cell (p := ⟨b, o + i, none⟩) hl).trans (hc i z hz).2⟩⟩⟩
theorem Src.nl (W : World) (D : Nat → Nat → Prop) : Src W D none 0 0 [] := ⟨rfl, Nat.le_refl _, by omega, fun _ => rfl, (fun a e => by cases e), fun h => by omega⟩
/-- s[:m] -/
theorem Src.left (h : Src W D A n c zs) (hm : m ≤ n) : (∀ X, (Instr.slice 31 (.slice A n c) none (some (.int .i64 (m : Int))) none).run Try.prog X = .ok (.slice A m c) X) ∧ Src W D A m c (zs.take m) := by
  have h1 := h.le
  have h2 := h.big
  refine ⟨fun X => ?_, ⟨by rw [List.length_take, h.len]; omega, by omega, h2, h.nil, h.spot, fun h0 => ?_⟩⟩
  · by_cases hc0 : 0 < c
    · cases hA : A with
      | none => have := h.nil hA; omega
      | some a =>
        obtain ⟨ab, ao, sp⟩ := a
        obtain rfl : sp = none := h.spot _ hA hc0
        have b0 : (0 : Int) ≤ (m : Int) := by omega
        have b1 : (m : Int) ≤ (c : Int) := by omega
        have b2 : m ≤ c := by omega
        clear h hA h1 hm
        go_simp
    · obtain rfl : c = 0 := by omega
      obtain rfl : n = 0 := by omega
      obtain rfl : m = 0 := by omega
      clear h h1
      cases A with
      | none => go_simp
      | some a => go_simp
  · obtain ⟨b, o, e, hb, hc⟩ := h.at_ (by omega)
    refine ⟨b, o, e, hb, fun i z hz => hc i z ?_⟩
    rw [List.getElem?_take] at hz
    split at hz
    · exact hz
    · cases hz
/-- s[m:] -/
theorem Src.right (h : Src W D A n c zs) (hm : m ≤ n) : ∃ A', (∀ X, (Instr.slice 31 (.slice A n c) (some (.int .i64 (m : Int))) none none).run Try.prog X = .ok (.slice A' (n - m) (c - m)) X) ∧ Src W D A' (n - m) (c - m) (zs.drop m) := by
  have h1 := h.le
  have h2 := h.big
  have key : ∃ A', (∀ X, (Instr.slice 31 (.slice A n c) (some (.int .i64 (m : Int))) none none).run Try.prog X = .ok (.slice A' (n - m) (c - m)) X) ∧ (A' = none → c - m = 0) ∧ (∀ a, A' = some a → 0 < c - m → a.spot = none) ∧ (∀ b o, A = some ⟨b, o, none⟩ → 0 < n - m → A' = some ⟨b, o + m, none⟩) := by
    by_cases hc0 : 0 < c
    · cases hA : A with
      | none => have := h.nil hA; omega
      | some a =>
        obtain ⟨ab, ao, sp⟩ := a
        obtain rfl : sp = none := h.spot _ hA hc0
        have b0 : (0 : Int) ≤ (m : Int) := by omega
        have b1 : (m : Int) ≤ (n : Int) := by omega
        have b2 : (m : Int) ≤ (c : Int) := by omega
        have b3 : (n : Int) ≤ (c : Int) := by omega
        clear h hA
        refine ⟨if c = m then some ⟨ab, ao, none⟩ else some ⟨ab, ao + m, none⟩, fun W => (by go_simp), (fun h => by split at h <;> (cases h)), (fun a h _ => by split at h <;> (cases h; rfl)), fun b o e h0 => ?_⟩
        rw [if_neg (by omega)]
        cases e; rfl
    · obtain rfl : c = 0 := by omega
      obtain rfl : n = 0 := by omega
      obtain rfl : m = 0 := by omega
      refine ⟨A, fun X => ?_, fun _ => rfl, fun _ _ h => by omega, fun _ _ _ h => by omega⟩
      clear h h1
      cases A with
      | none => go_simp
      | some a => go_simp
  obtain ⟨A', k1, k2, k3, k4⟩ := key
  refine ⟨A', k1, ⟨by rw [List.length_drop, h.len], by omega, by omega, k2, k3, fun h0 => ?_⟩⟩
  obtain ⟨b, o, e, hb, hc⟩ := h.at_ (by omega)
  refine ⟨b, o + m, k4 b o e h0, hb, fun i z hz => ?_⟩
  rw [List.getElem?_drop] at hz
  rw [Nat.add_assoc]
  exact hc _ z hz
/-- s[x:x+e:x+e] -/
theorem Src.piece {b o x e : Nat} (h : Src W D (some ⟨b, o, none⟩) n c zs) (hx : x + e ≤ n) : Src W D (some ⟨b, o + x, none⟩) e e ((zs.drop x).take e) := by
  have h1 := h.le
  have h2 := h.big
  refine ⟨by rw [List.length_take, List.length_drop, h.len]; omega, Nat.le_refl _, by omega, (fun e => by cases e), (fun a e _ => by cases e; rfl), fun h0 => ?_⟩
  obtain ⟨b', o', e', hb, hc⟩ := h.at_ (by omega)
  cases e'
  refine ⟨b, o + x, rfl, hb, fun i z hz => ?_⟩
  rw [List.getElem?_take] at hz
  split at hz
  · rw [List.getElem?_drop] at hz
    rw [Nat.add_assoc]
    exact hc _ z hz
  · cases hz
/-- What a string of it is. -/
theorem Src.str (h : Src W D A n c zs) : (convert 31 9 (.slice A n c)).run Try.prog W = .ok (.string (strOfNums zs)) W := by
  by_cases h0 : 0 < n
  · obtain ⟨b, o, rfl, hb, hc⟩ := h.at_ h0
    refine run_convert_bytes_arg W 31 5 Try.underlying31 Try.underlying5 b o n c zs h.len (fun i hi => ?_) 9 Try.underlying9
    have hi' : i < zs.length := by rw [h.len]; exact hi
    rw [(hc i zs[i] (List.getElem?_eq_getElem hi')).2]
    simp [List.getD, List.getElem?_eq_getElem hi']
  · obtain rfl : n = 0 := by omega
    obtain rfl : zs = [] := List.eq_nil_of_length_eq_zero h.len
    cases A with
    | none => exact run_convert_bytes_nil W 31 5 Try.underlying31 Try.underlying5 0 c 9 Try.underlying9
    | some a =>
      have hl : (loadCells a 0).run Try.prog W = .ok (([] : List Int).map (Value.int .u8)).toArray W := by simpa using run_loadCells_list (P := Try.prog) W a [] (by simp)
      rw [run_convert_bytes_string W 31 9 5 _ 0 c Try.underlying31 Try.underlying5 Try.underlying9, run_bytesToString W _ 0 c [] hl]
      rfl
end

/-- A new row of bytes. -/
theorem make_run (l k : Nat) (hl : l ≤ k) (hk : k ≤ 2097152) (w : World) : (Instr.makeSlice 31 (.int .i64 (l : Int)) (.int .i64 (k : Int))).run Try.prog w = .ok (.slice (some ⟨w.heap.size, 0, none⟩) l k) (w.alloc (.cells (encB (List.replicate k 0)).toArray 5)) := by
  obtain ⟨i, hi, h1, h2, h3⟩ := info_parts (show (Try.prog.info? 5).map (fun i => (i.zero, i.size, i.bytes)) = some (some (.int .u8 0), 1, 1) by kernel_rfl)
  have := run_make (P := Try.prog) w 31 5 i (.int .u8 0) Try.underlying31 hi h1 .i64 .i64 (l : Int) (k : Int) (by omega) (by omega) (by rw [h3]; omega) (by omega)
  rw [this, h2]
  have e : madeCells (Value.cells (.int .u8 0)) ((k : Int).toNat * 1) = (encB (List.replicate k 0)).toArray := by
    apply Array.toList_inj.1
    refine List.ext_getElem? fun j => ?_
    simp [madeCells, encB, Value.cells]
    by_cases hj : j < k
    · simp [hj, Array.getElem?_range, List.getElem?_replicate, Nat.mod_one]
    · simp [hj, List.getElem?_replicate]
  rw [e]
  simp

/-- Cells of a block laid one by one. -/
def setA : Array Value → Nat → List Value → Array Value
  | cs, _, [] => cs
  | cs, o, v :: r => setA (cs.setIfInBounds o v) (o + 1) r
theorem setA_size : ∀ (vs : List Value) (cs : Array Value) (o : Nat), (setA cs o vs).size = cs.size
  | [], _, _ => rfl
  | v :: r, cs, o => by rw [setA, setA_size r]; simp
theorem setA_out : ∀ (vs : List Value) (cs : Array Value) (o i : Nat), ¬ (o ≤ i ∧ i < o + vs.length) → (setA cs o vs)[i]? = cs[i]?
  | [], _, _, _, _ => rfl
  | v :: r, cs, o, i, h => by
    rw [setA, setA_out r _ _ _ (fun e => h (by simp; omega)), Array.getElem?_setIfInBounds_ne (fun e => h (by simp; omega))]
theorem setA_in : ∀ (vs : List Value) (cs : Array Value) (o j : Nat) (v : Value), vs[j]? = some v → o + vs.length ≤ cs.size → (setA cs o vs)[o + j]? = some v
  | [], _, _, j, v, h, _ => by simp at h
  | u :: r, cs, o, 0, v, h, hs => by
    simp at h hs; subst h
    rw [setA, setA_out r _ _ _ (by omega), Nat.add_zero, Array.getElem?_setIfInBounds_self_of_lt (by omega)]
  | u :: r, cs, o, j + 1, v, h, hs => by
    simp at h hs
    rw [setA, show o + (j + 1) = o + 1 + j by omega]
    exact setA_in r _ _ j v h (by simp; omega)
theorem blk_setCells {g : Nat} {t : TypeId} : ∀ (vs : List Value) {w : World} {cs : Array Value} (o : Nat), Blk w g t cs → Blk (w.setCells g o vs) g t (setA cs o vs)
  | [], _, _, _, h => h
  | v :: r, _, _, o, h => blk_setCells r (o + 1) (h.set_ o v)
theorem kc_setCells {g : Nat} {t : TypeId} {w0 : World} : ∀ (vs : List Value) {w : World} {cs : Array Value} (o : Nat) {D : Nat → Nat → Prop}, Kc D w0 w → Blk w g t cs → (∀ i, o ≤ i → i < o + vs.length → g < w0.heap.size → D g i) → Kc D w0 (w.setCells g o vs)
  | [], _, _, _, _, k, _, _ => k
  | v :: r, w, cs, o, D, k, h, hD => by
    rw [World.setCells]
    exact kc_setCells r (o + 1) (k.setCell (p := ⟨g, o, none⟩) h rfl (fun e => hD o (Nat.le_refl _) (by simp) e) v) (h.set_ o v) fun i h1 h2 => hD i (by omega) (by simp; omega)
theorem setCells_size : ∀ (vs : List Value) (w : World) (g o : Nat), (w.setCells g o vs).heap.size = w.heap.size ∧ (w.setCells g o vs).drawn = w.drawn
  | [], _, _, _ => ⟨rfl, rfl⟩
  | v :: r, w, g, o => by
    rw [World.setCells]
    obtain ⟨h1, h2⟩ := setCells_size r (w.setCell ⟨g, o, none⟩ v) g (o + 1)
    exact ⟨h1.trans (by simp [World.setCell]), h2⟩

/-- What lies in a row that was written from a place on. -/
structure Wrote (W W2 : World) (g p : Nat) (cs : Array Value) (zs : List Int) : Prop where
  row : ∃ cs', Blk W2 g 5 cs' ∧ cs'.size = cs.size ∧ (∀ i z, zs[i]? = some z → cs'[p + i]? = some (.int .u8 z)) ∧ ∀ i, ¬ (p ≤ i ∧ i < p + zs.length) → cs'[i]? = cs[i]?
  k : Kc (fun k i => k = g ∧ p ≤ i ∧ i < p + zs.length) W W2
  size : W2.heap.size = W.heap.size
  drawn : W2.drawn = W.drawn
theorem wrote_set {W : World} {g p : Nat} {cs : Array Value} {zs : List Int} (h : Blk W g 5 cs) (hs : p + zs.length ≤ cs.size) : Wrote W (W.setCells g p (encB zs)) g p cs zs := by
  obtain ⟨s1, s2⟩ := setCells_size (encB zs) W g p
  refine ⟨⟨_, blk_setCells (encB zs) p h, setA_size _ _ _, fun i z hz => ?_, fun i hi => setA_out _ _ _ _ (by rw [encB_length]; exact hi)⟩, kc_setCells (encB zs) p (Kc.refl _ W) h (fun i h1 h2 _ => ⟨rfl, h1, by rw [encB_length] at h2; exact h2⟩), s1, s2⟩
  exact setA_in _ _ _ _ _ (by rw [encB_get, hz]; rfl) (by rw [encB_length]; exact hs)
theorem wrote_none {W : World} {g p : Nat} {cs : Array Value} (h : Blk W g 5 cs) : Wrote W W g p cs [] :=
  ⟨⟨cs, h, rfl, fun i z hz => by simp at hz, fun _ _ => rfl⟩, Kc.refl _ _, rfl, rfl⟩

/-- append where there is room. -/
theorem app_room {W : World} {g o len cap : Nat} {cs : Array Value} {D : Nat → Nat → Prop} {A : Option Addr} {m c : Nat} {zs : List Int} (hg : Blk W g 5 cs) (hfit : o + cap ≤ cs.size) (hroom : len + m ≤ cap) (hs : Src W D A m c zs) :
    ∃ W2, (∀ ty, (Builtin.append_ #[31, 31] ty #[.slice (some ⟨g, o, none⟩) len cap, .slice A m c]).run Try.prog W = .ok (.slice (some ⟨g, o, none⟩) (len + m) cap) W2) ∧ Wrote W W2 g (o + len) cs zs := by
  obtain ⟨i, hi, h2⟩ : ∃ i, Try.prog.info? 5 = some i ∧ i.size = 1 := by
    have := infoB1
    cases hh : Try.prog.info? 5 with
    | none => rw [hh] at this; cases this
    | some i => rw [hh] at this; exact ⟨i, rfl, by simpa using this⟩
  have hl := hs.len
  by_cases h0 : 0 < m
  · obtain ⟨b, p, rfl, hb, hc⟩ := hs.at_ h0
    refine ⟨_, fun ty => ?_, wrote_set (p := o + len) (zs := zs) hg (by omega)⟩
    have := run_append_room_cells (P := Try.prog) W 31 ty 5 i Try.underlying31 hi g o len cap ⟨b, p, none⟩ m c (encB zs) (by rw [encB_length, h2]; omega) (fun j u hj => by
      rw [encB_get] at hj
      cases hz : zs[j]? with
      | none => rw [hz] at hj; cases hj
      | some z => rw [hz] at hj; cases hj; rw [add_plain]; exact (hc j z hz).2) (encB_one zs) hroom (fun j hj => by rw [encB_length] at hj; rw [h2, hg.cell, Array.getElem?_eq_getElem (show o + len * 1 + j < cs.size by omega)]; rfl) (fun j hj => hg.frozen _)
    rw [this, h2, Nat.mul_one]
  · obtain rfl : m = 0 := by omega
    obtain rfl : zs = [] := List.eq_nil_of_length_eq_zero hl
    refine ⟨W, fun ty => ?_, wrote_none hg⟩
    have hst : ∀ a : Addr, (storeCells a [] 0).run Try.prog W = .ok () W := fun a => by simp [storeCells]
    have hle : len ≤ cap := by omega
    cases A with
    | none => simp [Builtin.append_, run_underlying Try.underlying31, sizeOf, typeInfo, hi, Builtin.lenOf, Builtin.firstCells, hle, hst]
    | some a =>
      have hl : (loadCells a 0).run Try.prog W = .ok #[] W := by simpa using run_loadCells_list (P := Try.prog) W a [] (by simp)
      simp [Builtin.append_, run_underlying Try.underlying31, sizeOf, typeInfo, hi, Builtin.lenOf, Builtin.firstCells, hle, hst, hl]

/-- append where there is room, in its two steps: what a region in a round wants. -/
theorem app_parts {W : World} {g o len cap b p : Nat} {cs : Array Value} {D : Nat → Nat → Prop} {m c : Nat} {zs : List Int} (hg : Blk W g 5 cs) (hfit : o + cap ≤ cs.size) (hroom : len + m ≤ cap) (hs : Src W D (some ⟨b, p, none⟩) m c zs) (h0 : 0 < m) :
    ∃ X W2, (loadCellsFrom ⟨b, p, none⟩ 0 m #[]).run Try.prog W = .ok X W ∧ (storeCells ⟨g, o + len, none⟩ X.toList).run Try.prog W = .ok () W2 ∧ Wrote W W2 g (o + len) cs zs := by
  obtain ⟨b', p', e, hb, hc⟩ := hs.at_ h0
  cases e
  have hl := hs.len
  refine ⟨(encB zs).toArray, _, ?_, ?_, wrote_set (p := o + len) (zs := zs) hg (by omega)⟩
  · have := run_loadCells_list (P := Try.prog) W ⟨b, p, none⟩ (encB zs) (fun j v hj => by
      rw [encB_get] at hj
      cases hz : zs[j]? with
      | none => rw [hz] at hj; cases hj
      | some z => rw [hz] at hj; cases hj; rw [add_plain]; exact (hc j z hz).2)
    rw [encB_length, hl] at this
    exact this
  · have := run_storeCells_cells (P := Try.prog) g (o + len) (encB zs) 0 W (fun j hj => by rw [encB_length] at hj; rw [Nat.add_zero, hg.cell, Array.getElem?_eq_getElem (show o + len + j < cs.size by omega)]; rfl) (fun j hj => hg.frozen _) (encB_one zs)
    simpa using this

/-- copy into a row of the same length. -/
theorem copy_row {W : World} {g n : Nat} {cs : Array Value} {D : Nat → Nat → Prop} {A : Option Addr} {c cap : Nat} {zs : List Int} (hg : Blk W g 5 cs) (hn : n = cs.size) (h0 : 0 < n) (hs : Src W D A n c zs) :
    ∃ W2, (∀ ty, (Builtin.copy_ #[31, 31] ty #[.slice (some ⟨g, 0, none⟩) n cap, .slice A n c]).run Try.prog W = .ok (.int .i64 (n : Int)) W2) ∧ Blk W2 g 5 (encB zs).toArray ∧ Kept (fun k => k = g) W W2 ∧ W2.heap.size = W.heap.size ∧ W2.drawn = W.drawn := by
  obtain ⟨b, o, rfl, hb, hc⟩ := hs.at_ h0
  have hl := hs.len
  refine ⟨W.setRow g (cs.toList.take 0 ++ encB zs ++ cs.toList.drop (0 + (encB zs).length)).toArray, fun ty => ?_, ?_, ⟨rfl, rfl, rfl, by simp [World.setRow], fun k _ hk => setRow_other W g k _ hk⟩, by simp [World.setRow], rfl⟩
  · have := run_copy_row (P := Try.prog) W 31 31 ty 5 g 0 n cap ⟨b, o, none⟩ n c cs 5 (encB zs) Try.underlying31 infoB1 hg (by rw [encB_length, hl]; exact (Nat.min_self n).symm) (fun j v hj => by
      rw [encB_get] at hj
      cases hz : zs[j]? with
      | none => rw [hz] at hj; cases hj
      | some z => rw [hz] at hj; cases hj; rw [add_plain]; exact (hc j z hz).2) (by rw [encB_length]; omega) (encB_one zs)
    rw [this]; simp [goInt, encB_length, hl]
  · unfold Blk
    rw [setRow_heap W g _ _ 5 _ hg]
    have : cs.toList.drop (0 + (encB zs).length) = [] := by rw [List.drop_of_length_le]; rw [encB_length, Array.length_toList]; omega
    rw [this]; simp

/-- append by its equation, inside a region that draws its order. -/
theorem step_app_eq {ops : Array Oper} {o : Oper} {a : Act} {w W2 : World} {K : Act → World → Prop} {Q : Exit → Act → World → Prop} {E : Prop} (hg : o.guard = none) (s x : Operand)
    (hop : o.op = Op.call { callee := Callee.builtin Builtin.append, args := #[s, x], argTypes := #[31, 31] }) (v u r : Value) (hs : a.eval s = v) (hx : a.eval x = u)
    (hrun : ∀ ty, (Builtin.append_ #[31, 31] ty #[v, u]).run Try.prog w = .ok r W2) (hK : K (a.put o.dst r) W2) :
    if Region.wanted o (yielded ops a.tmps) = true then Oper.wp Try.prog o a w K Q else E := by
  have hw : Region.wanted o (yielded ops a.tmps) = true := by simp [Region.wanted, hg]
  rw [if_pos hw]
  unfold Oper.wp
  simp [execOp, hop, resolve, invoke, builtin, hs, hx, hrun, Result.andThen]
  exact hK
/-- append by its equation. -/
theorem wpList_app_eq {ops : Array Oper} {rest : List Oper} {o : Oper} {a : Act} {w W2 : World} {Q : Exit → Act → World → Prop} (hg : o.guard = none) (s x : Operand)
    (hop : o.op = Op.call { callee := Callee.builtin Builtin.append, args := #[s, x], argTypes := #[31, 31] }) (v u r : Value) (hs : a.eval s = v) (hx : a.eval x = u)
    (hrun : ∀ ty, (Builtin.append_ #[31, 31] ty #[v, u]).run Try.prog w = .ok r W2) (h : wpList Try.prog ops Q rest (a.put o.dst r) W2) : wpList Try.prog ops Q (o :: rest) a w := by
  refine wpList_plain hg fun K hK => ?_
  unfold Oper.wp
  simp [execOp, hop, resolve, invoke, builtin, hs, hx, hrun, Result.andThen]
  exact hK _ _ h
end Go.Proofs.Ytkhkhjkacibocaa
