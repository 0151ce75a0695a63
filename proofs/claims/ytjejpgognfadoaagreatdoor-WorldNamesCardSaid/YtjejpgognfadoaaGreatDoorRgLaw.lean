/-
  For the laws over rings: results as strings, constants as bytes, calls at closed numbers.
-/
import Derived.Test.YtjejpgognfadoaaGreatDoorRgOps
import Derived.Laws.BytesArg
import Derived.Lib.SlBytesConst
namespace Go.Proofs.YtjejpgognfadoaaGreatDoor
open Go.RowKit Go.Shelf Go.Maps Go.ChangeMaps

section
variable {w w' : World} {B r cap inn out : Nat} {F F' : Nat → Prop} {bs xs : List Int} {v : Value}
theorem RowB.mv (h : RowB w B v xs) (ha : ∀ k, v.ownBlock = some k → ¬ F k) (m : Mv w w' F F') : RowB w' B v xs ∧ ∀ k, v.ownBlock = some k → ¬ F' k :=
  ⟨h.same fun k e => m.k.block k (h.lt e).1 (ha k e), fun k e hf => by
    rcases m.o k hf with h2 | h2
    · exact ha k e h2
    · have := (h.lt e).1; omega⟩
theorem RowB.kept {G : Nat → Prop} (h : RowB w B v xs) (k : Kept G w w') (ha : ∀ i, v.ownBlock = some i → ¬ G i) : RowB w' B v xs := h.same fun i e => k.block i (h.lt e).1 (ha i e)
theorem RowB.fresh {w0 : World} (h : RowB w w0.heap.size v xs) (hr : Rg w0 B r F cap bs inn out) : ∀ k, v.ownBlock = some k → ¬ F k := fun k e hf => by
  have := (h.lt e).2; have := (hr.lt hf).1; omega
theorem rowB_str (h : RowB w B v xs) : (convert 29 9 v).run Tryz.prog w = .ok (.string (strOfNums xs)) w := by
  rcases h with ⟨rfl, rfl⟩ | ⟨g, rfl, _, hg⟩
  · exact run_convert_bytes_nil w 29 5 Tryz.underlying29 Tryz.underlying5 0 0 9 Tryz.underlying9
  · refine run_convert_bytes_arg w 29 5 Tryz.underlying29 Tryz.underlying5 g 0 xs.length xs.length xs rfl (fun i hi => ?_) 9 Tryz.underlying9
    have hb : Blk w g 5 (encB xs).toArray := hg
    rw [Nat.zero_add, hb.cell]
    simp [encB, List.getElem?_eq_getElem hi, List.getD]
theorem RowB.src (h : RowB w B v xs) (ha : ∀ k, v.ownBlock = some k → ¬ F k) (hl : xs.length ≤ 9223372036854775807) : Src w F v xs := by
  rcases h with ⟨rfl, rfl⟩ | ⟨g, rfl, _, hg⟩
  · exact ⟨none, 0, rfl, Nat.le_refl _, by omega, fun h => by simp at h⟩
  · refine ⟨_, _, rfl, Nat.le_refl _, hl, fun _ => ⟨g, 0, rfl, (Array.getElem?_eq_some_iff.1 hg).1, ha g rfl, fun i z hz => ?_⟩⟩
    have hb : Blk w g 5 (encB xs).toArray := hg
    rw [Nat.zero_add, hb.cell]
    simp [encB, hz]
theorem src_const (w : World) (hF : ∀ k, F k → k < w.heap.size) (zs : List Int) (mk : Nat × Nat) (hl : zs.length ≤ 9223372036854775807) : Src (w.alloc (.cells (encB zs).toArray 5 mk)) F (.slice (some ⟨w.heap.size, 0, none⟩) zs.length zs.length) zs :=
  ⟨_, _, rfl, Nat.le_refl _, hl, fun _ => ⟨w.heap.size, 0, rfl, by simp, fun hf => by have := hF _ hf; omega, fun i z hz => by
    have hb : (w.alloc (.cells (encB zs).toArray 5 mk)).heap[w.heap.size]? = some (.cells (encB zs).toArray 5 mk) := World.alloc_heap_new w _
    rw [Nat.zero_add, cell_of_row _ _ _ _ _ _ hb]
    simp [encB, hz]⟩⟩
theorem put_num (h : Rg w B r F cap bs inn out) (v : Value) (zs : List Int) (hs : Src w F v zs) (hin : inn + min zs.length (cap - bs.length) ≤ 1000000000) {z : Int} {bs' : List Int} {inn' : Nat} (hz : ((min zs.length (cap - bs.length) : Nat) : Int) = z)
    (hb : bs ++ zs.take (min zs.length (cap - bs.length)) = bs') (hi : inn + min zs.length (cap - bs.length) = inn') : Calls Tryz.prog 67 #[.pointer (some ⟨r, 0, none⟩), v] w fun e w' =>
    e = .returned (.int .i64 z) ∧ ∃ F', Rg w' B r F' cap bs' inn' out ∧ Mv w w' F F' := by
  subst hz; subst hb; subst hi; exact put_any h v zs hs hin
theorem take_num (h : Rg w B r F cap bs inn out) (n : Int) (hn : -9223372036854775808 ≤ n ∧ n ≤ 9223372036854775807) {xs bs' : List Int} {out' : Nat} (h1 : bs.take n.toNat = xs) (h2 : bs.drop n.toNat = bs') (h3 : out + xs.length = out') : Calls Tryz.prog 71 #[.pointer (some ⟨r, 0, none⟩), .int .i64 n] w fun e w' =>
    ∃ v, e = .returned v ∧ RowB w' w.heap.size v xs ∧ Rg w' B r F cap bs' inn out' ∧ Kept F w w' := by
  subst h1; subst h2; subst h3; exact take_any h n hn
theorem look_num (h : Rg w B r F cap bs inn out) (n : Int) (hn : -9223372036854775808 ≤ n ∧ n ≤ 9223372036854775807) {xs : List Int} (h1 : bs.take n.toNat = xs) : Calls Tryz.prog 84 #[.pointer (some ⟨r, 0, none⟩), .int .i64 n] w fun e w' =>
    ∃ v, e = .returned v ∧ RowB w' w.heap.size v xs ∧ Kept (fun _ => False) w w' := by
  subst h1; exact look_any h n hn
end

/-- The block of a constant's bytes. -/
abbrev conB (zs : List Int) : Obj := .cells (encB zs).toArray 5 (zs.length, zs.length + 1)

section
variable {w w1 w2 : World} {B r cap inn out : Nat} {F F' : Nat → Prop} {bs xs : List Int} {v : Value}
theorem put_const (h : Rg w1 B r F cap bs inn out) (zs : List Int) (hl : zs.length ≤ 9223372036854775807) (hin : inn + min zs.length (cap - bs.length) ≤ 1000000000) {z : Int} {bs' : List Int} {inn' : Nat} (hz : ((min zs.length (cap - bs.length) : Nat) : Int) = z)
    (hb : bs ++ zs.take (min zs.length (cap - bs.length)) = bs') (hi : inn + min zs.length (cap - bs.length) = inn') : Calls Tryz.prog 67 #[.pointer (some ⟨r, 0, none⟩), .slice (some ⟨w1.heap.size, 0, none⟩) zs.length zs.length] (w1.alloc (conB zs)) fun e w' =>
    e = .returned (.int .i64 z) ∧ ∃ F', Rg w' B r F' cap bs' inn' out ∧ Mv w1 w' F F' := by
  refine (put_num (h.alloc (conB zs)) _ zs (src_const w1 (fun k e => (h.lt e).1) zs (zs.length, zs.length + 1) hl) hin hz hb hi).mono ?_
  rintro e w' ⟨rfl, F', h1, h2⟩
  exact ⟨rfl, F', h1, (Mv.of_kept ((Kept.refl _ w1).alloc _)).trans h2⟩
theorem law_step (h : Rg w1 B r F cap bs inn out) (hb : Below B w w1) (m : Mv w1 w2 F F') : Below B w w2 := hb.trans (m.below (fun _ e => (h.lt e).2) h.base)
theorem law_keep (h : Rg w1 B r F cap bs inn out) (hb : Below B w w1) (m : Kept F w1 w2) : Below B w w2 := hb.trans (m.below (fun _ e => (h.lt e).2) h.base)
theorem law_quiet {G : Nat → Prop} (hb : Below B w w1) (hB : B ≤ w1.heap.size) (m : Kept G w1 w2) (hG : ∀ k, ¬ G k) : Below B w w2 := hb.trans (m.below (fun k e => (hG k e).elim) hB)
end

end Go.Proofs.YtjejpgognfadoaaGreatDoor
