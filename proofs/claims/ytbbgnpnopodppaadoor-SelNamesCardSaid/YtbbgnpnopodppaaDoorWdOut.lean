/-
  What comes from outside: Put, Take, PeerShut; Ready; New.
-/
import Derived.Test.YtbbgnpnopodppaaDoorWdUse
namespace Go.Proofs.YtbbgnpnopodppaaDoor
open Go.RowKit Go.Maps Go.ChangeMaps
open Classical

def Wi.putO (x : Wi) (zs : List Int) : Int × Int × Wi :=
  if x.reset = true then (0, 115, x) else if (x.e true).shut = true ∨ x.noReader true = true then (0, 114, x) else (x.room false zs.length, 0, x.fill false zs)
def Wi.takeO (x : Wi) (m : Int) : List Int × Int × Wi :=
  if m < 0 then ([], 2, x) else if x.reset = true then ([], 115, x) else ((x.e true).bs.take m.toNat, 0, x.drain true m.toNat)

section
variable {w w' : World} {B : Nat} {L : Lay} {S : Ws}
/-- What Take answers. -/
def TakeOut (w : World) (B : Nat) (L : Lay) (S : Ws) (i : Nat) (r : List Int × Int × Wi) (e : Ending) (w' : World) : Prop := ∃ v, e = .returned (.tuple #[v, .int .i64 r.2.1]) ∧ RowB w' w.heap.size v r.1 ∧ Turned0 w B L S i r.2.2 w'
theorem Wi.stop_wait (x : Wi) (k : Bool) : (x.stop k).wait = x.wait := by
  unfold Wi.stop Wi.rdRise
  repeat' split
  all_goals rfl
set_option maxRecDepth 100000 in
theorem wReady_any (h : Wd w B L S) {n : Int} {i : Nat} {k : Bool} {x : Wi} (hf : S.fd n = some (i, k)) (hx : S.ws[i]? = some x) :
    Calls Tryd.prog 19 #[.pointer (some ⟨L.p, 0, none⟩), .int .i64 n] w fun e w' => e = .returned (rdyV (x.ready k)) ∧ Kept (fun _ => False) w w' := by
  have K0 := (Kept.refl (fun _ => False) w).alloc (.cells #[.bool false, .bool false, .bool false, .bool false, .bool false, .int .u64 0, .int .u64 0] 62)
  have hb := Blk.new w 62 #[.bool false, .bool false, .bool false, .bool false, .bool false, .int .u64 0, .int .u64 0]
  obtain ⟨W, hW⟩ : ∃ W, W = w.alloc (.cells #[.bool false, .bool false, .bool false, .bool false, .bool false, .int .u64 0, .int .u64 0] 62) := ⟨_, rfl⟩
  rw [← hW] at K0 hb
  have h1 : Wd W B L S := h.keeps K0 (fun _ _ e => e)
  have HF := Lib.hid (find_yes h1 hf)
  obtain ⟨A, c, e1, e2, e3, e4, e5⟩ := h1.wait i x hx
  have HR := Lib.hid (ready_any (h1.wire i x hx) k e1)
  have HB := Lib.hid (And.intro hb K0)
  obtain ⟨g, hg⟩ : ∃ g, g = w.heap.size := ⟨_, rfl⟩
  rw [← hg] at HB
  have HG := Lib.hid hg
  clear h h1 K0 hb e1 e2 e3 e4 e5 hx hf
  go_enter Tryd.func19, Tryd.ntmps19
  go_wp2_with fail
  rw [← hW, ← hg]
  clear hW hg
  go_wp2_with fail
  refine HF.out.mono ?_
  rintro e w1 ⟨rfl, rfl⟩
  go_wp2_with fail
  refine HR.out.mono ?_
  rintro e w2 ⟨rfl, k2⟩
  have hb2 : Blk w2 g 62 #[.bool false, .bool false, .bool false, .bool false, .bool false, .int .u64 0, .int .u64 0] := HB.out.1.same (k2.block g HB.out.1.lt (fun e => e))
  have hk2 := HB.out.2.trans k2
  have lg := hb2.lt
  have fg := fun j => hb2.frozen j
  have p0 := hb2.cell 0
  have p1 := hb2.cell 1
  have p2 := hb2.cell 2
  have p3 := hb2.cell 3
  have p4 := hb2.cell 4
  have p5 := hb2.cell 5
  have p6 := hb2.cell 6
  simp at p0 p1 p2 p3 p4 p5 p6
  obtain ⟨R, hR⟩ : ∃ R, R = x.ready k := ⟨_, rfl⟩
  have HR2 := Lib.hid hR
  rw [← hR]
  clear hR
  unfold rdyV
  have HQ := Lib.hid (And.intro hb2 hk2)
  clear hb2 hk2 k2
  go_wp2_with fail
  have hq := (((((((show Blk w2 g 62 #[.bool false, .bool false, .bool false, .bool false, .bool false, .int .u64 0, .int .u64 0] from HQ.out.1).set_ 0 (.bool R.isOpen)).set_ 1 (.bool R.rin)).set_ 2 (.bool R.out)).set_ 3 (.bool R.hup)).set_ 4 (.bool R.err)).set_ 5 (.int .u64 (R.rd : Int))).set_ 6 (.int .u64 (R.wr : Int))
  refine bodyPost_ret (results_cell_row rfl _ _ g _ #[.bool R.isOpen, .bool R.rin, .bool R.out, .bool R.hup, .bool R.err, .int .u64 (R.rd : Int), .int .u64 (R.wr : Int)] _ _ rfl hq rfl rfl rfl) rfl ?_
  refine ⟨by rw [← HR2.out]; rfl, ?_⟩
  have hle : w.heap.size ≤ g := Nat.le_of_eq HG.out.symm
  exact (((((((HQ.out.2.setCell_new (p := ⟨g, 0, none⟩) hle _).setCell_new (p := ⟨g, 1, none⟩) hle _).setCell_new (p := ⟨g, 2, none⟩) hle _).setCell_new (p := ⟨g, 3, none⟩) hle _).setCell_new (p := ⟨g, 4, none⟩) hle _).setCell_new (p := ⟨g, 5, none⟩) hle _).setCell_new (p := ⟨g, 6, none⟩) hle _)

/-- A new world's layout. -/
noncomputable def Lay.new (sb kb p : Nat) : Lay := ⟨p, kb, sb, .slice none 0 0, fun _ => 0, fun _ => .slice none 0 0, fun _ _ => 0, fun x => if x = p then some .top else if x = kb then some .kept else if x = sb then some .sig else none⟩
theorem Lay.new_own {sb kb p x : Nat} {t : Tg} (h : (Lay.new sb kb p).own x = some t) : (x = p ∧ t = .top) ∨ (x = kb ∧ t = .kept) ∨ (x = sb ∧ t = .sig) := by
  have h' : (if x = p then some Tg.top else if x = kb then some .kept else if x = sb then some .sig else none) = some t := h
  split at h'
  · cases h'; exact .inl ⟨by assumption, rfl⟩
  · split at h'
    · cases h'; exact .inr (.inl ⟨by assumption, rfl⟩)
    · split at h'
      · cases h'; exact .inr (.inr ⟨by assumption, rfl⟩)
      · cases h'
set_option maxRecDepth 100000 in
theorem cellsK_new (b : Nat) : cellsK 0 (.slice none 0 0) (fun _ => none) (.pointer (some ⟨b, 0, none⟩)) (.pointer none) = (#[.int .u64 0, .slice none 0 0, .pointer none, .pointer none, .pointer none, .pointer none, .pointer none, .pointer none, .pointer none, .pointer none, .pointer none, .pointer none, .pointer none, .pointer none, .pointer none, .pointer none, .pointer none, .pointer none, .pointer none, .pointer none, .pointer none, .pointer none, .pointer none, .pointer none, .pointer none, .pointer none, .pointer none, .pointer none, .pointer none, .pointer none, .pointer none, .pointer none, .pointer none, .pointer none, .pointer none, .pointer none, .pointer none, .pointer none, .pointer none, .pointer none, .pointer none, .pointer none, .pointer none, .pointer none, .pointer none, .pointer none, .pointer none, .pointer none, .pointer none, .pointer none, .pointer none, .pointer none, .pointer none, .pointer none, .pointer none, .pointer none, .pointer none, .pointer none, .pointer none, .pointer none, .pointer none, .pointer none, .pointer none, .pointer none, .pointer none, .pointer none, .pointer none, .pointer none, .pointer none, .pointer none, .pointer none, .pointer none, .pointer none, .pointer none, .pointer none, .pointer none, .pointer none, .pointer none, .pointer none, .pointer none, .pointer none, .pointer none, .pointer none, .pointer none, .pointer none, .pointer none, .pointer none, .pointer none, .pointer none, .pointer none, .pointer none, .pointer none, .pointer none, .pointer none, .pointer none, .pointer none, .pointer none, .pointer none, .pointer (some ⟨b, 0, none⟩), .pointer none] : Array Value) := by rfl
theorem Wd.fresh {w1 : World} {b : Nat} (ht : Tb w1 b T.new) (hB : B ≤ b) : Wd ((w1.alloc (.cells (cellsK 0 (.slice none 0 0) (fun _ => none) (.pointer (some ⟨b, 0, none⟩)) (.pointer none)) 47)).alloc (.cells #[.pointer (some ⟨w1.heap.size, 0, none⟩)] 50)) B (Lay.new b w1.heap.size (w1.heap.size + 1)) Ws.new := by
  have hlb := ht.lt
  have s1 : (w1.alloc (.cells (cellsK 0 (.slice none 0 0) (fun _ => none) (.pointer (some ⟨b, 0, none⟩)) (.pointer none)) 47)).heap.size = w1.heap.size + 1 := World.size_alloc _ _
  have hk := (Blk.new w1 47 (cellsK 0 (.slice none 0 0) (fun _ => none) (.pointer (some ⟨b, 0, none⟩)) (.pointer none))).alloc (.cells #[.pointer (some ⟨w1.heap.size, 0, none⟩)] 50)
  have hp := Blk.new (w1.alloc (.cells (cellsK 0 (.slice none 0 0) (fun _ => none) (.pointer (some ⟨b, 0, none⟩)) (.pointer none)) 47)) 50 #[.pointer (some ⟨w1.heap.size, 0, none⟩)]
  rw [s1] at hp
  refine ⟨hp, hk, (ht.alloc _).alloc _, RowK.own_nil _ _, fun i x hx => ?_, fun i x hx => ?_, if_pos rfl, ?_, ?_, fun b' hb' => ?_, fun i hi => ?_, fun x t hx => ?_, ?_, fun fd i k e => ?_, fun i k e => ?_, fun i x hx => ?_, fun x t i hx hi => ?_⟩
  · simp [Ws.new] at hx
  · simp [Ws.new] at hx
  · show (if w1.heap.size = w1.heap.size + 1 then _ else if w1.heap.size = w1.heap.size then _ else _) = _
    rw [if_neg (by omega), if_pos rfl]
  · show (if b = w1.heap.size + 1 then _ else if b = w1.heap.size then _ else if b = b then _ else _) = _
    rw [if_neg (by omega), if_neg (by omega), if_pos rfl]
  · cases hb'
  · simp [Ws.new] at hi
  · rw [World.size_alloc, s1]
    rcases Lay.new_own hx with ⟨rfl, _⟩ | ⟨rfl, _⟩ | ⟨rfl, _⟩ <;> omega
  · rw [World.size_alloc, s1]; omega
  · cases e
  · cases e
  · simp [Ws.new] at hx
  · rcases Lay.new_own hx with ⟨_, rfl⟩ | ⟨_, rfl⟩ | ⟨_, rfl⟩ <;> cases hi
set_option maxRecDepth 100000 in
theorem zero_kept (w : World) : (zeroValue 47).run Tryd.prog w = .ok (.agg #[.int .u64 0, .slice none 0 0, .pointer none, .pointer none, .pointer none, .pointer none, .pointer none, .pointer none, .pointer none, .pointer none, .pointer none, .pointer none, .pointer none, .pointer none, .pointer none, .pointer none, .pointer none, .pointer none, .pointer none, .pointer none, .pointer none, .pointer none, .pointer none, .pointer none, .pointer none, .pointer none, .pointer none, .pointer none, .pointer none, .pointer none, .pointer none, .pointer none, .pointer none, .pointer none, .pointer none, .pointer none, .pointer none, .pointer none, .pointer none, .pointer none, .pointer none, .pointer none, .pointer none, .pointer none, .pointer none, .pointer none, .pointer none, .pointer none, .pointer none, .pointer none, .pointer none, .pointer none, .pointer none, .pointer none, .pointer none, .pointer none, .pointer none, .pointer none, .pointer none, .pointer none, .pointer none, .pointer none, .pointer none, .pointer none, .pointer none, .pointer none, .pointer none, .pointer none, .pointer none, .pointer none, .pointer none, .pointer none, .pointer none, .pointer none, .pointer none, .pointer none, .pointer none, .pointer none, .pointer none, .pointer none, .pointer none, .pointer none, .pointer none, .pointer none, .pointer none, .pointer none, .pointer none, .pointer none, .pointer none, .pointer none, .pointer none, .pointer none, .pointer none, .pointer none, .pointer none, .pointer none, .pointer none, .pointer none, .pointer none, .pointer none]) w := by kernel_rfl
set_option maxRecDepth 100000 in
set_option maxHeartbeats 1000000 in
theorem wNew_any (w : World) (B : Nat) (hB : B ≤ w.heap.size) : Calls Tryd.prog 13 #[] w fun e w' => ∃ L, e = .returned (.pointer (some ⟨L.p, 0, none⟩)) ∧ Wd w' B L Ws.new ∧ Below w.heap.size w w' ∧ ∀ b, L.F b → w.heap.size ≤ b := by
  have HN := Lib.hid (new_any w)
  go_enter Tryd.func13, Tryd.ntmps13
  go_wp2_with fail
  refine HN.out.mono ?_
  rintro e w1 ⟨rfl, ht, k1⟩
  obtain ⟨b, hb⟩ : ∃ b, b = w.heap.size := ⟨_, rfl⟩
  rw [← hb] at ht ⊢
  have hkk := k1.size
  have hl := ht.lt
  have HE := Lib.hid (show ∃ L : Lay, L.p = w1.heap.size + 1 ∧ Wd ((w1.alloc (.cells (cellsK 0 (.slice none 0 0) (fun _ => none) (.pointer (some ⟨b, 0, none⟩)) (.pointer none)) 47)).alloc (.cells #[.pointer (some ⟨w1.heap.size, 0, none⟩)] 50)) B L Ws.new ∧ Below w.heap.size w ((w1.alloc (.cells (cellsK 0 (.slice none 0 0) (fun _ => none) (.pointer (some ⟨b, 0, none⟩)) (.pointer none)) 47)).alloc (.cells #[.pointer (some ⟨w1.heap.size, 0, none⟩)] 50)) ∧ ∀ x, L.F x → w.heap.size ≤ x from
    ⟨Lay.new b w1.heap.size (w1.heap.size + 1), rfl, Wd.fresh ht (by omega), ((k1.alloc _).alloc _).below (fun _ e => e.elim) (Nat.le_refl _), fun x ⟨t, hx⟩ => by
      rcases Lay.new_own hx with ⟨rfl, _⟩ | ⟨rfl, _⟩ | ⟨rfl, _⟩ <;> omega⟩)
  rw [cellsK_new] at HE
  clear ht k1 hb hkk
  have hzk := zero_kept w1
  go_wp2_with fail
  go_ret
  obtain ⟨L, e1, e2, e3, e4⟩ := HE.out
  exact ⟨L, (by rw [e1]; rfl), e2, e3, e4⟩
end
end Go.Proofs.YtbbgnpnopodppaaDoor
