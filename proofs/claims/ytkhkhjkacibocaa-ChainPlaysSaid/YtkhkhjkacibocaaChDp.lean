/-
  For ChainPlays: what lies between two rounds; a round's start, its end; the bytes of a call.
-/
import Derived.Test.YtkhkhjkacibocaaChDd
namespace Go.Proofs.Ytkhkhjkacibocaa
open Go.RowKit Go.Shelf Go.Maps Go.ChangeMaps

/-- Between two rounds. -/
def Du (w0 : World) (c d r s : Nat) (W : World) : Prop := ∃ L M A1 p1 A2 p2, Two W w0.heap.size c L d M ∧ Rf W (E0 c L d M r s) r A1 p1 (flat L) ∧ Rf W (E0 c L d M r s) s A2 p2 (flat M) ∧ (∀ i, ¬ F2 c L d M r i) ∧ (∀ i, ¬ F2 c L d M s i) ∧ s ≠ r ∧ w0.heap.size ≤ r ∧ w0.heap.size ≤ s ∧ Below w0.heap.size w0 W ∧ Byt (flat L) ∧ Byt (flat M)
/-- Behind the calls of a round. -/
def DT (w0 : World) (c d r s : Nat) (gv : Value) (gs : List Int) (bv : Value) (zs : List Int) (W : World) : Prop := ∃ L M A1 p1 A2 p2 X, Dt w0 c d r s L M A1 p1 (flat L) A2 p2 (flat M) X gv gs bv zs W
section
variable {w0 : World} {c d r s : Nat} {gv bv v : Value} {gs zs fl fm rs : List Int} {W W' W2 : World}
theorem Rf.weak {E E' : Nat → Nat → Prop} {rb cp : Nat} {A : Option Addr} {bs : List Int} (h : Rf W E rb A cp bs) (hE : ∀ k i, E' k i → E k i) (ho : ∀ i, E' rb i) : Rf W E' rb A cp bs := ⟨h.blk, h.src.weak fun j i _ e => hE j i e, fun k i e => h.lt k i (hE k i e), ho⟩
theorem E0.symm {L M : List Lk} {k i : Nat} (h : E0 d M c L s r k i) : E0 c L d M r s k i := by
  rcases h with (h | h) | h | h
  · exact .inl (.inr h)
  · exact .inl (.inl h)
  · exact .inr (.inr h)
  · exact .inr (.inl h)
theorem Du.symm (h : Du w0 c d r s W) : Du w0 d c s r W := by
  obtain ⟨L, M, A1, p1, A2, p2, h1, h2, h3, h4, h5, h6, h7, h8, h9, h10, h11⟩ := h
  exact ⟨M, L, A2, p2, A1, p1, h1.symm, h3.weak (fun _ _ => E0.symm) (fun _ => .inr (.inl rfl)), h2.weak (fun _ _ => E0.symm) (fun _ => .inr (.inr rfl)), fun i e => h5 i e.symm, fun i e => h4 i e.symm, h6.symm, h8, h7, h9, h11, h10⟩
theorem Du.quiet (h : Du w0 c d r s W) (k : Kept (fun _ => False) W W') : Du w0 c d r s W' := by
  obtain ⟨L, M, A1, p1, A2, p2, h1, h2, h3, h4, h5, h6, h7, h8, h9, h10, h11⟩ := h
  exact ⟨L, M, A1, p1, A2, p2, h1.kept k, h2.kept k, h3.kept k, h4, h5, h6, h7, h8, law_quiet h9 h1.cc.base k, h10, h11⟩
theorem DD.dt {κ : Kt} {rv : Value} (h : DD κ fl fm fl fm gv gs rv rs W) : DT κ.w0 κ.c κ.d κ.r κ.s gv gs κ.bv κ.zs W := by
  obtain ⟨L, ⟨M, A1, p1, A2, p2, X, h1, rfl⟩, rfl⟩ := h
  exact ⟨L, M, A1, p1, A2, p2, X, h1.dt⟩
theorem DT.du (h : DT w0 c d r s gv gs bv zs W) : Du w0 c d r s W := by
  obtain ⟨L, M, A1, p1, A2, p2, X, h⟩ := h
  exact ⟨L, M, A1, p1, A2, p2, h.two, h.r1.weak (fun _ _ => .inl) (fun _ => .inr (.inl rfl)), h.r2.weak (fun _ _ => .inl) (fun _ => .inr (.inr rfl)), h.nr, h.ns, h.ne, h.lo.1, h.lo.2.1, h.bel, h.by1, h.by2⟩
theorem OwB.form {B : Nat} (h : OwB W B v zs) : ∃ A cp, v = .slice A zs.length cp ∧ (0 < zs.length → ∃ g, A = some ⟨g, 0, none⟩) := by
  rcases h.2 with ⟨rfl, hn⟩ | ⟨g, cap, cur, rfl, _⟩
  · exact ⟨none, 0, by rw [hn], fun h => by omega⟩
  · exact ⟨_, _, rfl, fun _ => ⟨g, rfl⟩⟩
theorem OwB.at_ {B g n cp : Nat} (h : OwB W B (.slice (some ⟨g, 0, none⟩) n cp) zs) {i : Nat} (hi : i < zs.length) : ∃ z, W.cell? ⟨g, i, none⟩ = some (.int .u8 z) ∧ W.frozen? ⟨g, i, none⟩ = false ∧ g < W.heap.size := by
  obtain rfl : n = zs.length := by
    rcases h.2 with ⟨e, _⟩ | ⟨g', cap, cur, e, _⟩
    · cases e
    · injection e
  refine ⟨zs[i], ?_, World.ownsRow.frozenAt h i, (h.lt rfl).1⟩
  rw [World.ownsRow.cellAt h i (by omega), encB_get, List.getElem?_eq_getElem hi]; rfl
theorem DT.at_g {g n cp : Nat} (h : DT w0 c d r s (.slice (some ⟨g, 0, none⟩) n cp) gs bv zs W) {i : Nat} (hi : i < gs.length) : ∃ z, W.cell? ⟨g, i, none⟩ = some (.int .u8 z) ∧ W.frozen? ⟨g, i, none⟩ = false ∧ g < W.heap.size ∧ ∀ u, DT w0 c d r s (.slice (some ⟨g, 0, none⟩) n cp) (gs.set i u) bv zs (W.setCell ⟨g, i, none⟩ (.int .u8 u)) := by
  obtain ⟨L, M, A1, p1, A2, p2, X, h⟩ := h
  obtain ⟨B, hB⟩ := h.go
  obtain ⟨z, h1, h2, h3⟩ := hB.at_ hi
  exact ⟨z, h1, h2, h3, fun u => ⟨L, M, A1, p1, A2, p2, X, h.wr_g i u⟩⟩
theorem DT.at_b {g n cp : Nat} (h : DT w0 c d r s gv gs (.slice (some ⟨g, 0, none⟩) n cp) zs W) {i : Nat} (hi : i < zs.length) : ∃ z, W.cell? ⟨g, i, none⟩ = some (.int .u8 z) ∧ W.frozen? ⟨g, i, none⟩ = false ∧ g < W.heap.size ∧ ∀ u, DT w0 c d r s gv gs (.slice (some ⟨g, 0, none⟩) n cp) (zs.set i u) (W.setCell ⟨g, i, none⟩ (.int .u8 u)) := by
  obtain ⟨L, M, A1, p1, A2, p2, X, h⟩ := h
  obtain ⟨B, hB⟩ := h.bo
  obtain ⟨z, h1, h2, h3⟩ := hB.at_ hi
  exact ⟨z, h1, h2, h3, fun u => ⟨L, M, A1, p1, A2, p2, X, h.wr_b i u⟩⟩
theorem DD.form_g {κ : Kt} {xs ys : List Int} {rv : Value} (h : DD κ fl fm xs ys gv gs rv rs W) : ∃ A cp, gv = .slice A gs.length cp ∧ (0 < gs.length → ∃ g, A = some ⟨g, 0, none⟩) := by
  obtain ⟨L, ⟨M, A1, p1, A2, p2, X, h1, rfl⟩, rfl⟩ := h
  obtain ⟨B, hB⟩ := h1.go
  exact hB.form
/-- A round's start. -/
theorem Du.start (h : Du w0 c d r s W) (cs : Array Value) (k : Kept (fun _ => False) (W.alloc (.cells cs 36)) W2) (hv : OwB W2 (W.heap.size + 1) v zs) (hz : Byt zs) :
    ∃ f g, DD ⟨w0, c, d, r, s, W.heap.size, cs, v, zs⟩ f g f g (.slice none 0 0) [] (.slice none 0 0) [] W2 := by
  have hb : Blk (W.alloc (.cells cs 36)) W.heap.size 36 cs := Blk.new W _ _
  have kk := ((Kept.refl (fun _ => False) W).alloc (.cells cs 36)).trans k
  obtain ⟨L, M, A1, p1, A2, p2, h1, h2, h3, h4, h5, h6, h7, h8, h9, h10, h11⟩ := h
  have hE : ∀ j i, E0 c L d M r s j i → j < W.heap.size := h2.lt
  have hX : ∀ j, (j = W.heap.size ∨ v.ownBlock = some j) → W.heap.size ≤ j ∧ j < W2.heap.size := fun j e => by
    rcases e with e | e
    · have := (hb.kept k (fun e => e)).lt; omega
    · have := hv.lt e; omega
  have key : ∀ {A : Option Addr} {n cp : Nat} {qs : List Int}, Src W (E0 c L d M r s) A n cp qs → Src W2 (Ed c L d M r s fun j => j = W.heap.size ∨ v.ownBlock = some j) A n cp qs := fun S => (S.kept kk).more fun j i b o e h0 hj hd => by
    subst hj
    rcases hd with hd | hd
    · exact hd
    · obtain ⟨b', o', e3, hb3, _⟩ := S.at_ h0
      rw [e] at e3; cases e3
      have := (hX _ hd).1; omega
  have lt : ∀ j i, Ed c L d M r s (fun j => j = W.heap.size ∨ v.ownBlock = some j) j i → j < W2.heap.size := fun j i e => by
    rcases e with e | e
    · exact Nat.lt_of_lt_of_le (hE j i e) kk.size
    · exact (hX j e).2
  refine ⟨flat L, flat M, L, ⟨M, A1, p1, A2, p2, fun j => j = W.heap.size ∨ v.ownBlock = some j, ⟨h1.kept kk, ⟨h2.blk.kept kk (fun e => e), key h2.src, lt, fun _ => .inl (.inr (.inl rfl))⟩, ⟨h3.blk.kept kk (fun e => e), key h3.src, lt, fun _ => .inl (.inr (.inr rfl))⟩, h4, h5, h6, fun j i hj e => ?_, ⟨h7, h8, fun j hj => ?_⟩, law_quiet h9 h1.cc.base kk, .inl rfl, hb.kept k (fun e => e), fun j e => .inr e, ⟨_, hv⟩, (fun j e => by cases e), ⟨0, World.ownsRow_nil _ _ _ _⟩, (fun j e => by cases e), ⟨none, 0, 0, rfl, Src.nl _ _⟩, h10, h11, hz⟩, rfl⟩, rfl⟩
  · have := hE j i e; have := (hX j hj).1; omega
  · show w0.heap.size ≤ j
    have := (hX j hj).1; have := h1.cc.base; omega
end

theorem own_empty (w : World) (o : Obj) : OwB ((w.alloc o).alloc (.cells #[] 5)) w.heap.size (.slice (some ⟨w.heap.size + 1, 0, none⟩) 0 0) [] := by
  have h := World.ownsRow_lit (base := w.heap.size) (e := 5) (size := 1) (w.alloc o) #[] 0 (by simp) (by decide) rfl
  rw [World.size_alloc] at h
  exact h
theorem kept_app {w w' : World} {o1 o2 : Obj} (hg : ((w.alloc o1).alloc o2).grownBy w' (some (w.heap.size + 1))) : Kept (fun _ => False) w w' := (((Kept.refl _ w).alloc o1).alloc o2).grown hg fun k e hk => by
  injection e with e
  omega
theorem tmod_nat (k : Nat) : ∃ q : Nat, Int.tmod (k : Int) 1100000 = (q : Int) ∧ q < 1100000 := ⟨k % 1100000, (Int.ofNat_tmod k 1100000).symm, Nat.mod_lt _ (by omega)⟩
set_option maxRecDepth 100000 in
set_option maxHeartbeats 4000000 in
theorem bytes_any (w : World) {A : Option Addr} {n cp : Nat} {z : List Int} (kind which nn f : Int) (many : Nat) (hs : Src w No2 A n cp z) (hz : Byt z) (hn : n ≤ 3000) (hm : many ≤ 4294967295) :
    Calls Try.prog 28 #[.agg #[.int .i64 kind, .int .u8 which, .slice A n cp, .int .i64 nn, .int .i64 f, .int .u32 (many : Int)]] w fun e w' => ∃ v zs, e = .returned v ∧ OwB w' w.heap.size v zs ∧ Byt zs ∧ zs.length ≤ 1100000 ∧ Kept (fun _ => False) w w' := by
  have HS := Lib.hid (And.intro hs hz)
  have hzl := hs.len
  clear hs hz
  by_cases h0 : many = 0
  · subst h0
    go_enter Try.func28, Try.ntmps28
    go_wp2_with (at_builtin; refine app_src rfl _ _ rfl w.heap.size _ [] z rfl (own_empty w _) A cp rfl (HS.out.1.kept (((Kept.refl _ w).alloc _).alloc _)) (by simp; omega) (by simp; omega) ?_; intro v' w' ho hg; rw [List.nil_append] at ho; have HE := Lib.hid (And.intro ho (show Kept (fun _ => False) w w' from kept_app hg)); clear ho hg)
    go_ret
    exact ⟨_, z, rfl, HE.out.1, HS.out.2, by omega, HE.out.2⟩
  · obtain ⟨q, hq, hq2⟩ := tmod_nat many
    have b1 : (0 : Int) < (many : Int) := by omega
    have b2 : decide ((0 : Int) < (many : Int)) = true := by simpa using b1
    have b3 : 0 < many := by omega
    have e1 : IntKind.i64.wrap (many : Int) = (many : Int) := IntWalk.i64_in _ (by omega)
    have e2 : IntKind.i64.wrap (q : Int) = (q : Int) := IntWalk.i64_in _ (by omega)
    have hmk : ∀ U : World, (Instr.makeSlice 31 (.int .i64 (q : Int)) (.int .i64 (q : Int))).run Try.prog U = .ok (.slice (some ⟨U.heap.size, 0, none⟩) q q) (U.alloc (.cells (encB (List.replicate q 0)).toArray 5)) := make_run q q (Nat.le_refl _) (by omega)
    obtain ⟨Z, hZ⟩ : ∃ Z, Z = (encB (List.replicate q 0)).toArray := ⟨_, rfl⟩
    rw [← hZ] at hmk
    have HZ := Lib.hid hZ
    clear hZ h0
    go_enter Try.func28, Try.ntmps28
    go_wp2_with fail
    have HE := Lib.hid (show OwB ((w.alloc (.cells #[.int .i64 kind, .int .u8 which, .slice A n cp, .int .i64 nn, .int .i64 f, .int .u32 (many : Int)] 36)).alloc (.cells Z 5)) w.heap.size (.slice (some ⟨w.heap.size + 1, 0, none⟩) q q) (List.replicate q 0) from by
      have h := World.ownsRow_lit (base := w.heap.size) (e := 5) (size := 1) (w.alloc (.cells #[.int .i64 kind, .int .u8 which, .slice A n cp, .int .i64 nn, .int .i64 f, .int .u32 (many : Int)] 36)) Z q (by simp) (by unfold maxLen; omega) (by rw [HZ.out]; simp [encB_length])
      rw [World.size_alloc] at h
      unfold OwB
      rw [List.length_replicate]
      have e : encB (List.replicate q 0) = Z.toList := by rw [HZ.out]
      rw [e]; exact h)
    go_ret
    exact ⟨_, _, rfl, HE.out, fun z hz => by have := List.eq_of_mem_replicate hz; omega, by rw [List.length_replicate]; omega, ((Kept.refl _ w).alloc _).alloc _⟩
end Go.Proofs.Ytkhkhjkacibocaa
