/-
  CommonPlays: the set and the reference's set beside each other, and what the law has laid.
-/
import Derived.Test.YtncdohbdmpfefaaCoRefAdd
namespace Go.Proofs.Ytncdohbdmpfefaa
open Go.RowKit Go.Maps Go.ChangeMaps Go.Shelf Go.Sort

/-- Both sets have the same. -/
def P2 (w : World) (s r : Nat) (T : List Int) (L : List En) (nx : Int) (W : World) (F : List Fb) : Prop := St (SetQ w.heap.size s L T nx) (RefQ w.heap.size r L T nx) w W F
section
variable {w W W' : World} {s r : Nat} {T : List Int} {L : List En} {nx : Int} {F : List Fb}
theorem P2.bel (H : P2 w s r T L nx W F) : Below w.heap.size w W := St.bel H
theorem P2.inv (H : P2 w s r T L nx W F) : CInv L T nx := St.set_inv H
theorem P2.box (H : P2 w s r T L nx W F) (cs : Array Value) (t : TypeId) : P2 w s r T L nx (W.alloc (.cells cs t)) (.blk W.heap.size t cs :: F) := St.box H (setQ_stable _ _ _ _ _) (refQ_stable _ _ _ _ _) cs t
theorem P2.drewN (H : P2 w s r T L nx W F) (n : Nat) : P2 w s r T L nx (W.drewN n) F := St.drewN H (setQ_stable _ _ _ _ _) (refQ_stable _ _ _ _ _) n
theorem P2.drew (H : P2 w s r T L nx W F) : P2 w s r T L nx W.drew F := St.drew H (setQ_stable _ _ _ _ _) (refQ_stable _ _ _ _ _)
theorem P2.quiet (H : P2 w s r T L nx W F) (hb : Below W.heap.size W W') : P2 w s r T L nx W' F := St.quiet H (setQ_stable _ _ _ _ _) (refQ_stable _ _ _ _ _) hb
theorem P2.less {G : List Fb} (H : P2 w s r T L nx W F) (h : ∀ f ∈ G, f ∈ F) : P2 w s r T L nx W G := St.less H h
theorem P2.blk (H : P2 w s r T L nx W F) {g : Nat} {t : TypeId} {cs : Array Value} (h : Fb.blk g t cs ∈ F) : Blk W g t cs := St.fact H h
theorem P2.row (H : P2 w s r T L nx W F) {A : Option Addr} {n c : Nat} {P : List It} (h : Fb.row (.slice A n c) P ∈ F) : Rd W A P := OwnI.rd (St.fact H h : Fb.holds W (.row (.slice A n c) P))
theorem pl_start (H : S1 w s [] [] 0 W F) : P2 w s W.heap.size [] [] 0 (W.alloc (.cells #[.slice none 0 0, .slice none 0 0, .slice none 0 0, .int .u64 0] 31)) F := by
  obtain ⟨O1, O2, h1, rr⟩ := St.swap H
  have hz := rr.bel.size
  have R : RS (W.alloc (.cells #[.slice none 0 0, .slice none 0 0, .slice none 0 0, .int .u64 0] 31)) w.heap.size W.heap.size (.slice none 0 0) (.slice none 0 0) (.slice none 0 0) (xs []) (qs [] []) [] 0 :=
    ⟨Blk.new _ _ _, RowK.own_nil _ _, RowK.own_nil _ _, RowK.own_nil _ _, (fun e => by cases e), (fun e => by cases e), (fun e => by cases e), (fun k e => by cases e), (fun k e => by cases e), (fun k e => by cases e), hz⟩
  have q : RefQ w.heap.size W.heap.size [] [] 0 (W.alloc (.cells #[.slice none 0 0, .slice none 0 0, .slice none 0 0, .int .u64 0] 31)) (RO W.heap.size (.slice none 0 0) (.slice none 0 0) (.slice none 0 0)) := ⟨_, _, _, R, fun i => Iff.rfl⟩
  refine St.swap (rr.turn (setQ_stable _ _ _ _ _) q ⟨(Kept.refl _ W).alloc _, fun i hi => ?_⟩ (fun i hi => (q.lt hi).1))
  rcases hi with hi | hi | hi | hi
  · exact .inr (by omega)
  · cases hi
  · cases hi
  · cases hi

/-! The program's calls. -/
theorem pl_add (H : P2 w s r T L nx W F) {id now after : Int} (hid : I id) (hnow : U now) (haf : U after) (h1 : nx < 1000000) (hl : L.length < 500) :
    Calls Try.prog 10 #[.pointer (some ⟨s, 0, none⟩), .int .i64 id, .int .u64 now, .int .u64 after] W fun e W' => e = .returned (.int .i64 (addE id)) ∧ St (SetQ w.heap.size s (addT L T nx id now after) T (addN nx id)) (RefQ w.heap.size r L T nx) w W' F :=
  st_add (refQ_stable _ _ _ _ _) H hid hnow haf h1 hl
theorem pl_radd {s' : Nat} {L' : List En} {T' : List Int} {nx' : Int} (hI : CInv L T nx) (H : St (SetQ w.heap.size s' L' T' nx') (RefQ w.heap.size r L T nx) w W F) {id now after : Int} (hid : I id) (hnow : U now) (haf : U after) (h1 : nx < 1000000) (hl : L.length < 500) :
    Calls Try.prog 11 #[.pointer (some ⟨r, 0, none⟩), .int .i64 id, .int .u64 now, .int .u64 after] W fun e W' => e = .returned (.int .i64 (addE id)) ∧ St (SetQ w.heap.size s' L' T' nx') (RefQ w.heap.size r (addT L T nx id now after) T (addN nx id)) w W' F := by
  obtain ⟨O1, O2, q1, rr⟩ := St.swap H
  refine (radd_any q1 hI hid hnow haf h1 hl).mono ?_
  rintro e W' ⟨rfl, O', q', m'⟩
  exact ⟨rfl, St.swap (rr.turn (setQ_stable _ _ _ _ _) q' m' (fun i hi => (q'.lt hi).1))⟩
theorem pl_cut (H : P2 w s r T L nx W F) {j : Int} (hj : I j) : Calls Try.prog 12 #[.pointer (some ⟨s, 0, none⟩), .int .i64 j] W fun e W' => e = .returned (.bool (hasI L j)) ∧ St (SetQ w.heap.size s (cutL j L) T nx) (RefQ w.heap.size r L T nx) w W' F := st_cut (refQ_stable _ _ _ _ _) H hj
theorem pl_rcut {s' : Nat} {L' : List En} {T' : List Int} {nx' : Int} (hI : CInv L T nx) (H : St (SetQ w.heap.size s' L' T' nx') (RefQ w.heap.size r L T nx) w W F) (j : Int) :
    Calls Try.prog 13 #[.pointer (some ⟨r, 0, none⟩), .int .i64 j] W fun e W' => e = .returned (.bool (hasI L j)) ∧ St (SetQ w.heap.size s' L' T' nx') (RefQ w.heap.size r (cutL j L) T nx) w W' F := by
  obtain ⟨O1, O2, q1, rr⟩ := St.swap H
  refine (rcut_any q1 hI.ids (by have := hI.len; omega) j).mono ?_
  rintro e W' ⟨rfl, O', q', m'⟩
  exact ⟨rfl, St.swap (rr.turn (setQ_stable _ _ _ _ _) q' m' (fun i hi => (q'.lt hi).1))⟩
theorem pl_common (H : P2 w s r T L nx W F) {t : Int} (ht : U t) : Calls Try.prog 17 #[.pointer (some ⟨s, 0, none⟩), .int .u64 t] W fun e W' => e = .returned (.int .i64 (comE T t)) ∧ St (SetQ w.heap.size s L (comT T t) nx) (RefQ w.heap.size r L T nx) w W' F := st_common (refQ_stable _ _ _ _ _) H ht
theorem pl_rmake {s' : Nat} {L' : List En} {T' : List Int} {nx' : Int} (hI : CInv L T nx) (H : St (SetQ w.heap.size s' L' T' nx') (RefQ w.heap.size r L T nx) w W F) {t : Int} (ht : U t) :
    Calls Try.prog 18 #[.pointer (some ⟨r, 0, none⟩), .int .u64 t] W fun e W' => e = .returned (.int .i64 (comE T t)) ∧ St (SetQ w.heap.size s' L' T' nx') (RefQ w.heap.size r L (comT T t) nx) w W' F := by
  obtain ⟨O1, O2, q1, rr⟩ := St.swap H
  refine (rmake_any q1 hI.t32 hI.qin ht).mono ?_
  rintro e W' ⟨rfl, O', q', m'⟩
  exact ⟨rfl, St.swap (rr.turn (setQ_stable _ _ _ _ _) q' m' (fun i hi => (q'.lt hi).1))⟩
theorem pl_due (H : P2 w s r T L nx W F) {now : Int} (hnow : U now) {D : List It} (hd : D = dueD now (xs L)) {n : Nat} (hn : n = D.length) :
    Calls Try.prog 14 #[.pointer (some ⟨s, 0, none⟩), .int .u64 now] W fun e W' => ∃ A c, e = .returned (.slice A n c) ∧ St (SetQ w.heap.size s (cutAll D L) T nx) (RefQ w.heap.size r L T nx) w W' (.row (.slice A n c) D :: F) := by
  subst hn; subst hd
  exact st_due (refQ_stable _ _ _ _ _) H hnow
theorem pl_rdue {s' : Nat} {L' : List En} {T' : List Int} {nx' : Int} (hI : CInv L T nx) (H : St (SetQ w.heap.size s' L' T' nx') (RefQ w.heap.size r L T nx) w W F) (now : Int) {D : List It} (hd : D = dueD now (xs L)) {n : Nat} (hn : n = D.length) :
    Calls Try.prog 16 #[.pointer (some ⟨r, 0, none⟩), .int .u64 now] W fun e W' => ∃ A c, e = .returned (.slice A n c) ∧ St (SetQ w.heap.size s' L' T' nx') (RefQ w.heap.size r (cutAll D L) T nx) w W' (.row (.slice A n c) D :: F) := by
  subst hn; subst hd
  obtain ⟨O1, O2, q1, rr⟩ := St.swap H
  refine (rdue_any q1 hI now).mono ?_
  rintro e W' ⟨v, O', rfl, hv, q', ha, m'⟩
  have hv' : OwnI W' W.heap.size v (dueD now (xs L)) := hv
  obtain ⟨A, c, rfl, -, -⟩ := hv'.read
  exact ⟨A, c, rfl, St.swap (rr.turnRow (setQ_stable _ _ _ _ _) hv' q' m' (fun i hi => (q'.lt hi).1) ha)⟩
theorem pl_rall (H : P2 w s r T L nx W F) {D : List It} (hd : D = ord (xs L)) {n : Nat} (hn : n = D.length) :
    Calls Try.prog 19 #[.pointer (some ⟨r, 0, none⟩)] W fun e W' => ∃ A c, e = .returned (.slice A n c) ∧ P2 w s r T L nx W' (.row (.slice A n c) D :: F) := by
  subst hn; subst hd
  obtain ⟨O1, O2, q1, rr⟩ := St.swap H
  refine (rall_any q1 H.inv).mono ?_
  rintro e W' ⟨v, rfl, hv, hb⟩
  have hv' : OwnI W' W.heap.size v (ord (xs L)) := hv
  obtain ⟨A, c, rfl, -, -⟩ := hv'.read
  exact ⟨A, c, rfl, St.plus H (setQ_stable _ _ _ _ _) (refQ_stable _ _ _ _ _) hb (.row _ _) (OwnI.more hv' (Nat.zero_le _)) (fun k hk => (own_lt3 hv' hk).2.1)⟩
theorem pl_all (H : P2 w s r T L nx W F) {D : List It} (hd : D = ord (xs L)) {n : Nat} (hn : n = D.length) :
    Calls Try.prog 23 #[.pointer (some ⟨s, 0, none⟩)] W fun e W' => ∃ A c, e = .returned (.slice A n c) ∧ P2 w s r T L nx W' (.row (.slice A n c) D :: F) := by
  subst hn; subst hd
  exact st_all (refQ_stable _ _ _ _ _) H
theorem pl_find (H : P2 w s r T L nx W F) {j : Int} (hj : I j) {y : It} (hy : y = getI L j) {b : Bool} (hb : b = hasI L j) : Calls Try.prog 20 #[.pointer (some ⟨s, 0, none⟩), .int .i64 j] W fun e W' => e = .returned (.tuple #[.agg #[.int .i64 y.id, .int .u64 y.d, .int .u64 y.n], .bool b]) ∧ P2 w s r T L nx W' F := by
  subst hy; subst hb
  exact st_find (refQ_stable _ _ _ _ _) H hj
theorem pl_top (H : P2 w s r T L nx W F) {y : It} {b : Bool} (h : (y, b) = topI (ord (xs L))) : Calls Try.prog 21 #[.pointer (some ⟨s, 0, none⟩)] W fun e W' => e = .returned (.tuple #[.agg #[.int .i64 y.id, .int .u64 y.d, .int .u64 y.n], .bool b]) ∧ P2 w s r T L nx W' F := by
  have := st_top (refQ_stable _ _ _ _ _) H
  rw [← h] at this
  exact this
theorem pl_len (H : P2 w s r T L nx W F) {n : Nat} (hn : n = L.length) : Calls Try.prog 22 #[.pointer (some ⟨s, 0, none⟩)] W fun e W' => e = .returned (.int .i64 (n : Int)) ∧ W = W' := by
  subst hn; exact st_len H
theorem pl_heap (H : P2 w s r T L nx W F) {n : Nat} (hn : n = (heads L T).length) : Calls Try.prog 24 #[.pointer (some ⟨s, 0, none⟩)] W fun e W' => e = .returned (.int .i64 (n : Int)) ∧ W = W' := by
  subst hn; exact st_heap H
theorem pl_rheap (H : P2 w s r T L nx W F) {n : Nat} (hn : n = (heads L T).length) : Calls Try.prog 25 #[.pointer (some ⟨r, 0, none⟩)] W fun e W' => e = .returned (.int .i64 (n : Int)) ∧ P2 w s r T L nx W' F := by
  subst hn
  obtain ⟨O1, O2, q1, rr⟩ := St.swap H
  obtain ⟨vl, vq, vc, R, ho⟩ := q1
  refine (rheap_rs R H.inv.ts H.inv.qin (by have := H.inv.len; omega)).mono ?_
  rintro e W' ⟨rfl, j, rfl⟩
  exact ⟨rfl, H.drewN j⟩
theorem pl_same {Q1 Q2 : World → (Nat → Prop) → Prop} (h1' : Stable Q1) (h2' : Stable Q2) (H : St Q1 Q2 w W F) {A1 A2 : Option Addr} {c1 c2 n : Nat} {D : List It} (h1 : Fb.row (.slice A1 n c1) D ∈ F) (h2 : Fb.row (.slice A2 n c2) D ∈ F) (hn : n = D.length) (hl : n ≤ 100000) :
    Calls Try.prog 15 #[.slice A1 n c1, .slice A2 n c2] W fun e W' => e = .returned (.bool true) ∧ St Q1 Q2 w W' F := by
  have r1 := OwnI.rd (St.fact H h1 : Fb.holds W (.row (.slice A1 n c1) D))
  have r2 := OwnI.rd (St.fact H h2 : Fb.holds W (.row (.slice A2 n c2) D))
  subst hn
  refine (same_yes W A1 A2 c1 c2 D hl r1 r2).mono ?_
  rintro e W' ⟨rfl, j, rfl⟩
  exact ⟨rfl, St.drewN H h1' h2' j⟩
/-- A block of the law's own is laid anew. -/
theorem P2.store (H : P2 w s r T L nx W F) {g : Nat} {t : TypeId} {cs cs' : Array Value} (hg : Fb.blk g t cs ∈ F) (k : Kept (fun i => i = g) W W') (hb : Blk W' g t cs') {G : List Fb} (hG : ∀ f ∈ G, f ∈ F ∧ ¬ f.uses g) : P2 w s r T L nx W' (.blk g t cs' :: G) := by
  obtain ⟨O1, O2, h1, h2, h3, h4, h5, h6⟩ := H
  obtain ⟨ha, hu⟩ := h6 _ hg
  obtain ⟨n1, n2, lo⟩ := hu g rfl
  have hz := k.size
  refine ⟨O1, O2, setQ_stable _ _ _ _ _ _ _ _ h1 (fun i e => k.block i (h4 i (.inl e)).2 (fun e2 => n1 (e2 ▸ e))) hz, refQ_stable _ _ _ _ _ _ _ _ h2 (fun i e => k.block i (h4 i (.inr e)).2 (fun e2 => n2 (e2 ▸ e))) hz, h3, fun i e => ⟨(h4 i e).1, Nat.lt_of_lt_of_le (h4 i e).2 hz⟩, h5.trans (k.below (fun i e => e ▸ lo) h5.size), fun f hf => ?_⟩
  rcases List.mem_cons.1 hf with rfl | hf
  · exact ⟨hb, fun i hi => by have e : i = g := hi; subst e; exact ⟨n1, n2, lo⟩⟩
  · obtain ⟨f1, f2⟩ := hG f hf
    exact ⟨Fb.same (h6 f f1).1 fun i hi => k.block i (Fb.lt (h6 f f1).1 hi) (fun e => f2 (e ▸ hi)), (h6 f f1).2⟩
end
end Go.Proofs.Ytncdohbdmpfefaa
