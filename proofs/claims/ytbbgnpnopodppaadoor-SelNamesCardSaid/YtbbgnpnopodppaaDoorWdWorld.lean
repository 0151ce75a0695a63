/-
  A world in memory, whole: who owns which block.
-/
import Derived.Test.YtbbgnpnopodppaaDoorSeBase
import Derived.Test.YtbbgnpnopodppaaDoorWdFree
namespace Go.Proofs.YtbbgnpnopodppaaDoor
open Go.RowKit Go.Maps Go.ChangeMaps
open Classical

/-- Rows of pointers to wires. -/
def RP : RowK Tryd.prog Nat where
  e := 51
  s := 43
  n := 1
  bytes := 8
  zero := .pointer none
  enc := fun g => [.pointer (some ⟨g, 0, none⟩)]
  pos := by decide
  by_ := by decide
  len := fun _ => rfl
  one := fun x u hu => by
    simp at hu
    subst hu; rfl
  und := Tryd.underlying43
  info := by kernel_rfl
  zs := by decide

/-- Whose a block is. -/
inductive Tg where
  | top | kept | sig | row
  | wire (i : Nat)
  | wait (i : Nat)
  | ring (i : Nat) (k : Bool)
def Tg.idx : Tg → Option Nat
  | .wire i => some i
  | .wait i => some i
  | .ring i _ => some i
  | _ => none
/-- Where a world lies. -/
structure Lay where
  p : Nat
  kb : Nat
  sb : Nat
  wv : Value
  wa : Nat → Nat
  wt : Nat → Value
  rr : Nat → Bool → Nat
  own : Nat → Option Tg
def Lay.F (L : Lay) (b : Nat) : Prop := ∃ t, L.own b = some t
def Lay.G (L : Lay) (i : Nat) (k : Bool) (b : Nat) : Prop := L.own b = some (.ring i k)
def Lay.at_ (L : Lay) (q : Option (Nat × Bool)) : Option Addr := q.map fun y => ⟨L.wa y.1, off y.2, none⟩
/-- The layout has gone on: what it had stands where it stood. -/
structure Lay.ext (L L' : Lay) (n : Nat) : Prop where
  p : L'.p = L.p
  kb : L'.kb = L.kb
  sb : L'.sb = L.sb
  wa : ∀ i, i < n → L'.wa i = L.wa i
  wt : ∀ i, i < n → L'.wt i = L.wt i
theorem Lay.ext.refl (L : Lay) (n : Nat) : L.ext L n := ⟨rfl, rfl, rfl, fun _ _ => rfl, fun _ _ => rfl⟩
theorem Lay.ext.trans {L L' L'' : Lay} {n m : Nat} (h : L.ext L' n) (k : L'.ext L'' m) (hm : n ≤ m) : L.ext L'' n := ⟨k.p.trans h.p, k.kb.trans h.kb, k.sb.trans h.sb, fun i hi => (k.wa i (Nat.lt_of_lt_of_le hi hm)).trans (h.wa i hi), fun i hi => (k.wt i (Nat.lt_of_lt_of_le hi hm)).trans (h.wt i hi)⟩
/-- What waits at a wire. -/
def Waits (W : World) (L : Lay) (i : Nat) (ws : List Nat) : Prop := ∃ A c, L.wt i = .slice A ws.length c ∧ ws.length ≤ c ∧ RP.roomy W A c ∧ RP.shows W A (ws.map L.wa) ∧ ∀ a, A = some a → L.own a.block = some (.wait i)

structure Wd (W : World) (B : Nat) (L : Lay) (S : Ws) : Prop where
  top : Blk W L.p 50 #[.pointer (some ⟨L.kb, 0, none⟩)]
  kept : Kb W L.kb S.now L.wv (fun fd => L.at_ (S.fds fd)) (.pointer (some ⟨L.sb, 0, none⟩)) (.pointer (L.at_ S.nt))
  sig : Tb W L.sb S.sg
  row : RP.own W B L.wv ((List.range S.ws.length).map L.wa)
  wire : ∀ (i : Nat) (x : Wi), S.ws[i]? = some x → Wr W B (L.wa i) i (L.rr i) (L.G i) (L.wt i) x
  wait : ∀ (i : Nat) (x : Wi), S.ws[i]? = some x → Waits W L i x.wait
  otop : L.own L.p = some .top
  okept : L.own L.kb = some .kept
  osig : L.own L.sb = some .sig
  orow : ∀ b, L.wv.ownBlock = some b → L.own b = some .row
  owire : ∀ i, i < S.ws.length → L.own (L.wa i) = some (.wire i)
  lt : ∀ b t, L.own b = some t → B ≤ b ∧ b < W.heap.size
  hs : B ≤ W.heap.size
  fdok : ∀ fd i k, S.fds fd = some (i, k) → i < S.ws.length
  ntok : ∀ i k, S.nt = some (i, k) → i < S.ws.length
  wtok : ∀ (i : Nat) (x : Wi), S.ws[i]? = some x → ∀ j ∈ x.wait, j < S.ws.length
  oi : ∀ b t i, L.own b = some t → t.idx = some i → i < S.ws.length

section
variable {W W' : World} {B : Nat} {L L' : Lay} {S : Ws}
theorem Lay.F_of {L : Lay} {b : Nat} {t : Tg} (h : L.own b = some t) : L.F b := ⟨t, h⟩
theorem Waits.same {i : Nat} {ws : List Nat} (h : Waits W L i ws) (e : ∀ b, L.own b = some (.wait i) → W'.heap[b]? = W.heap[b]?) (hs : W.heap.size ≤ W'.heap.size) : Waits W' L i ws := by
  obtain ⟨A, c, h1, h2, h3, h4, h5⟩ := h
  have q : ∀ g, A.map (·.block) = some g → W'.heap[g]? = W.heap[g]? := fun g hg => by
    cases A with
    | none => cases hg
    | some a => cases hg; exact e _ (h5 a rfl)
  exact ⟨A, c, h1, h2, RowK.roomy_same h3 q, RowK.shows_same h4 q hs, h5⟩
theorem Wd.same (h : Wd W B L S) (e : ∀ b, L.F b → W'.heap[b]? = W.heap[b]?) (hs : W.heap.size ≤ W'.heap.size) : Wd W' B L S :=
  ⟨h.top.same (e _ ⟨_, h.otop⟩), h.kept.same (e _ ⟨_, h.okept⟩), h.sig.same (e _ ⟨_, h.osig⟩), RowK.own_same h.row (fun k hk => e k ⟨_, h.orow k hk⟩),
   fun i x hx => (h.wire i x hx).same (fun b hb => e b (by
     rcases hb with rfl | ⟨k, hk⟩
     · exact ⟨_, h.owire i (List.getElem?_eq_some_iff.1 hx).1⟩
     · exact ⟨_, hk⟩)) (Nat.le_trans h.hs hs),
   fun i x hx => (h.wait i x hx).same (fun b hb => e b ⟨_, hb⟩) hs,
   h.otop, h.okept, h.osig, h.orow, h.owire, fun b t hb => ⟨(h.lt b t hb).1, Nat.lt_of_lt_of_le (h.lt b t hb).2 hs⟩, Nat.le_trans h.hs hs, h.fdok, h.ntok, h.wtok, h.oi⟩
theorem Wd.ltF (h : Wd W B L S) {b : Nat} (hb : L.F b) : b < W.heap.size ∧ B ≤ b := by obtain ⟨t, ht⟩ := hb; exact ⟨(h.lt b t ht).2, (h.lt b t ht).1⟩
theorem Wd.keeps {G : Nat → Prop} (h : Wd W B L S) (q : Kept G W W') (hf : ∀ b, L.F b → ¬ G b) : Wd W' B L S := h.same (fun b hb => q.block b (h.ltF hb).1 (hf b hb)) q.size
theorem Wd.below (h : Wd W B L S) (hb : Below W.heap.size W W') : Wd W' B L S := h.same (fun b hb' => hb.block b (h.ltF hb').1) hb.size
theorem Wd.drewN (h : Wd W B L S) (q : Nat) : Wd (W.drewN q) B L S := h.same (fun _ _ => rfl) (Nat.le_refl _)
theorem Wr.congr {g n : Nat} {r : Bool → Nat} {F F' : Bool → Nat → Prop} {v : Value} {x : Wi} (h : Wr W B g n r F v x) (e : ∀ k b, F k b ↔ F' k b) : Wr W B g n r F' v x := by
  have : F = F' := by funext k b; exact propext (e k b)
  subst this; exact h

/-- Whose a block is, once a wire's rings have moved. -/
noncomputable def Lay.ownR (L : Lay) (i : Nat) (F' : Bool → Nat → Prop) (b : Nat) : Option Tg :=
  if F' false b then some (.ring i false) else if F' true b then some (.ring i true) else if L.G i false b ∨ L.G i true b then none else L.own b
noncomputable def Lay.setR (L : Lay) (i : Nat) (F' : Bool → Nat → Prop) : Lay := { L with own := L.ownR i F' }

/-- Of one wire the block and the rings turned. -/
theorem Wd.wire1 (h : Wd W B L S) {i : Nat} {x y : Wi} (hx : S.ws[i]? = some x) {F' : Bool → Nat → Prop} (hw : Wr W' B (L.wa i) i (L.rr i) F' (L.wt i) y) (m : Mv W W' (FW (L.wa i) (L.G i)) (FW (L.wa i) F')) (hwt : y.wait = x.wait) :
    ∃ L', Wd W' B L' (S.setW i y) ∧ L.ext L' S.ws.length ∧ Mv W W' L.F L'.F ∧ ∀ b, L'.F b → L.F b ∨ FW (L.wa i) F' b := by
  have hi : i < S.ws.length := (List.getElem?_eq_some_iff.1 hx).1
  have hgw := h.owire i hi
  have hsz := m.k.size
  -- a block of the new rings was theirs, or is new
  have hF : ∀ k b, F' k b → (L.G i false b ∨ L.G i true b) ∨ W.heap.size ≤ b := fun k b hb => by
    rcases m.o b (.inr ⟨k, hb⟩) with (rfl | ⟨k', hk⟩) | h1
    · exact absurd hb (hw.own k)
    · cases k' with
      | false => exact .inl (.inl hk)
      | true => exact .inl (.inr hk)
    · exact .inr h1
  have hne : ∀ b t, L.own b = some t → (∀ k, t ≠ .ring i k) → L.ownR i F' b = some t := fun b t hb ht => by
    have hn : ¬ (L.G i false b ∨ L.G i true b) := by
      rintro (e | e)
      · exact ht false (Option.some.inj (hb.symm.trans e))
      · exact ht true (Option.some.inj (hb.symm.trans e))
    have hk : ∀ k, ¬ F' k b := fun k e => by
      rcases hF k b e with h1 | h1
      · exact hn h1
      · have := (h.lt b t hb).2; omega
    unfold Lay.ownR
    rw [if_neg (hk false), if_neg (hk true), if_neg hn]
    exact hb
  have hin : ∀ b t, L.ownR i F' b = some t → (∃ k, t = .ring i k ∧ F' k b) ∨ (L.own b = some t ∧ ∀ k, t ≠ .ring i k) := fun b t hb => by
    unfold Lay.ownR at hb
    split at hb
    · cases hb; exact .inl ⟨false, rfl, by assumption⟩
    · split at hb
      · cases hb; exact .inl ⟨true, rfl, by assumption⟩
      · split at hb
        · cases hb
        · rename_i hn
          refine .inr ⟨hb, fun k e => hn ?_⟩
          subst e
          cases k with
          | false => exact .inl hb
          | true => exact .inr hb
  have hri : ∀ k b, F' k b ↔ (L.setR i F').G i k b := fun k b => by
    constructor
    · intro hb
      show L.ownR i F' b = some (.ring i k)
      unfold Lay.ownR
      cases k with
      | false => rw [if_pos hb]
      | true => rw [if_neg (fun e => hw.sep false b e hb), if_pos hb]
    · intro hb
      rcases hin b _ hb with ⟨k', e, hk⟩ | ⟨_, e⟩
      · cases e; exact hk
      · exact absurd rfl (e k)
  have hrj : ∀ j k b, j ≠ i → (L.G j k b ↔ (L.setR i F').G j k b) := fun j k b hj => by
    constructor
    · intro hb
      exact hne b _ hb (fun k' e => hj (by cases e; rfl))
    · intro hb
      rcases hin b _ hb with ⟨k', e, _⟩ | ⟨e, _⟩
      · cases e; exact absurd rfl hj
      · exact e
  have hout : ∀ b t, L.own b = some t → (∀ k, t ≠ .ring i k) → t ≠ .wire i → W'.heap[b]? = W.heap[b]? := fun b t hb h1 h2 => m.k.block b (h.lt b t hb).2 (by
    rintro (rfl | ⟨k, hk⟩)
    · rw [hgw] at hb; cases hb; exact h2 rfl
    · have e : some (Tg.ring i k) = some t := (show L.own b = some (.ring i k) from hk).symm.trans hb
      cases e; exact h1 k rfl)
  refine ⟨L.setR i F', ⟨h.top.same (hout _ _ h.otop (fun k e => by cases e) (fun e => by cases e)), h.kept.same (hout _ _ h.okept (fun k e => by cases e) (fun e => by cases e)), h.sig.same (hout _ _ h.osig (fun k e => by cases e) (fun e => by cases e)), ?_, ?_, ?_, hne _ _ h.otop (fun k e => by cases e), hne _ _ h.okept (fun k e => by cases e), hne _ _ h.osig (fun k e => by cases e), fun b hb => hne _ _ (h.orow b hb) (fun k e => by cases e), ?_, ?_, Nat.le_trans h.hs hsz, ?_, ?_, ?_, ?_⟩, ⟨rfl, rfl, rfl, fun _ _ => rfl, fun _ _ => rfl⟩, ⟨?_, ?_⟩, ?_⟩
  · have e : (S.setW i y).ws.length = S.ws.length := by unfold Ws.setW; simp
    rw [e]
    exact RowK.own_same h.row fun k hk => hout _ _ (h.orow k hk) (fun k e => by cases e) (fun e => by cases e)
  · intro j z hz
    rcases Ws.setW_get hz with ⟨rfl, rfl⟩ | ⟨hne', hz'⟩
    · exact hw.congr hri
    · have hj := h.owire j (List.getElem?_eq_some_iff.1 hz').1
      refine ((h.wire j z hz').same (fun b hb => ?_) (Nat.le_trans h.hs hsz)).congr (fun k b => hrj j k b (fun e => hne' e.symm))
      rcases hb with rfl | ⟨k, hk⟩
      · exact hout _ _ hj (fun k e => by cases e) (fun e => hne' (by cases e; rfl))
      · exact hout _ _ hk (fun k' e => hne' (by cases e; rfl)) (fun e => by cases e)
  · intro j z hz
    have hold : Waits W L j z.wait := by
      rcases Ws.setW_get hz with ⟨rfl, rfl⟩ | ⟨_, hz'⟩
      · rw [hwt]; exact h.wait _ _ hx
      · exact h.wait j z hz'
    obtain ⟨A, c, e1, e2, e3, e4, e5⟩ := hold
    have q : ∀ g, A.map (·.block) = some g → W'.heap[g]? = W.heap[g]? := fun g hg => by
      cases A with
      | none => cases hg
      | some a => cases hg; exact hout _ _ (e5 a rfl) (fun k e => by cases e) (fun e => by cases e)
    exact ⟨A, c, e1, e2, RowK.roomy_same e3 q, RowK.shows_same e4 q hsz, fun a ha => hne _ _ (e5 a ha) (fun k e => by cases e)⟩
  · intro j hj
    have hj' : j < S.ws.length := by unfold Ws.setW at hj; simpa using hj
    exact hne _ _ (h.owire j hj') (fun k e => by cases e)
  · intro b t hb
    rcases hin b t hb with ⟨k, rfl, hk⟩ | ⟨hb', _⟩
    · have := hw.lt (.inr ⟨k, hk⟩); exact ⟨this.2, this.1⟩
    · exact ⟨(h.lt b t hb').1, Nat.lt_of_lt_of_le (h.lt b t hb').2 hsz⟩
  · intro fd j k hf
    have := h.fdok fd j k hf
    unfold Ws.setW; simpa using this
  · intro j k hf
    have := h.ntok j k hf
    unfold Ws.setW; simpa using this
  · intro j z hz a ha
    have e : (S.setW i y).ws.length = S.ws.length := by unfold Ws.setW; simp
    rw [e]
    rcases Ws.setW_get hz with ⟨rfl, rfl⟩ | ⟨_, hz'⟩
    · rw [hwt] at ha; exact h.wtok _ _ hx a ha
    · exact h.wtok j z hz' a ha
  · intro b t j hb hj
    have e : (S.setW i y).ws.length = S.ws.length := by unfold Ws.setW; simp
    rw [e]
    rcases hin b t hb with ⟨k, rfl, _⟩ | ⟨hb', _⟩
    · cases hj; exact hi
    · exact h.oi b t j hb' hj
  · refine m.k.mono fun b _ hb => ?_
    rcases hb with rfl | ⟨k, hk⟩
    · exact ⟨_, hgw⟩
    · exact ⟨_, hk⟩
  · rintro b ⟨t, ht⟩
    rcases hin b t ht with ⟨k, rfl, hk⟩ | ⟨hb', _⟩
    · rcases hF k b hk with (h1 | h1) | h1
      · exact .inl ⟨_, h1⟩
      · exact .inl ⟨_, h1⟩
      · exact .inr h1
    · exact .inl ⟨_, hb'⟩
  · rintro b ⟨t, ht⟩
    rcases hin b t ht with ⟨k, rfl, hk⟩ | ⟨hb', _⟩
    · exact .inr (.inr ⟨k, hk⟩)
    · exact .inl ⟨_, hb'⟩
end
end Go.Proofs.YtbbgnpnopodppaaDoor
