/-
  The row of what waits at a wire is another one.
-/
import Derived.Test.YtbbgnpnopodppaaDoorWdNil
namespace Go.Proofs.YtbbgnpnopodppaaDoor
open Go.RowKit Go.Shelf Go.Maps Go.ChangeMaps

noncomputable def Lay.setWt (L : Lay) (i : Nat) (v : Value) : Lay := { L with wt := fun j => if j = i then v else L.wt j, own := fun b => if v.ownBlock = some b then some (.wait i) else L.own b }
section
variable {W W' : World} {B : Nat} {L : Lay} {S : Ws}
theorem Wd.setWait (h : Wd W B L S) {i : Nat} {x y : Wi} (hx : S.ws[i]? = some x) {v : Value} (hk : Kept (fun b => b = L.wa i ∨ L.own b = some (.wait i)) W W')
    (hb : Wb W' (L.wa i) i (L.rr i) v y) (hr : x.sameR y) {A : Option Addr} {c : Nat} (ev : v = .slice A y.wait.length c) (h1 : y.wait.length ≤ c) (h2 : RP.roomy W' A c) (h3 : RP.shows W' A (y.wait.map L.wa))
    (ho : ∀ b, v.ownBlock = some b → (L.own b = some (.wait i) ∨ W.heap.size ≤ b) ∧ b < W'.heap.size) (hw : ∀ j ∈ y.wait, j < S.ws.length) :
    ∃ L', Wd W' B L' (S.setW i y) ∧ L'.p = L.p ∧ L'.kb = L.kb ∧ L'.wa = L.wa ∧ L'.wt i = v ∧ Mv W W' L.F L'.F := by
  have hi : i < S.ws.length := (List.getElem?_eq_some_iff.1 hx).1
  have hgw := h.owire i hi
  have hsz := hk.size
  have hsl : (S.setW i y).ws.length = S.ws.length := by simp [Ws.setW]
  have hne : ∀ b t, L.own b = some t → t ≠ .wait i → (L.setWt i v).own b = some t := fun b t hb' ht => by
    have hn : v.ownBlock ≠ some b := fun e => by
      rcases (ho b e).1 with h5 | h5
      · rw [h5] at hb'; cases hb'; exact ht rfl
      · have := (h.lt b t hb').2; omega
    exact (if_neg hn).trans hb'
  have hin : ∀ b t, (L.setWt i v).own b = some t → (t = .wait i ∧ v.ownBlock = some b) ∨ L.own b = some t := fun b t hb' => by
    have hb2 : (if v.ownBlock = some b then some (Tg.wait i) else L.own b) = some t := hb'
    split at hb2
    · cases hb2; exact .inl ⟨rfl, by assumption⟩
    · exact .inr hb2
  have hout : ∀ b t, L.own b = some t → t ≠ .wait i → t ≠ .wire i → W'.heap[b]? = W.heap[b]? := fun b t hb' h5 h6 => hk.block b (h.lt b t hb').2 (by
    rintro (rfl | e)
    · rw [hgw] at hb'; cases hb'; exact h6 rfl
    · rw [e] at hb'; cases hb'; exact h5 rfl)
  have hG : ∀ j k b, L.G j k b ↔ (L.setWt i v).G j k b := fun j k b => by
    constructor
    · intro hb'; exact hne b _ hb' (fun e => by cases e)
    · intro hb'
      rcases hin b _ hb' with ⟨e, _⟩ | e
      · cases e
      · exact e
  refine ⟨L.setWt i v, ⟨h.top.same (hout _ _ h.otop (fun e => by cases e) (fun e => by cases e)), h.kept.same (hout _ _ h.okept (fun e => by cases e) (fun e => by cases e)), h.sig.same (hout _ _ h.osig (fun e => by cases e) (fun e => by cases e)), ?row, ?wire, ?wait, hne _ _ h.otop (fun e => by cases e), hne _ _ h.okept (fun e => by cases e), hne _ _ h.osig (fun e => by cases e), fun b hb' => hne _ _ (h.orow b hb') (fun e => by cases e), ?owire, ?lt, Nat.le_trans h.hs hsz, ?fdok, ?ntok, ?wtok, ?oi⟩, rfl, rfl, rfl, if_pos rfl, ?mv⟩
  case row =>
    rw [hsl]
    exact RowK.own_same h.row (fun k hk' => hout _ _ (h.orow k hk') (fun e => by cases e) (fun e => by cases e))
  case wire =>
    intro j z hz
    rcases Ws.setW_get hz with ⟨rfl, rfl⟩ | ⟨hj, hz'⟩
    · have hwr := h.wire i x hx
      have hc : Wr W' B (L.wa i) i (L.rr i) (L.G i) v z := ⟨hb, hwr.hB, Nat.le_trans h.hs hsz, fun k hc => by
        obtain ⟨g1, g2, g3⟩ := hr.2 k
        obtain ⟨out, hg⟩ := hwr.ring k (g1 ▸ hc)
        rw [hr.1, g2, g3]
        exact ⟨out, hg.same (fun b hb' => hout b _ hb' (fun e => by cases e) (fun e => by cases e)) (Nat.le_trans h.hs hsz)⟩, fun k hc => hwr.nor k ((hr.2 k).1 ▸ hc), hwr.sep, hwr.own⟩
      have hv : (L.setWt i v).wt i = v := if_pos rfl
      rw [hv]
      exact hc.congr (fun k b => hG i k b)
    · have hv : (L.setWt i v).wt j = L.wt j := if_neg (fun e => hj e.symm)
      rw [hv]
      exact ((h.wire j z hz').same (fun b hb' => by
        rcases hb' with rfl | ⟨k, hk'⟩
        · exact hout _ _ (h.owire j (List.getElem?_eq_some_iff.1 hz').1) (fun e => by cases e) (fun e => hj (by cases e; rfl))
        · exact hout b _ hk' (fun e => by cases e) (fun e => by cases e)) (Nat.le_trans h.hs hsz)).congr (fun k b => hG j k b)
  case wait =>
    intro j z hz
    rcases Ws.setW_get hz with ⟨rfl, rfl⟩ | ⟨hj, hz'⟩
    · refine ⟨A, c, (if_pos rfl).trans ev, h1, h2, h3, fun a ha => ?_⟩
      subst ha
      show (if v.ownBlock = some a.block then some (Tg.wait i) else L.own a.block) = _
      rw [if_pos (by rw [ev]; rfl)]
    · obtain ⟨A', c', g1, g2, g3, g4, g5⟩ := (h.wait j z hz').same (fun b hb' => hout b _ hb' (fun e => hj (by cases e; rfl)) (fun e => by cases e)) hsz
      exact ⟨A', c', (if_neg (fun e => hj e.symm)).trans g1, g2, g3, g4, fun a ha => hne _ _ (g5 a ha) (fun e => hj (by cases e; rfl))⟩
  case owire =>
    intro j hj
    rw [hsl] at hj
    exact hne _ _ (h.owire j hj) (fun e => by cases e)
  case lt =>
    intro b t hb'
    rcases hin b t hb' with ⟨_, e⟩ | e
    · obtain ⟨h5, h6⟩ := ho b e
      refine ⟨?_, h6⟩
      rcases h5 with h5 | h5
      · exact (h.lt b _ h5).1
      · exact Nat.le_trans h.hs h5
    · exact ⟨(h.lt b t e).1, Nat.lt_of_lt_of_le (h.lt b t e).2 hsz⟩
  case fdok => intro fd j k hf; rw [hsl]; exact h.fdok fd j k hf
  case ntok => intro j k hf; rw [hsl]; exact h.ntok j k hf
  case wtok =>
    intro j z hz a ha
    rw [hsl]
    rcases Ws.setW_get hz with ⟨rfl, rfl⟩ | ⟨_, hz'⟩
    · exact hw a ha
    · exact h.wtok j z hz' a ha
  case oi =>
    intro b t j hb' hj
    rw [hsl]
    rcases hin b t hb' with ⟨rfl, _⟩ | e
    · cases hj; exact hi
    · exact h.oi b t j e hj
  case mv =>
    refine ⟨hk.mono fun b _ hb' => ?_, ?_⟩
    · rcases hb' with rfl | e
      · exact ⟨_, hgw⟩
      · exact ⟨_, e⟩
    · rintro b ⟨t, ht⟩
      rcases hin b t ht with ⟨_, e⟩ | e
      · rcases (ho b e).1 with h5 | h5
        · exact .inl ⟨_, h5⟩
        · exact .inr h5
      · exact .inl ⟨_, e⟩
end
end Go.Proofs.YtbbgnpnopodppaaDoor
