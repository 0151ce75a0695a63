/-
  A world with one wire more.
-/
import Derived.Test.YtbbgnpnopodppaaDoorWdWorld
import Derived.Test.YtbbgnpnopodppaaDoorSeBase
namespace Go.Proofs.YtbbgnpnopodppaaDoor
open Go.RowKit Go.Maps Go.ChangeMaps
open Classical

def Ws.addW (s : Ws) (x : Wi) : Ws := { s with ws := s.ws ++ [x] }
theorem Ws.addW_len (s : Ws) (x : Wi) : (s.addW x).ws.length = s.ws.length + 1 := by simp [Ws.addW]
theorem Ws.addW_get {s : Ws} {x y : Wi} {i : Nat} (h : (s.addW x).ws[i]? = some y) : (i = s.ws.length ∧ y = x) ∨ (i < s.ws.length ∧ s.ws[i]? = some y) := by
  unfold Ws.addW at h
  simp only [List.getElem?_append] at h
  split at h
  · exact .inr ⟨by assumption, h⟩
  · have h1 := (List.getElem?_eq_some_iff.1 h).1
    simp at h1
    have h2 : i = s.ws.length := by omega
    subst h2
    simp at h
    exact .inl ⟨rfl, h.symm⟩
theorem Ws.addW_last (s : Ws) (x : Wi) : (s.addW x).ws[s.ws.length]? = some x := by simp [Ws.addW]
theorem Ws.addW_old {s : Ws} {x y : Wi} {i : Nat} (h : s.ws[i]? = some y) : (s.addW x).ws[i]? = some y := by
  have := (List.getElem?_eq_some_iff.1 h).1
  simp [Ws.addW, List.getElem?_append_left this, h]
theorem Ws.le_addW {s : Ws} {x : Wi} {N : Nat} (h : s.le N) (hx : x.le N) : (s.addW x).le N := fun i y hy => by
  rcases Ws.addW_get hy with ⟨_, rfl⟩ | ⟨_, hy⟩
  · exact hx
  · exact h i y hy

noncomputable def Lay.ownA (L : Lay) (n g : Nat) (F : Bool → Nat → Prop) (v : Value) (b : Nat) : Option Tg :=
  if b = g then some (.wire n) else if F false b then some (.ring n false) else if F true b then some (.ring n true) else if v.ownBlock = some b then some .row else if L.wv.ownBlock = some b then none else L.own b
noncomputable def Lay.add (L : Lay) (n g : Nat) (r : Bool → Nat) (F : Bool → Nat → Prop) (v : Value) : Lay :=
  { L with wv := v, wa := fun i => if i = n then g else L.wa i, wt := fun i => if i = n then .slice none 0 0 else L.wt i, rr := fun i => if i = n then r else L.rr i, own := L.ownA n g F v }

section
variable {W W' : World} {B : Nat} {L : Lay} {S : Ws}
theorem Wd.addWire (h : Wd W B L S) {g : Nat} {r : Bool → Nat} {F : Bool → Nat → Prop} {v : Value} {x : Wi} (hk : Kept (fun b => b = L.kb ∨ L.wv.ownBlock = some b) W W')
    (hkept : Kb W' L.kb S.now v (fun fd => L.at_ (S.fds fd)) (.pointer (some ⟨L.sb, 0, none⟩)) (.pointer (L.at_ S.nt))) (hrow : RP.own W' B v ((List.range S.ws.length).map L.wa ++ [g]))
    (hro : ∀ b, v.ownBlock = some b → L.wv.ownBlock = some b ∨ W.heap.size ≤ b) (hwr : Wr W' W.heap.size g S.ws.length r F (.slice none 0 0) x) (hrF : ∀ b, v.ownBlock = some b → ¬ FW g F b) (hx : x.wait = []) :
    ∃ L', Wd W' B L' (S.addW x) ∧ L.ext L' S.ws.length ∧ L'.wa S.ws.length = g ∧ Mv W W' L.F L'.F ∧ L'.wt S.ws.length = .slice none 0 0 := by
  have hwo := h.wtok
  obtain ⟨n, hn⟩ : ∃ n, n = S.ws.length := ⟨_, rfl⟩
  rw [← hn] at hwr ⊢
  have hsz := hk.size
  have hFb : ∀ b, FW g F b → W.heap.size ≤ b := fun b hb => (hwr.lt hb).2
  -- what was somebody's, and not the row's, is still theirs
  have hne : ∀ b t, L.own b = some t → t ≠ .row → L.ownA n g F v b = some t := fun b t hb ht => by
    have hl := (h.lt b t hb).2
    have h1 : ¬ b = g := fun e => by have := hFb b (.inl e); omega
    have h2 : ∀ k, ¬ F k b := fun k e => by have := hFb b (.inr ⟨k, e⟩); omega
    have h3 : ¬ L.wv.ownBlock = some b := fun e => by have := h.orow b e; rw [hb] at this; cases this; exact ht rfl
    have h4 : ¬ v.ownBlock = some b := fun e => by
      rcases hro b e with h5 | h5
      · exact h3 h5
      · omega
    unfold Lay.ownA
    rw [if_neg h1, if_neg (h2 false), if_neg (h2 true), if_neg h4, if_neg h3]
    exact hb
  have hin : ∀ b t, L.ownA n g F v b = some t → (b = g ∧ t = .wire n) ∨ (∃ k, F k b ∧ t = .ring n k) ∨ (v.ownBlock = some b ∧ t = .row) ∨ (L.own b = some t ∧ ¬ L.wv.ownBlock = some b) := fun b t hb => by
    unfold Lay.ownA at hb
    split at hb
    · cases hb; exact .inl ⟨by assumption, rfl⟩
    · split at hb
      · cases hb; exact .inr (.inl ⟨false, by assumption, rfl⟩)
      · split at hb
        · cases hb; exact .inr (.inl ⟨true, by assumption, rfl⟩)
        · split at hb
          · cases hb; exact .inr (.inr (.inl ⟨by assumption, rfl⟩))
          · split at hb
            · cases hb
            · exact .inr (.inr (.inr ⟨hb, by assumption⟩))
  have hog : L.ownA n g F v g = some (.wire n) := by unfold Lay.ownA; rw [if_pos rfl]
  have horow : ∀ b, v.ownBlock = some b → L.ownA n g F v b = some .row := fun b hb => by
    have h0 := hrF b hb
    unfold Lay.ownA
    rw [if_neg (fun e => h0 (.inl e)), if_neg (fun e => h0 (.inr ⟨_, e⟩)), if_neg (fun e => h0 (.inr ⟨_, e⟩)), if_pos hb]
  have hring : ∀ k b, F k b ↔ (L.add n g r F v).G n k b := fun k b => by
    constructor
    · intro hb
      have h1 : ¬ b = g := fun e => hwr.own k (e ▸ hb)
      show L.ownA n g F v b = _
      unfold Lay.ownA
      rw [if_neg h1]
      cases k with
      | false => rw [if_pos hb]
      | true => rw [if_neg (fun e => hwr.sep false b e hb), if_pos hb]
    · intro hb
      rcases hin b _ hb with ⟨_, e⟩ | ⟨k', hk', e⟩ | ⟨_, e⟩ | ⟨e, _⟩
      · cases e
      · cases e; exact hk'
      · cases e
      · have := h.oi b _ n e rfl; omega
  have hold : ∀ b t, L.own b = some t → t ≠ .row → t ≠ .kept → W'.heap[b]? = W.heap[b]? := fun b t hb h1 h2 => hk.block b (h.lt b t hb).2 (by
    rintro (rfl | e)
    · rw [h.okept] at hb; cases hb; exact h2 rfl
    · have := h.orow b e
      rw [this] at hb; cases hb; exact h1 rfl)
  have hat : ∀ q : Option (Nat × Bool), (∀ i k, q = some (i, k) → i < n) → (L.add n g r F v).at_ q = L.at_ q := fun q hq => by
    cases q with
    | none => rfl
    | some y =>
      have := hq y.1 y.2 rfl
      show some (Addr.mk (if y.1 = n then g else L.wa y.1) _ _) = some (Addr.mk (L.wa y.1) _ _)
      rw [if_neg (by omega)]
  have hext : L.ext (L.add n g r F v) n := ⟨rfl, rfl, rfl, fun i hi => if_neg (by omega), fun i hi => if_neg (by omega)⟩
  have hlist : (List.range S.ws.length).map L.wa ++ [g] = (List.range (S.addW x).ws.length).map (L.add n g r F v).wa := by
    rw [Ws.addW_len, List.range_succ, List.map_append, ← hn]
    congr 1
    · apply List.map_congr_left
      intro i hi
      exact (hext.wa i (List.mem_range.1 hi)).symm
    · show [g] = [if n = n then g else L.wa n]
      rw [if_pos rfl]
  refine ⟨L.add n g r F v, ⟨h.top.same (hold _ _ h.otop (fun e => by cases e) (fun e => by cases e)), ?_, h.sig.same (hold _ _ h.osig (fun e => by cases e) (fun e => by cases e)), ?_, ?_, ?_, hne _ _ h.otop (fun e => by cases e), hne _ _ h.okept (fun e => by cases e), hne _ _ h.osig (fun e => by cases e), horow, ?_, ?_, Nat.le_trans h.hs hsz, ?_, ?_, ?_, ?_⟩, hext, if_pos rfl, ⟨?_, ?_⟩, if_pos rfl⟩
  · have e1 : (fun fd => (L.add n g r F v).at_ ((S.addW x).fds fd)) = fun fd => L.at_ (S.fds fd) := by
      funext fd
      exact hat _ (fun i k e => by have := h.fdok fd i k e; omega)
    rw [e1, show (S.addW x).nt = S.nt from rfl, hat S.nt (fun i k e => by have := h.ntok i k e; omega)]
    exact hkept
  · rw [← hlist]
    have e : (S.addW x).ws.length = S.ws.length + 1 := Ws.addW_len S x
    exact hrow
  · intro j z hz
    rcases Ws.addW_get hz with ⟨rfl, rfl⟩ | ⟨hj, hz'⟩
    · rw [← hn]
      have e1 : (L.add n g r F v).wa n = g := if_pos rfl
      have e2 : (L.add n g r F v).rr n = r := if_pos rfl
      have e3 : (L.add n g r F v).wt n = .slice none 0 0 := if_pos rfl
      rw [e1, e2, e3]
      have h1 := hwr.congr hring
      exact ⟨h1.blk, Nat.le_trans h.hs h1.hB, Nat.le_trans h.hs hsz, fun k hc => by obtain ⟨o, ho⟩ := h1.ring k hc; exact ⟨o, ho.more h.hs⟩, h1.nor, h1.sep, h1.own⟩
    · have hjn : j ≠ n := by omega
      have e1 : (L.add n g r F v).wa j = L.wa j := if_neg hjn
      have e2 : (L.add n g r F v).rr j = L.rr j := if_neg hjn
      have e3 : (L.add n g r F v).wt j = L.wt j := if_neg hjn
      rw [e1, e2, e3]
      refine ((h.wire j z hz').same (fun b hb => ?_) (Nat.le_trans h.hs hsz)).congr (fun k b => ⟨fun hb => hne b _ hb (fun e => by cases e), fun hb => ?_⟩)
      · rcases hb with rfl | ⟨k, hb⟩
        · exact hold _ _ (h.owire j hj) (fun e => by cases e) (fun e => by cases e)
        · exact hold b _ hb (fun e => by cases e) (fun e => by cases e)
      · rcases hin b _ hb with ⟨_, e⟩ | ⟨k', hk', e⟩ | ⟨_, e⟩ | ⟨e, _⟩
        · cases e
        · cases e; exact absurd rfl hjn
        · cases e
        · exact e
  · intro j z hz
    rcases Ws.addW_get hz with ⟨rfl, rfl⟩ | ⟨hj, hz'⟩
    · rw [hx, ← hn]
      exact ⟨none, 0, if_pos rfl, Nat.le_refl _, RowK.roomy_nil, RowK.shows_nil, fun a ha => by cases ha⟩
    · have hjn : j ≠ n := by omega
      obtain ⟨A, c, e1, e2, e3, e4, e5⟩ := h.wait j z hz'
      have q : ∀ g, A.map (·.block) = some g → W'.heap[g]? = W.heap[g]? := fun g hg => by
        cases A with
        | none => cases hg
        | some a => cases hg; exact hold _ _ (e5 a rfl) (fun e => by cases e) (fun e => by cases e)
      refine ⟨A, c, (if_neg hjn).trans e1, e2, RowK.roomy_same e3 q, ?_, fun a ha => hne _ _ (e5 a ha) (fun e => by cases e)⟩
      have hwl : z.wait.map (L.add n g r F v).wa = z.wait.map L.wa := by
        apply List.map_congr_left
        intro i hi
        exact hext.wa i (by have := hwo j z hz' i hi; omega)
      rw [hwl]
      exact RowK.shows_same e4 q hsz
  · intro j hj
    rw [Ws.addW_len] at hj
    by_cases e : j = n
    · subst e
      show L.ownA j g F v (if j = j then g else L.wa j) = _
      rw [if_pos rfl]; exact hog
    · show L.ownA n g F v (if j = n then g else L.wa j) = _
      rw [if_neg e]
      exact hne _ _ (h.owire j (by omega)) (fun e => by cases e)
  · intro b t hb
    rcases hin b t hb with ⟨rfl, _⟩ | ⟨k', hk', _⟩ | ⟨hv, _⟩ | ⟨e, _⟩
    · have := hwr.lt (.inl rfl); have := h.hs; omega
    · have := hwr.lt (.inr ⟨k', hk'⟩); have := h.hs; omega
    · have := RowK.own_lt hrow hv; omega
    · have := h.lt b t e; omega
  · intro fd j k hf
    have := h.fdok fd j k hf
    rw [Ws.addW_len]; omega
  · intro j k hf
    have := h.ntok j k hf
    rw [Ws.addW_len]; omega
  · intro j z hz a ha
    rw [Ws.addW_len]
    rcases Ws.addW_get hz with ⟨rfl, rfl⟩ | ⟨_, hz'⟩
    · rw [hx] at ha; cases ha
    · have := h.wtok j z hz' a ha; omega
  · intro b t j hb hj
    rw [Ws.addW_len]
    rcases hin b t hb with ⟨_, rfl⟩ | ⟨k', _, rfl⟩ | ⟨_, rfl⟩ | ⟨e, _⟩
    · cases hj; omega
    · cases hj; omega
    · cases hj
    · have := h.oi b t j e hj; omega
  · refine hk.mono fun b _ hb => ?_
    rcases hb with rfl | e
    · exact ⟨_, h.okept⟩
    · exact ⟨_, h.orow b e⟩
  · rintro b ⟨t, ht⟩
    rcases hin b t ht with ⟨rfl, _⟩ | ⟨k', hk', _⟩ | ⟨hv, _⟩ | ⟨e, _⟩
    · exact .inr (hFb _ (.inl rfl))
    · exact .inr (hFb _ (.inr ⟨k', hk'⟩))
    · rcases hro b hv with h5 | h5
      · exact .inl ⟨_, h.orow b h5⟩
      · exact .inr h5
    · exact .inl ⟨_, e⟩
end
end Go.Proofs.YtbbgnpnopodppaaDoor
