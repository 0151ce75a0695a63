/-
  lay, layOut, open, room.
-/
import Derived.Test.YtbbgnpnopodppaaDoorWdFind
namespace Go.Proofs.YtbbgnpnopodppaaDoor
open Go.RowKit Go.Maps Go.ChangeMaps

section
variable {w w' : World} {B : Nat} {L : Lay} {S : Ws}
theorem Wd.kb_row (h : Wd w B L S) : L.wv.ownBlock ≠ some L.kb := fun e => by
  have := h.orow _ e
  rw [h.okept] at this; cases this
/-- What lay leaves. -/
def Laid (w : World) (B : Nat) (L : Lay) (S : Ws) (x : Wi) (v : Value) (w' : World) : Prop := ∃ L' g, v = .pointer (some ⟨g, 0, none⟩) ∧ Wd w' B L' (S.addW x) ∧ L.ext L' S.ws.length ∧ L'.wa S.ws.length = g ∧ Mv w w' L.F L'.F ∧ L'.wt S.ws.length = .slice none 0 0

set_option maxHeartbeats 1000000 in
theorem wlay_any (h : Wd w B L S) (cap readers : Nat) (hc : cap ≤ 65536) (hr : readers ≤ 2) (hl : S.ws.length ≤ 1000) :
    Calls Tryd.prog 43 #[.pointer (some ⟨L.kb, 0, none⟩), .int .i64 (cap : Int), .int .i64 (readers : Int)] w fun e w' => ∃ v, e = .returned v ∧ Laid w B L S (Wi.new cap readers) v w' := by
  have HN := Lib.hid (newWire_any w S.ws.length cap readers hc hr)
  have H := Lib.hid h
  obtain ⟨A, c, ev⟩ := h.wlen
  have c1 := h.kept.c1
  have lk := h.kept.lt
  have fk := h.kept.frozen 1
  rw [ev] at c1
  clear h
  go_enter Tryd.func43, Tryd.ntmps43
  go_wp2_with fail
  refine HN.out.mono ?_
  rintro e w1 ⟨rfl, ⟨r, F, hwr⟩, hb⟩
  obtain ⟨g, hg⟩ : ∃ g, g = w.heap.size := ⟨_, rfl⟩
  have HG := Lib.hid hg
  rw [← hg] at hwr ⊢
  have H1 := Lib.hid (And.intro hwr hb)
  have hk1 : Kb w1 L.kb S.now L.wv (fun fd => L.at_ (S.fds fd)) (.pointer (some ⟨L.sb, 0, none⟩)) (.pointer (L.at_ S.nt)) := H.out.kept.same (hb.block _ lk)
  have d1 := hk1.c1
  rw [ev] at d1
  have e1 := hk1.frozen 1
  have l1 := hk1.lt
  have K1 := Lib.hid hk1
  clear hwr hb hk1 hg
  have HS := Lib.hid (show w.heap.size ≤ w1.heap.size from H1.out.2.size)
  go_wp2_with (at_builtin; refine RowK.append (R := RP) rfl _ _ rfl B (.slice A S.ws.length c) ((List.range S.ws.length).map L.wa) [g] rfl (RowK.own_alloc (RowK.own_below (ev ▸ H.out.row) H1.out.2) _) (some ⟨w1.heap.size, 0, none⟩) 1 1 rfl rfl (RowK.new_shows (R := RP) w1 g 51) (fun e => by cases e) (by simp; omega) (by have := H.out.hs; have := HS.out; simp; omega) ?_; intro v' w2 O2 hg2 ho2; obtain ⟨A2, c2, ev2, _⟩ := RowK.own_shows O2; obtain ⟨N2, hN2⟩ : ∃ N, N = ((List.range S.ws.length).map L.wa ++ [g]).length := ⟨_, rfl⟩; rw [← hN2] at ev2; subst ev2; have HP2 := Lib.hid (And.intro O2 (And.intro hg2 ho2)); have hk2 : Kb w2 L.kb S.now L.wv (fun fd => L.at_ (S.fds fd)) (.pointer (some ⟨L.sb, 0, none⟩)) (.pointer (L.at_ S.nt)) := K1.out.same (RowK.grown_far hg2 l1 (fun e => H.out.kb_row (ev ▸ e))); have n1 := hk2.c1; have n2 := hk2.frozen 1; have n3 := hk2.lt; have K2 := Lib.hid hk2; clear O2 hg2 ho2 hk2 hN2)
  go_ret
  refine ⟨_, rfl, ?_⟩
  obtain ⟨hwr, hb⟩ := H1.out
  obtain ⟨O2, hg2, ho2⟩ := HP2.out
  have h := H.out
  have hgw : g = w.heap.size := HG.out
  have hlg : g < w1.heap.size := hwr.blk.lt
  have hs1 := hb.size
  have hs2 : w1.heap.size + 1 ≤ w2.heap.size := by have := hg2.size; simpa using this
  have hsame : ∀ b, b < w1.heap.size → L.wv.ownBlock ≠ some b → w2.heap[b]? = w1.heap[b]? := fun b hb' hn => RowK.grown_far hg2 hb' (fun e => hn (ev ▸ e))
  have hrow : ∀ b, L.wv.ownBlock = some b → b < w.heap.size := fun b e => (h.lt b _ (h.orow b e)).2
  have hwr2 : Wr w2 g g S.ws.length r F (.slice none 0 0) (Wi.new cap readers) := hwr.same (fun b hb' => hsame b (hwr.lt hb').1 (fun e => by have := hrow b e; have := (hwr.lt hb').2; omega)) (by omega)
  have hkb : L.kb ≠ g := by omega
  have hwr3 : Wr (w2.setCell ⟨L.kb, 1, none⟩ (.slice A2 N2 c2)) g g S.ws.length r F (.slice none 0 0) (Wi.new cap readers) := hwr2.same (fun b hb' => Below.heap_setCell _ _ _ _ (show b ≠ L.kb by have := (hwr2.lt hb').2; omega)) (by simp [World.setCell]; omega)
  have hro : ∀ b, (Value.slice A2 N2 c2).ownBlock = some b → L.wv.ownBlock = some b ∨ w1.heap.size < b := fun b e => by
    rcases ho2 with e2 | e2
    · exact .inl (by rw [ev, ← e2]; exact e)
    · rw [e2] at e
      simp at e
      exact .inr (by omega)
  have a1 : Kept (fun b => b = L.kb ∨ L.wv.ownBlock = some b) w (w2.setCell ⟨L.kb, 1, none⟩ (.slice A2 N2 c2)) := by
    refine ⟨hg2.os.trans hb.os, hg2.tape.trans hb.tape, hg2.output.trans hb.output, ?_, ?_⟩
    · simp [World.setCell]; omega
    · intro b hb' hn
      rw [Below.heap_setCell _ _ _ _ (show b ≠ L.kb from fun e => hn (.inl e)), hsame b (by omega) (fun e => hn (.inr e))]
      exact hb.block b hb'
  have a2 : ∀ b, (Value.slice A2 N2 c2).ownBlock = some b → b ≠ L.kb := fun b e e2 => by
    rcases hro b e with e3 | e3
    · exact h.kb_row (e2 ▸ e3)
    · have := h.kept.lt; omega
  have a3 : ∀ b, (Value.slice A2 N2 c2).ownBlock = some b → L.wv.ownBlock = some b ∨ w.heap.size ≤ b := fun b e => by
    rcases hro b e with e3 | e3
    · exact .inl e3
    · exact .inr (by omega)
  have a4 : ∀ b, (Value.slice A2 N2 c2).ownBlock = some b → ¬ FW g F b := fun b e hF => by
    rcases hro b e with e3 | e3
    · have := hrow b e3; have := (hwr3.lt hF).2; omega
    · have := hwr.lt hF; omega
  obtain ⟨L', k1, k2, k3, k4⟩ := h.addWire (W' := w2.setCell ⟨L.kb, 1, none⟩ (.slice A2 N2 c2)) (g := g) (r := r) (F := F) (v := .slice A2 N2 c2) (x := Wi.new cap readers) a1 (K2.out.set1 _) (RowK.own_same O2 fun b e => Below.heap_setCell _ _ _ _ (a2 b e)) a3 (hgw ▸ hwr3) a4 rfl
  exact ⟨L', g, rfl, k1, k2, k3, k4⟩

/-- The kept block alone turned. -/
theorem Wd.turnK (h : Wd w B L S) {now : Nat} {fds : Nat → Option (Nat × Bool)} {nt : Option (Nat × Bool)} (q : Kept (fun b => b = L.kb) w w') (hk : Kb w' L.kb now L.wv (fun fd => L.at_ (fds fd)) (.pointer (some ⟨L.sb, 0, none⟩)) (.pointer (L.at_ nt)))
    (hf : ∀ fd i k, fds fd = some (i, k) → i < S.ws.length) (hn : ∀ i k, nt = some (i, k) → i < S.ws.length) : Wd w' B L { S with now := now, fds := fds, nt := nt } := by
  have hs := q.size
  have e : ∀ b t, L.own b = some t → t ≠ .kept → w'.heap[b]? = w.heap[b]? := fun b t hb ht => q.block b (h.lt b t hb).2 (fun e => by subst e; rw [h.okept] at hb; cases hb; exact ht rfl)
  exact ⟨h.top.same (e _ _ h.otop (fun e => by cases e)), hk, h.sig.same (e _ _ h.osig (fun e => by cases e)), RowK.own_same h.row (fun k hk => e _ _ (h.orow k hk) (fun e => by cases e)),
    fun i x hx => (h.wire i x hx).same (fun b hb => by
      rcases hb with rfl | ⟨k, hk⟩
      · exact e _ _ (h.owire i (List.getElem?_eq_some_iff.1 hx).1) (fun e => by cases e)
      · exact e b _ hk (fun e => by cases e)) (Nat.le_trans h.hs hs),
    fun i x hx => (h.wait i x hx).same (fun b hb => e b _ hb (fun e => by cases e)) hs,
    h.otop, h.okept, h.osig, h.orow, h.owire, fun b t hb => ⟨(h.lt b t hb).1, Nat.lt_of_lt_of_le (h.lt b t hb).2 hs⟩, Nat.le_trans h.hs hs, hf, hn, h.wtok, h.oi⟩
theorem Wd.mvK (h : Wd w B L S) (q : Kept (fun b => b = L.kb) w w') : Mv w w' L.F L.F := ⟨q.mono fun _ _ e => e ▸ ⟨_, h.okept⟩, fun _ e => .inl e⟩
/-- A wire's block alone turned. -/
theorem Wd.turnW (h : Wd w B L S) {i : Nat} {x y : Wi} (hx : S.ws[i]? = some x) (hb : Wb w' (L.wa i) i (L.rr i) (L.wt i) y) (q : Kept (fun j => j = L.wa i) w w') (hr : x.sameR y) (hw : y.wait = x.wait) :
    ∃ L', Wd w' B L' (S.setW i y) ∧ L.ext L' S.ws.length ∧ Mv w w' L.F L'.F := by
  obtain ⟨L', h1, h2, h3, _⟩ := h.wire1 hx ((h.wire i x hx).turn hb q hr) ⟨FW.kept q, fun _ e => .inl e⟩ hw
  exact ⟨L', h1, h2, h3⟩

/-- Once an end has a descriptor. -/
def Ws.opened (s : Ws) (i : Nat) (k : Bool) (fd : Nat) : Ws := match s.ws[i]? with
  | some x => { s.setW i (x.mark k 1) with fds := fun f => if f = fd then some (i, k) else s.fds f }
  | none => s
theorem Ws.opened_of {s : Ws} {i : Nat} {x : Wi} (h : s.ws[i]? = some x) (k : Bool) (fd : Nat) : s.opened i k fd = { s.setW i (x.mark k 1) with fds := fun f => if f = fd then some (i, k) else s.fds f } := by
  unfold Ws.opened; rw [h]

set_option maxHeartbeats 1000000 in
theorem wopen_any (h : Wd w B L S) {i : Nat} {x : Wi} (hx : S.ws[i]? = some x) (k : Bool) (fd : Nat) (hfd : fd < 96) :
    Calls Tryd.prog 32 #[.pointer (some ⟨L.kb, 0, none⟩), .int .i64 (fd : Int), .pointer (some ⟨L.wa i, off k, none⟩)] w fun e w' => e = .returned (.tuple #[]) ∧ ∃ L', Wd w' B L' (S.opened i k fd) ∧ L.ext L' S.ws.length ∧ Mv w w' L.F L'.F := by
  have hi := (List.getElem?_eq_some_iff.1 hx).1
  have c2 := (h.wire i x hx).blk.c2 k
  have f2 := (h.wire i x hx).blk.frozen (off k + 2)
  have lg := (h.wire i x hx).blk.lt
  have hne : L.kb ≠ L.wa i := fun e => by have := h.owire i hi; rw [← e, h.okept] at this; cases this
  have hw := (h.wire i x hx).blk.set2 k 1
  have q1 := (Kept.refl (fun j => j = L.wa i) w).setCell (p := ⟨L.wa i, off k + 2, none⟩) rfl (.int .i64 ((1 : Nat) : Int))
  obtain ⟨L', h1, h2, h3⟩ := h.turnW hx hw q1 (Wi.sameR_mark x k 1) rfl
  have hk := h1.kept
  rw [h2.kb] at hk
  have cf := h.kept.fd hfd
  have ff := h.kept.frozen (2 + fd)
  have lk := h.kept.lt
  have hset := hk.setFd hfd (some ⟨L.wa i, off k, none⟩)
  have q2 := (Kept.refl (fun j => j = L.kb) (w.setCell ⟨L.wa i, off k + 2, none⟩ (.int .i64 ((1 : Nat) : Int)))).setCell (p := ⟨L.kb, 2 + fd, none⟩) rfl (.pointer (some ⟨L.wa i, off k, none⟩))
  have hst : (S.setW i (x.mark k 1)).ws.length = S.ws.length := by unfold Ws.setW; simp
  have hpv : updA (fun f => L'.at_ ((S.setW i (x.mark k 1)).fds f)) fd (some ⟨L.wa i, off k, none⟩) = fun f => L'.at_ (if f = fd then some (i, k) else S.fds f) := by
    funext f
    unfold updA
    by_cases e : f = fd
    · rw [if_pos e, if_pos e]
      show _ = some (Addr.mk (L'.wa i) (off k) Option.none)
      rw [h2.wa i hi]
    · rw [if_neg e, if_neg e]; rfl
  rw [hpv] at hset
  have q2' : Kept (fun j => j = L'.kb) (w.setCell ⟨L.wa i, off k + 2, none⟩ (.int .i64 ((1 : Nat) : Int))) ((w.setCell ⟨L.wa i, off k + 2, none⟩ (.int .i64 ((1 : Nat) : Int))).setCell ⟨L.kb, 2 + fd, none⟩ (.pointer (some ⟨L.wa i, off k, none⟩))) := by rw [h2.kb]; exact q2
  have hfin := h1.turnK (now := S.now) (fds := fun f => if f = fd then some (i, k) else S.fds f) (nt := S.nt) q2' (by rw [h2.kb]; exact hset) (fun f j kk e => by
    rw [hst]
    split at e
    · cases e; exact hi
    · exact h.fdok f j kk e) (fun j kk e => by rw [hst]; exact h.ntok j kk e)
  have HE := Lib.hid (show ∃ L', Wd ((w.setCell ⟨L.wa i, off k + 2, none⟩ (.int .i64 ((1 : Nat) : Int))).setCell ⟨L.kb, 2 + fd, none⟩ (.pointer (some ⟨L.wa i, off k, none⟩))) B L' (S.opened i k fd) ∧ L.ext L' S.ws.length ∧ Mv w ((w.setCell ⟨L.wa i, off k + 2, none⟩ (.int .i64 ((1 : Nat) : Int))).setCell ⟨L.kb, 2 + fd, none⟩ (.pointer (some ⟨L.wa i, off k, none⟩))) L.F L'.F from
    ⟨L', by rw [Ws.opened_of hx]; exact hfin, h2, h3.trans (h1.mvK q2')⟩)
  have b0 : (0 : Int) ≤ (fd : Int) := by omega
  have b1 : (fd : Int) < 96 := by omega
  clear h hx hw q1 h1 h2 h3 hk hset q2 q2' hst hpv hfin hi
  go_enter Tryd.func32, Tryd.ntmps32
  go_wp2_with fail
  go_end0
  exact ⟨rfl, HE.out⟩
end
end Go.Proofs.YtbbgnpnopodppaaDoor
