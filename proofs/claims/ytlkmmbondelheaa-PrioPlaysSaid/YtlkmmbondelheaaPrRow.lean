/-
  rows.row: the items of one queue come one by one, in order.
-/
import Derived.Test.YtlkmmbondelheaaPrNew
import Derived.Test.YtlkmmbondelheaaCmNest
import Derived.LaidEqlPtr
namespace Go.Proofs.Ytlkmmbondelheaa
open Go.RowKit Go.Maps Go.ChangeMaps Go.Shelf

theorem infoPl6 : (Try.prog.info? 74).map (fun i => i.size) = some 6 := by kernel_rfl
theorem neq_same (w : World) (a : Addr) : (binOp .neq 66 (.pointer (some a)) (.pointer (some a))).run Try.prog w = .ok (.bool false) w := by
  have hi := infoPl6
  cases hte : Try.prog.info? 74 with
  | none => rw [hte] at hi; simp at hi
  | some j =>
    have h : ∀ d : Nat, (Op.equalIn (d + 1) 66 (.pointer (some a)) (.pointer (some a))).run Try.prog w = .ok true w := fun d => by
      simp [Op.equalIn, run_underlying Try.underlying66, sizeOf, typeInfo, hte, run_sameAddr_same]
    simp only [binOp]
    simp [Op.equal, Op.maxDepth, h 9999]
theorem neq_other (w : World) {a b : Addr} {ca cb : Array Value} {ta tb : TypeId} (hne : a ≠ b) (ha : w.heap[a.block]? = some (.cells ca ta (0, 0))) (hb : w.heap[b.block]? = some (.cells cb tb (0, 0))) :
    (binOp .neq 66 (.pointer (some a)) (.pointer (some b))).run Try.prog w = .ok (.bool true) w := by
  have hi := infoPl6
  cases hte : Try.prog.info? 74 with
  | none => rw [hte] at hi; simp at hi
  | some j =>
    rw [hte] at hi
    have hsz : j.size ≠ 0 := by simp at hi; omega
    have h : ∀ d : Nat, (Op.equalIn (d + 1) 66 (.pointer (some a)) (.pointer (some b))).run Try.prog w = .ok false w := fun d => by
      simp [Op.equalIn, run_underlying Try.underlying66, sizeOf, typeInfo, hte, hsz, run_sameAddr_other w hne ha hb]
    simp only [binOp]
    simp [Op.equal, Op.maxDepth, h 9999]

def encI (x : It) : Array Value := #[.agg #[.int .i64 x.id, .int .i64 x.fl, .int .i64 x.ct]]
/-- The node where what is left of a queue begins. -/
def headN (p : Nat) : List It → Nd
  | [] => .e p
  | x :: _ => .p x.bk
def posOf (l : List It) : Value → Nat
  | .pointer (some a) => (l.map (·.bk)).findIdx (· == a.block)
  | _ => 0
theorem posOf_cons {D R : List It} {x : It} (hn : ((D ++ x :: R).map (·.bk)).Nodup) : posOf (D ++ x :: R) (.pointer (some ⟨x.bk, 0, none⟩)) = D.length := by
  have hne := (nodup_drop hn).2
  show ((D ++ x :: R).map (·.bk)).findIdx (· == x.bk) = _
  rw [List.map_append, List.map_cons, List.findIdx_append]
  have h1 : (D.map (·.bk)).findIdx (· == x.bk) = (D.map (·.bk)).length := List.findIdx_eq_length.2 fun b hb => by
    obtain ⟨y, hy, rfl⟩ := List.mem_map.1 hb
    simpa using hne y (by simp [hy])
  rw [h1, if_neg (by omega), List.findIdx_cons]
  simp
theorem posOf_end {l : List It} {g o : Nat} (hg : ∀ x ∈ l, x.bk ≠ g) : posOf l (.pointer (some ⟨g, o, none⟩)) = l.length := by
  show (l.map (·.bk)).findIdx (· == g) = _
  rw [List.findIdx_eq_length.2 fun b hb => by
    obtain ⟨y, hy, rfl⟩ := List.mem_map.1 hb
    simpa using hg y hy]
  simp
theorem ofP_nodup {L : List It} {p : Nat} (h : (L.map (·.bk)).Nodup) : ((ofP L p).map (·.bk)).Nodup := by
  have h2 := nods_nodup (i := p) h
  unfold nods at h2
  have e : (ofP L p).map (fun x => Nd.p x.bk) = ((ofP L p).map (·.bk)).map Nd.p := by simp
  rw [e] at h2
  exact (List.pairwise_map.1 h2).imp fun hne e => hne (by rw [e])

/-- What stands behind the nodes of a queue, as the walk goes. -/
theorem seg_behind {F G : Nd → Nd} {p : Nat} : ∀ {R : List It} {u : Nd}, Seg F G u (R.map fun x => .p x.bk) (.e p) → F u = headN p R ∧ ∀ x R', R = x :: R' → Seg F G (.p x.bk) (R'.map fun x => .p x.bk) (.e p)
  | [], u, h => ⟨h.1, fun x R' e => by cases e⟩
  | y :: R, u, h => ⟨h.1.1, fun x R' e => by cases e; exact h.2⟩

/-- Behind the last round. -/
theorem nodes_kept {T : Obj → Prop} {N : Nat} {Pr : Nat → Prop} {X Y : World} {g many : Nat} {F G : Nd → Nd} {L : List It} (h : Nds X g many F G L) (k : KpO T N Pr X Y) (hP : ∀ i, Fn g L i → i < N ∧ Pr i) : Nds Y g many F G L := by
  obtain ⟨cs, hb, r⟩ := id h.ends
  exact h.same (k.low g (hP g (.inl rfl)).1 hb.lt (hP g (.inl rfl)).2) (fun x hx => k.low x.bk (hP _ (.inr ⟨x, hx, rfl⟩)).1 (h.its x hx).lt (hP _ (.inr ⟨x, hx, rfl⟩)).2)

set_option maxRecDepth 100000 in
set_option maxHeartbeats 4000000 in
theorem row_o (n : Nat) (hn : 1 ≤ n) {w : World} {r g m many : Nat} {F G : Nd → Nd} {L : List It} (h : Rw w r g m many F G L) (p : Nat) (hp : p < many) (bR bP : Nat) (hR : Boxed w bR 62 (.pointer (some ⟨r, 0, none⟩))) (hP : Boxed w bP 3 (.int .i64 (p : Int)))
    (T : Obj → Prop) (Pr : Nat → Prop) (N : Nat) (hN : bR < N ∧ bP < N ∧ r < N) (hPr : ∀ i, Fn g L i → i < N ∧ Pr i) :
    SeqO n Try.prog 42 #[.pointer (some ⟨bR, 0, none⟩), .pointer (some ⟨bP, 0, none⟩)] encI T Pr (fun xs => xs = ofP L p) (fun pre => ∃ r, pre ++ r = ofP L p) (fun pre x => ∃ R, pre ++ x :: R = ofP L p) N w := by
  intro l J Jx W hz hW hJ hJx hY h0
  have n1 : Nds W g many F G L := h.nds.same (hW g (hPr g (.inl rfl)).1) (fun x hx => hW x.bk (hPr _ (.inr ⟨x, hx, rfl⟩)).1)
  have r1 : Blk W r 71 #[.slice (some ⟨g, 0, none⟩) many many, .map (some m)] := h.rb.same (hW r hN.2.2)
  have cR : W.cell? ⟨bR, 0, none⟩ = some (.pointer (some ⟨r, 0, none⟩)) := (show Boxed W bR _ _ from (hW bR hN.1).trans hR).cell
  have cP : W.cell? ⟨bP, 0, none⟩ = some (.int .i64 (p : Int)) := (show Boxed W bP _ _ from (hW bP hN.2.1).trans hP).cell
  have c0 := r1.cell 0
  simp at c0
  have lr := r1.lt
  have hs := h.rings.seg p hp
  have lg := n1.lt (n := .e p) hp
  have ce := n1.behind (n := .e p) hp
  simp only [nB, nO] at lg ce
  have hnd := ofP_nodup (p := p) h.rings.nod
  have hgne : ∀ x ∈ ofP L p, x.bk ≠ g := fun x hx => h.nds.gne x (ofP_mem.1 hx).1
  have b0 : (0 : Int) ≤ (p : Int) := by omega
  have b1 : (p : Int) < (many : Int) := by omega
  have H := Lib.hid (And.intro n1 (And.intro hs (And.intro hnd hgne)))
  have HJ := Lib.hid hJ
  have HY := Lib.hid hY
  have H0 := Lib.hid h0
  have HP := Lib.hid hPr
  have HS := Lib.hid (seg_behind (R := ofP L p) hs).1
  clear n1 hs hJ hJx hY h0 hPr hW h r1 hR hP hN hnd hgne
  refine callsIn_of_wp Try.func42 rfl trivial ?_ rfl
  simp only [Try.ntmps42, List.size_toArray, List.length_cons, List.length_nil, Nat.reduceAdd, Nat.reduceSub, Array.replicate_succ, Array.replicate_zero, List.push_toArray, List.append_toArray, List.nil_append, List.cons_append]
  gi_wp2_with fail
  refine wpIn_wide.2 ?_
  go_quiet (fail)
  obtain ⟨q1, rfl⟩ : ∃ q1 : Nat, q1 = nq := ⟨_, rfl⟩
  rw [HS.out] at ce
  gi_wp2_with fail
  gi_loopw [5] (fun v wr => ∃ D R, D ++ R = ofP L p ∧ v = ptr g (headN p R) ∧ J D wr ∧ Nds wr g many F G L) (fun v _ => (ofP L p).length - posOf (ofP L p) v)
  case atStart => exact ⟨[], ofP L p, rfl, rfl, HJ.out _ _ _ H0.out (ChO.of_kept ((Kept.refl _ W).drewN q1)), H.out.1.same rfl (fun _ _ => rfl)⟩
  case round =>
    obtain ⟨D, R, hDR, rfl, hJ, hN1⟩ := hrel
    cases R with
    | nil =>
      rw [List.append_nil] at hDR
      have HD := Lib.hid (And.intro hDR (And.intro hJ hN1))
      clear hDR hJ hN1
      rw [show ptr g (headN p []) = .pointer (some ⟨g, p * 6, none⟩) from rfl]
      have hq := neq_same wr ⟨g, p * 6, none⟩
      gi_wp2_with fail
      go_end0
      exact ⟨⟨_, rfl⟩, .inl ⟨D, HD.out.1, HD.out.2.1⟩⟩
    | cons x R =>
      obtain ⟨_, hs, hnd, hgne⟩ := H.out
      have hxm : x ∈ ofP L p := by rw [← hDR]; simp
      have hxL := (ofP_mem.1 hxm).1
      have hxg := hgne x hxm
      obtain ⟨fn, tmps, assign, body, hy, hRd⟩ := HY.out D x wr hJ ⟨R, hDR⟩
      have bx := hN1.its x hxL
      have x0 := bx.cell 0
      have x1 := bx.cell 1
      have x2 := bx.cell 2
      unfold encPl at x0 x1 x2
      simp at x0 x1 x2
      have lx := bx.lt
      have hs2 : Seg F G (.p x.bk) (R.map fun x => .p x.bk) (.e p) := by
        unfold nods at hs
        rw [← hDR, List.map_append, List.map_cons] at hs
        exact (Seg.append.1 hs).2
      have hF := (seg_behind hs2).1
      have hpos : posOf (ofP L p) (.pointer (some ⟨x.bk, 0, none⟩)) = D.length := by rw [← hDR]; exact posOf_cons (by rw [hDR]; exact hnd)
      have hpos2 : D.length < posOf (ofP L p) (ptr g (headN p R)) := by
        cases R with
        | nil =>
          show _ < posOf (ofP L p) (.pointer (some ⟨g, p * 6, none⟩))
          rw [posOf_end hgne, ← hDR]; simp
        | cons y R =>
          show _ < posOf (ofP L p) (.pointer (some ⟨y.bk, 0, none⟩))
          have e : ofP L p = (D ++ [x]) ++ y :: R := by rw [← hDR]; simp
          rw [e, posOf_cons (by rw [← e]; exact hnd)]; simp
      have hle : D.length < (ofP L p).length := by rw [← hDR]; simp
      have HD := Lib.hid (And.intro hDR (And.intro hN1 (And.intro hF (And.intro hpos (And.intro hpos2 (And.intro hle hxL))))))
      have hy2 := hy
      simp only [encI] at hy2
      clear hDR hJ hN1 hs hnd hgne hxm hxL hs2 hF hpos hpos2 hle bx hy
      rw [show ptr g (headN p (x :: R)) = .pointer (some ⟨x.bk, 0, none⟩) from rfl]
      have hq : (binOp .neq 66 (.pointer (some ⟨x.bk, 0, none⟩)) (.pointer (some ⟨g, p * 6, none⟩))).run Try.prog wr = .ok (.bool true) wr := by
        obtain ⟨cs, hb, _⟩ := HD.out.2.1.ends
        exact neq_other wr (fun e => hxg (by injection e)) (HD.out.2.1.its x HD.out.2.2.2.2.2.2) hb
      gi_wp2_with fail
      clear hy2
      refine hRd.mono ?_
      rintro e W3 ⟨(⟨rfl, hJ3⟩ | ⟨rfl, hJx3⟩), hk3⟩
      · have n3 := nodes_kept HD.out.2.1 hk3 HP.out
        have cF := n3.behind (n := .p x.bk) ⟨x, HD.out.2.2.2.2.2.2, rfl⟩
        rw [HD.out.2.2.1] at cF
        simp only [nB, nO] at cF
        simp at cF
        have lx3 := (n3.its x HD.out.2.2.2.2.2.2).lt
        have H3 := Lib.hid (And.intro n3 hJ3)
        clear n3 hJ3 hk3 hRd
        gi_wp2_with fail
        go_roundw
        case rel => exact ⟨D ++ [x], R, by rw [← HD.out.1]; simp, rfl, H3.out.2, H3.out.1⟩
        case measure =>
          have h4 := HD.out.2.2.2.1
          have h5 := HD.out.2.2.2.2.1
          have h6 := HD.out.2.2.2.2.2.1
          simp [headN, ptr, adr] at h4 h5 ⊢
          rw [h4]
          omega
      · have HX := Lib.hid hJx3
        clear hk3 hJx3 hRd
        gi_wp2_with fail
        refine bodyPost_ret (results_none rfl _ _ _) rfl ?_
        exact ⟨⟨_, rfl⟩, .inr ⟨D ++ [x], ⟨R, by rw [← HD.out.1]; simp⟩, HX.out⟩⟩
end Go.Proofs.Ytlkmmbondelheaa
