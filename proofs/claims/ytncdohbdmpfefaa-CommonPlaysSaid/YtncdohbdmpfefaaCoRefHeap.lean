/-
  The reference's Heap.
-/
import Derived.Test.YtncdohbdmpfefaaCoRefCut
namespace Go.Proofs.Ytncdohbdmpfefaa
open Go.RowKit Go.Maps Go.ChangeMaps Go.Shelf Go.Sort

theorem qi_neg {T : List Int} {q : Option Int} : (qi T q < 0) ↔ q = none := by
  cases q with
  | none => simp [qi]
  | some t => simp [qi]
theorem idx_at {T : List Int} {s : Int} (h : s ∈ T) : T[T.idxOf s]? = some s := by
  have hl := List.idxOf_lt_length_of_mem h
  rw [List.getElem?_eq_getElem hl, List.getElem_idxOf hl]
theorem idx_inj {T : List Int} {s t : Int} (hs : s ∈ T) (ht : t ∈ T) (h : T.idxOf s = T.idxOf t) : s = t := by
  have h1 := idx_at hs
  rw [h, idx_at ht] at h1
  exact (Option.some.inj h1).symm
theorem qi_eq {T : List Int} {p q : Option Int} (hp : ∀ t, p = some t → t ∈ T) (hq : ∀ t, q = some t → t ∈ T) : qi T p = qi T q ↔ p = q := by
  constructor
  · intro h
    cases p with
    | none =>
      cases q with
      | none => rfl
      | some t => simp only [qi] at h; omega
    | some s =>
      cases q with
      | none => simp only [qi] at h; omega
      | some t =>
        simp only [qi, Int.natCast_inj] at h
        rw [idx_inj (hp s rfl) (hq t rfl) h]
  · intro h; rw [h]

/-- Is it the first one of its queue, or of none? -/
def fstB (L : List En) (e : En) : Bool := L.all fun a => decide (e.q = none ∨ a.q ≠ e.q)
theorem fstB_step {L : List En} {k : Nat} {a e : En} (h : L[k]? = some a) : fstB (L.take (k + 1)) e = (fstB (L.take k) e && decide (e.q = none ∨ a.q ≠ e.q)) := by
  unfold fstB
  rw [List.take_add_one, h, List.all_append]
  simp
theorem heads_step {M : List En} {T : List Int} {e : En} (hn : T.Nodup) (hq : ∀ t, e.q = some t → t ∈ T) : (heads (M ++ [e]) T).length = (heads M T).length + if fstB M e then 1 else 0 := by
  cases h : e.q with
  | none =>
    have : fstB M e = true := by unfold fstB; simp [h]
    rw [this, (heads_add_none h).length_eq]; rfl
  | some t =>
    by_cases h1 : ofQ M t = []
    · have : fstB M e = true := by
        unfold fstB
        rw [List.all_eq_true]
        intro a ha
        simp only [decide_eq_true_eq]
        right
        intro e2
        have : a ∈ ofQ M t := ofQ_mem.2 ⟨ha, by rw [e2, h]⟩
        rw [h1] at this; simp at this
      rw [this, (heads_add_first hn (hq t h) h h1).length_eq]; rfl
    · have : fstB M e = false := by
        cases hb : fstB M e with
        | false => rfl
        | true =>
          exfalso
          apply h1
          rw [List.eq_nil_iff_forall_not_mem]
          intro a ha
          have h2 := ofQ_mem.1 ha
          unfold fstB at hb
          rw [List.all_eq_true] at hb
          have := hb a h2.1
          simp only [decide_eq_true_eq, h, h2.2] at this
          rcases this with e1 | e1
          · cases e1
          · exact e1 rfl
      rw [this, heads_add_more h h1]; rfl
theorem heads_nil {T : List Int} : heads [] T = [] := by
  have : T.filterMap (fun t => (ofQ [] t).head?) = [] := List.filterMap_eq_nil_iff.2 (fun t _ => rfl)
  unfold heads
  rw [this]; rfl
theorem fstB_zero {L : List En} {e : En} : fstB (L.take 0) e = true := by simp [fstB]

set_option maxHeartbeats 8000000 in
set_option maxRecDepth 100000 in
theorem rheap_rs {w : World} {B r : Nat} {vl vq vc : Value} {L : List En} {T : List Int} {nx : Int} (R : RS w B r vl vq vc (xs L) (qs L T) T nx) (hT : T.Nodup) (hq : ∀ e ∈ L, ∀ t, e.q = some t → t ∈ T) (hlen : L.length ≤ 1000) :
    Calls Try.prog 25 #[.pointer (some ⟨r, 0, none⟩)] w fun e w' => e = .returned (.int .i64 ((heads L T).length : Int)) ∧ ∃ j, w' = w.drewN j := by
  obtain ⟨Al, cl, Aq, cq, Ac, cc, rfl, rfl, rfl⟩ := R.forms
  have c0 := R.blk.cell 0
  have c1 := R.blk.cell 1
  have rl := R.blk.lt
  simp at c0 c1
  have eX : (xs L).length = L.length := xs_len
  have eQ : (qs L T).length = L.length := qs_len
  rw [eX] at c0
  rw [eQ] at c1
  have HR := Lib.hid (And.intro R (And.intro hT hq))
  have HQ := Lib.hid eQ
  have hl1 : (L.length : Int) ≤ 1000 := by omega
  clear R hT hq eX eQ
  go_enter Try.func25, Try.ntmps25
  go_wp2_with fail
  go_loopw [3, 4] (fun n i wr => ∃ k nn : Nat, i = .int .i64 (k : Int) ∧ n = .int .i64 (nn : Int) ∧ k ≤ L.length ∧ nn ≤ k ∧ nn = (heads (L.take k) T).length ∧ ∃ j, wr = w.drewN j) (fun _ i _ => L.length - (intOf i).toNat)
  case atStart => exact ⟨0, 0, rfl, rfl, Nat.zero_le _, Nat.le_refl _, by rw [List.take_zero, heads_nil]; rfl, 0, rfl⟩
  case round =>
    obtain ⟨k, nn, rfl, rfl, hk, hnk, hnn, j, rfl⟩ := hrel
    by_cases hkl : k < L.length
    · obtain ⟨e, he⟩ : ∃ e, L[k]? = some e := ⟨_, List.getElem?_eq_getElem hkl⟩
      have b0 : (0 : Int) ≤ (k : Int) := by omega
      have b1 : (k : Int) < (L.length : Int) := by omega
      have heL := List.mem_of_getElem? he
      have hqk : (qs L T)[k]? = some (qi T e.q) := by unfold qs; rw [List.getElem?_map, he]; rfl
      obtain ⟨q, eq⟩ : ∃ q, q = qi T e.q := ⟨_, rfl⟩
      rw [← eq] at hqk
      rcases RowK.own_form HR.out.1.rq with ⟨_, h0⟩ | ⟨g, c, ea, hc, hg, _, hl⟩
      · have := HQ.out; rw [h0] at this; simp at this; omega
      obtain rfl : Aq = some ⟨g, 0, none⟩ := by injection ea
      have q0 := rowN_cell hl hqk
      have HK := Lib.hid (And.intro he (And.intro eq (And.intro hl hnn)))
      clear he eq hl hqk hnn ea hc
      go_wp2_with fail
      go_loopw [5, 6] (fun s i wr => ∃ (m : Nat) (sv : Bool), i = .int .i64 (m : Int) ∧ s = .bool sv ∧ m ≤ k ∧ sv = fstB (L.take m) e ∧ ∃ j, wr = w.drewN j) (fun _ i _ => k - (intOf i).toNat)
      case atStart => exact ⟨0, true, rfl, rfl, Nat.zero_le _, fstB_zero.symm, j, rfl⟩
      case round =>
        obtain ⟨m, sv, rfl, rfl, hm, hsv, j2, rfl⟩ := hrel
        by_cases hmk : m < k
        · obtain ⟨a, ha⟩ : ∃ a, L[m]? = some a := ⟨_, List.getElem?_eq_getElem (by omega)⟩
          have haL := List.mem_of_getElem? ha
          have b2 : (0 : Int) ≤ (m : Int) := by omega
          have b3 : (m : Int) < (k : Int) := by omega
          have b4 : (m : Int) < (L.length : Int) := by omega
          have hqm : (qs L T)[m]? = some (qi T a.q) := by unfold qs; rw [List.getElem?_map, ha]; rfl
          obtain ⟨p, ep⟩ : ∃ p, p = qi T a.q := ⟨_, rfl⟩
          rw [← ep] at hqm
          have p0 := rowN_cell HK.out.2.2.1 hqm
          have hst := fstB_step (e := e) ha
          rw [← hsv] at hst
          have hpq : p = q ↔ a.q = e.q := by rw [ep, HK.out.2.1]; exact qi_eq (HR.out.2.2 a haL) (HR.out.2.2 e heL)
          have hneg : q < 0 ↔ e.q = none := by rw [HK.out.2.1]; exact qi_neg
          have HS := Lib.hid (And.intro hst (And.intro hpq hneg))
          clear ha hqm ep hst hpq hneg hsv
          cases sv with
          | false =>
            have HV := Lib.hid (show false = fstB (L.take (m + 1)) e from by rw [HS.out.1]; rfl)
            go_wp2_with fail
            go_quiet (fail)
            go_wp2_with fail
            go_roundw
            case rel => exact ⟨m + 1, false, by go_num, rfl, by omega, HV.out, _, rfl⟩
            case measure => simp [intOf]; omega
          | true =>
            by_cases hq0 : q < 0
            · have HV := Lib.hid (show true = fstB (L.take (m + 1)) e from by rw [HS.out.1]; simp [HS.out.2.2.1 hq0])
              go_wp2_with fail
              go_quiet (fail)
              go_wp2_with fail
              go_roundw
              case rel => exact ⟨m + 1, true, by go_num, rfl, by omega, HV.out, _, rfl⟩
              case measure => simp [intOf]; omega
            · by_cases hpe : p = q
              · have HV := Lib.hid (show false = fstB (L.take (m + 1)) e from by rw [HS.out.1]; simp [HS.out.2.1.1 hpe]; exact fun h => hq0 (HS.out.2.2.2 h))
                have f1 : (p != p) = false := by simp
                subst hpe
                have f4 : decide (p < 0) = false := by simpa using hq0
                have f5 : 0 ≤ p := by omega
                go_wp2_with fail
                go_quiet (fail)
                go_wp2_with fail
                go_roundw
                case rel => exact ⟨m + 1, false, by go_num, rfl, by omega, HV.out, _, rfl⟩
                case measure => simp [intOf]; omega
              · have HV := Lib.hid (show true = fstB (L.take (m + 1)) e from by rw [HS.out.1]; simp; exact .inr fun h => hpe (HS.out.2.1.2 h))
                have f1 : (p != q) = true := by simpa using hpe
                have f2 : (p == q) = false := by simpa using hpe
                clear hpe
                go_wp2_with fail
                go_quiet (fail)
                go_wp2_with fail
                go_roundw
                case rel => exact ⟨m + 1, true, by go_num, rfl, by omega, HV.out, _, rfl⟩
                case measure => simp [intOf]; omega
        · obtain rfl : m = k := by omega
          have hst := heads_step (M := L.take m) (T := T) (e := e) HR.out.2.1 (HR.out.2.2 e heL)
          rw [← hsv, ← HK.out.2.2.2] at hst
          have ht : L.take (m + 1) = L.take m ++ [e] := by rw [List.take_add_one, HK.out.1]; rfl
          rw [← ht] at hst
          have HS := Lib.hid hst
          clear hst ht hsv
          cases sv with
          | false =>
            go_wp2_with fail
            go_roundw
            case rel => exact ⟨m + 1, nn, by go_num, rfl, by omega, by omega, by rw [HS.out]; rfl, _, rfl⟩
            case measure => simp [intOf]; omega
          | true =>
            go_wp2_with fail
            go_roundw
            case rel => exact ⟨m + 1, nn + 1, by go_num, by go_num, by omega, by omega, by rw [HS.out]; rfl, _, rfl⟩
            case measure => simp [intOf]; omega
    · obtain rfl : k = L.length := by omega
      rw [List.take_length] at hnn
      have HN := Lib.hid hnn
      clear hnn
      go_wp2_with fail
      go_ret
      exact ⟨by rw [HN.out]; rfl, j, rfl⟩
end Go.Proofs.Ytncdohbdmpfefaa
