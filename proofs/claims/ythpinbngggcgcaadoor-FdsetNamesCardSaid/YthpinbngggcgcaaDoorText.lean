/-
  The contract of package fdset's firsts and Text: the runs of a set, in bytes, for every set.
-/
import Derived.Test.YthpinbngggcgcaaDoorRun
import Derived.Test.YthpinbngggcgcaaDoorAll
import Derived.Test.YthpinbngggcgcaaDoorOps
import Derived.Laws.IdiomStrings
import Derived.Laws.BytesArg
import Derived.Test.YthpinbngggcgcaaDoorEqSet
import Derived.Scope
import Derived.WalkMore
namespace Go.Proofs.YthpinbngggcgcaaDoor
open Go.RowKit Go.Shelf

attribute [local go_sem] Oper.semAt_some

/-- The last one of a run that begins at n. -/
def lastF (p : Nat → Bool) : Nat → Nat → Nat
  | 0, n => n
  | k + 1, n => if p (n + 1) then lastF p k (n + 1) else n
def lastOf (a b n : Nat) : Nat := lastF (memP a b) (64 - n) n
theorem lastOf_more (a b n : Nat) (hn : n < 64) (h : memP a b (n + 1) = true) : lastOf a b n = lastOf a b (n + 1) := by
  unfold lastOf
  rw [show 64 - n = (64 - (n + 1)) + 1 from by omega]
  simp [lastF, h]
theorem lastOf_end (a b n : Nat) (hn : n < 64) (h : memP a b (n + 1) = false) : lastOf a b n = n := by
  unfold lastOf
  rw [show 64 - n = (64 - (n + 1)) + 1 from by omega]
  simp [lastF, h]
/-- The descriptors with which a run begins, in words. -/
def first0 (a : Nat) : Nat := a &&& (4294967295 - a * 2 % 4294967296)
def first1 (a b : Nat) : Nat := b &&& (4294967295 - (b * 2 % 4294967296 ||| a / 2147483648))
/-- The runs that begin at these, in bytes. -/
def runsB (a b : Nat) (l : List Nat) : List UInt8 := l.foldl (fun bs f => addRun bs f (lastOf a b f)) []
theorem runsB_snoc (a b : Nat) (l : List Nat) (f : Nat) : runsB a b (l ++ [f]) = addRun (runsB a b l) f (lastOf a b f) := by simp [runsB]
/-- The text of a set. -/
def textB (a b : Nat) : List UInt8 := if a = 0 ∧ b = 0 then [110, 111, 110, 101] else runsB a b (mem (first0 a) (first1 a b))

theorem lastF_lt (p : Nat → Bool) (hp : ∀ n, 64 ≤ n → p n = false) : ∀ k n, n < 64 → lastF p k n < 64
  | 0, n, h => h
  | k + 1, n, h => by
    simp only [lastF]
    split
    · rename_i hc
      refine lastF_lt p hp k (n + 1) ?_
      by_cases e : 64 ≤ n + 1
      · rw [hp _ e] at hc; cases hc
      · omega
    · exact h
theorem lastOf_lt (a b n : Nat) (h : n < 64) : lastOf a b n < 64 := lastF_lt _ (fun n hn => by unfold memP; simp; omega) _ _ h
theorem addRun_len (bs : List UInt8) (f l : Nat) (hf : f < 64) (hl : l < 64) : (addRun bs f l).length ≤ bs.length + 6 := by
  have h1 := dig2_len f
  have h2 := dig2_len l
  unfold addRun runB
  rw [List.length_append, List.length_append]
  split <;> split <;> simp <;> omega
theorem runsB_len (a b : Nat) (l : List M) : (runsB a b (valsOf l)).length ≤ 6 * l.length := by
  unfold runsB valsOf
  suffices h : ∀ (l : List M) (bs : List UInt8), ((l.map (fun x => x.1)).foldl (fun bs f => addRun bs f (lastOf a b f)) bs).length ≤ bs.length + 6 * l.length by
    have := h l []
    simpa using this
  intro l
  induction l with
  | nil => intro bs; simp
  | cons x l ih =>
    intro bs
    simp only [List.map_cons, List.foldl_cons]
    have := ih (addRun bs x.1 (lastOf a b x.1))
    have h2 := addRun_len bs x.1 (lastOf a b x.1) x.2 (lastOf_lt a b x.1 x.2)
    simp only [List.length_cons]
    omega

theorem keeps_below {W W' : World} (h : Below W.heap.size W W') : KeepsOthers W W' := ⟨h.size, fun k o hk _ => (h.block k (Array.getElem?_eq_some_iff.1 hk).1).trans hk⟩
theorem keeps_others {W W' : World} {e : TypeId} (h : Lib.OthersKept e none W W') (hs : W.heap.size ≤ W'.heap.size) : KeepsOthers W W' := ⟨hs, fun k o hk hc => h k o hk (by simp) (fun c fz he => by subst he; simp [Obj.isCells] at hc)⟩

set_option maxHeartbeats 1000000 in
theorem firsts_any (a b : Nat) (w : World) (ha : a < 4294967296) (hb : b < 4294967296) :
    Calls Tryd.prog 42 #[.agg #[.int .u32 (a : Int), .int .u32 (b : Int)]] w (RetS w (first0 a) (first1 a b)) := by
  go_enter Tryd.func42, Tryd.ntmps42
  go_wp2_with fail
  have e1 : (a : Int) * 2 % 4294967296 = ((a * 2 % 4294967296 : Nat) : Int) := by omega
  have e2 : (b : Int) * 2 % 4294967296 = ((b * 2 % 4294967296 : Nat) : Int) := by omega
  have e3 : (a : Int) / 2147483648 = ((a / 2147483648 : Nat) : Int) := by omega
  have hc : a * 2 % 4294967296 < 4294967296 := Nat.mod_lt _ (by omega)
  have hd : (b * 2 % 4294967296 ||| a / 2147483648) < 4294967296 := or_lt (Nat.mod_lt _ (by omega)) (by omega)
  rw [e1, e2, e3, u32_or_nat _ _ (Nat.mod_lt _ (by omega)) (by omega)]
  have hs3 := isSet_new (w.alloc (.cells #[.int .u32 (a : Int), .int .u32 (b : Int)] 25)) 0 0
  simp only [World.size_alloc] at hs3
  have hs4 := hs3.grown (World.grownBy_alloc _ (.cells #[.int .u32 ((a * 2 % 4294967296 : Nat) : Int), .int .u32 ((b * 2 % 4294967296 ||| a / 2147483648 : Nat) : Int)] 25) none) (by simp)
  have hbel : Below w.heap.size w (((w.alloc (.cells #[.int .u32 (a : Int), .int .u32 (b : Int)] 25)).alloc (.cells #[.int .u32 0, .int .u32 0] 25)).alloc (.cells #[.int .u32 ((a * 2 % 4294967296 : Nat) : Int), .int .u32 ((b * 2 % 4294967296 ||| a / 2147483648 : Nat) : Int)] 25)) := (((Below.refl _ _).alloc (Nat.le_refl _) _).alloc (by simp) _).alloc (by simp; omega) _
  have Hs := Lib.hid hs4
  have Hb := Lib.hid hbel
  clear hs3 hs4 hbel e1 e2 e3
  refine (less_any a b (a * 2 % 4294967296) (b * 2 % 4294967296 ||| a / 2147483648) _ ha hb hc hd).mono ?_
  rintro e w2 ⟨rfl, hb2⟩
  have hs := Hs.out.below hb2
  have hbw := below_endL Hb.out hb2
  clear Hs Hb hb2
  obtain ⟨z0, z1, g0, g1⟩ := hs
  obtain ⟨x0, hx0⟩ : ∃ x0, a &&& (4294967295 - a * 2 % 4294967296) = x0 := ⟨_, rfl⟩
  obtain ⟨x1, hx1⟩ : ∃ x1, b &&& (4294967295 - (b * 2 % 4294967296 ||| a / 2147483648)) = x1 := ⟨_, rfl⟩
  have Hx0 := Lib.hid (show first0 a = x0 from hx0)
  have Hx1 := Lib.hid (show first1 a b = x1 from hx1)
  rw [hx0, hx1]
  clear hx0 hx1
  go_wp2
  obtain ⟨r0, r1⟩ := two_set (.int .u32 ((x0 : Nat) : Int)) (.int .u32 ((x1 : Nat) : Int)) z0 z1
  exact bodyPost_ret (v := .agg #[.int .u32 ((x0 : Nat) : Int), .int .u32 ((x1 : Nat) : Int)]) (by simp [results, Tryd.results42, go_sem, r0, r1]) rfl ⟨by rw [Hx0.out, Hx1.out], (hbw.setCell (by simp) _).setCell (by simp) _⟩
theorem first0_lt (a : Nat) (ha : a < 4294967296) : first0 a < 4294967296 := and_lt _ ha
theorem first1_lt (a b : Nat) (hb : b < 4294967296) : first1 a b < 4294967296 := and_lt _ hb

theorem text_zero (w : World) :
    Calls Tryd.prog 24 #[.agg #[.int .u32 0, .int .u32 0]] w fun e W' => e = .returned (.string ⟨#[110, 111, 110, 101]⟩) ∧ Below w.heap.size w W' := by
  have heq := eqSet 0 0 0 0
  go_enter Tryd.func24, Tryd.ntmps24
  go_wp2
  go_step3
  go_wp2
  rw [Exit.noGoto_ret]
  go_ret
  exact ⟨rfl, (Below.refl _ _).alloc (Nat.le_refl _) _⟩

/-- The words of a set in one block, whole. -/
def SetBlock (W : World) (B a b : Nat) : Prop := W.heap[B]? = some (.cells #[.int .u32 (a : Int), .int .u32 (b : Int)] 25 (0, 0))
theorem SetBlock.cells {W : World} {B a b : Nat} (h : SetBlock W B a b) : W.cell? ⟨B, 0, none⟩ = some (.int .u32 (a : Int)) ∧ W.cell? ⟨B, 1, none⟩ = some (.int .u32 (b : Int)) := by
  constructor <;> simp [World.cell?, show W.heap[B]? = _ from h]
theorem SetBlock.lt {W : World} {B a b : Nat} (h : SetBlock W B a b) : B < W.heap.size := (Array.getElem?_eq_some_iff.1 h).1
theorem SetBlock.below {W W' : World} {B a b : Nat} (h : SetBlock W B a b) (hb : Below W.heap.size W W') : SetBlock W' B a b := (hb.block B h.lt).trans h
theorem SetBlock.others {W W' : World} {B a b : Nat} (h : SetBlock W B a b) (hk : Lib.OthersKept 5 none W W') : SetBlock W' B a b := hk B _ h (by simp) (fun c fz e => by cases e)
theorem Boxed.below {W W' : World} {B : Nat} {t : TypeId} {v : Value} (h : Boxed W B t v) (hb : Below W.heap.size W W') : Boxed W' B t v := (hb.block B h.lt).trans h
theorem Boxed.others {W W' : World} {B : Nat} {v : Value} (h : Boxed W B 65 v) (hk : Lib.OthersKept 5 none W W') : Boxed W' B 65 v := hk B _ h (by simp) (fun c fz e => by cases e)
theorem Bytes.below {W W' : World} {B : Nat} {v : Value} {bs : List UInt8} (h : Bytes B v bs W) (hb : Below W.heap.size W W') : Bytes B v bs W' := owns_below h hb

theorem dig2_pos (n : Nat) : 0 < (dig2 n).length := by unfold dig2; split <;> simp
theorem addRun_pos (bs : List UInt8) (f l : Nat) : 0 < (addRun bs f l).length := by
  have h1 := dig2_pos f
  unfold addRun runB
  rw [List.length_append, List.length_append]
  generalize (if bs = [] then ([] : List UInt8) else bs ++ [44]).length = n1
  generalize (if f < l then 45 :: dig2 l else ([] : List UInt8)).length = n2
  omega
theorem bytes_slice {B : Nat} {v : Value} {bs : List UInt8} {w : World} (h : Bytes B v bs w) (h0 : 0 < bs.length) : ∃ g cap, v = .slice (some ⟨g, 0, none⟩) bs.length cap := by
  rcases h.2 with ⟨_, h1⟩ | ⟨g, cap, _, rfl, _⟩
  · omega
  · exact ⟨g, cap, rfl⟩

theorem bytes_string {B : Nat} {v : Value} {bs : List UInt8} {w : World} (h : Bytes B v bs w) : Sem.run Tryd.prog (convert 65 9 v) w = .ok (.string ⟨bs.toArray⟩) w := by
  have hc := fun g hg => h.cells (g := g) hg
  rcases h.2 with ⟨rfl, h0⟩ | ⟨g, cap, cur, rfl, _⟩
  · have : bs = [] := List.length_eq_zero_iff.1 h0
    subst this
    exact run_convert_bytes_nil (P := Tryd.prog) w 65 5 Tryd.underlying65 Tryd.underlying5 0 0 9 Tryd.underlying9
  · refine run_convert_bytes_back (P := Tryd.prog) w 65 9 5 ⟨g, 0, none⟩ cap bs Tryd.underlying65 Tryd.underlying5 Tryd.underlying9 fun j hj => ?_
    exact hc g rfl j _ (by unfold Lib.byteCells; rw [List.getElem?_map, List.getElem?_eq_getElem hj]; rfl)

set_option maxRecDepth 100000 in
set_option maxHeartbeats 4000000 in
theorem text_any (a b : Nat) (w : World) (ha : a < 4294967296) (hb : b < 4294967296) (hab : ¬ (a = 0 ∧ b = 0)) (hT : Tab w) (hg : 0 < w.heap.size) (hP : Pow w.heap.size w) :
    Calls Tryd.prog 24 #[.agg #[.int .u32 (a : Int), .int .u32 (b : Int)]] w fun e W' => e = .returned (.string ⟨(runsB a b (mem (first0 a) (first1 a b))).toArray⟩) ∧ Below w.heap.size w W' := by
  have heq : ∀ w, Sem.run Tryd.prog (Op.equalIn 10000 25 (.agg #[.int .u32 (a : Int), .int .u32 (b : Int)]) (.agg #[.int .u32 0, .int .u32 0])) w = .ok false w := fun w => by
    rw [eqSet]
    congr 1
    rw [Bool.and_eq_false_iff]
    by_cases h : a = 0
    · exact .inr (by rw [beq_eq_false_iff_ne]; omega)
    · exact .inl (by rw [beq_eq_false_iff_ne]; omega)
  obtain ⟨rb, hrb⟩ : ∃ rb, runsB a b (mem (first0 a) (first1 a b)) = rb := ⟨_, rfl⟩
  rw [hrb]
  have Hrb := Lib.hid hrb
  have HP := Lib.hid hP
  clear hrb hP hab
  have hs0 := isSet_new w a b
  have hl0 := first0_lt a ha
  have hl1 := first1_lt a b hb
  obtain ⟨fa, hfa⟩ : ∃ fa, first0 a = fa := ⟨_, rfl⟩
  obtain ⟨fb, hfb⟩ : ∃ fb, first1 a b = fb := ⟨_, rfl⟩
  rw [hfa] at hl0
  rw [hfb] at hl1
  have hfir := firsts_any a b
  rw [hfa, hfb] at hfir
  have Hrb2 := Hrb.out
  rw [hfa, hfb] at Hrb2
  have Hrb3 := Lib.hid Hrb2
  have Hfir := Lib.hid hfir
  clear Hrb Hrb2 hfir hfa hfb
  refine (callsIn_wide (n := 4)).1 ?_
  refine callsIn_of_wp_marks Tryd.func24 rfl trivial ?_ rfl
  simp only [Tryd.ntmps24, List.size_toArray, List.length_cons, List.length_nil, Nat.reduceAdd, Nat.reduceSub, Array.replicate_succ, Array.replicate_zero, List.push_toArray, List.append_toArray, List.nil_append, List.cons_append]
  gi_wp2
  refine wpIn_wide.2 (wp_scope_straight ((wpIn_wide (n := 4)).1 ?_))
  gi_wp2
  refine wpIn_label ?_
  gi_wp2_with (first
    | (refine ⟨trivial, ?_⟩; gi_at_call 42; refine (callsIn_wide.2 (Hfir.out _ ha hb)).mono ?_; rintro e w1 ⟨rfl, hb1⟩)
    | (refine ⟨trivial, ?_⟩; gi_at_call 37; refine (callsIn_wide.2 (members_any fa fb _)).mono ?_; rintro e w' ⟨rfl, rfl⟩))
  obtain ⟨X, hX⟩ : ∃ X, (w.alloc (.cells #[.int .u32 (a : Int), .int .u32 (b : Int)] 25)).alloc (.cells #[.slice none 0 0] 65) = X := ⟨_, rfl⟩
  have hXb : Below w.heap.size w X := by rw [← hX]; exact ((Below.refl _ w).alloc (Nat.le_refl _) _).alloc (by simp) _
  have hXs : X.heap.size = w.heap.size + 1 + 1 := by rw [← hX]; simp
  have sX : SetBlock X w.heap.size a b := by
    rw [← hX]
    exact (Below.heap_alloc _ _ _ (by simp)).trans (World.alloc_heap_new w _)
  have oX : Boxed X (w.heap.size + 1) 65 (.slice none 0 0) := by
    rw [← hX]
    have h := Boxed.new (w.alloc (.cells #[.int .u32 (a : Int), .int .u32 (b : Int)] 25)) 65 (.slice none 0 0)
    simpa only [World.size_alloc] using h
  rw [hX] at hb1
  have h1b : Below w.heap.size w w1 := below_endL hXb hb1
  have s1 := sX.below hb1
  have o1 := Boxed.below oX hb1
  have hg1 : 0 < w1.heap.size := Nat.lt_of_lt_of_le hg h1b.size
  have hT1 := hT.below hg h1b
  have hz1 := hb1.size
  rw [hXs] at hz1
  have hsN := isSet_new w1 fa fb
  obtain ⟨Z, hZ⟩ : ∃ Z, w1.alloc (.cells #[.int .u32 (fa : Int), .int .u32 (fb : Int)] 25) = Z := ⟨_, rfl⟩
  have hZw : Below w1.heap.size w1 Z := by rw [← hZ]; exact (Below.refl _ _).alloc (Nat.le_refl _) _
  have hZs : Z.heap.size = w1.heap.size + 1 := by rw [← hZ]; simp
  rw [hZ] at hsN ⊢
  have hB0 := below_endL h1b hZw
  have hTZ := hT1.below hg1 hZw
  have sZ := s1.below hZw
  have oZ := Boxed.below o1 hZw
  clear hZ hZw hT1 s1 o1 sX oX hX hb1 h1b hXb hXs
  refine wpIn_rangeFunc_ownG (n := 4) rfl (by omega) (gf := 46) (lb := #[.pointer (some ⟨w1.heap.size, 0, none⟩)]) rfl trivial (enters_of Tryd.func46 (by kernel_rfl) rfl)
    (members_stops 3 (by omega) w1.heap.size w.heap.size hg fa fb hl0 hl1 Z hsN hTZ (by omega)) belowK_t (belowK_b (by omega)) (Below.refl _ _) (fun _ => rfl)
    (fun pre W => ((∃ v, Boxed W (w.heap.size + 1) 65 v ∧ W.ownsRow w.heap.size 5 1 v (runsB a b (valsOf pre)).length (Lib.byteCells (runsB a b (valsOf pre))) ∧ True) ∧ SetBlock W w.heap.size a b) ∧ Below w.heap.size w W)
    (fun _ _ _ => False)
    (OwnFrom.and (OwnFrom.and (Own.from (holdsRow_own w.heap.size (w.heap.size + 1) 65 5 1 (fun pre => (runsB a b (valsOf pre)).length) (fun pre => Lib.byteCells (runsB a b (valsOf pre))) (fun _ _ => True)) _)
      (Own.from (fun s A B row hs hg hr => (grownBy_keeps_cells hg hr hs rfl).trans hs) _)) (ownFrom_below (Nat.le_refl _) (by omega)))
    (fun _ _ _ _ _ hs _ _ => hs)
    ⟨⟨⟨_, oZ, World.ownsRow_nil _ _ _ _, trivial⟩, sZ⟩, hB0⟩
    (fun x => { tmps := #[.agg #[.int .u32 (a : Int), .int .u32 (b : Int)], .pointer (some ⟨w.heap.size, 0, none⟩), .string ⟨#[]⟩, .pointer (some ⟨w.heap.size + 1, 0, none⟩), .int .i64 (x.1 : Int), undef, .agg #[.int .u32 (a : Int), .int .u32 (b : Int)], .agg #[.int .u32 0, .int .u32 0], .bool false, .agg #[.int .u32 (a : Int), .int .u32 (b : Int)], .agg #[.int .u32 (fa : Int), .int .u32 (fb : Int)], .func (.func 46) #[] #[.pointer (some ⟨w1.heap.size, 0, none⟩)], .int .i64 (x.1 : Int), undef, undef, undef, undef, undef, undef, undef, undef, undef, undef, undef, undef, undef], defers := [] }) ?assign ?body ?done ?stop
  case assign =>
    intro l x W K hK
    gi_wp2
    exact hK
  case body =>
    rintro l pre x W ⟨⟨⟨v, hv, hrow, _⟩, hsb⟩, hB⟩ hlt
    have Hrow : Hid (Bytes w.heap.size v (runsB a b (valsOf pre)) W) := hrow
    have Hv := Lib.hid hv
    have Hsb := Lib.hid hsb
    have hlen : (runsB a b (valsOf pre)).length ≤ 900 := by
      have h1 := runsB_len a b pre
      have h2 := length_memI fa fb
      unfold memI at h2
      rw [List.length_map] at h2
      omega
    clear hrow hv hsb
    gi_wp2
    gi_loopw [5] (fun v5 wr => ∃ m : Nat, v5 = .int .i64 (m : Int) ∧ m < 64 ∧ lastOf a b x.1 = lastOf a b m ∧ Below W.heap.size W wr) (fun v5 _ => 64 - (intOf v5).toNat)
    case atStart => exact ⟨x.1, rfl, x.2, rfl, Below.refl _ _⟩
    case round =>
      obtain ⟨m, rfl, hm, hlast, hbr⟩ := hrel
      have hsb := Hsb.out.below hbr
      have hvb := Boxed.below Hv.out hbr
      obtain ⟨c0, c1⟩ := hsb.cells
      have bc := hvb.cell
      by_cases hm1 : memP a b (m + 1) = true
      · have hlt1 : m + 1 < 64 := by
          unfold memP at hm1
          simp only [Bool.and_eq_true, decide_eq_true_eq] at hm1
          exact hm1.1
        have hlast2 := hlast.trans (lastOf_more a b m hm hm1)
        have hH := fun w => has_yes a b (m + 1) w ha hb hlt1 ((memP_in hlt1).symm.trans hm1)
        rw [show ((m + 1 : Nat) : Int) = (m : Int) + 1 from by omega] at hH
        have HH := Lib.hid hH
        have Hlast := Lib.hid hlast2
        clear hH hlast hlast2 hm1
        gi_wp2_with (refine ⟨trivial, ?_⟩; gi_at_call 32; refine (CallsIn.inRound l (callsIn_wide.2 (HH.out _))).mono ?_; rintro e w2 ⟨rfl, hb2⟩)
        go_roundw
        case rel => exact ⟨m + 1, by go_num, hlt1, Hlast.out, below_endL hbr hb2⟩
        case measure => simp [intOf]; omega
      · have hend := hlast.trans (lastOf_end a b m hm (by simpa using hm1))
        have hH : ∀ w, Calls Tryd.prog 32 #[.agg #[.int .u32 (a : Int), .int .u32 (b : Int)], .int .i64 ((m : Int) + 1)] w fun e w' => e = .returned (.bool false) ∧ Below w.heap.size w w' := by
          intro w
          by_cases hlt1 : m + 1 < 64
          · have h := has_no a b (m + 1) w ha hb hlt1 (by rw [← memP_in hlt1]; simpa using hm1)
            rwa [show ((m + 1 : Nat) : Int) = (m : Int) + 1 from by omega] at h
          · exact has_out a b _ w (by omega)
        have HH := Lib.hid hH
        have Hend := Lib.hid hend
        clear hH hlast hend hm1
        gi_wp2_with (first
          | (refine ⟨trivial, ?_⟩; gi_at_call 32; refine (CallsIn.inRound l (callsIn_wide.2 (HH.out _))).mono ?_; rintro e w2 ⟨rfl, hb2⟩; have hb2w := below_endL hbr hb2; have bv2 := Boxed.below Hv.out hb2w; have bc2 := bv2.cell)
          | (refine ⟨trivial, ?_⟩; gi_at_call 43; refine (CallsIn.inRound l (callsIn_wide.2 (appendRun_any w.heap.size _ x.1 m x.2 hm v _ (Bytes.below Hrow.out hb2w) (Nat.le_trans hB.size hb2w.size) hlen (HP.out.on (below_endL hB hb2w))))).mono ?_; rintro e w3 ⟨v3, rfl, hrow3, hb3, hk3⟩; have bv3 := Boxed.others bv2 hk3; have bc3 := bv3.cell; have bf3 := bv3.frozen; obtain ⟨g3, cap3, rfl⟩ := bytes_slice hrow3 (addRun_pos _ _ _)))
        refine ⟨((keeps_below hb2w).trans ((keeps_others hk3 (Nat.le_trans (by have := hb2w.size; have := hB.size; omega) hb3.size)).trans (KeepsOthers.setCell _ _ _))).from _, ?_, ⟨⟨⟨_, bv3.set _, ?_, trivial⟩, ?_⟩, ?_⟩⟩
        · exact ((hb2w.mono hB.size).trans hb3).setCell (p := ⟨w.heap.size + 1, 0, none⟩) (by simp) _
        · rw [valsOf_snoc, runsB_snoc, Hend.out]
          exact hrow3.kept (grownBy_setCell' w3 _ _) (.inr (bv3.not_row (by decide) hrow3).symm)
        · exact (Below.heap_setCell _ _ _ _ (by simp)).trans (SetBlock.others (Hsb.out.below hb2w) hk3)
        · exact hB.trans (((hb2w.mono hB.size).trans hb3).setCell (p := ⟨w.heap.size + 1, 0, none⟩) (by simp) _)
  case done =>
    rintro D ys W hD hys ⟨⟨⟨v, hv, hrow, _⟩, _⟩, hB⟩ hK
    have hc := hv.cell
    have hcv := bytes_string (show Bytes w.heap.size v (runsB a b (valsOf ys)) W from hrow)
    rw [hys, Hrb3.out] at hcv
    clear hrow
    gi_wp2
    rw [Exit.noGoto_ret]
    refine ⟨by simp, .inl ⟨_, _, rfl, run_takeDeferred hK, ?_⟩⟩
    exact ⟨_, results_tmp rfl _ _ _, rfl, hB.trans (belowK_b (w := w) (Nat.le_refl _) W D _ _ (by omega) hK rfl rfl)⟩
  case stop =>
    rintro D c pre W _ _ h _
    exact h.elim
end Go.Proofs.YthpinbngggcgcaaDoor
