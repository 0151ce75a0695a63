/-
  circle.segments: the pieces of so many places, one, or two where they go round; at none places nothing.
-/
import Derived.Test.YtjejpgognfadoaaGreatDoorRgMem
namespace Go.Proofs.YtjejpgognfadoaaGreatDoor
open Go.RowKit Go.Maps Go.ChangeMaps Go.Shelf

attribute [local go_sem] Oper.semAt_some

/-- A piece of L places: where it starts, and how many they are. -/
def Pc (L : Nat) : Type := { x : Nat × Nat // x.1 + x.2 ≤ L }
def Pc.off {L : Nat} (x : Pc L) : Nat := x.1.1
def Pc.len {L : Nat} (x : Pc L) : Nat := x.1.2
theorem Pc.le {L : Nat} (x : Pc L) : x.off + x.len ≤ L := x.2
def pcMk {L : Nat} (o n : Nat) (h : o + n ≤ L) : Pc L := ⟨(o, n), h⟩
def encP (g : Nat) {L : Nat} (x : Pc L) : Array Value := #[.slice (some ⟨g, x.off, none⟩) x.len (L - x.off)]

/-- The pieces of k places from number f on. -/
def pieces (L f k : Nat) (h : k ≤ L) : List (Pc L) :=
  if h0 : k = 0 then [] else
    have hm : f % L < L := Nat.mod_lt f (by omega)
    pcMk (f % L) (ahd L f k) (by have := ahd_le' L f k; omega) :: (if ahd L f k < k then [pcMk 0 (k - ahd L f k) (by omega)] else [])
theorem pieces_none (L f k : Nat) (h : k ≤ L) (h0 : k = 0) : pieces L f k h = [] := by unfold pieces; rw [dif_pos h0]
theorem pieces_one (L f k : Nat) (h : k ≤ L) (h0 : 0 < k) (h1 : ¬ ahd L f k < k) (x : Pc L) (hx : x.off = f % L) (hy : x.len = ahd L f k) : pieces L f k h = [] ++ [x] := by
  unfold pieces; rw [dif_neg (by omega), if_neg h1]
  obtain ⟨⟨a, b⟩, hab⟩ := x
  simp only [Pc.off, Pc.len] at hx hy
  subst hx; subst hy; rfl
theorem pieces_two (L f k : Nat) (h : k ≤ L) (h0 : 0 < k) (h1 : ahd L f k < k) (x y : Pc L) (hx : x.off = f % L) (hx' : x.len = ahd L f k) (hy : y.off = 0) (hy' : y.len = k - ahd L f k) : pieces L f k h = ([] ++ [x]) ++ [y] := by
  unfold pieces; rw [dif_neg (by omega), if_pos h1]
  obtain ⟨⟨a, b⟩, hab⟩ := x
  obtain ⟨⟨c, d⟩, hcd⟩ := y
  simp only [Pc.off, Pc.len] at hx hx' hy hy'
  subst hx; subst hx'; subst hy; subst hy'; rfl

/-- What the iterator reads. -/
structure SegAt (W : World) (bN bF bC cb g L f k : Nat) (cap inn out : Value) : Prop where
  n : Boxed W bN 3 (.int .i64 (k : Int))
  f : Boxed W bF 35 (.int .u64 (f : Int))
  c : Boxed W bC 100 (.pointer (some ⟨cb, 0, none⟩))
  blk : Blk W cb 104 #[cap, .slice (some ⟨g, 0, none⟩) L L, inn, out]
theorem SegAt.same {W W' : World} {bN bF bC cb g L f k : Nat} {cap inn out : Value} (h : SegAt W bN bF bC cb g L f k cap inn out) (e : ∀ i, (i = bN ∨ i = bF ∨ i = bC ∨ i = cb) → i < W.heap.size → W'.heap[i]? = W.heap[i]?) : SegAt W' bN bF bC cb g L f k cap inn out :=
  ⟨(e _ (.inl rfl) h.n.lt).trans h.n, (e _ (.inr (.inl rfl)) h.f.lt).trans h.f, (e _ (.inr (.inr (.inl rfl))) h.c.lt).trans h.c, h.blk.same (e _ (.inr (.inr (.inr rfl))) h.blk.lt)⟩

/-- Behind the last round. -/
def SegFin {L : Nat} (J Jx : List (Pc L) → World → Prop) (xs : List (Pc L)) (b : Bool) (W : World) : Prop := match b with | true => J xs W | false => Jx xs W

set_option maxRecDepth 100000 in
set_option maxHeartbeats 4000000 in
theorem segs_in (n : Nat) (hn : 1 ≤ n) (l bN bF bC cb g L f k : Nat) (cap inn out : Value) (hL : L ≤ 65536) (hk : k ≤ L) (hk0 : 0 < k) (hf : f ≤ 1000000000)
    (Kp : World → World → Prop) (hKp : ∀ X Y i, Kp X Y → (i = bN ∨ i = bF ∨ i = bC ∨ i = cb) → i < X.heap.size → Y.heap[i]? = X.heap[i]?) (J Jx : List (Pc L) → World → Prop)
    (hJ : ∀ s X Y, J s X → Kept (fun _ => False) X Y → J s Y)
    (hY : ∀ pre (x : Pc L) W, J pre W → pre.length < 2 → YieldAt Fence.wide (n - 1) Tryz.prog l (encP g x) W fun e W' =>
      (e = .returned (.bool true) ∧ J (pre ++ [x]) W' ∧ Kp W W') ∨ (e = .returned (.bool false) ∧ Jx (pre ++ [x]) W'))
    (W : World) (hs : SegAt W bN bF bC cb g L f k cap inn out) (h0 : J [] W) :
    CallsIn Fence.wide n Tryz.prog 106 #[.func (.yield l) #[] #[], .pointer (some ⟨bN, 0, none⟩), .pointer (some ⟨bF, 0, none⟩), .pointer (some ⟨bC, 0, none⟩)] W fun e W' => (∃ v, e = .returned v) ∧
      ((∃ ys, ys = pieces L f k hk ∧ J ys W') ∨ (∃ pre, (∃ r, pre ++ r = pieces L f k hk) ∧ Jx pre W')) := by
  have cN := hs.n.cell
  have cF := hs.f.cell
  have cC := hs.c.cell
  have c1 := hs.blk.cell 1
  simp at c1
  have lc := hs.blk.lt
  have hm : f % L < L := Nat.mod_lt f (by omega)
  obtain ⟨s, hs0⟩ : ∃ s, s = f % L := ⟨_, rfl⟩
  obtain ⟨m, hm0⟩ : ∃ m, m = ahd L f k := ⟨_, rfl⟩
  have hm1 : m = min k (L - s) := by rw [hm0, hs0]; rfl
  have hsl : s < L := by omega
  have e1 : IntKind.u64.wrap (L : Int) = (L : Int) := IntWalk.u64_in _ (by omega)
  have e2 : (f : Int).tmod (L : Int) = (s : Int) := by rw [hs0]; rfl
  have e3 : IntKind.i64.wrap (s : Int) = (s : Int) := IntWalk.i64_in _ (by omega)
  have e4 : IntKind.u64.wrap (s : Int) = (s : Int) := IntWalk.u64_in _ (by omega)
  have HS := Lib.hid (And.intro hs (And.intro h0 (And.intro hs0 (And.intro hm0 hm1))))
  clear hs h0 hs0 hm0 hm1 hm
  have b0 : (0 : Int) < (k : Int) := by omega
  have b1 : ((k : Int) == 0) = false := by simp; omega
  refine callsIn_of_wp Tryz.func106 rfl trivial ?_ rfl
  simp only [Tryz.ntmps106, List.size_toArray, List.length_cons, List.length_nil, Nat.reduceAdd, Nat.reduceSub, Array.replicate_succ, Array.replicate_zero, List.push_toArray, List.append_toArray, List.nil_append, List.cons_append]
  have HY := Lib.hid (fun q (x : Pc L) => hY [] x (W.drewN q) (hJ _ _ _ HS.out.2.1 ((Kept.refl _ W).drewN q)) (by simp))
  have HJ := Lib.hid (fun q => hJ _ _ _ HS.out.2.1 ((Kept.refl _ W).drewN q))
  have HJ2 := Lib.hid hJ
  have HY2 := Lib.hid hY
  clear hJ hY
  gi_wp2_with fail
  refine wpIn_wide.2 ?_
  go_quiet (fail)
  obtain ⟨q1, rfl⟩ : ∃ q1 : Nat, q1 = nq := ⟨_, rfl⟩
  have e5 : IntKind.i64.wrap ((s : Int) + (k : Int)) = (s : Int) + (k : Int) := IntWalk.i64_in _ (by omega)
  have b2 : (0 : Int) ≤ (s : Int) := by omega
  have b3 : (s : Int) < (L : Int) := by omega
  have b4 : (L : Int) ≤ 65536 := by omega
  by_cases hw : (s : Int) + (k : Int) ≤ (L : Int)
  · have hw' : min ((s : Int) + (k : Int)) (L : Int) = (s : Int) + (k : Int) := by omega
    gi_wp2_with fail
    refine wpIn_wide.2 ?_
    go_quiet (fail)
    obtain ⟨q2, rfl⟩ : ∃ q2 : Nat, q2 = nq := ⟨_, rfl⟩
    obtain ⟨fn, tmps, assign, body, hy, hR⟩ := HY.out (q1 + q2) (pcMk s k (by omega))
    simp only [encP, pcMk, Pc.off, Pc.len] at hy
    gi_wp2_with fail
    have hP : pieces L f k hk = [] ++ [pcMk s k (by omega)] := by
      obtain ⟨_, _, h3, h4, h5⟩ := HS.out
      exact pieces_one L f k hk hk0 (by omega) _ h3 (by show k = _; omega)
    have HP := Lib.hid hP
    clear hP hy
    refine hR.mono ?_
    rintro e W3 (⟨rfl, hJ3, hk3⟩ | ⟨rfl, hJx3⟩)
    · have s3 := (HS.out.1.same (W' := W.drewN (q1 + q2)) (fun _ _ _ => rfl)).same (fun i hi hl => hKp _ _ i hk3 hi hl)
      have d1 := s3.n.cell
      have HJ3 := Lib.hid hJ3
      have hd : decide ((s : Int) + (k : Int) < (s : Int) + (k : Int)) = false := by simp
      clear s3 hJ3 hk3 cN cF cC c1 hR hKp
      gi_wp2
      go_end0
      exact ⟨⟨_, rfl⟩, .inl ⟨_, HP.out.symm, HJ3.out⟩⟩
    · clear cN cF cC c1 hR hKp
      gi_wp2
      go_end0
      exact ⟨⟨_, rfl⟩, .inr ⟨_, ⟨[], by rw [HP.out]; simp⟩, hJx3⟩⟩
  · have hw' : min ((s : Int) + (k : Int)) (L : Int) = (L : Int) := by omega
    have hw2 : (L : Int) < (s : Int) + (k : Int) := by omega
    clear hw
    gi_wp2_with fail
    refine wpIn_wide.2 ?_
    go_quiet (fail)
    obtain ⟨q2, rfl⟩ : ∃ q2 : Nat, q2 = nq := ⟨_, rfl⟩
    obtain ⟨fn, tmps, assign, body, hy, hR⟩ := HY.out (q1 + q2) (pcMk s (L - s) (by omega))
    simp only [encP, pcMk, Pc.off, Pc.len] at hy
    gi_wp2_with fail
    clear hy
    refine hR.mono ?_
    rintro e W3 (⟨rfl, hJ3, hk3⟩ | ⟨rfl, hJx3⟩)
    · have s3 := (HS.out.1.same (W' := W.drewN (q1 + q2)) (fun _ _ _ => rfl)).same (fun i hi hl => hKp _ _ i hk3 hi hl)
      have d1 := s3.n.cell
      have d2 := s3.f.cell
      have d3 := s3.c.cell
      have d4 := s3.blk.cell 1
      simp at d4
      have l4 := s3.blk.lt
      have hd : decide ((L : Int) < (s : Int) + (k : Int)) = true := by simpa using hw2
      obtain ⟨t, ht⟩ : ∃ t, t = k - (L - s) := ⟨_, rfl⟩
      have htl : 0 + t ≤ L := by omega
      have HP := Lib.hid (show pieces L f k hk = ([] ++ [pcMk s (L - s) (by omega)]) ++ [pcMk 0 t htl] by
        obtain ⟨_, _, h3, h4, h5⟩ := HS.out
        exact pieces_two L f k hk hk0 (by omega) _ _ h3 (by show L - s = _; omega) rfl (by show t = _; omega))
      obtain ⟨fn2, tmps2, assign2, body2, hy2, hR2⟩ := HY2.out ([] ++ [pcMk s (L - s) (by omega)]) (pcMk 0 t htl) W3.drew (HJ2.out _ _ _ hJ3 ((Kept.refl _ W3).drewN 1)) (by simp)
      simp only [encP, pcMk, Pc.off, Pc.len, Nat.sub_zero] at hy2
      have hR3 : RoundIn Fence.wide (n - 1) Tryz.prog l fn2 tmps2 assign2 body2 W3.drew fun e W' => ∃ b : Bool, e = .returned (.bool b) ∧ SegFin J Jx ([] ++ [pcMk s (L - s) (by omega)] ++ [pcMk 0 t htl]) b W' := by
        refine hR2.mono ?_
        rintro e W4 (⟨rfl, h1, _⟩ | ⟨rfl, h1⟩)
        · exact ⟨true, rfl, h1⟩
        · exact ⟨false, rfl, h1⟩
      clear hR2
      have e6 : ((s : Int) + (k : Int) - (L : Int)) = (t : Int) := by omega
      have e7 : IntKind.i64.wrap (t : Int) = (t : Int) := IntWalk.i64_in _ (by omega)
      have b5 : (0 : Int) ≤ (t : Int) := by omega
      have b6 : (t : Int) ≤ (L : Int) := by omega
      have b7 : t ≤ L := by omega
      have b8 : 0 < L := by omega
      have b9 : (0 : Int) < (L : Int) := by omega
      have HJ3 := Lib.hid hJ3
      have HT := Lib.hid ht
      clear s3 hJ3 hk3 cN cF cC c1 hR hKp ht
      gi_wp2_with fail
      have hmx : Tryz.prog.follows .mixedOrders = true := by kernel_rfl
      gi_region_with_o (refine hR3.mono ?_; rintro e W4 ⟨b, rfl, hF⟩)
      all_goals (
        go_end0
        refine ⟨⟨_, rfl⟩, ?_⟩
        cases b with
        | true => exact .inl ⟨_, HP.out.symm, hF⟩
        | false => exact .inr ⟨_, ⟨[], by rw [HP.out, List.append_nil]⟩, hF⟩)
    · clear cN cF cC c1 hR hKp
      gi_wp2
      go_end0
      have HP := Lib.hid (show pieces L f k hk = ([] ++ [pcMk s (L - s) (by omega)]) ++ [pcMk 0 (k - (L - s)) (by omega)] by
        obtain ⟨_, _, h3, h4, h5⟩ := HS.out
        exact pieces_two L f k hk hk0 (by omega) _ _ h3 (by show L - s = _; omega) rfl (by show k - (L - s) = _; omega))
      exact ⟨⟨_, rfl⟩, .inr ⟨_, ⟨_, HP.out.symm⟩, hJx3⟩⟩

set_option maxRecDepth 100000 in
set_option maxHeartbeats 1000000 in
theorem segs_none_in (n : Nat) (hn : 1 ≤ n) (l bN bF bC L f : Nat) (J Jx : List (Pc L) → World → Prop) (W : World) (hs : Boxed W bN 3 (.int .i64 0)) (h0 : J [] W) :
    CallsIn Fence.wide n Tryz.prog 106 #[.func (.yield l) #[] #[], .pointer (some ⟨bN, 0, none⟩), .pointer (some ⟨bF, 0, none⟩), .pointer (some ⟨bC, 0, none⟩)] W fun e W' => (∃ v, e = .returned v) ∧
      ((∃ ys, ys = pieces L f 0 (Nat.zero_le _) ∧ J ys W') ∨ (∃ pre, (∃ r, pre ++ r = pieces L f 0 (Nat.zero_le _)) ∧ Jx pre W')) := by
  have cN := hs.cell
  have HJ := Lib.hid h0
  clear h0 hs
  refine callsIn_of_wp Tryz.func106 rfl trivial ?_ rfl
  simp only [Tryz.ntmps106, List.size_toArray, List.length_cons, List.length_nil, Nat.reduceAdd, Nat.reduceSub, Array.replicate_succ, Array.replicate_zero, List.push_toArray, List.append_toArray, List.nil_append, List.cons_append]
  gi_wp2
  refine bodyPost_ret (results_none rfl _ _ _) rfl ?_
  exact ⟨⟨_, rfl⟩, .inl ⟨_, (pieces_none _ _ _ _ rfl).symm, HJ.out⟩⟩

/-- The iterator, as a range wants it. -/
theorem segs_ch (n : Nat) (hn : 1 ≤ n) (bN bF bC cb g L f k : Nat) (cap inn out : Value) (hL : L ≤ 65536) (hk : k ≤ L) (hk0 : 0 < k) (hf : f ≤ 1000000000)
    (Kp : World → World → Prop) (hKp : ∀ X Y i, Kp X Y → (i = bN ∨ i = bF ∨ i = bC ∨ i = cb) → i < X.heap.size → Y.heap[i]? = X.heap[i]?) (w : World) (hs : SegAt w bN bF bC cb g L f k cap inn out) :
    SeqCh n Tryz.prog 106 #[.pointer (some ⟨bN, 0, none⟩), .pointer (some ⟨bF, 0, none⟩), .pointer (some ⟨bC, 0, none⟩)] (fun x : Pc L => encP g x) Kp (Kept (fun _ => False))
      (fun xs _ => xs = pieces L f k hk) (fun pre => ∃ r, pre ++ r = pieces L f k hk) 2 w := fun l J Jx W hW hz hJ hY h0 =>
  segs_in n hn l bN bF bC cb g L f k cap inn out hL hk hk0 hf Kp hKp J Jx hJ hY W (hs.same fun i hi hl => hW i hl) h0
theorem segs_none_ch (n : Nat) (hn : 1 ≤ n) (bN bF bC L f : Nat) (g : Nat) (Kp : World → World → Prop) (w : World) (hs : Boxed w bN 3 (.int .i64 0)) :
    SeqCh n Tryz.prog 106 #[.pointer (some ⟨bN, 0, none⟩), .pointer (some ⟨bF, 0, none⟩), .pointer (some ⟨bC, 0, none⟩)] (fun x : Pc L => encP g x) Kp (Kept (fun _ => False))
      (fun xs _ => xs = pieces L f 0 (Nat.zero_le _)) (fun pre => ∃ r, pre ++ r = pieces L f 0 (Nat.zero_le _)) 0 w := fun l J Jx W hW hz hJ hY h0 =>
  segs_none_in n hn l bN bF bC L f J Jx W ((hW _ hs.lt).trans hs) h0
end Go.Proofs.YtjejpgognfadoaaGreatDoor
