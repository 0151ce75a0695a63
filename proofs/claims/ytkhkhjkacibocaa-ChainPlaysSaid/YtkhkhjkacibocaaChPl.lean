/-
  ChainPlays: any round; the calls that a law is given; are they too many?
-/
import Derived.Test.YtkhkhjkacibocaaChDoB
import Derived.Test.YtkhkhjkacibocaaChDoC
import Derived.Test.YtkhkhjkacibocaaChDoD
import Derived.Test.YtkhkhjkacibocaaChDoE
namespace Go.Proofs.Ytkhkhjkacibocaa
open Go.RowKit Go.Shelf Go.Maps Go.ChangeMaps

/-- Any round. -/
theorem do_any {w0 w : World} {c d r s : Nat} (h : Du w0 c d r s w) {A : Option Addr} {n cp : Nat} {z : List Int} (k which nn f : Int) (many : Nat) (hs : Src w No2 A n cp z) (hz : Byt z) (hn : n ≤ 3000) (hm : many ≤ 4294967295) (hnn : -9223372036854775808 ≤ nn ∧ nn ≤ 9223372036854775807) (hf : -9223372036854775808 ≤ f ∧ f ≤ 9223372036854775807) :
    Calls Try.prog 11 #[.pointer (some ⟨c, 0, none⟩), .pointer (some ⟨d, 0, none⟩), .pointer (some ⟨r, 0, none⟩), .pointer (some ⟨s, 0, none⟩), .agg #[.int .i64 k, .int .u8 which, .slice A n cp, .int .i64 nn, .int .i64 f, .int .u32 (many : Int)]] w fun e w' => e = .returned (.bool true) ∧ Du w0 c d r s w' := by
  by_cases hx : k < 0 ∨ 9 < k
  · exact do_x h k which nn f many hs hz hn hm hnn hf hx
  by_cases h0 : k = 0
  · subst h0; exact do_0 h which nn f many hs hz hn hm hnn hf
  by_cases h1 : k = 1
  · subst h1; exact do_1 h which nn f many hs hz hn hm hnn hf
  by_cases h2 : k = 2
  · subst h2; exact do_2 h which nn f many hs hz hn hm hnn hf
  by_cases h3 : k = 3
  · subst h3; exact do_3 h which nn f many hs hz hn hm hnn hf
  by_cases h4 : k = 4
  · subst h4; exact do_4 h which nn f many hs hz hn hm hnn hf
  by_cases h5 : k = 5
  · subst h5; exact do_5 h which nn f many hs hz hn hm hnn hf
  by_cases h6 : k = 6
  · subst h6; exact do_6 h which nn f many hs hz hn hm hnn hf
  by_cases h7 : k = 7
  · subst h7; exact do_7 h which nn f many hs hz hn hm hnn hf
  by_cases h8 : k = 8
  · subst h8
    by_cases hn0 : nn < 0
    · exact do_8n h which nn f many hs hz hn hm hnn hf hn0
    · exact do_8p h which nn f many hs hz hn hm hnn hf (by omega)
  obtain rfl : k = 9 := by omega
  exact do_9 h which nn f many hs hz hn hm hnn hf

/-- A call that a law is given. -/
structure OpD where
  kind : Int
  which : Nat
  A : Option Addr
  n : Nat
  cp : Nat
  z : List Int
  nn : Int
  f : Int
  many : Nat
instance : Inhabited OpD := ⟨⟨0, 0, none, 0, 0, [], 0, 0, 0⟩⟩
structure OpD.Ok (x : OpD) (W : World) : Prop where
  src : Src W No2 x.A x.n x.cp x.z
  byt : Byt x.z
  nn : -9223372036854775808 ≤ x.nn ∧ x.nn ≤ 9223372036854775807
  f : -9223372036854775808 ≤ x.f ∧ x.f ≤ 9223372036854775807
  which : x.which ≤ 255
  many : x.many ≤ 4294967295
/-- A slice of calls that may be read. -/
def ArgOps (W : World) (A : Option Addr) (l : List OpD) : Prop :=
  (∀ x ∈ l, x.Ok W) ∧ (0 < l.length → ∃ b off, A = some ⟨b, off, none⟩ ∧ b < W.heap.size ∧ ∀ i x, l[i]? = some x →
    W.cell? ⟨b, off + i * 6, none⟩ = some (.int .i64 x.kind) ∧ W.cell? ⟨b, off + i * 6 + 1, none⟩ = some (.int .u8 (x.which : Int)) ∧ W.cell? ⟨b, off + i * 6 + 2, none⟩ = some (.slice x.A x.n x.cp) ∧
    W.cell? ⟨b, off + i * 6 + 3, none⟩ = some (.int .i64 x.nn) ∧ W.cell? ⟨b, off + i * 6 + 4, none⟩ = some (.int .i64 x.f) ∧ W.cell? ⟨b, off + i * 6 + 5, none⟩ = some (.int .u32 (x.many : Int)))
theorem ArgOps.at_ {w W : World} {A : Option Addr} {l : List OpD} (h : ArgOps w A l) (hb : Below w.heap.size w W) {k : Nat} (hk : k < l.length) : ∃ b off x, A = some ⟨b, off, none⟩ ∧ b < W.heap.size ∧ l[k]? = some x ∧ x.Ok w ∧
    W.cell? ⟨b, off + k * 6, none⟩ = some (.int .i64 x.kind) ∧ W.cell? ⟨b, off + k * 6 + 1, none⟩ = some (.int .u8 (x.which : Int)) ∧ W.cell? ⟨b, off + k * 6 + 2, none⟩ = some (.slice x.A x.n x.cp) ∧
    W.cell? ⟨b, off + k * 6 + 3, none⟩ = some (.int .i64 x.nn) ∧ W.cell? ⟨b, off + k * 6 + 4, none⟩ = some (.int .i64 x.f) ∧ W.cell? ⟨b, off + k * 6 + 5, none⟩ = some (.int .u32 (x.many : Int)) := by
  obtain ⟨h1, h2⟩ := h
  obtain ⟨b, off, rfl, hbl, hc⟩ := h2 (by omega)
  obtain ⟨x, hx⟩ : ∃ x, l[k]? = some x := ⟨_, List.getElem?_eq_getElem hk⟩
  obtain ⟨c0, c1, c2, c3, c4, c5⟩ := hc k x hx
  have hcc : ∀ j, W.cell? ⟨b, j, none⟩ = w.cell? ⟨b, j, none⟩ := fun j => World.cell?_of_block (a := ⟨b, j, none⟩) (hb.block b hbl)
  exact ⟨b, off, x, rfl, Nat.lt_of_lt_of_le hbl hb.size, hx, h1 x (List.mem_of_getElem? hx), (hcc _).trans c0, (hcc _).trans c1, (hcc _).trans c2, (hcc _).trans c3, (hcc _).trans c4, (hcc _).trans c5⟩

/-- What great answers. -/
def GreatR (l : List OpD) (e : Ending) : Prop := ∃ b, e = .returned (.bool b) ∧ (b = false → l.length ≤ 100 ∧ ∀ x ∈ l, x.n ≤ 3000)
set_option maxRecDepth 100000 in
set_option maxHeartbeats 4000000 in
theorem great_any (w : World) (A : Option Addr) (c : Nat) (l : List OpD) (hA : ArgOps w A l) (hl : l.length ≤ 9223372036854775807) :
    Calls Try.prog 10 #[.slice A l.length c] w fun e w' => GreatR l e ∧ w = w' := by
  have HA := Lib.hid hA
  clear hA
  by_cases h0 : 100 < l.length
  · have b0 : decide ((100 : Int) < (l.length : Int)) = true := by simp; omega
    have b1 : (100 : Int) < (l.length : Int) := by omega
    go_enter Try.func10, Try.ntmps10
    go_wp2_with fail
    go_ret
    exact ⟨⟨true, rfl, fun h => by cases h⟩, rfl⟩
  · have b0 : decide ((100 : Int) < (l.length : Int)) = false := by simp; omega
    have b1 : (l.length : Int) ≤ 100 := by omega
    go_enter Try.func10, Try.ntmps10
    go_wp2_with fail
    go_loop [3, 10] (fun a i => ∃ k q : Nat, a = .int .i64 (q : Int) ∧ i = .int .i64 (k : Int) ∧ q ≤ k ∧ k ≤ l.length ∧ ∀ j x, j < k → l[j]? = some x → x.n ≤ 3000) (fun _ i => l.length - (intOf i).toNat)
    case atStart => exact ⟨0, 0, rfl, rfl, Nat.le_refl _, Nat.zero_le _, fun j x hj => by omega⟩
    case round =>
      obtain ⟨k, q, rfl, rfl, hq, hk, hno⟩ := hrel
      by_cases hlt : k < l.length
      · obtain ⟨b, off, x, rfl, hbl, hx, hok, x0, x1, x2, x3, x4, x5⟩ := HA.out.at_ (Below.refl _ _) hlt
        have c0 : (0 : Int) ≤ (k : Int) := by omega
        have c1 : (k : Int) < (l.length : Int) := by omega
        have c2 : decide ((k : Int) < (l.length : Int)) = true := by simpa using c1
        by_cases hn : 3000 < x.n
        · have d0 : decide ((3000 : Int) < (x.n : Int)) = true := by simp; omega
          have d1 : (3000 : Int) < (x.n : Int) := by omega
          clear hno hok
          go_wp2_with fail
          go_ret
          exact ⟨⟨true, rfl, fun h => by cases h⟩, rfl⟩
        · have d0 : decide ((3000 : Int) < (x.n : Int)) = false := by simp; omega
          have d1 : (x.n : Int) ≤ 3000 := by omega
          have HN := Lib.hid (show ∀ j y, j < k + 1 → l[j]? = some y → y.n ≤ 3000 from fun j y hj hy => by
            by_cases e : j = k
            · subst e; rw [hx] at hy; cases hy; omega
            · exact hno j y (by omega) hy)
          by_cases hm : x.many = 0
          · have d2 : decide ((0 : Int) < (x.many : Int)) = false := by simp; omega
            have d3 : (x.many : Int) ≤ 0 := by omega
            rw [hm] at x5
            clear hno hok hx hm d2 d3
            go_wp2_with fail
            go_round
            case rel => exact ⟨k + 1, q, rfl, by go_num, by omega, by omega, HN.out⟩
            case measure => simp [intOf]; omega
          · have d2 : decide ((0 : Int) < (x.many : Int)) = true := by simp; omega
            have d3 : (0 : Int) < (x.many : Int) := by omega
            have d4 : 0 < x.many := by omega
            clear hno hok hx
            go_wp2_with fail
            go_round
            case rel => exact ⟨k + 1, q + 1, by go_num, by go_num, by omega, by omega, HN.out⟩
            case measure => simp [intOf]; omega
      · have c2 : decide ((k : Int) < (l.length : Int)) = false := by simp; omega
        have c3 : (l.length : Int) ≤ (k : Int) := by omega
        have HN := Lib.hid (show l.length ≤ 100 ∧ ∀ x ∈ l, x.n ≤ 3000 from ⟨by omega, fun x hx => by
          obtain ⟨j, hj⟩ := List.getElem?_of_mem hx
          exact hno j x (by have := (List.getElem?_eq_some_iff.1 hj).1; omega) hj⟩)
        clear hno
        go_wp2_with fail
        go_ret
        exact ⟨⟨_, rfl, fun _ => HN.out⟩, rfl⟩

/-- At the start. -/
theorem du_new (w : World) : Du w w.heap.size (w.heap.size + 1) (w.heap.size + 2) (w.heap.size + 3) ((((w.alloc (.cells #[.pointer none, .pointer none, .int .i64 0] 29)).alloc (.cells #[.pointer none, .pointer none, .int .i64 0] 29)).alloc (.cells #[.slice none 0 0] 33)).alloc (.cells #[.slice none 0 0] 33)) := by
  obtain ⟨t, b⟩ := two_new (Below.refl w.heap.size w)
  obtain ⟨V, hV⟩ : ∃ V, V = (w.alloc (.cells #[.pointer none, .pointer none, .int .i64 0] 29)).alloc (.cells #[.pointer none, .pointer none, .int .i64 0] 29) := ⟨_, rfl⟩
  have hVs : V.heap.size = w.heap.size + 2 := by rw [hV]; simp
  rw [← hV] at t b ⊢
  have k1 : Kept (fun _ => False) V ((V.alloc (.cells #[.slice none 0 0] 33)).alloc (.cells #[.slice none 0 0] 33)) := ((Kept.refl _ V).alloc _).alloc _
  have b1 := (Blk.new V 33 #[.slice none 0 0]).alloc (.cells #[.slice none 0 0] 33)
  have b2 := Blk.new (V.alloc (.cells #[.slice none 0 0] 33)) 33 #[.slice none 0 0]
  rw [World.size_alloc, hVs] at b2
  rw [hVs] at b1
  have nf : ∀ q, w.heap.size + 2 ≤ q → ∀ i, ¬ F2 w.heap.size [] (w.heap.size + 1) [] q i := fun q hq i e => by
    rcases e with (e | ⟨x, hx, _⟩) | (e | ⟨x, hx, _⟩)
    · omega
    · simp at hx
    · omega
    · simp at hx
  have lt : ∀ k i, E0 w.heap.size [] (w.heap.size + 1) [] (w.heap.size + 2) (w.heap.size + 3) k i → k < ((V.alloc (.cells #[.slice none 0 0] 33)).alloc (.cells #[.slice none 0 0] 33)).heap.size := fun k i e => by
    rw [World.size_alloc, World.size_alloc, hVs]
    rcases e with ((e | ⟨x, hx, _⟩) | (e | ⟨x, hx, _⟩)) | e | e
    · omega
    · simp at hx
    · omega
    · simp at hx
    · omega
    · omega
  exact ⟨[], [], none, 0, none, 0, t.kept k1, ⟨b1, Src.nl _ _, lt, fun _ => .inr (.inl rfl)⟩, ⟨b2, Src.nl _ _, lt, fun _ => .inr (.inr rfl)⟩, nf _ (by omega), nf _ (by omega), by omega, by omega, by omega, law_quiet b t.cc.base k1, (fun z hz => by simp [flat] at hz), fun z hz => by simp [flat] at hz⟩
theorem Du.parts {w0 w : World} {c d r s : Nat} (h : Du w0 c d r s w) : ∃ L M A1 p1 A2 p2, Two w w0.heap.size c L d M ∧ Rf w (E0 c L d M r s) r A1 p1 (flat L) ∧ Rf w (E0 c L d M r s) s A2 p2 (flat M) ∧ Below w0.heap.size w0 w := by
  obtain ⟨L, M, A1, p1, A2, p2, h1, h2, h3, h4, h5, h6, h7, h8, h9, h10, h11⟩ := h
  exact ⟨L, M, A1, p1, A2, p2, h1, h2, h3, h9⟩
theorem tmod_two (k : Nat) : Int.tmod (k : Int) 2 = 0 ∨ Int.tmod (k : Int) 2 = 1 := by
  have : Int.tmod (k : Int) 2 = ((k % 2 : Nat) : Int) := (Int.ofNat_tmod k 2).symm
  omega

set_option maxRecDepth 100000 in
set_option maxHeartbeats 8000000 in
theorem plays_law (w : World) (A : Option Addr) (c : Nat) (l : List OpD) (hA : ArgOps w A l) (hl : l.length ≤ 9223372036854775807) :
    Calls Try.prog 3 #[.slice A l.length c] w fun e w' => e = .returned (.bool true) ∧ Below w.heap.size w w' := by
  have HG := Lib.hid (great_any w A c l hA hl)
  have HA := Lib.hid hA
  clear hA
  go_enter Try.func3, Try.ntmps3
  go_wp2_with fail
  refine HG.out.mono ?_
  rintro e w' ⟨⟨b, rfl, hb⟩, rfl⟩
  cases b with
  | true =>
    go_wp2_with fail
    go_ret
    exact ⟨rfl, Below.refl _ _⟩
  | false =>
    have HB := Lib.hid (hb rfl)
    have hD := du_new w
    obtain ⟨V, hV⟩ : ∃ V, V = (((w.alloc (.cells #[.pointer none, .pointer none, .int .i64 0] 29)).alloc (.cells #[.pointer none, .pointer none, .int .i64 0] 29)).alloc (.cells #[.slice none 0 0] 33)).alloc (.cells #[.slice none 0 0] 33) := ⟨_, rfl⟩
    rw [← hV] at hD
    have HD := Lib.hid hD
    have HV := Lib.hid hV
    have hln := HB.out.1
    clear hb hD hV HG
    go_wp2_with fail
    rw [← HV.out]
    have HD := Lib.hid (show Du w w.heap.size (w.heap.size + 1) (w.heap.size + 1 + 1) (w.heap.size + 1 + 1 + 1) V from HD.out)
    obtain ⟨sa, hsa⟩ : ∃ x, x = w.heap.size + 1 + 1 + 1 := ⟨_, rfl⟩
    obtain ⟨ra, hra⟩ : ∃ x, x = w.heap.size + 1 + 1 := ⟨_, rfl⟩
    obtain ⟨da, hda⟩ : ∃ x, x = w.heap.size + 1 := ⟨_, rfl⟩
    obtain ⟨ca, hca⟩ : ∃ x, x = w.heap.size := ⟨_, rfl⟩
    rw [← hsa, ← hra, ← hda, ← hca] at HD ⊢
    clear hsa hra hda hca HV
    go_loopw [21] (fun i wr => ∃ k : Nat, i = .int .i64 (k : Int) ∧ k ≤ l.length ∧ Du w ca da ra sa wr) (fun i _ => l.length - (intOf i).toNat)
    case atStart => exact ⟨0, rfl, Nat.zero_le _, HD.out⟩
    case round =>
      obtain ⟨k, rfl, hk, hD⟩ := hrel
      obtain ⟨L, M, B1, q1, B2, q2, t1, r1, r2, hbel⟩ := hD.parts
      by_cases hlt : k < l.length
      · obtain ⟨b, off, x, rfl, hbl, hx, hok, x0, x1, x2, x3, x4, x5⟩ := HA.out.at_ hbel hlt
        have HO := Lib.hid (And.intro hok (HB.out.2 x (List.mem_of_getElem? hx)))
        have HDk := Lib.hid hD
        have HBl := Lib.hid hbel
        have b0 : (0 : Int) ≤ (k : Int) := by omega
        have b1 : (k : Int) < (l.length : Int) := by omega
        have b2 : decide ((k : Int) < (l.length : Int)) = true := by simpa using b1
        clear hok hx hD hbel t1 r1 r2
        rcases tmod_two x.which with hm | hm
        · go_wp2_with fail
          refine (do_any HDk.out x.kind x.which x.nn x.f x.many (HO.out.1.src.below HBl.out (fun _ _ e => e.elim)) HO.out.1.byt HO.out.2 HO.out.1.many HO.out.1.nn HO.out.1.f).mono ?_
          rintro e w2 ⟨rfl, hD2⟩
          have hD2 := hD2
          obtain ⟨L2, M2, A1, p1, A2, p2, t2, r1, r2, bel2⟩ := hD2.parts
          have HD2 := Lib.hid (hD2.quiet (Kept.refl _ w2).drew)
          have hE := And.intro (t2.kept (Kept.refl _ w2).drew) (And.intro (r1.kept (Kept.refl _ w2).drew) (r2.kept (Kept.refl _ w2).drew))
          have l1 := r1.blk.lt
          have l2 := r2.blk.lt
          clear hD2 t2 r1 r2 bel2 x0 x1 x2 x3 x4 x5 hm
          go_wp2_with fail
          go_region_held3 (fun W' => W'.cell? ⟨ra, 0, none⟩ = some (.slice A1 (flat L2).length p1) ∧ W'.cell? ⟨sa, 0, none⟩ = some (.slice A2 (flat M2).length p2))
            (exact ⟨hE.2.1.blk.cell 0, hE.2.2.blk.cell 0⟩)
            (first
              | (go_at_call_of 12 (Value.pointer (some ⟨ca, 0, none⟩)); refine (len_any hE.1.cc).mono ?_; rintro e w' ⟨rfl, rfl⟩)
              | (go_at_call 12; refine (len_any hE.1.dd).mono ?_; rintro e w' ⟨rfl, rfl⟩))
          clear hE
          go_wp2_with fail
          go_roundw
          case rel => exact ⟨k + 1, by go_num, by omega, HD2.out⟩
          case measure => simp [intOf]; omega
        · go_wp2_with fail
          refine (do_any HDk.out.symm x.kind x.which x.nn x.f x.many (HO.out.1.src.below HBl.out (fun _ _ e => e.elim)) HO.out.1.byt HO.out.2 HO.out.1.many HO.out.1.nn HO.out.1.f).mono ?_
          rintro e w2 ⟨rfl, hD2⟩
          have hD2 := hD2.symm
          obtain ⟨L2, M2, A1, p1, A2, p2, t2, r1, r2, bel2⟩ := hD2.parts
          have HD2 := Lib.hid (hD2.quiet (Kept.refl _ w2).drew)
          have hE := And.intro (t2.kept (Kept.refl _ w2).drew) (And.intro (r1.kept (Kept.refl _ w2).drew) (r2.kept (Kept.refl _ w2).drew))
          have l1 := r1.blk.lt
          have l2 := r2.blk.lt
          clear hD2 t2 r1 r2 bel2 x0 x1 x2 x3 x4 x5 hm
          go_wp2_with fail
          go_region_held3 (fun W' => W'.cell? ⟨ra, 0, none⟩ = some (.slice A1 (flat L2).length p1) ∧ W'.cell? ⟨sa, 0, none⟩ = some (.slice A2 (flat M2).length p2))
            (exact ⟨hE.2.1.blk.cell 0, hE.2.2.blk.cell 0⟩)
            (first
              | (go_at_call_of 12 (Value.pointer (some ⟨ca, 0, none⟩)); refine (len_any hE.1.cc).mono ?_; rintro e w' ⟨rfl, rfl⟩)
              | (go_at_call 12; refine (len_any hE.1.dd).mono ?_; rintro e w' ⟨rfl, rfl⟩))
          clear hE
          go_wp2_with fail
          go_roundw
          case rel => exact ⟨k + 1, by go_num, by omega, HD2.out⟩
          case measure => simp [intOf]; omega
      · have b1 : (l.length : Int) ≤ (k : Int) := by omega
        have b2 : decide ((k : Int) < (l.length : Int)) = false := by simp; omega
        have c1 : wr.cell? ⟨ra, 0, none⟩ = some (.slice B1 (flat L).length q1) := r1.blk.cell 0
        have l1 := r1.blk.lt
        have HW1 := Lib.hid (whole_yes t1.cc (r1.src.weak fun _ _ _ e => e.elim))
        have H1 := Lib.hid (And.intro t1 (And.intro r2 hbel))
        clear hD t1 r1 r2 hbel
        go_wp2_with fail
        refine HW1.out.mono ?_
        rintro e w3 ⟨rfl, k3⟩
        have t3 := H1.out.1.kept k3
        have r3 := H1.out.2.1.kept k3
        have c2 : w3.cell? ⟨sa, 0, none⟩ = some (.slice B2 (flat M).length q2) := r3.blk.cell 0
        have l3 := r3.blk.lt
        have HW2 := Lib.hid (whole_yes t3.dd (r3.src.weak fun _ _ _ e => e.elim))
        have H3 := Lib.hid (And.intro (law_quiet H1.out.2.2 H1.out.1.cc.base k3) t3.cc.base)
        clear k3 t3 r3 c1
        go_wp2_with fail
        refine HW2.out.mono ?_
        rintro e w4 ⟨rfl, k4⟩
        have H4 := Lib.hid (law_quiet H3.out.1 H3.out.2 k4)
        clear k4 c2
        go_wp2_with fail
        go_ret
        exact ⟨rfl, H4.out⟩
end Go.Proofs.Ytkhkhjkacibocaa
