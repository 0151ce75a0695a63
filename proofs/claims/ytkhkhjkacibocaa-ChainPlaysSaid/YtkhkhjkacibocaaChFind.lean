/-
  find: the least index from an index on at which bytes stand; Find.
-/
import Derived.Test.YtkhkhjkacibocaaChCopied
import Derived.Test.YtkhkhjkacibocaaChKmp
namespace Go.Proofs.Ytkhkhjkacibocaa
open Go.RowKit Go.Maps Go.ChangeMaps Go.Shelf

attribute [local go_sem] Oper.semAt_some run_store_fn

/-- What a search answers. -/
def ansF : Option Nat → Ending
  | none => .returned (.tuple #[.int .i64 0, .bool false])
  | some i => .returned (.tuple #[.int .i64 (i : Int), .bool true])

theorem Tab.chR {X Y : World} {b1 b3 gb m c N : Nat} {A : Option Addr} {z : List Int} {T : List Nat} (h : Tab X b1 b3 gb A m c z T) (k : ChR N X Y) : Tab Y b1 b3 gb A m c z T :=
  ⟨boxed_chR h.bo1 k, h.src.chR k, boxed_chR h.bo3 k, h.row.chR k, h.len, h.pos, h.big⟩
theorem Fin.chR {X Y : World} {b1 b3 b4 b6 gb m c n N : Nat} {A : Option Addr} {z s : List Int} {T : List Nat} (h : Fin X b1 b3 b4 b6 gb A m c z T s n) (k : ChR N X Y) : Fin Y b1 b3 b4 b6 gb A m c z T s n :=
  ⟨h.tab.chR k, boxed_chR h.bo4 k, boxed_chR h.bo6 k, h.fit, h.upto, h.ne, h.neA⟩
theorem Fin.kc {X Y : World} {b1 b3 b4 b6 gb m c n : Nat} {A : Option Addr} {z s : List Int} {T : List Nat} {D : Nat → Nat → Prop} (h : Fin X b1 b3 b4 b6 gb A m c z T s n) (k : Kc D X Y) (h1 : ∀ i, ¬ D b1 i) (h3 : ∀ i, ¬ D b3 i) (h4 : ∀ i, ¬ D b4 i) (h6 : ∀ i, ¬ D b6 i) (hg : ∀ i, ¬ D gb i) (hA : ∀ b o, A = some ⟨b, o, none⟩ → ∀ i, ¬ D b i) : Fin Y b1 b3 b4 b6 gb A m c z T s n :=
  ⟨h.tab.same k h1 h3 hg hA, (k.same h.bo4.lt h4).trans h.bo4, (k.same h.bo6.lt h6).trans h.bo6, h.fit, h.upto, h.ne, h.neA⟩
theorem Fin.lt {X : World} {b1 b3 b4 b6 gb m c n : Nat} {A : Option Addr} {z s : List Int} {T : List Nat} (h : Fin X b1 b3 b4 b6 gb A m c z T s n) : b1 < X.heap.size ∧ b3 < X.heap.size ∧ b4 < X.heap.size ∧ b6 < X.heap.size ∧ gb < X.heap.size ∧ ∀ b o, A = some ⟨b, o, none⟩ → b < X.heap.size :=
  ⟨h.tab.bo1.lt, h.tab.bo3.lt, h.bo4.lt, h.bo6.lt, h.tab.row.lt, fun b o e => by obtain ⟨b', o', e', hb, _⟩ := h.tab.src.at_ h.tab.pos; rw [e] at e'; cases e'; exact hb⟩

/-- A search between two bytes: the bytes that were looked at, how much fits; the search's own variables. -/
structure FnI (w : World) (b1 b3 b4 b6 gb b8 b9 : Nat) (A : Option Addr) (m c : Nat) (z : List Int) (T : List Nat) (bs : List Int) (f : Nat) (s : List Int) (W : World) : Prop where
  fin : ∃ n, n < m ∧ Fin W b1 b3 b4 b6 gb A m c z T s n
  yet : Yet bs z f s.length
  bo8 : Boxed W b8 88 (.func (.func 55) #[] #[.pointer (some ⟨b4, 0, none⟩), .pointer (some ⟨b6, 0, none⟩), .pointer (some ⟨b1, 0, none⟩)])
  bo9 : Boxed W b9 3 (.int .i64 0)
  kc : Kc No2 w W
theorem FnI.chR {w X Y : World} {b1 b3 b4 b6 gb b8 b9 m c f N : Nat} {A : Option Addr} {z bs s : List Int} {T : List Nat} (h : FnI w b1 b3 b4 b6 gb b8 b9 A m c z T bs f s X) (k : ChR N X Y) (hN : w.heap.size ≤ N) : FnI w b1 b3 b4 b6 gb b8 b9 A m c z T bs f s Y := by
  obtain ⟨⟨n, h1, h2⟩, h3, h4, h5, h6⟩ := h
  exact ⟨⟨n, h1, h2.chR k⟩, h3, boxed_chR h4 k, boxed_chR h5 k, h6.chR k hN⟩
/-- Found: where it ends. -/
structure FnX (w : World) (b9 m : Nat) (bs z : List Int) (f : Nat) (W : World) : Prop where
  fnd : ∃ e, m ≤ e ∧ e ≤ 1048576 ∧ Boxed W b9 3 (.int .i64 (e : Int)) ∧ FindR bs z f (some (e - m))
  kc : Kc No2 w W
theorem FnX.chR {w X Y : World} {b9 m f N : Nat} {z bs : List Int} (h : FnX w b9 m bs z f X) (k : ChR N X Y) (hN : w.heap.size ≤ N) : FnX w b9 m bs z f Y := by
  obtain ⟨⟨e, h1, h2, h3, h4⟩, h5⟩ := h
  exact ⟨⟨e, h1, h2, boxed_chR h3 k, h4⟩, h5.chR k hN⟩

section
variable {w : World} {B c : Nat} {t : TypeId} {L : List Lk}
set_option maxRecDepth 100000 in
set_option maxHeartbeats 8000000 in
theorem findL_any (h : Cn w B t c L) {A : Option Addr} {m cp : Nat} {z : List Int} (hs : Src w No2 A m cp z) (h0 : 0 < m) (f : Nat) (hf : f + m ≤ (flat L).length) :
    Calls Try.prog 45 #[.pointer (some ⟨c, 0, none⟩), .slice A m cp, .int .i64 (f : Int)] w fun e w' => ∃ r, e = ansF r ∧ FindR (flat L) z f r ∧ Kept (fun _ => False) w w' := by
  have hle := h.le
  have HF := Lib.hid (finder_any hs h0 (by omega))
  have H := Lib.hid (And.intro h hs)
  clear h hs
  refine (callsIn_wide (n := 5)).1 ?_
  refine callsIn_of_wp_marks Try.func45 rfl trivial ?_ rfl
  simp only [Try.ntmps45, List.size_toArray, List.length_cons, List.length_nil, Nat.reduceAdd, Nat.reduceSub, Array.replicate_succ, Array.replicate_zero, List.push_toArray, List.append_toArray, List.nil_append, List.cons_append]
  gi_wp2
  refine wpIn_wide.2 (wp_scope_straight ((wpIn_wide (n := 5)).1 ?_))
  gi_wp2_with (refine ⟨trivial, ?_⟩; gi_at_call 52; refine (callsIn_wide.2 HF.out).mono ?_; rintro e w1 ⟨b1, b3, b4, b6, gb, T, rfl, g1, g2, g3⟩; have HG := Lib.hid (And.intro g1 (And.intro g2 g3)); clear g1 g2 g3)
  refine wpIn_label ?_
  gi_wp2_with (refine ⟨trivial, ?_⟩; gi_at_call 39; refine (callsIn_wide.2 (pieces_call _ c f)).mono ?_; rintro e w' ⟨rfl, rfl⟩)
  obtain ⟨V, hV⟩ : ∃ V, V = (((w1.alloc (.cells #[(.func (.func 55) #[] #[.pointer (some ⟨b4, 0, none⟩), .pointer (some ⟨b6, 0, none⟩), .pointer (some ⟨b1, 0, none⟩)])] 88)).alloc (.cells #[.int .i64 0] 3)).alloc (.cells #[.pointer (some ⟨c, 0, none⟩)] 82)).alloc (.cells #[.int .i64 (f : Int)] 3) := ⟨_, rfl⟩
  rw [← hV]
  obtain ⟨g1, g2, g3⟩ := HG.out
  obtain ⟨h, hs⟩ := H.out
  have hkV1 : Kept (fun _ => False) w1 V := by rw [hV]; exact ((((Kept.refl _ w1).alloc _).alloc _).alloc _).alloc _
  have hkV : Kept (fun _ => False) w V := g2.trans hkV1
  have hVz : V.heap.size = w1.heap.size + 4 := by rw [hV]; simp
  have hw1 := g2.size
  have v8 : Boxed V w1.heap.size 88 (.func (.func 55) #[] #[.pointer (some ⟨b4, 0, none⟩), .pointer (some ⟨b6, 0, none⟩), .pointer (some ⟨b1, 0, none⟩)]) := by rw [hV]; exact (((Boxed.new w1 _ _).alloc _).alloc _).alloc _
  have v9 : Boxed V (w1.heap.size + 1) 3 (.int .i64 0) := by
    rw [hV]
    have := ((Boxed.new (w1.alloc (.cells #[(.func (.func 55) #[] #[.pointer (some ⟨b4, 0, none⟩), .pointer (some ⟨b6, 0, none⟩), .pointer (some ⟨b1, 0, none⟩)])] 88)) 3 (.int .i64 0)).alloc (.cells #[.pointer (some ⟨c, 0, none⟩)] 82)).alloc (.cells #[.int .i64 (f : Int)] 3)
    simpa using this
  have vL : Boxed V (w1.heap.size + 1 + 1) 82 (.pointer (some ⟨c, 0, none⟩)) := by
    rw [hV]
    have := (Boxed.new ((w1.alloc (.cells #[(.func (.func 55) #[] #[.pointer (some ⟨b4, 0, none⟩), .pointer (some ⟨b6, 0, none⟩), .pointer (some ⟨b1, 0, none⟩)])] 88)).alloc (.cells #[.int .i64 0] 3)) 82 (.pointer (some ⟨c, 0, none⟩))).alloc (.cells #[.int .i64 (f : Int)] 3)
    simpa using this
  have vF : Boxed V (w1.heap.size + 1 + 1 + 1) 3 (.int .i64 (f : Int)) := by
    rw [hV]
    have := Boxed.new (((w1.alloc (.cells #[(.func (.func 55) #[] #[.pointer (some ⟨b4, 0, none⟩), .pointer (some ⟨b6, 0, none⟩), .pointer (some ⟨b1, 0, none⟩)])] 88)).alloc (.cells #[.int .i64 0] 3)).alloc (.cells #[.pointer (some ⟨c, 0, none⟩)] 82)) 3 (.int .i64 (f : Int))
    simpa using this
  have hFV : Fin V b1 b3 b4 b6 gb A m cp z T [] 0 := g1.kc (D := No2) (Kc.of_kept hkV1) (fun _ e => e) (fun _ e => e) (fun _ e => e) (fun _ e => e) (fun _ e => e) (fun _ _ _ _ e => e)
  have hzl := hs.len
  have I0 : FnI w b1 b3 b4 b6 gb w1.heap.size (w1.heap.size + 1) A m cp z T (flat L) f (gath []) V := ⟨⟨0, h0, hFV⟩, Yet.zero (by omega), v8, v9, Kc.of_kept hkV⟩
  have hcV := h.kept hkV
  have hFh : ∀ i, Fh c L i → i < w.heap.size := fun i hi => (Hold.of h).lt hi
  obtain ⟨t1, t3, t4, t6, tg, tA⟩ := g1.lt
  have hPr : ∀ k, k < V.heap.size → (Fh c L k ∨ k = w1.heap.size + 1 + 1 ∨ k = w1.heap.size + 1 + 1 + 1) → ∀ _i : Nat, ¬ (k = b6 ∨ k = w1.heap.size + 1) := fun k _ hp _ e => by
    rcases hp with hp | hp | hp
    · have := hFh k hp; omega
    · omega
    · omega
  clear hV hFV
  refine rangeFunc_o (n := 5) (by omega) (gf := 50) (lb := #[.pointer (some ⟨w1.heap.size + 1 + 1, 0, none⟩), .pointer (some ⟨w1.heap.size + 1 + 1 + 1, 0, none⟩)]) rfl (enters_of Try.func50 (by kernel_rfl) rfl)
    (encs := encQ) TC (fun i => Fh c L i ∨ i = w1.heap.size + 1 + 1 ∨ i = w1.heap.size + 1 + 1 + 1)
    (pieces_o 4 (by omega) (Hold.of hcV) _ _ vL vF (by omega) hle TC _ V.heap.size ⟨by omega, .inr (.inl rfl)⟩ ⟨by omega, .inr (.inr rfl)⟩ (fun i hi => ⟨by have := hFh i hi; omega, .inl hi⟩)) (fun _ => rfl)
    (fun pre W => FnI w b1 b3 b4 b6 gb w1.heap.size (w1.heap.size + 1) A m cp z T (flat L) f (gath pre) W)
    (fun cd _ W => cd = .exit 0 ∧ FnX w (w1.heap.size + 1) m (flat L) z f W)
    (fun s X Y hi hc => hi.chR hc (by omega)) (fun _ s X Y hi hc => ⟨hi.1, hi.2.chR hc (by omega)⟩) I0 ?round ?done ?stop
  case round =>
    rintro l pre p W hz hI ⟨r, hr⟩
    have HI := Lib.hid (And.intro hI hr)
    clear hI hr v8 v9 vL vF hcV g1 g2 hs h
    simp only [encQ]
    gi_wp2_with fail
    refine ⟨KeepsFrom.of_kc (Kc.refl No2 W), KpO.of_kc (Kc.refl No2 W) (fun _ _ _ _ e => e), fun W2 hc => ?_⟩
    obtain ⟨hI, hr⟩ := HI.out
    have hI2 := hI.chR hc (by omega)
    have hat := pcs_at f L 0 pre p r hr
    rw [Nat.max_eq_left (Nat.zero_le _)] at hat
    have hall : gath pre ++ (p.bs ++ gath r) = (flat L).drop f := by
      have := pcs_gath f L 0
      rw [Nat.sub_zero, ← hr, gath_append, gath_cons] at this
      exact this
    have hmem : p ∈ pcs f 0 L := by rw [← hr]; simp
    obtain ⟨al, hal⟩ : ∃ al, al = (gath pre).length := ⟨_, rfl⟩
    obtain ⟨n, hn⟩ : ∃ n, n = p.bs.length := ⟨_, rfl⟩
    have hsum : al + n ≤ (flat L).length - f := by
      have := congrArg List.length hall
      rw [List.length_append, List.length_append, List.length_drop] at this
      omega
    obtain ⟨a0, ha0⟩ : ∃ a0, a0 = p.at_ := ⟨_, rfl⟩
    rw [← hn, ← ha0]
    have ha1 : a0 = f + al := by rw [ha0, hat, hal]
    have hstr : ∀ i, i ≤ n → gath pre ++ p.bs.take i = ((flat L).drop f).take (al + i) := fun i hi => by
      have e : ((flat L).drop f).take (al + i) = (gath pre ++ (p.bs ++ gath r)).take (al + i) := by rw [hall]
      rw [e, List.take_append, List.take_of_length_le (l := gath pre) (by omega), show al + i - (gath pre).length = i by omega, List.take_append_of_le_length (by omega)]
    have HSt := Lib.hid (And.intro hstr ha1)
    have HS := Lib.hid (And.intro hI2 (And.intro hall (And.intro hmem (And.intro hal (And.intro hn hsum)))))
    have HC := Lib.hid hc
    have HAt := Lib.hid hat
    clear hI hI2 hall hmem hal hn hsum hc hr hat ha0 ha1 hstr
    gi_wp2_with fail
    gi_loopw [23] (fun v wr => ∃ i : Nat, v = .int .i64 (i : Int) ∧ i ≤ n ∧ FnI w b1 b3 b4 b6 gb w1.heap.size (w1.heap.size + 1) A m cp z T (flat L) f (gath pre ++ p.bs.take i) wr ∧ Kc (fun j _ => j = b6 ∨ j = w1.heap.size + 1) W2 wr) (fun v _ => n - (intOf v).toNat)
    case atStart => exact ⟨0, rfl, Nat.zero_le _, by rw [List.take_zero, List.append_nil]; exact HS.out.1, Kc.refl _ _⟩
    case round =>
      obtain ⟨i, rfl, hin, hI, hk⟩ := hrel
      obtain ⟨_, hall, hmem, hal, hn, hsum⟩ := HS.out
      obtain ⟨h, _⟩ := H.out
      by_cases hlt : i < n
      · have hcw : Cn wr B t c L := h.kc (D := No2) hI.kc (fun _ _ _ e => e)
        obtain ⟨hsrc, _⟩ := hcw.src_pc hmem
        obtain ⟨y, hy⟩ : ∃ y, p.bs[i]? = some y := ⟨_, List.getElem?_eq_getElem (by omega)⟩
        obtain ⟨b', o', e', hb', hc'⟩ := hsrc.at_ (by omega)
        cases e'
        have cy := (hc' i y hy).2
        obtain ⟨⟨n0, hn0, hF⟩, iy, i8, i9, ik⟩ := hI
        have c8 := i8.cell
        have l8 := i8.lt
        have HEn := Lib.hid (ends_any hF hn0 y)
        have e4 : IntKind.i64.wrap ((i : Int) + 1) = (i : Int) + 1 := IntWalk.i64_in _ (by omega)
        have b0 : (0 : Int) ≤ (i : Int) := by omega
        have b1' : (i : Int) < (n : Int) := by omega
        have b2' : i < n := hlt
        have HI := Lib.hid (And.intro hn0 (And.intro hF (And.intro iy (And.intro i8 (And.intro i9 (And.intro ik (And.intro hk hy)))))))
        have lpg := hb'
        clear hcw hsrc hn0 hF iy i8 i9 ik hk hy hall hmem hal hn hsum h hc' hin hlt
        gi_wp2_with fail
        refine ⟨trivial, (CallsIn.inRound l (callsIn_wide.2 HEn.out)).mono ?_⟩
        rintro e w3 ⟨k, rfl, q1, q2, q3⟩
        obtain ⟨hn0, hF, iy, i8, i9, ik, hk, hy⟩ := HI.out
        obtain ⟨_, hall, hmem, hal, hn, hsum⟩ := HS.out
        obtain ⟨hstr, ha1⟩ := HSt.out
        have hb6 : b6 ≠ w1.heap.size ∧ b6 ≠ w1.heap.size + 1 := by omega
        have j8 := (q2.same i8.lt (fun _ => hb6.1.symm)).trans i8
        have j9 := (q2.same i9.lt (fun _ => hb6.2.symm)).trans i9
        have jk : Kc No2 w w3 := ik.andThen q2 fun i j hi e => by omega
        have hk2 : Kc (fun j _ => j = b6 ∨ j = w1.heap.size + 1) W2 w3 := hk.trans (q2.mono fun _ _ _ e => .inl e)
        have htk : p.bs.take (i + 1) = p.bs.take i ++ [y] := by rw [List.take_add_one, hy]; rfl
        have hsl : (gath pre ++ p.bs.take i).length = al + i := by rw [List.length_append, List.length_take]; omega
        have hz1 := q1.tab.src.len
        have hfit : IsM z (((flat L).drop f).take (al + i + 1)) k := by
          have := q1.fit
          rw [List.append_assoc, ← htk, hstr (i + 1) (by omega)] at this
          exact this
        rw [hsl] at iy
        have d9 := Boxed.cell j9
        have d9f := Boxed.frozen j9
        have l9 := Boxed.lt j9
        by_cases hkm : k = m
        · obtain ⟨y1, y2⟩ := iy.found (by omega) (by rw [hz1, ← hkm]; exact hfit)
          have hb9 : Blk w3 (w1.heap.size + 1) 3 #[.int .i64 0] := j9
          have kk := hk2.setCell (p := ⟨w1.heap.size + 1, 0, none⟩) hb9 rfl (fun _ => .inr rfl) (.int .i64 ((a0 + i + 1 : Nat) : Int))
          have HE := Lib.hid (show FnX w (w1.heap.size + 1) m (flat L) z f (w3.setCell ⟨w1.heap.size + 1, 0, none⟩ (.int .i64 ((a0 + i + 1 : Nat) : Int))) ∧ Kc (fun j _ => j = b6 ∨ j = w1.heap.size + 1) W2 (w3.setCell ⟨w1.heap.size + 1, 0, none⟩ (.int .i64 ((a0 + i + 1 : Nat) : Int))) from
            ⟨⟨⟨a0 + i + 1, by omega, by omega, by have := hb9.set_ 0 (.int .i64 ((a0 + i + 1 : Nat) : Int)); simpa [Boxed, Blk] using this, by rw [show a0 + i + 1 - m = f + (al + i + 1 - z.length) by omega]; exact y2⟩, jk.setCell (p := ⟨w1.heap.size + 1, 0, none⟩) hb9 rfl (fun e => by simp only at e; omega) _⟩, kk⟩)
          have e1 : IntKind.i64.wrap ((a0 : Int) + (i : Int)) = (a0 : Int) + (i : Int) := IntWalk.i64_in _ (by omega)
          have e2 : IntKind.i64.wrap ((a0 : Int) + (i : Int) + 1) = ((a0 + i + 1 : Nat) : Int) := by rw [IntWalk.i64_in _ (by omega)]; omega
          have e3 : ((a0 + i + 1 : Nat) : Int) = (a0 : Int) + (i : Int) + 1 := by omega
          rw [e3] at HE
          have hdk : decide (k = m) = true := by simpa using hkm
          rw [hdk]
          have e2 : IntKind.i64.wrap ((a0 : Int) + (i : Int) + 1) = (a0 : Int) + (i : Int) + 1 := IntWalk.i64_in _ (by omega)
          clear hn0 hF iy i8 i9 ik hk hy hall hmem hal hn hsum hstr ha1 j8 j9 jk hk2 htk hsl hfit y1 y2 hb9 kk hdk e3 q1 q2
          gi_wp2_with fail
          exact ⟨KeepsFrom.of_kc HE.out.2, KpO.of_kc HE.out.2 hPr, rfl, HE.out.1⟩
        · have hdk : decide (k = m) = false := by simpa using hkm
          rw [hdk]
          have HE := Lib.hid (show FnI w b1 b3 b4 b6 gb w1.heap.size (w1.heap.size + 1) A m cp z T (flat L) f (gath pre ++ p.bs.take (i + 1)) w3 ∧ Kc (fun j _ => j = b6 ∨ j = w1.heap.size + 1) W2 w3 from
            ⟨⟨⟨k, by omega, by rw [htk, ← List.append_assoc]; exact q1⟩, by
              rw [show (gath pre ++ p.bs.take (i + 1)).length = al + i + 1 by rw [List.length_append, List.length_take]; omega]
              exact iy.next hfit (by omega), j8, j9, jk⟩, hk2⟩)
          clear hn0 hF iy i8 i9 ik hk hy hall hmem hal hn hsum hstr ha1 j8 j9 jk hk2 htk hsl hfit hdk q1 q2
          gi_wp2_with fail
          go_roundw
          case rel => exact ⟨i + 1, by simp, by omega, HE.out⟩
          case measure => simp [intOf]; omega
      · obtain rfl : i = n := by omega
        have HE := Lib.hid (show FnI w b1 b3 b4 b6 gb w1.heap.size (w1.heap.size + 1) A m cp z T (flat L) f (gath (pre ++ [p])) wr ∧ Kc (fun j _ => j = b6 ∨ j = w1.heap.size + 1) W2 wr from
          ⟨by rw [hn, List.take_length] at hI; rw [gath_append]; simpa [gath] using hI, hk⟩)
        clear hI hk hall hmem hal hn hsum h hlt hin
        gi_wp2_with fail
        exact ⟨KeepsFrom.of_kc HE.out.2, KpO.of_kc HE.out.2 hPr, HE.out.1⟩
  case done =>
    rintro xs W rfl hI hD hz
    have hg : gath (pcs f 0 L) = (flat L).drop f := by have := pcs_gath f L 0; rwa [Nat.sub_zero] at this
    have hno : FindR (flat L) z f none := by
      have := hI.yet
      rw [hg, List.length_drop] at this
      exact this.none (by omega)
    have HE := Lib.hid (show ∀ W', ChO w1.heap.size W W' → FindR (flat L) z f none ∧ Kept (fun _ => False) w W' from fun W' hc => ⟨hno, (hI.kc.chR hc.toR hw1).quiet fun _ _ _ e => e⟩)
    have c9 := hI.bo9.cell
    have l9 := hI.bo9.lt
    clear hI hno v8 v9 vL vF hcV g1 hs h I0 hg
    gi_wp2_with fail
    rw [Exit.noGoto_ret]
    exact leaves_marks w1.heap.size [V.heap.size] W (by simp) (fun D hD' => by simp at hD'; subst hD'; exact ⟨by omega, hD⟩) (fun W' hc => ⟨_, results_tmp2 rfl _ _ _, none, rfl, HE.out W' hc⟩)
  case stop =>
    rintro cd pre W _ ⟨rfl, hI⟩ hD hz
    obtain ⟨⟨e, h1, h2, h3, h4⟩, h5⟩ := hI
    have HE := Lib.hid (show ∀ W', ChO w1.heap.size W W' → FindR (flat L) z f (some (e - m)) ∧ Kept (fun _ => False) w W' from fun W' hc => ⟨h4, (h5.chR hc.toR hw1).quiet fun _ _ _ e => e⟩)
    have c9 := h3.cell
    have l9 := h3.lt
    have e1 : IntKind.i64.wrap ((e : Int) - (m : Int)) = ((e - m : Nat) : Int) := by rw [IntWalk.i64_in _ (by omega)]; omega
    have b1 : ((e : Int) == 0) = false := by rw [beq_eq_false_iff_ne]; omega
    have b2 : ¬ (e : Int) = 0 := by omega
    have b3 : ¬ e = 0 := by omega
    clear h3 h4 h5 h1 h2 v8 v9 vL vF hcV g1 hs h I0
    gi_wp2_with fail
    rw [Exit.noGoto_ret]
    exact leaves_marks w1.heap.size [V.heap.size] W (by simp) (fun D hD' => by simp at hD'; subst hD'; exact ⟨by omega, hD⟩) (fun W' hc => ⟨_, results_tmp2 rfl _ _ _, some (e - m), rfl, HE.out W' hc⟩)
end
end Go.Proofs.Ytkhkhjkacibocaa
