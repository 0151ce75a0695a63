/-
  HeapPlays: the switch, kinds 3 to 5, and any other.
-/
import Derived.Test.YtfflbbohgndjfaaHpSw
namespace Go.Proofs.Ytfflbbohgndjfaa
open Go.RowKit Go.Maps Go.ChangeMaps Go.Sort

set_option maxHeartbeats 32000000 in
set_option maxRecDepth 100000 in
theorem sw_b (c0 c1 c2 c5 c23 c24 c25 c26 c27 c28 c29 c30 c31 c32 c33 c34 c35 c36 c37 c38 c39 c40 c41 c42 c43 c44 c45 c46 c47 c48 c165 c166 c167 c168 c169 c170 c171 c172 c173 c174 c175 c176 c177 c178 c179 c180 c181 c182 c183 c184 c185 c186 c187 c188 c189 c190 c191 c192 c193 c194 c195 c196 c197 c198 c199 c200 c201 c202 c203 c204 c205 c206 c207 c208 c209 c210 c211 c212 c213 c214 c215 c216 c217 c218 e8 e9 e10 e11 e12 e13 e14 e15 e16 e17 e18 e19 e20 e21 e22 e50 e51 e52 e53 e54 e55 e56 e57 e58 e59 e60 e61 e62 e63 e64 e65 e66 e67 e68 e69 e70 e71 e72 e73 e74 e75 e76 e77 e78 e79 e80 e81 e82 e83 e84 e85 e86 e87 e88 e89 e90 e91 e92 e93 e94 e95 e96 e97 e98 e99 e100 e101 e102 e103 e104 e105 e106 e107 e108 e109 e110 e111 e112 e113 e114 e115 e116 e117 e118 e119 e120 e121 e122 e123 e124 e125 e126 e127 e128 e129 e130 e131 e132 e133 e134 e135 e136 e137 e138 e139 e140 e141 e142 e143 e144 e145 e146 e147 e148 e149 e150 e151 e152 e153 e154 e155 e156 e157 e158 e159 e160 e161 e162 e163 e164 : Value) (w W : World) (h q m r xb k : Nat) (v vr : Value) (S : List It) (kd : Int) (x : It) (K' : Act → World → Prop) (Q0 : Exit → Act → World → Prop)
    (HP : Hid (Bx W xb #[.int .i64 x.id, .int .u64 x.d, .int .u64 x.n] h q m v r ∧ Pl w W h q m v S r vr S)) (HQ : Hid (x.Ok ∧ Uniq S ∧ Srt S ∧ S.length ≤ k ∧ S.length < 1000)) (n0 : (kd == 0) = false) (n1 : (kd == 1) = false) (n2 : (kd == 2) = false) (hkk : k ≤ 1000)
    (hK : ∀ (d7 d8 d9 d10 d11 d12 d13 d14 d15 d16 d17 d18 d19 d20 d21 d22 d50 d51 d52 d53 d54 d55 d56 d57 d58 d59 d60 d61 d62 d63 d64 d65 d66 d67 d68 d69 d70 d71 d72 d73 d74 d75 d76 d77 d78 d79 d80 d81 d82 d83 d84 d85 d86 d87 d88 d89 d90 d91 d92 d93 d94 d95 d96 d97 d98 d99 d100 d101 d102 d103 d104 d105 d106 d107 d108 d109 d110 d111 d112 d113 d114 d115 d116 d117 d118 d119 d120 d121 d122 d123 d124 d125 d126 d127 d128 d129 d130 d131 d132 d133 d134 d135 d136 d137 d138 d139 d140 d141 d142 d143 d144 d145 d146 d147 d148 d149 d150 d151 d152 d153 d154 d155 d156 d157 d158 d159 d160 d161 d162 d163 d164 : Value) (w' : World), d7 = .bool true → SwP w h q m r k w' → K' { tmps := #[c0, c1, c2, .pointer (some ⟨h, 0, none⟩), .pointer (some ⟨r, 0, none⟩), c5, .pointer (some ⟨xb, 0, none⟩), d7, d8, d9, d10, d11, d12, d13, d14, d15, d16, d17, d18, d19, d20, d21, d22, c23, c24, c25, c26, c27, c28, c29, c30, c31, c32, c33, c34, c35, c36, c37, c38, c39, c40, c41, c42, c43, c44, c45, c46, c47, c48, .int .i64 kd, d50, d51, d52, d53, d54, d55, d56, d57, d58, d59, d60, d61, d62, d63, d64, d65, d66, d67, d68, d69, d70, d71, d72, d73, d74, d75, d76, d77, d78, d79, d80, d81, d82, d83, d84, d85, d86, d87, d88, d89, d90, d91, d92, d93, d94, d95, d96, d97, d98, d99, d100, d101, d102, d103, d104, d105, d106, d107, d108, d109, d110, d111, d112, d113, d114, d115, d116, d117, d118, d119, d120, d121, d122, d123, d124, d125, d126, d127, d128, d129, d130, d131, d132, d133, d134, d135, d136, d137, d138, d139, d140, d141, d142, d143, d144, d145, d146, d147, d148, d149, d150, d151, d152, d153, d154, d155, d156, d157, d158, d159, d160, d161, d162, d163, d164, c165, c166, c167, c168, c169, c170, c171, c172, c173, c174, c175, c176, c177, c178, c179, c180, c181, c182, c183, c184, c185, c186, c187, c188, c189, c190, c191, c192, c193, c194, c195, c196, c197, c198, c199, c200, c201, c202, c203, c204, c205, c206, c207, c208, c209, c210, c211, c212, c213, c214, c215, c216, c217, c218], defers := [] } w') :
    Code.wp Try.prog swCode (Exit.then K' Q0) { tmps := #[c0, c1, c2, .pointer (some ⟨h, 0, none⟩), .pointer (some ⟨r, 0, none⟩), c5, .pointer (some ⟨xb, 0, none⟩), .bool true, e8, e9, e10, e11, e12, e13, e14, e15, e16, e17, e18, e19, e20, e21, e22, c23, c24, c25, c26, c27, c28, c29, c30, c31, c32, c33, c34, c35, c36, c37, c38, c39, c40, c41, c42, c43, c44, c45, c46, c47, c48, .int .i64 kd, e50, e51, e52, e53, e54, e55, e56, e57, e58, e59, e60, e61, e62, e63, e64, e65, e66, e67, e68, e69, e70, e71, e72, e73, e74, e75, e76, e77, e78, e79, e80, e81, e82, e83, e84, e85, e86, e87, e88, e89, e90, e91, e92, e93, e94, e95, e96, e97, e98, e99, e100, e101, e102, e103, e104, e105, e106, e107, e108, e109, e110, e111, e112, e113, e114, e115, e116, e117, e118, e119, e120, e121, e122, e123, e124, e125, e126, e127, e128, e129, e130, e131, e132, e133, e134, e135, e136, e137, e138, e139, e140, e141, e142, e143, e144, e145, e146, e147, e148, e149, e150, e151, e152, e153, e154, e155, e156, e157, e158, e159, e160, e161, e162, e163, e164, c165, c166, c167, c168, c169, c170, c171, c172, c173, c174, c175, c176, c177, c178, c179, c180, c181, c182, c183, c184, c185, c186, c187, c188, c189, c190, c191, c192, c193, c194, c195, c196, c197, c198, c199, c200, c201, c202, c203, c204, c205, c206, c207, c208, c209, c210, c211, c212, c213, c214, c215, c216, c217, c218], defers := [] } W := by
  have HK := Lib.hid hK
  clear hK
  conv => arg 2; whnf
  obtain ⟨t0, t1, t2, tl⟩ := HP.out.1.c3
  by_cases k3 : kd = 3
  · skip
    subst k3
    by_cases hh : ∃ y ∈ S, y.id = x.id
    · obtain ⟨y, hy, hxy⟩ := hh
      have hc1 := Lib.hid (move_some HP.out.2.H hy x.d x.n HQ.out.1.2.1 HQ.out.1.2.2)
      rw [hxy] at hc1
      go_wp2_with fail
      refine hc1.out.mono ?_
      rintro e w2 ⟨rfl, v2, H2, m2⟩
      have P2 := HP.out.2.heap m2 H2
      clear t0 t1 t2 tl
      obtain ⟨t0, t1, t2, tl⟩ := (HP.out.1.heap m2).c3
      have hc2 := Lib.hid (rmove_some P2.R (by have := HQ.out.2.2.2.2; omega) HQ.out.2.1 hy x.d x.n)
      rw [hxy] at hc2
      have F2 := Lib.hid P2
      clear P2 H2 m2
      go_wp2_with fail
      refine hc2.out.mono ?_
      rintro e w3 ⟨rfl, vr3, R3, m3⟩
      have F3 := Lib.hid (F2.out.ref m3 R3)
      clear R3 m3 t0 t1 t2 tl
      go_wp2_with fail
      exact HK.out _ _ _ _ _ _ _ _ _ _ _ _ _ _ _ _ _ _ _ _ _ _ _ _ _ _ _ _ _ _ _ _ _ _ _ _ _ _ _ _ _ _ _ _ _ _ _ _ _ _ _ _ _ _ _ _ _ _ _ _ _ _ _ _ _ _ _ _ _ _ _ _ _ _ _ _ _ _ _ _ _ _ _ _ _ _ _ _ _ _ _ _ _ _ _ _ _ _ _ _ _ _ _ _ _ _ _ _ _ _ _ _ _ _ _ _ _ _ _ _ _ _ _ _ _ _ _ _ _ _ _ _ rfl ⟨v2, vr3, _, F3.out, by rw [(ins_perm _ _).length_eq, List.length_cons]; have := HQ.out.2.2.2.1; have := List.length_filter_le (fun z : It => decide (z.id ≠ x.id)) S; unfold del; omega⟩
    · have hno : ∀ y ∈ S, y.id ≠ x.id := fun y hy e => hh ⟨y, hy, e⟩
      have hc1 := Lib.hid (move_none HP.out.2.H HQ.out.1.1 hno x.d x.n)
      have hc2 := Lib.hid (rmove_none HP.out.2.R (by have := HQ.out.2.2.2.2; omega) hno x.d x.n)
      go_wp2_with fail
      refine hc1.out.mono ?_
      rintro e w2 ⟨rfl, rfl⟩
      go_wp2_with fail
      refine hc2.out.mono ?_
      rintro e w3 ⟨rfl, rfl⟩
      go_wp2_with fail
      exact HK.out _ _ _ _ _ _ _ _ _ _ _ _ _ _ _ _ _ _ _ _ _ _ _ _ _ _ _ _ _ _ _ _ _ _ _ _ _ _ _ _ _ _ _ _ _ _ _ _ _ _ _ _ _ _ _ _ _ _ _ _ _ _ _ _ _ _ _ _ _ _ _ _ _ _ _ _ _ _ _ _ _ _ _ _ _ _ _ _ _ _ _ _ _ _ _ _ _ _ _ _ _ _ _ _ _ _ _ _ _ _ _ _ _ _ _ _ _ _ _ _ _ _ _ _ _ _ _ _ _ _ _ _ rfl ⟨v, vr, _, HP.out.2, by have := HQ.out.2.2.2.1; omega⟩
  have n3 : (kd == 3) = false := by simpa using k3
  clear k3
  by_cases k4 : kd = 4
  · skip
    subst k4
    by_cases hh : ∃ y ∈ S, y.id = x.id
    · obtain ⟨y, hy, hxy⟩ := hh
      have hc1 := Lib.hid (find_some HP.out.2.H hy)
      rw [hxy] at hc1
      go_wp2_with fail
      refine hc1.out.mono ?_
      rintro e w2 ⟨rfl, hb2⟩
      have P2 := HP.out.2.below hb2
      have X2 := HP.out.1.below hb2
      have N2 := P2.new #[.int .i64 x.id, .int .u64 y.d, .int .u64 y.n]
      have X2 := X2.alloc (.cells #[.int .i64 x.id, .int .u64 y.d, .int .u64 y.n] 31)
      clear t0 t1 t2 tl
      obtain ⟨t0, t1, t2, tl⟩ := X2.c3
      have hc2 := Lib.hid (rfind_some N2.2.R (by have := HQ.out.2.2.2.2; omega) HQ.out.2.1 hy)
      rw [hxy] at hc2
      have F2 := Lib.hid (And.intro N2 X2)
      clear N2 X2 P2 hb2
      go_wp2_with fail
      refine hc2.out.mono ?_
      rintro e w3 ⟨rfl, hb3⟩
      have P3 := F2.out.1.2.below hb3
      have A3 := F2.out.1.1.below hb3
      have N3 := P3.new #[.int .i64 x.id, .int .u64 y.d, .int .u64 y.n]
      have A3 := A3.alloc (.cells #[.int .i64 x.id, .int .u64 y.d, .int .u64 y.n] 31)
      obtain ⟨p0, p1, p2, pl⟩ := A3.c3
      obtain ⟨s0, s1, s2, sl⟩ := N3.1.c3
      have F3 := Lib.hid N3.2
      clear t0 t1 t2 tl A3 N3 P3 hb3
      go_wp2_with fail
      exact HK.out _ _ _ _ _ _ _ _ _ _ _ _ _ _ _ _ _ _ _ _ _ _ _ _ _ _ _ _ _ _ _ _ _ _ _ _ _ _ _ _ _ _ _ _ _ _ _ _ _ _ _ _ _ _ _ _ _ _ _ _ _ _ _ _ _ _ _ _ _ _ _ _ _ _ _ _ _ _ _ _ _ _ _ _ _ _ _ _ _ _ _ _ _ _ _ _ _ _ _ _ _ _ _ _ _ _ _ _ _ _ _ _ _ _ _ _ _ _ _ _ _ _ _ _ _ _ _ _ _ _ _ _ rfl ⟨v, vr, _, F3.out, by have := HQ.out.2.2.2.1; omega⟩
    · have hno : ∀ y ∈ S, y.id ≠ x.id := fun y hy e => hh ⟨y, hy, e⟩
      have hc1 := Lib.hid (find_none HP.out.2.H HQ.out.1.1 hno)
      go_wp2_with fail
      refine hc1.out.mono ?_
      rintro e w2 ⟨rfl, hb2⟩
      have P2 := HP.out.2.below hb2
      have X2 := HP.out.1.below hb2
      have N2 := P2.new #[.int .i64 0, .int .u64 0, .int .u64 0]
      have X2 := X2.alloc (.cells #[.int .i64 0, .int .u64 0, .int .u64 0] 31)
      clear t0 t1 t2 tl
      obtain ⟨t0, t1, t2, tl⟩ := X2.c3
      have hc2 := Lib.hid (rfind_none N2.2.R (by have := HQ.out.2.2.2.2; omega) hno)
      have F2 := Lib.hid (And.intro N2 X2)
      clear N2 X2 P2 hb2
      go_wp2_with fail
      refine hc2.out.mono ?_
      rintro e w3 ⟨rfl, hb3⟩
      have P3 := F2.out.1.2.below hb3
      have A3 := F2.out.1.1.below hb3
      have N3 := P3.new #[.int .i64 0, .int .u64 0, .int .u64 0]
      have A3 := A3.alloc (.cells #[.int .i64 0, .int .u64 0, .int .u64 0] 31)
      obtain ⟨p0, p1, p2, pl⟩ := A3.c3
      obtain ⟨s0, s1, s2, sl⟩ := N3.1.c3
      have F3 := Lib.hid N3.2
      clear t0 t1 t2 tl A3 N3 P3 hb3
      go_wp2_with fail
      exact HK.out _ _ _ _ _ _ _ _ _ _ _ _ _ _ _ _ _ _ _ _ _ _ _ _ _ _ _ _ _ _ _ _ _ _ _ _ _ _ _ _ _ _ _ _ _ _ _ _ _ _ _ _ _ _ _ _ _ _ _ _ _ _ _ _ _ _ _ _ _ _ _ _ _ _ _ _ _ _ _ _ _ _ _ _ _ _ _ _ _ _ _ _ _ _ _ _ _ _ _ _ _ _ _ _ _ _ _ _ _ _ _ _ _ _ _ _ _ _ _ _ _ _ _ _ _ _ _ _ _ _ _ _ rfl ⟨v, vr, _, F3.out, by have := HQ.out.2.2.2.1; omega⟩
  have n4 : (kd == 4) = false := by simpa using k4
  clear k4
  by_cases k5 : kd = 5
  · skip
    subst k5
    have hc1 := Lib.hid (due_any HP.out.2.H x.d HQ.out.1.2.1 (by have := HQ.out.2.2.2.2; omega))
    go_wp2_with fail
    refine hc1.out.mono ?_
    rintro e w2 ⟨u, xs, rest, v2, rfl, sp, le, gt, O2, H2, hk2, ho2⟩
    have m2 : Moved W w2 q m v v2 := ⟨hk2, .inl ho2⟩
    have P2 := HP.out.2.heap m2 H2
    clear t0 t1 t2 tl
    obtain ⟨t0, t1, t2, tl⟩ := (HP.out.1.heap m2).c3
    have hc2 := Lib.hid (rdue_any P2.R (by have := HQ.out.2.2.2.2; omega) HQ.out.2.1 x.d sp le gt)
    have hl : xs.length + rest.length ≤ k := by have e := congrArg List.length sp; rw [List.length_append] at e; have := HQ.out.2.2.2.1; omega
    obtain ⟨A2, c2, hu2, -, -⟩ := O2.shows
    subst hu2
    have F2 := Lib.hid (And.intro P2 (And.intro O2 (And.intro hl HP.out.2.R.blk.lt)))
    clear P2 H2 m2 sp le gt O2 hk2 ho2 hl
    go_wp2_with fail
    refine hc2.out.mono ?_
    rintro e w3 ⟨u3, vr3, rfl, D3⟩
    have P3 := F2.out.1.ref D3.M (by have := D3.R; rw [List.drop_length] at this; exact this)
    have O3 : OwnIt w3 W.heap.size (.slice A2 xs.length c2) xs := own_same F2.out.2.1 (fun i e => D3.M.1.block i (own_lt F2.out.2.1 e).1 (fun e2 => by have := (own_lt F2.out.2.1 e).2; have := F2.out.2.2.2; omega))
    have D3O := D3.O
    rw [List.take_length] at D3O
    obtain ⟨A3, c3, hu3, -, -⟩ := D3O.shows
    subst hu3
    have hsm := Lib.hid (same_yes w3 A2 A3 c2 c3 xs (by have := F2.out.2.2.1; omega) O3.shows_of D3O.shows_of)
    have F3 := Lib.hid P3
    clear P3 O3 D3 D3O t0 t1 t2 tl
    go_wp2_with fail
    refine hsm.out.mono ?_
    rintro e w4 ⟨rfl, j, rfl⟩
    have F4 := Lib.hid (F3.out.below (below_drewN (Below.refl _ w3) j))
    go_wp2_with fail
    exact HK.out _ _ _ _ _ _ _ _ _ _ _ _ _ _ _ _ _ _ _ _ _ _ _ _ _ _ _ _ _ _ _ _ _ _ _ _ _ _ _ _ _ _ _ _ _ _ _ _ _ _ _ _ _ _ _ _ _ _ _ _ _ _ _ _ _ _ _ _ _ _ _ _ _ _ _ _ _ _ _ _ _ _ _ _ _ _ _ _ _ _ _ _ _ _ _ _ _ _ _ _ _ _ _ _ _ _ _ _ _ _ _ _ _ _ _ _ _ _ _ _ _ _ _ _ _ _ _ _ _ _ _ _ rfl ⟨v2, vr3, _, F4.out, by have := F2.out.2.2.1; simp; omega⟩
  have n5 : (kd == 5) = false := by simpa using k5
  clear k5
  go_wp2_with fail
  exact HK.out _ _ _ _ _ _ _ _ _ _ _ _ _ _ _ _ _ _ _ _ _ _ _ _ _ _ _ _ _ _ _ _ _ _ _ _ _ _ _ _ _ _ _ _ _ _ _ _ _ _ _ _ _ _ _ _ _ _ _ _ _ _ _ _ _ _ _ _ _ _ _ _ _ _ _ _ _ _ _ _ _ _ _ _ _ _ _ _ _ _ _ _ _ _ _ _ _ _ _ _ _ _ _ _ _ _ _ _ _ _ _ _ _ _ _ _ _ _ _ _ _ _ _ _ _ _ _ _ _ _ _ _ rfl ⟨v, vr, _, HP.out.2, by have := HQ.out.2.2.2.1; omega⟩

end Go.Proofs.Ytfflbbohgndjfaa
