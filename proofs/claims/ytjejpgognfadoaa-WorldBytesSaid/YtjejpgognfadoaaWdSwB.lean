/-
  WorldBytes: the switch, kinds 2, 3.
-/
import Derived.Test.YtjejpgognfadoaaWdSw
namespace Go.Proofs.Ytjejpgognfadoaa
open Go.RowKit Go.Shelf Go.Maps Go.ChangeMaps

set_option maxHeartbeats 32000000 in
set_option maxRecDepth 100000 in
theorem sw_2 (c0 c1 c2 c3 c4 c5 c9 c12 c15 c33 c34 c35 c36 c37 c38 c39 c40 c41 c42 c43 c44 c45 c46 c47 c48 c49 c50 c51 c52 c53 c54 c55 c56 c57 c58 c59 c60 c61 c62 c63 c64 c65 c66 c67 c68 c69 c70 c71 c72 c73 c74 c75 c76 c77 c78 c79 c80 c222 c223 c224 c225 c226 c227 c228 c229 c230 c231 c232 c233 c234 c235 c236 c237 c238 c239 c240 c241 c242 c243 c244 c245 c246 c247 c248 c249 c250 c251 c252 c253 c254 c255 c256 c257 c258 c259 c260 c261 c262 c263 c264 c265 c266 e17 e18 e19 e20 e21 e22 e23 e24 e25 e26 e27 e28 e29 e30 e31 e32 e82 e83 e84 e85 e86 e87 e88 e89 e90 e91 e92 e93 e94 e95 e96 e97 e98 e99 e100 e101 e102 e103 e104 e105 e106 e107 e108 e109 e110 e111 e112 e113 e114 e115 e116 e117 e118 e119 e120 e121 e122 e123 e124 e125 e126 e127 e128 e129 e130 e131 e132 e133 e134 e135 e136 e137 e138 e139 e140 e141 e142 e143 e144 e145 e146 e147 e148 e149 e150 e151 e152 e153 e154 e155 e156 e157 e158 e159 e160 e161 e162 e163 e164 e165 e166 e167 e168 e169 e170 e171 e172 e173 e174 e175 e176 e177 e178 e179 e180 e181 e182 e183 e184 e185 e186 e187 e188 e189 e190 e191 e192 e193 e194 e195 e196 e197 e198 e199 e200 e201 e202 e203 e204 e205 e206 e207 e208 e209 e210 e211 e212 e213 e214 e215 e216 e217 e218 e219 e220 e221 : Value) (w wr wB : World) (p b1 b2 bx cap i : Nat) (x y : Wi) (s g : Nat → List Int) (z : OpW) (zA : Option Addr) (zc : Nat) (K' : Act → World → Prop) (Q0 : Exit → Act → World → Prop)
    (H : SwH w wr wB p b1 b2 bx cap i x y s g z zA zc) (e8 : z.kind.tmod 8 = 2)
    (hK : ∀ (d17 d18 d19 d20 d21 d22 d23 d24 d25 d26 d27 d28 d29 d30 d31 d32 d82 d83 d84 d85 d86 d87 d88 d89 d90 d91 d92 d93 d94 d95 d96 d97 d98 d99 d100 d101 d102 d103 d104 d105 d106 d107 d108 d109 d110 d111 d112 d113 d114 d115 d116 d117 d118 d119 d120 d121 d122 d123 d124 d125 d126 d127 d128 d129 d130 d131 d132 d133 d134 d135 d136 d137 d138 d139 d140 d141 d142 d143 d144 d145 d146 d147 d148 d149 d150 d151 d152 d153 d154 d155 d156 d157 d158 d159 d160 d161 d162 d163 d164 d165 d166 d167 d168 d169 d170 d171 d172 d173 d174 d175 d176 d177 d178 d179 d180 d181 d182 d183 d184 d185 d186 d187 d188 d189 d190 d191 d192 d193 d194 d195 d196 d197 d198 d199 d200 d201 d202 d203 d204 d205 d206 d207 d208 d209 d210 d211 d212 d213 d214 d215 d216 d217 d218 d219 d220 d221 : Value) (w' : World), ByR w p b1 b2 cap (i + 1) w' → K' { tmps := #[c0, c1, c2, c3, c4, c5, .pointer (some ⟨p, 0, none⟩), .int .i64 0, .int .i64 1, c9, .int .i64 2, .int .i64 1, c12, .pointer (some ⟨b1, 0, none⟩), .pointer (some ⟨b2, 0, none⟩), c15, .pointer (some ⟨bx, 0, none⟩), d17, d18, d19, d20, d21, d22, d23, d24, d25, d26, d27, d28, d29, d30, d31, d32, c33, c34, c35, c36, c37, c38, c39, c40, c41, c42, c43, c44, c45, c46, c47, c48, c49, c50, c51, c52, c53, c54, c55, c56, c57, c58, c59, c60, c61, c62, c63, c64, c65, c66, c67, c68, c69, c70, c71, c72, c73, c74, c75, c76, c77, c78, c79, c80, .int .i64 (2), d82, d83, d84, d85, d86, d87, d88, d89, d90, d91, d92, d93, d94, d95, d96, d97, d98, d99, d100, d101, d102, d103, d104, d105, d106, d107, d108, d109, d110, d111, d112, d113, d114, d115, d116, d117, d118, d119, d120, d121, d122, d123, d124, d125, d126, d127, d128, d129, d130, d131, d132, d133, d134, d135, d136, d137, d138, d139, d140, d141, d142, d143, d144, d145, d146, d147, d148, d149, d150, d151, d152, d153, d154, d155, d156, d157, d158, d159, d160, d161, d162, d163, d164, d165, d166, d167, d168, d169, d170, d171, d172, d173, d174, d175, d176, d177, d178, d179, d180, d181, d182, d183, d184, d185, d186, d187, d188, d189, d190, d191, d192, d193, d194, d195, d196, d197, d198, d199, d200, d201, d202, d203, d204, d205, d206, d207, d208, d209, d210, d211, d212, d213, d214, d215, d216, d217, d218, d219, d220, d221, c222, c223, c224, c225, c226, c227, c228, c229, c230, c231, c232, c233, c234, c235, c236, c237, c238, c239, c240, c241, c242, c243, c244, c245, c246, c247, c248, c249, c250, c251, c252, c253, c254, c255, c256, c257, c258, c259, c260, c261, c262, c263, c264, c265, c266], defers := [] } w') :
    Code.wp Try.prog swCode (Exit.then K' Q0) { tmps := #[c0, c1, c2, c3, c4, c5, .pointer (some ⟨p, 0, none⟩), .int .i64 0, .int .i64 1, c9, .int .i64 2, .int .i64 1, c12, .pointer (some ⟨b1, 0, none⟩), .pointer (some ⟨b2, 0, none⟩), c15, .pointer (some ⟨bx, 0, none⟩), e17, e18, e19, e20, e21, e22, e23, e24, e25, e26, e27, e28, e29, e30, e31, e32, c33, c34, c35, c36, c37, c38, c39, c40, c41, c42, c43, c44, c45, c46, c47, c48, c49, c50, c51, c52, c53, c54, c55, c56, c57, c58, c59, c60, c61, c62, c63, c64, c65, c66, c67, c68, c69, c70, c71, c72, c73, c74, c75, c76, c77, c78, c79, c80, .int .i64 (2), e82, e83, e84, e85, e86, e87, e88, e89, e90, e91, e92, e93, e94, e95, e96, e97, e98, e99, e100, e101, e102, e103, e104, e105, e106, e107, e108, e109, e110, e111, e112, e113, e114, e115, e116, e117, e118, e119, e120, e121, e122, e123, e124, e125, e126, e127, e128, e129, e130, e131, e132, e133, e134, e135, e136, e137, e138, e139, e140, e141, e142, e143, e144, e145, e146, e147, e148, e149, e150, e151, e152, e153, e154, e155, e156, e157, e158, e159, e160, e161, e162, e163, e164, e165, e166, e167, e168, e169, e170, e171, e172, e173, e174, e175, e176, e177, e178, e179, e180, e181, e182, e183, e184, e185, e186, e187, e188, e189, e190, e191, e192, e193, e194, e195, e196, e197, e198, e199, e200, e201, e202, e203, e204, e205, e206, e207, e208, e209, e210, e211, e212, e213, e214, e215, e216, e217, e218, e219, e220, e221, c222, c223, c224, c225, c226, c227, c228, c229, c230, c231, c232, c233, c234, c235, c236, c237, c238, c239, c240, c241, c242, c243, c244, c245, c246, c247, c248, c249, c250, c251, c252, c253, c254, c255, c256, c257, c258, c259, c260, c261, c262, c263, c264, c265, c266], defers := [] } wB := by
  have HK := Lib.hid hK
  clear hK
  have HP := H.hp
  have HX := H.hx
  have hz300 := H.hz300
  have hzv := H.hzv
  have hzc1 := H.hzc1
  have hzc2 := H.hzc2
  have hl2 := H.hl
  have hr2 := H.hcap
  have hX := H.hx.out.1
  have c0 := hX.cell 0
  have c2 := hX.cell 2
  have c4 := hX.cell 4
  simp at c0 c2 c4
  have lx := hX.lt
  clear H hX
  conv => arg 2; whnf
  have O2 := HX.out.2.1
  have hsrc := HP.out.2.2.src.at0 O2.bel (fun _ e => e)
  rw [hzv] at hsrc
  obtain ⟨m, e, y', hw, hc⟩ := HP.out.1.fl.ny.write (by decide) false z.b
  have HT := Lib.hid (O2.write (n := 2) (show (S2 x y).fd 2 = some (1, false) from rfl) (show (S2 x y).ws[1]? = some y from rfl) _ z.b hsrc (by omega) hw)
  have hm := hc.2.1
  have HC := Lib.hid hc
  clear O2 hsrc hc hw
  go_wp2_with fail
  refine HT.out.mono ?_
  rintro e w5 ⟨rfl, O, hD, hsz⟩
  have t1 := fun q (hq : q = bx ∨ q = b1 ∨ q = b2) => hD q hq
  have hX5 := HX.out.1.same (t1 bx (.inl rfl))
  have hS5 := HP.out.1.sb.same ((t1 b1 (.inr (.inl rfl))).trans HX.out.2.2.1)
  have hsrc := HP.out.2.2.src.at0 (O.drewN 1).bel (fun _ e => e)
  rw [hzv] at hsrc
  obtain ⟨S, hS⟩ : ∃ S, S = strOfNums (s 2) := ⟨_, rfl⟩
  obtain ⟨T, hT⟩ : ∃ T, T = strOfNums (z.b.take m) := ⟨_, rfl⟩
  have hcv : (convert 32 9 (.slice zA m zc)).run Try.prog w5.drew = .ok (.string (strOfNums (z.b.take m))) w5.drew := hsrc.str_take m hm
  rw [← hT] at hcv
  have hSz : S.size ≤ 60000 := by rw [hS, strOfNums_size]; have := HP.out.1.fl.len 2 (by omega); omega
  have hTz : T.size ≤ 300 := by rw [hT, strOfNums_size, List.length_take]; omega
  have y0 := hX5.cell 0
  have y4 := hX5.cell 4
  simp at y0 y4
  have d0 := hS5.cell 2
  have f0 := hS5.frozen 2
  rw [strs4_at s (by omega), ← hS] at d0
  have l5 := hX5.lt
  have l6 := hS5.lt
  have k1 : (m : Int) ≤ (zc : Int) := by omega
  have k2 : m ≤ zc := by omega
  have k3 : (0 : Int) ≤ (m : Int) := by omega
  have z1 : S.size + T.size ≤ 9223372036854775807 := by omega
  have z2 : ¬ 9223372036854775807 < S.size + T.size := by omega
  have HN := Lib.hid (show ByR w p b1 b2 cap (i + 1) ((w5.drewN 1).setCell ⟨b1, 2, none⟩ (.string (S ++ T))) from by
    have h := HP.out.1.put (O.less (fun q hq => .inr hq)) ((t1 b1 (.inr (.inl rfl))).trans HX.out.2.2.1) ((t1 b2 (.inr (.inr rfl))).trans HX.out.2.2.2) (j := 2) (by omega) _ (HP.out.1.fl.sentY HC.out hz300 (j := 2) (by omega) rfl) 1
    rw [← strs_append, ← hS, ← hT] at h
    exact ⟨_, _, _, _, ⟨h.od.more (by omega), h.h1, h.h2, h.ne, h.sb, h.gb, h.fl.more (by omega)⟩⟩)
  clear O hD hsz t1 hX5 hS5 hsrc hS hT HT c0 c2 c4 lx
  go_wp2_with fail
  go_still_tail 9, (by kernel_rfl)
  change wpList _ _ _ _ _ w5.drew
  go_wp2_with fail
  exact HK.out _ _ _ _ _ _ _ _ _ _ _ _ _ _ _ _ _ _ _ _ _ _ _ _ _ _ _ _ _ _ _ _ _ _ _ _ _ _ _ _ _ _ _ _ _ _ _ _ _ _ _ _ _ _ _ _ _ _ _ _ _ _ _ _ _ _ _ _ _ _ _ _ _ _ _ _ _ _ _ _ _ _ _ _ _ _ _ _ _ _ _ _ _ _ _ _ _ _ _ _ _ _ _ _ _ _ _ _ _ _ _ _ _ _ _ _ _ _ _ _ _ _ _ _ _ _ _ _ _ _ _ _ _ _ _ _ _ _ _ _ _ _ _ _ _ _ _ _ _ _ _ _ _ _ _ _ _ HN.out
set_option maxHeartbeats 32000000 in
set_option maxRecDepth 100000 in
theorem sw_3 (c0 c1 c2 c3 c4 c5 c9 c12 c15 c33 c34 c35 c36 c37 c38 c39 c40 c41 c42 c43 c44 c45 c46 c47 c48 c49 c50 c51 c52 c53 c54 c55 c56 c57 c58 c59 c60 c61 c62 c63 c64 c65 c66 c67 c68 c69 c70 c71 c72 c73 c74 c75 c76 c77 c78 c79 c80 c222 c223 c224 c225 c226 c227 c228 c229 c230 c231 c232 c233 c234 c235 c236 c237 c238 c239 c240 c241 c242 c243 c244 c245 c246 c247 c248 c249 c250 c251 c252 c253 c254 c255 c256 c257 c258 c259 c260 c261 c262 c263 c264 c265 c266 e17 e18 e19 e20 e21 e22 e23 e24 e25 e26 e27 e28 e29 e30 e31 e32 e82 e83 e84 e85 e86 e87 e88 e89 e90 e91 e92 e93 e94 e95 e96 e97 e98 e99 e100 e101 e102 e103 e104 e105 e106 e107 e108 e109 e110 e111 e112 e113 e114 e115 e116 e117 e118 e119 e120 e121 e122 e123 e124 e125 e126 e127 e128 e129 e130 e131 e132 e133 e134 e135 e136 e137 e138 e139 e140 e141 e142 e143 e144 e145 e146 e147 e148 e149 e150 e151 e152 e153 e154 e155 e156 e157 e158 e159 e160 e161 e162 e163 e164 e165 e166 e167 e168 e169 e170 e171 e172 e173 e174 e175 e176 e177 e178 e179 e180 e181 e182 e183 e184 e185 e186 e187 e188 e189 e190 e191 e192 e193 e194 e195 e196 e197 e198 e199 e200 e201 e202 e203 e204 e205 e206 e207 e208 e209 e210 e211 e212 e213 e214 e215 e216 e217 e218 e219 e220 e221 : Value) (w wr wB : World) (p b1 b2 bx cap i : Nat) (x y : Wi) (s g : Nat → List Int) (z : OpW) (zA : Option Addr) (zc : Nat) (K' : Act → World → Prop) (Q0 : Exit → Act → World → Prop)
    (H : SwH w wr wB p b1 b2 bx cap i x y s g z zA zc) (e8 : z.kind.tmod 8 = 3)
    (hK : ∀ (d17 d18 d19 d20 d21 d22 d23 d24 d25 d26 d27 d28 d29 d30 d31 d32 d82 d83 d84 d85 d86 d87 d88 d89 d90 d91 d92 d93 d94 d95 d96 d97 d98 d99 d100 d101 d102 d103 d104 d105 d106 d107 d108 d109 d110 d111 d112 d113 d114 d115 d116 d117 d118 d119 d120 d121 d122 d123 d124 d125 d126 d127 d128 d129 d130 d131 d132 d133 d134 d135 d136 d137 d138 d139 d140 d141 d142 d143 d144 d145 d146 d147 d148 d149 d150 d151 d152 d153 d154 d155 d156 d157 d158 d159 d160 d161 d162 d163 d164 d165 d166 d167 d168 d169 d170 d171 d172 d173 d174 d175 d176 d177 d178 d179 d180 d181 d182 d183 d184 d185 d186 d187 d188 d189 d190 d191 d192 d193 d194 d195 d196 d197 d198 d199 d200 d201 d202 d203 d204 d205 d206 d207 d208 d209 d210 d211 d212 d213 d214 d215 d216 d217 d218 d219 d220 d221 : Value) (w' : World), ByR w p b1 b2 cap (i + 1) w' → K' { tmps := #[c0, c1, c2, c3, c4, c5, .pointer (some ⟨p, 0, none⟩), .int .i64 0, .int .i64 1, c9, .int .i64 2, .int .i64 1, c12, .pointer (some ⟨b1, 0, none⟩), .pointer (some ⟨b2, 0, none⟩), c15, .pointer (some ⟨bx, 0, none⟩), d17, d18, d19, d20, d21, d22, d23, d24, d25, d26, d27, d28, d29, d30, d31, d32, c33, c34, c35, c36, c37, c38, c39, c40, c41, c42, c43, c44, c45, c46, c47, c48, c49, c50, c51, c52, c53, c54, c55, c56, c57, c58, c59, c60, c61, c62, c63, c64, c65, c66, c67, c68, c69, c70, c71, c72, c73, c74, c75, c76, c77, c78, c79, c80, .int .i64 (3), d82, d83, d84, d85, d86, d87, d88, d89, d90, d91, d92, d93, d94, d95, d96, d97, d98, d99, d100, d101, d102, d103, d104, d105, d106, d107, d108, d109, d110, d111, d112, d113, d114, d115, d116, d117, d118, d119, d120, d121, d122, d123, d124, d125, d126, d127, d128, d129, d130, d131, d132, d133, d134, d135, d136, d137, d138, d139, d140, d141, d142, d143, d144, d145, d146, d147, d148, d149, d150, d151, d152, d153, d154, d155, d156, d157, d158, d159, d160, d161, d162, d163, d164, d165, d166, d167, d168, d169, d170, d171, d172, d173, d174, d175, d176, d177, d178, d179, d180, d181, d182, d183, d184, d185, d186, d187, d188, d189, d190, d191, d192, d193, d194, d195, d196, d197, d198, d199, d200, d201, d202, d203, d204, d205, d206, d207, d208, d209, d210, d211, d212, d213, d214, d215, d216, d217, d218, d219, d220, d221, c222, c223, c224, c225, c226, c227, c228, c229, c230, c231, c232, c233, c234, c235, c236, c237, c238, c239, c240, c241, c242, c243, c244, c245, c246, c247, c248, c249, c250, c251, c252, c253, c254, c255, c256, c257, c258, c259, c260, c261, c262, c263, c264, c265, c266], defers := [] } w') :
    Code.wp Try.prog swCode (Exit.then K' Q0) { tmps := #[c0, c1, c2, c3, c4, c5, .pointer (some ⟨p, 0, none⟩), .int .i64 0, .int .i64 1, c9, .int .i64 2, .int .i64 1, c12, .pointer (some ⟨b1, 0, none⟩), .pointer (some ⟨b2, 0, none⟩), c15, .pointer (some ⟨bx, 0, none⟩), e17, e18, e19, e20, e21, e22, e23, e24, e25, e26, e27, e28, e29, e30, e31, e32, c33, c34, c35, c36, c37, c38, c39, c40, c41, c42, c43, c44, c45, c46, c47, c48, c49, c50, c51, c52, c53, c54, c55, c56, c57, c58, c59, c60, c61, c62, c63, c64, c65, c66, c67, c68, c69, c70, c71, c72, c73, c74, c75, c76, c77, c78, c79, c80, .int .i64 (3), e82, e83, e84, e85, e86, e87, e88, e89, e90, e91, e92, e93, e94, e95, e96, e97, e98, e99, e100, e101, e102, e103, e104, e105, e106, e107, e108, e109, e110, e111, e112, e113, e114, e115, e116, e117, e118, e119, e120, e121, e122, e123, e124, e125, e126, e127, e128, e129, e130, e131, e132, e133, e134, e135, e136, e137, e138, e139, e140, e141, e142, e143, e144, e145, e146, e147, e148, e149, e150, e151, e152, e153, e154, e155, e156, e157, e158, e159, e160, e161, e162, e163, e164, e165, e166, e167, e168, e169, e170, e171, e172, e173, e174, e175, e176, e177, e178, e179, e180, e181, e182, e183, e184, e185, e186, e187, e188, e189, e190, e191, e192, e193, e194, e195, e196, e197, e198, e199, e200, e201, e202, e203, e204, e205, e206, e207, e208, e209, e210, e211, e212, e213, e214, e215, e216, e217, e218, e219, e220, e221, c222, c223, c224, c225, c226, c227, c228, c229, c230, c231, c232, c233, c234, c235, c236, c237, c238, c239, c240, c241, c242, c243, c244, c245, c246, c247, c248, c249, c250, c251, c252, c253, c254, c255, c256, c257, c258, c259, c260, c261, c262, c263, c264, c265, c266], defers := [] } wB := by
  have HK := Lib.hid hK
  clear hK
  have HP := H.hp
  have HX := H.hx
  have hz300 := H.hz300
  have hzv := H.hzv
  have hzc1 := H.hzc1
  have hzc2 := H.hzc2
  have hl2 := H.hl
  have hr2 := H.hcap
  have hX := H.hx.out.1
  have c0 := hX.cell 0
  have c2 := hX.cell 2
  have c4 := hX.cell 4
  simp at c0 c2 c4
  have lx := hX.lt
  clear H hX
  conv => arg 2; whnf
  have O2 := HX.out.2.1
  have hsrc := HP.out.2.2.src.at0 O2.bel (fun _ e => e)
  rw [hzv] at hsrc
  obtain ⟨m, e, y', hw, hc⟩ := HP.out.1.fl.ny.putO z.b
  have HT := Lib.hid (O2.put (n := 1) (S2_out x y HP.out.1.fl.ny.is1) (HP.out.1.fl.ny.can false) _ z.b hsrc (by omega) hw)
  have hm := hc.2.1
  have HC := Lib.hid hc
  clear O2 hsrc hc hw
  go_wp2_with fail
  refine HT.out.mono ?_
  rintro e w5 ⟨rfl, O, hD, hsz⟩
  have t1 := fun q (hq : q = bx ∨ q = b1 ∨ q = b2) => hD q hq
  have hX5 := HX.out.1.same (t1 bx (.inl rfl))
  have hS5 := HP.out.1.sb.same ((t1 b1 (.inr (.inl rfl))).trans HX.out.2.2.1)
  have hsrc := HP.out.2.2.src.at0 (O.drewN 1).bel (fun _ e => e)
  rw [hzv] at hsrc
  obtain ⟨S, hS⟩ : ∃ S, S = strOfNums (s 3) := ⟨_, rfl⟩
  obtain ⟨T, hT⟩ : ∃ T, T = strOfNums (z.b.take m) := ⟨_, rfl⟩
  have hcv : (convert 32 9 (.slice zA m zc)).run Try.prog w5.drew = .ok (.string (strOfNums (z.b.take m))) w5.drew := hsrc.str_take m hm
  rw [← hT] at hcv
  have hSz : S.size ≤ 60000 := by rw [hS, strOfNums_size]; have := HP.out.1.fl.len 3 (by omega); omega
  have hTz : T.size ≤ 300 := by rw [hT, strOfNums_size, List.length_take]; omega
  have y0 := hX5.cell 0
  have y4 := hX5.cell 4
  simp at y0 y4
  have d0 := hS5.cell 3
  have f0 := hS5.frozen 3
  rw [strs4_at s (by omega), ← hS] at d0
  have l5 := hX5.lt
  have l6 := hS5.lt
  have k1 : (m : Int) ≤ (zc : Int) := by omega
  have k2 : m ≤ zc := by omega
  have k3 : (0 : Int) ≤ (m : Int) := by omega
  have z1 : S.size + T.size ≤ 9223372036854775807 := by omega
  have z2 : ¬ 9223372036854775807 < S.size + T.size := by omega
  have HN := Lib.hid (show ByR w p b1 b2 cap (i + 1) ((w5.drewN 1).setCell ⟨b1, 3, none⟩ (.string (S ++ T))) from by
    have h := HP.out.1.put (O.less (fun q hq => .inr hq)) ((t1 b1 (.inr (.inl rfl))).trans HX.out.2.2.1) ((t1 b2 (.inr (.inr rfl))).trans HX.out.2.2.2) (j := 3) (by omega) _ (HP.out.1.fl.sentY HC.out hz300 (j := 3) (by omega) rfl) 1
    rw [← strs_append, ← hS, ← hT] at h
    exact ⟨_, _, _, _, ⟨h.od.more (by omega), h.h1, h.h2, h.ne, h.sb, h.gb, h.fl.more (by omega)⟩⟩)
  clear O hD hsz t1 hX5 hS5 hsrc hS hT HT c0 c2 c4 lx
  go_wp2_with fail
  go_still_tail 9, (by kernel_rfl)
  change wpList _ _ _ _ _ w5.drew
  go_wp2_with fail
  exact HK.out _ _ _ _ _ _ _ _ _ _ _ _ _ _ _ _ _ _ _ _ _ _ _ _ _ _ _ _ _ _ _ _ _ _ _ _ _ _ _ _ _ _ _ _ _ _ _ _ _ _ _ _ _ _ _ _ _ _ _ _ _ _ _ _ _ _ _ _ _ _ _ _ _ _ _ _ _ _ _ _ _ _ _ _ _ _ _ _ _ _ _ _ _ _ _ _ _ _ _ _ _ _ _ _ _ _ _ _ _ _ _ _ _ _ _ _ _ _ _ _ _ _ _ _ _ _ _ _ _ _ _ _ _ _ _ _ _ _ _ _ _ _ _ _ _ _ _ _ _ _ _ _ _ _ _ _ _ HN.out
end Go.Proofs.Ytjejpgognfadoaa
