/- The document's Mutex, in pieces: a hold, behind. -/
import Derived.Test.YtaojmbebkggafaaMr6
namespace Go.Proofs.Ytaojmbebkggafaa
open Go.RowKit
set_option linter.unusedVariables false

set_option maxRecDepth 1000000 in
set_option maxHeartbeats 16000000 in
theorem wait_walk {Q : Exit → Act → World → Prop} {wb : World} {n b5 P bb w j x ln qc : Nat} {qa : Option Addr} {S : MS} {L : List Lt} {cdk : List Int} {t : Nat → Option RT} {v : RT → Value} {x10 c1 c4 c21 c22 c23 c24 c25 c26 : Value} {u8 u12 u14 u15 u16 u27 u28 u29 u30 u31 u32 u33 u34 u35 u36 u37 u38 u39 u40 u41 u42 u43 u44 u45 u46 u47 u48 u49 u50 u51 u52 u53 u54 u55 u56 u57 u58 u59 u60 u61 u62 u63 u64 u65 u66 u67 u68 u69 u70 u71 u72 u73 u74 u75 u76 u77 u78 u79 u80 u81 u82 u83 u84 u85 u86 u87 u88 u89 u90 u91 u92 u93 u94 u95 u96 u97 u98 u99 u100 u101 u102 u103 u104 u105 u106 u107 u108 u109 u110 u111 u112 u113 u114 u115 u116 u117 u118 u119 u120 u121 u122 u123 u124 u125 u126 u127 u128 u129 u130 u131 u132 u133 u134 u135 u136 u137 u138 u139 u140 u141 u142 u143 u144 u145 u146 u147 u148 u149 u150 u151 u152 u153 u154 u155 u156 u157 u158 u159 u160 u161 u162 u163 u164 u165 u166 u167 u168 u169 u170 u171 u172 u173 u174 u175 u176 u177 u178 u179 u180 u181 u182 u183 u184 u185 u186 u187 u188 u189 u190 u191 u192 u193 u194 u195 u196 u197 u198 u199 u200 u201 u202 u203 u204 u205 u206 u207 u208 u209 u210 u211 u212 u213 u214 u215 u216 u217 u218 u219 u220 u221 u222 u223 u224 u225 u226 u227 u228 u229 u230 u231 u232 u233 u234 u235 u236 u237 u238 u239 u240 u241 u242 u243 u244 u245 u246 u247 u248 u249 u250 u251 u252 u253 u254 u255 u256 u257 u258 u259 u260 u261 u262 u263 u264 u265 u266 u267 u268 u269 u270 u271 u272 u273 u274 u275 u276 u277 u278 u279 u280 u281 u282 u283 u284 u285 u286 u287 u288 u289 u290 u291 u292 u293 u294 u295 u296 u297 u298 u299 u300 u301 u302 u303 u304 u305 u306 u307 u308 u309 u310 u311 : Value}
    (h0 : 0 < n) (h6 : n ≤ 6) (hw : w < n) (hj : j < n) (hwl : (S.pr w).wait.length ≤ 1000) (HPb : Hid (Pool wb t (RD n b5 P S L cdk [] 0 v))) (b1 : wb.cell? ⟨bb, 1, none⟩ = some (.int .i64 (w : Int))) (b2 : wb.cell? ⟨bb, 2, none⟩ = some (.int .i64 (j : Int))) (htb : t bb = none)
    (hQ : ∀ (z262 z263 z264 z265 z266 z267 z268 z269 z270 z271 z272 : Value) (wx : World) (t2 : Nat → Option RT) (v2 : RT → Value), Pool wx t2 (RD n b5 P (prM S w { S.pr w with wait := (S.pr w).wait ++ [j] }) L cdk [] 0 v2) → PStep wb t wx t2 → v2 .post = v .post → Q .normal ⟨#[.int .i64 (n : Int), c1, undef, undef, c4, .pointer (some ⟨b5, 0, none⟩), .slice (some ⟨P, 0, none⟩) n n, .slice qa ln qc, u8, .pointer (some ⟨bb, 0, none⟩), x10, .pointer (some ⟨P, w * 5, none⟩), u12, undef, u14, u15, u16, .int .i64 (x : Int), undef, undef, undef, c21, c22, c23, c24, c25, c26, u27, u28, u29, u30, u31, u32, u33, u34, u35, u36, u37, u38, u39, u40, u41, u42, u43, u44, u45, u46, u47, u48, u49, u50, u51, u52, u53, u54, u55, u56, u57, u58, u59, u60, u61, u62, u63, u64, u65, u66, u67, u68, u69, u70, u71, u72, u73, u74, u75, u76, u77, u78, u79, u80, u81, u82, u83, u84, u85, u86, u87, u88, u89, u90, u91, u92, u93, u94, u95, u96, u97, u98, u99, u100, u101, u102, u103, u104, u105, u106, u107, u108, u109, u110, u111, u112, u113, u114, u115, u116, u117, u118, u119, u120, u121, u122, u123, u124, u125, u126, u127, u128, u129, u130, u131, u132, u133, u134, u135, u136, u137, u138, u139, u140, u141, u142, u143, u144, u145, u146, u147, u148, u149, u150, u151, u152, u153, u154, u155, u156, u157, u158, u159, u160, u161, u162, u163, u164, u165, u166, u167, u168, u169, u170, u171, u172, u173, u174, u175, u176, u177, u178, u179, u180, u181, u182, u183, u184, u185, u186, u187, u188, u189, u190, u191, u192, u193, u194, u195, u196, u197, u198, u199, u200, u201, u202, u203, u204, u205, u206, u207, u208, u209, u210, u211, u212, u213, u214, u215, u216, u217, u218, u219, u220, u221, u222, u223, u224, u225, u226, u227, u228, u229, u230, u231, u232, u233, u234, u235, u236, u237, u238, u239, u240, u241, u242, u243, u244, u245, u246, u247, u248, u249, u250, u251, u252, u253, u254, u255, u256, u257, u258, u259, u260, u261, z262, z263, z264, z265, z266, z267, z268, z269, z270, z271, z272, u273, u274, u275, u276, u277, u278, u279, u280, u281, u282, u283, u284, u285, u286, u287, u288, u289, u290, u291, u292, u293, u294, u295, u296, u297, u298, u299, u300, u301, u302, u303, u304, u305, u306, u307, u308, u309, u310, u311, undef, undef, undef, undef, undef, undef, undef, undef, undef, undef, undef, undef, undef, undef, undef, undef, undef, undef, undef, undef, undef, undef, undef, undef, undef, undef, undef, undef, undef, undef, undef, undef], []⟩ wx) :
    Code.wp Try.prog waitCode Q ⟨#[.int .i64 (n : Int), c1, undef, undef, c4, .pointer (some ⟨b5, 0, none⟩), .slice (some ⟨P, 0, none⟩) n n, .slice qa ln qc, u8, .pointer (some ⟨bb, 0, none⟩), x10, .pointer (some ⟨P, w * 5, none⟩), u12, undef, u14, u15, u16, .int .i64 (x : Int), undef, undef, undef, c21, c22, c23, c24, c25, c26, u27, u28, u29, u30, u31, u32, u33, u34, u35, u36, u37, u38, u39, u40, u41, u42, u43, u44, u45, u46, u47, u48, u49, u50, u51, u52, u53, u54, u55, u56, u57, u58, u59, u60, u61, u62, u63, u64, u65, u66, u67, u68, u69, u70, u71, u72, u73, u74, u75, u76, u77, u78, u79, u80, u81, u82, u83, u84, u85, u86, u87, u88, u89, u90, u91, u92, u93, u94, u95, u96, u97, u98, u99, u100, u101, u102, u103, u104, u105, u106, u107, u108, u109, u110, u111, u112, u113, u114, u115, u116, u117, u118, u119, u120, u121, u122, u123, u124, u125, u126, u127, u128, u129, u130, u131, u132, u133, u134, u135, u136, u137, u138, u139, u140, u141, u142, u143, u144, u145, u146, u147, u148, u149, u150, u151, u152, u153, u154, u155, u156, u157, u158, u159, u160, u161, u162, u163, u164, u165, u166, u167, u168, u169, u170, u171, u172, u173, u174, u175, u176, u177, u178, u179, u180, u181, u182, u183, u184, u185, u186, u187, u188, u189, u190, u191, u192, u193, u194, u195, u196, u197, u198, u199, u200, u201, u202, u203, u204, u205, u206, u207, u208, u209, u210, u211, u212, u213, u214, u215, u216, u217, u218, u219, u220, u221, u222, u223, u224, u225, u226, u227, u228, u229, u230, u231, u232, u233, u234, u235, u236, u237, u238, u239, u240, u241, u242, u243, u244, u245, u246, u247, u248, u249, u250, u251, u252, u253, u254, u255, u256, u257, u258, u259, u260, u261, u262, u263, u264, u265, u266, u267, u268, u269, u270, u271, u272, u273, u274, u275, u276, u277, u278, u279, u280, u281, u282, u283, u284, u285, u286, u287, u288, u289, u290, u291, u292, u293, u294, u295, u296, u297, u298, u299, u300, u301, u302, u303, u304, u305, u306, u307, u308, u309, u310, u311, undef, undef, undef, undef, undef, undef, undef, undef, undef, undef, undef, undef, undef, undef, undef, undef, undef, undef, undef, undef, undef, undef, undef, undef, undef, undef, undef, undef, undef, undef, undef, undef], []⟩ wb := by
  refine Code.wp_mono onlyN_imp ?_
  have HQ := hidMk hQ
  clear hQ
  obtain ⟨i0, hit, hz0, hz1, hz2⟩ := info_parts cInfoInt
  obtain ⟨p0, p1, p2, p3, p4, pf⟩ := rd_proc HPb.out hw
  have hseg : Seg wb (fun g => t g = some (.wt w)) 3 1 (v (.wt w)) (S.pr w).wait.length (natsL (S.pr w).wait) := HPb.out.seg (.wt w) ⟨3, 1, v (.wt w), (S.pr w).wait.length, natsL (S.pr w).wait⟩ (if_pos hw)
  generalize hws : (S.pr w).wait = ws at *
  generalize hwl2 : ws.length = wl at *
  obtain ⟨ta, tc, et⟩ := segForm hseg
  rw [et] at p4 hseg
  have HET := hidMk et
  have HWs := hidMk hws
  have HWl := hidMk hwl2
  have HG := hidMk hseg
  have HC2 : Hid (∀ w9, Stil wb w9 → (fun w' => w'.cell? ⟨P, w * 5 + 4, none⟩ = some (.slice ta wl tc) ∧ w'.cell? ⟨bb, 2, none⟩ = some (.int .i64 (j : Int))) w9) := fun w9 h9 => ⟨h9.cell p4, h9.cell b2⟩
  have HC3 := hidMk (HC2.out _ (stilDrew wb))
  clear p0 p1 p2 p3 p4 pf hseg et hws hwl2
  conv => arg 2; whnf
  refine wp_region_class (fun w' => w'.cell? ⟨P, w * 5 + 4, none⟩ = some (.slice ta wl tc) ∧ w'.cell? ⟨bb, 2, none⟩ = some (.int .i64 (j : Int))) 11 (by kernel_rfl) ?_
  refine wpAnyC_take (i := 0) (fuel := 11) (v := .pointer (some ⟨P, w * 5, none⟩)) rfl (by kernel_rfl) (by kernel_rfl) (by kernel_rfl) (by kernel_rfl) (fun _ _ _ h => h) (.inl ⟨by kernel_rfl, fun w' hC => by obtain ⟨y1, y2⟩ := hC; go_simp⟩) HC3.out ?_
  go_frame
  refine wpAnyC_take (i := 1) (fuel := 10) (v := .pointer (some ⟨P, w * 5, none⟩)) rfl (by kernel_rfl) (by kernel_rfl) (by kernel_rfl) (by kernel_rfl) (fun _ _ _ h => h) (.inl ⟨by kernel_rfl, fun w' hC => by obtain ⟨y1, y2⟩ := hC; go_simp⟩) HC3.out ?_
  go_frame
  refine wpAnyC_take (i := 2) (fuel := 9) (v := .pointer (some ⟨P, w * 5, none⟩)) rfl (by kernel_rfl) (by kernel_rfl) (by kernel_rfl) (by kernel_rfl) (fun _ _ _ h => h) (.inl ⟨by kernel_rfl, fun w' hC => by obtain ⟨y1, y2⟩ := hC; go_simp⟩) HC3.out ?_
  go_frame
  refine wpAnyC_take (i := 3) (fuel := 8) (v := .pointer (some ⟨P, w * 5 + 4, none⟩)) rfl (by kernel_rfl) (by kernel_rfl) (by kernel_rfl) (by kernel_rfl) (fun _ _ _ h => h) (.inl ⟨by kernel_rfl, fun w' hC => by obtain ⟨y1, y2⟩ := hC; go_simp⟩) HC3.out ?_
  go_frame
  refine wpAnyC_take (i := 4) (fuel := 7) (v := .slice ta wl tc) rfl (by kernel_rfl) (by kernel_rfl) (by kernel_rfl) (by kernel_rfl) (fun _ _ _ h => h) (.inl ⟨by kernel_rfl, fun w' hC => by obtain ⟨y1, y2⟩ := hC; go_simp⟩) HC3.out ?_
  go_frame
  refine wpAnyC_take (i := 5) (fuel := 6) (v := .pointer (some ⟨bb, 2, none⟩)) rfl (by kernel_rfl) (by kernel_rfl) (by kernel_rfl) (by kernel_rfl) (fun _ _ _ h => h) (.inl ⟨by kernel_rfl, fun w' hC => by obtain ⟨y1, y2⟩ := hC; go_simp⟩) HC3.out ?_
  go_frame
  refine wpAnyC_take (i := 6) (fuel := 5) (v := .int .i64 (j : Int)) rfl (by kernel_rfl) (by kernel_rfl) (by kernel_rfl) (by kernel_rfl) (fun _ _ _ h => h) (.inl ⟨by kernel_rfl, fun w' hC => by obtain ⟨y1, y2⟩ := hC; go_simp⟩) HC3.out ?_
  go_frame
  refine wpAnyC_one 7 (fuel := 4) (by kernel_rfl) rfl rfl (fun K4 hK4 => ?_)
  go_wp2
  first | refine ⟨fun _ => HC2.out _ ((stilDrew wb).alloc _), ?_⟩ | refine ⟨HC2.out _ (Stil.new wb _), ?_⟩
  refine wpAnyC_one 8 (fuel := 3) (by kernel_rfl) rfl rfl (fun K5 hK5 => ?_)
  refine oper_append_seg (.tmp 266) (.tmp 269) 24 rfl 3 i0 (.int .i64 0) 1 8 Try.underlying24 hit hz0 hz1 hz2 rfl (by decide) (.slice ta wl tc) wl (natsL ws) rfl (segAlloc (segDrew HG.out) _) ⟨wb.heap.size, 0, none⟩ 1 1 [.int .i64 (j : Int)] rfl rfl (fun j2 u hu => cCell1 wb.drew (.int .i64 (j : Int)) 3 _ rfl j2 u hu) (cOne _) (by unfold maxLen; omega) (by omega) ?_
  intro v3 w3 hs3 hg3
  obtain ⟨t3, P3, S3⟩ := HPb.out.app (τ := RT.wt w) (s := ⟨3, 1, v (.wt w), (S.pr w).wait.length, natsL (S.pr w).wait⟩) (if_pos hw) (m := 1) (news := [.int .i64 (j : Int)]) (wa := wb.drew.alloc (.cells #[.int .i64 (j : Int)] 3)) ((stilDrew wb).alloc _) (by simp only; rw [HWs.out, HWl.out, HET.out]; exact hs3) (by simp only; rw [HET.out]; exact hg3)
  simp only at P3
  rw [HWs.out, HWl.out] at P3
  have P4 : Pool w3 t3 (updD (RD n b5 P S L cdk [] 0 v) (.wt w) ⟨3, 1, v3, (ws ++ [j]).length, natsL (ws ++ [j])⟩) := by
    rw [List.length_append, List.length_singleton, HWl.out, show natsL (ws ++ [j]) = natsL ws ++ [.int .i64 (j : Int)] from by simp [natsL]]
    exact P3
  obtain ⟨a3, c3, rfl⟩ := segForm hs3
  obtain ⟨g1, g2, g3, g4⟩ := rd_wait HPb.out hw P4 S3
  have h4 : w3.cell? ⟨P, w * 5 + 4, none⟩ = some (.slice ta wl tc) := by rw [g1 4 (by omega)]; show some (v (.wt w)) = _; rw [HET.out]
  have h5 := S3.cell htb b2
  have h6 := g2 (w * 5 + 4)
  have HP5 := hidMk g3
  have HS5 := hidMk g4
  refine hK5 _ _ ⟨fun _ => ⟨h4, h5⟩, ?_⟩
  clear hs3 hg3 P3 P4 S3 g1 g2 g3 g4
  go_frame
  refine wpAnyC_one 9 (fuel := 2) (by kernel_rfl) rfl rfl (fun K6 hK6 => ?_)
  go_wp2
  try (refine ⟨fun _ => ⟨h4, h5⟩, ?_⟩)
  refine wpAnyC_one 10 (fuel := 1) (by kernel_rfl) rfl rfl (fun K7 hK7 => ?_)
  go_wp2
  try (refine ⟨fun _ => ⟨h4, h5⟩, ?_⟩)
  refine wpAnyC_one 11 (fuel := 0) (by kernel_rfl) rfl rfl (fun K8 hK8 => ?_)
  go_wp2
  refine ⟨fun h => absurd rfl h, ?_⟩
  refine wpAnyC_done (by kernel_rfl) ?_
  exact HQ.out _ _ _ _ _ _ _ _ _ _ _ _ t3 _ HP5.out HS5.out (updV_other _ _ (by simp))
set_option maxRecDepth 1000000 in
set_option maxHeartbeats 16000000 in
theorem nay_walk {Q : Exit → Act → World → Prop} {wb : World} {n b5 P bb w j x ln qc : Nat} {qa : Option Addr} {S : MS} {L : List Lt} {cdk : List Int} {t : Nat → Option RT} {v : RT → Value} {x10 c1 c4 c21 c22 c23 c24 c25 c26 : Value} {u8 u12 u14 u15 u16 u27 u28 u29 u30 u31 u32 u33 u34 u35 u36 u37 u38 u39 u40 u41 u42 u43 u44 u45 u46 u47 u48 u49 u50 u51 u52 u53 u54 u55 u56 u57 u58 u59 u60 u61 u62 u63 u64 u65 u66 u67 u68 u69 u70 u71 u72 u73 u74 u75 u76 u77 u78 u79 u80 u81 u82 u83 u84 u85 u86 u87 u88 u89 u90 u91 u92 u93 u94 u95 u96 u97 u98 u99 u100 u101 u102 u103 u104 u105 u106 u107 u108 u109 u110 u111 u112 u113 u114 u115 u116 u117 u118 u119 u120 u121 u122 u123 u124 u125 u126 u127 u128 u129 u130 u131 u132 u133 u134 u135 u136 u137 u138 u139 u140 u141 u142 u143 u144 u145 u146 u147 u148 u149 u150 u151 u152 u153 u154 u155 u156 u157 u158 u159 u160 u161 u162 u163 u164 u165 u166 u167 u168 u169 u170 u171 u172 u173 u174 u175 u176 u177 u178 u179 u180 u181 u182 u183 u184 u185 u186 u187 u188 u189 u190 u191 u192 u193 u194 u195 u196 u197 u198 u199 u200 u201 u202 u203 u204 u205 u206 u207 u208 u209 u210 u211 u212 u213 u214 u215 u216 u217 u218 u219 u220 u221 u222 u223 u224 u225 u226 u227 u228 u229 u230 u231 u232 u233 u234 u235 u236 u237 u238 u239 u240 u241 u242 u243 u244 u245 u246 u247 u248 u249 u250 u251 u252 u253 u254 u255 u256 u257 u258 u259 u260 u261 u262 u263 u264 u265 u266 u267 u268 u269 u270 u271 u272 u273 u274 u275 u276 u277 u278 u279 u280 u281 u282 u283 u284 u285 u286 u287 u288 u289 u290 u291 u292 u293 u294 u295 u296 u297 u298 u299 u300 u301 u302 u303 u304 u305 u306 u307 u308 u309 u310 u311 : Value}
    (h0 : 0 < n) (h6 : n ≤ 6) (hw : w < n) (hj : j < n) (HSim : Hid (SimL n S L)) (hln : ln ≤ 20000) (hll : L.length = ln) (hfp : v .post = .slice qa ln qc) (HPb : Hid (Pool wb t (RD n b5 P S L cdk [] 0 v))) (b1 : wb.cell? ⟨bb, 1, none⟩ = some (.int .i64 (w : Int))) (b2 : wb.cell? ⟨bb, 2, none⟩ = some (.int .i64 (j : Int))) (htb : t bb = none)
    (hQ : ∀ (z7 z273 z274 z275 z276 z277 z278 z279 z280 : Value) (wx : World) (t2 : Nat → Option RT) (v2 : RT → Value), Pool wx t2 (RD n b5 P (putM S w j 0) (L ++ [⟨w, j, 0, false⟩]) cdk [] 0 v2) → PStep wb t wx t2 → z7 = v2 .post → SimL n (putM S w j 0) (L ++ [⟨w, j, 0, false⟩]) → Q .normal ⟨#[.int .i64 (n : Int), c1, undef, undef, c4, .pointer (some ⟨b5, 0, none⟩), .slice (some ⟨P, 0, none⟩) n n, z7, u8, .pointer (some ⟨bb, 0, none⟩), x10, .pointer (some ⟨P, w * 5, none⟩), u12, undef, u14, u15, u16, .int .i64 (x : Int), undef, undef, undef, c21, c22, c23, c24, c25, c26, u27, u28, u29, u30, u31, u32, u33, u34, u35, u36, u37, u38, u39, u40, u41, u42, u43, u44, u45, u46, u47, u48, u49, u50, u51, u52, u53, u54, u55, u56, u57, u58, u59, u60, u61, u62, u63, u64, u65, u66, u67, u68, u69, u70, u71, u72, u73, u74, u75, u76, u77, u78, u79, u80, u81, u82, u83, u84, u85, u86, u87, u88, u89, u90, u91, u92, u93, u94, u95, u96, u97, u98, u99, u100, u101, u102, u103, u104, u105, u106, u107, u108, u109, u110, u111, u112, u113, u114, u115, u116, u117, u118, u119, u120, u121, u122, u123, u124, u125, u126, u127, u128, u129, u130, u131, u132, u133, u134, u135, u136, u137, u138, u139, u140, u141, u142, u143, u144, u145, u146, u147, u148, u149, u150, u151, u152, u153, u154, u155, u156, u157, u158, u159, u160, u161, u162, u163, u164, u165, u166, u167, u168, u169, u170, u171, u172, u173, u174, u175, u176, u177, u178, u179, u180, u181, u182, u183, u184, u185, u186, u187, u188, u189, u190, u191, u192, u193, u194, u195, u196, u197, u198, u199, u200, u201, u202, u203, u204, u205, u206, u207, u208, u209, u210, u211, u212, u213, u214, u215, u216, u217, u218, u219, u220, u221, u222, u223, u224, u225, u226, u227, u228, u229, u230, u231, u232, u233, u234, u235, u236, u237, u238, u239, u240, u241, u242, u243, u244, u245, u246, u247, u248, u249, u250, u251, u252, u253, u254, u255, u256, u257, u258, u259, u260, u261, u262, u263, u264, u265, u266, u267, u268, u269, u270, u271, u272, z273, z274, z275, z276, z277, z278, z279, z280, u281, u282, u283, u284, u285, u286, u287, u288, u289, u290, u291, u292, u293, u294, u295, u296, u297, u298, u299, u300, u301, u302, u303, u304, u305, u306, u307, u308, u309, u310, u311, undef, undef, undef, undef, undef, undef, undef, undef, undef, undef, undef, undef, undef, undef, undef, undef, undef, undef, undef, undef, undef, undef, undef, undef, undef, undef, undef, undef, undef, undef, undef, undef], []⟩ wx) :
    Code.wp Try.prog nayCode Q ⟨#[.int .i64 (n : Int), c1, undef, undef, c4, .pointer (some ⟨b5, 0, none⟩), .slice (some ⟨P, 0, none⟩) n n, .slice qa ln qc, u8, .pointer (some ⟨bb, 0, none⟩), x10, .pointer (some ⟨P, w * 5, none⟩), u12, undef, u14, u15, u16, .int .i64 (x : Int), undef, undef, undef, c21, c22, c23, c24, c25, c26, u27, u28, u29, u30, u31, u32, u33, u34, u35, u36, u37, u38, u39, u40, u41, u42, u43, u44, u45, u46, u47, u48, u49, u50, u51, u52, u53, u54, u55, u56, u57, u58, u59, u60, u61, u62, u63, u64, u65, u66, u67, u68, u69, u70, u71, u72, u73, u74, u75, u76, u77, u78, u79, u80, u81, u82, u83, u84, u85, u86, u87, u88, u89, u90, u91, u92, u93, u94, u95, u96, u97, u98, u99, u100, u101, u102, u103, u104, u105, u106, u107, u108, u109, u110, u111, u112, u113, u114, u115, u116, u117, u118, u119, u120, u121, u122, u123, u124, u125, u126, u127, u128, u129, u130, u131, u132, u133, u134, u135, u136, u137, u138, u139, u140, u141, u142, u143, u144, u145, u146, u147, u148, u149, u150, u151, u152, u153, u154, u155, u156, u157, u158, u159, u160, u161, u162, u163, u164, u165, u166, u167, u168, u169, u170, u171, u172, u173, u174, u175, u176, u177, u178, u179, u180, u181, u182, u183, u184, u185, u186, u187, u188, u189, u190, u191, u192, u193, u194, u195, u196, u197, u198, u199, u200, u201, u202, u203, u204, u205, u206, u207, u208, u209, u210, u211, u212, u213, u214, u215, u216, u217, u218, u219, u220, u221, u222, u223, u224, u225, u226, u227, u228, u229, u230, u231, u232, u233, u234, u235, u236, u237, u238, u239, u240, u241, u242, u243, u244, u245, u246, u247, u248, u249, u250, u251, u252, u253, u254, u255, u256, u257, u258, u259, u260, u261, u262, u263, u264, u265, u266, u267, u268, u269, u270, u271, u272, u273, u274, u275, u276, u277, u278, u279, u280, u281, u282, u283, u284, u285, u286, u287, u288, u289, u290, u291, u292, u293, u294, u295, u296, u297, u298, u299, u300, u301, u302, u303, u304, u305, u306, u307, u308, u309, u310, u311, undef, undef, undef, undef, undef, undef, undef, undef, undef, undef, undef, undef, undef, undef, undef, undef, undef, undef, undef, undef, undef, undef, undef, undef, undef, undef, undef, undef, undef, undef, undef, undef], []⟩ wb := by
  refine Code.wp_mono onlyN_imp ?_
  obtain ⟨i2, hq, hx0, hx1, hx2⟩ := info_parts mInfoLetter
  have HQ := hidMk hQ
  have hsp : Seg wb (fun g => t g = some .post) 50 4 (v .post) L.length (flatL L) := HPb.out.seg .post _ rfl
  rw [hfp, hll] at hsp
  have HSp := hidMk hsp
  have HFp := hidMk hfp
  have HLl := hidMk hll
  clear hQ hsp hfp hll
  conv => arg 2; whnf
  go_wp2_with (at_builtin; refine wpList_append_seg _ rfl _ _ 45 rfl 50 i2 (.agg #[.int .i64 0, .int .i64 0, .int .i64 0, .bool false]) 4 32 Try.underlying45 hq hx0 hx1 hx2 rfl (by decide) _ _ _ rfl (segAlloc HSp.out _) ⟨wb.heap.size, 0, none⟩ 1 1 (cellsL ⟨w, j, 0, false⟩) rfl rfl (cells_let_at0 _ _ _ _ _ rfl) (letCells _) (by unfold maxLen; omega) (by omega) ?_)
  intro v3 w3 hs3 hg3
  obtain ⟨t5, P5, S5⟩ := rd_post HPb.out (l := ⟨w, j, 0, false⟩) (Stil.new wb (.cells #[.int .i64 (w : Int), .int .i64 (j : Int), .int .i64 0, .bool false] 50)) (by rw [HFp.out, HLl.out]; exact hs3.mono (fun g _ e => by rcases e with e | e; exact .inl e; right; rw [e]; simp)) (by rw [HFp.out]; exact hg3)
  have HP5 : Hid (Pool w3 t5 (RD n b5 P (putM S w j 0) (L ++ [⟨w, j, 0, false⟩]) cdk [] 0 (updV v .post v3))) := rd_ways P5 rfl rfl
  have HS5 := hidMk S5
  obtain ⟨a3, c3, rfl⟩ := segForm hs3
  clear hs3 hg3 P5 S5
  go_wp2
  exact HQ.out _ _ _ _ _ _ _ _ _ _ t5 _ HP5.out HS5.out (by rw [updV_same]) (sim_put HSim.out hw hj 0)
end Go.Proofs.Ytaojmbebkggafaa
