/- The document's Mutex, in pieces: a round. -/
import Derived.Test.YtaojmbebkggafaaMt1
import Derived.Test.YtaojmbebkggafaaMc0
namespace Go.Proofs.Ytaojmbebkggafaa
open Go.RowKit
set_option linter.unusedVariables false

noncomputable def roundCode : Code := (seqOf 6 body9).getD .skip
set_option maxRecDepth 1000000 in
set_option maxHeartbeats 16000000 in
theorem round_walk {Q : Exit → Act → World → Prop} {wb : World} {n b5 P sb so pl pc k ln qc : Nat} {qa : Option Addr} {kd wh ms : Int} {S : MS} {L : List Lt} {cdk : List Int} {t : Nat → Option RT} {v : RT → Value} {c1 c4 c21 c22 c23 c25 x9 : Value} {u8 u10 u11 u12 u14 u15 u16 u17 u27 u28 u29 u30 u31 u32 u33 u34 u35 u36 u37 u38 u39 u40 u41 u42 u43 u44 u45 u46 u47 u48 u49 u50 u51 u52 u53 u54 u55 u56 u57 u58 u59 u60 u61 u62 u63 u64 u65 u66 u67 u68 u69 u70 u71 u72 u73 u74 u75 u76 u77 u78 u79 u80 u81 u82 u83 u84 u85 u86 u87 u88 u89 u90 u91 u92 u93 u94 u95 u96 u97 u98 u99 u100 u101 u102 u103 u104 u105 u106 u107 u108 u109 u110 u111 u112 u113 u114 u115 u116 u117 u118 u119 u120 u121 u122 u123 u124 u125 u126 u127 u128 u129 u130 u131 u132 u133 u134 u135 u136 u137 u138 u139 u140 u141 u142 u143 u144 u145 u146 u147 u148 u149 u150 u151 u152 u153 u154 u155 u156 u157 u158 u159 u160 u161 u162 u163 u164 u165 u166 u167 u168 u169 u170 u171 u172 u173 u174 u175 u176 u177 u178 u179 u180 u181 u182 u183 u184 u185 u186 u187 u188 u189 u190 u191 u192 u193 u194 u195 u196 u197 u198 u199 u200 u201 u202 u203 u204 u205 u206 u207 u208 u209 u210 u211 u212 u213 u214 u215 u216 u217 u218 u219 u220 u221 u222 u223 u224 u225 u226 u227 u228 u229 u230 u231 u232 u233 u234 u235 u236 u237 u238 u239 u240 u241 u242 u243 u244 u245 u246 u247 u248 u249 u250 u251 u252 u253 u254 u255 u256 u257 u258 u259 u260 u261 u262 u263 u264 u265 u266 u267 u268 u269 u270 u271 u272 u273 u274 u275 u276 u277 u278 u279 u280 u281 u282 u283 u284 u285 u286 u287 u288 u289 u290 u291 u292 u293 u294 u295 u296 u297 u298 u299 u300 u301 u302 u303 u304 u305 u306 u307 u308 u309 u310 u311 : Value}
    (h0 : 0 < n) (h6 : n ≤ 6) (hI : Hid (MInv n S)) (hnm : Hid (∀ i, (S.pr i).num ≤ 900 ∧ (S.pr i).yes ≤ 900)) (hwl6 : Hid (∀ i, i < n → (S.pr i).wait.length ≤ 6)) (hwy : Hid (∀ i j x, x ∈ S.ways i j → x ≤ 900)) (hin : S.ins.length ≤ 1000) (HSim : Hid (SimL n S L)) (hln : ln ≤ 20000) (hll : L.length = ln) (hfp : v .post = .slice qa ln qc) (hcl : cdk.length ≤ 1000)
    (HPb : Hid (Pool wb t (RD n b5 P S L cdk [] 0 v))) (hkp : k < pl) (hpl : pl ≤ 1000) (d0 : wb.cell? ⟨sb, so + k * 3, none⟩ = some (.int .i64 kd)) (d1 : wb.cell? ⟨sb, so + k * 3 + 1, none⟩ = some (.int .i64 wh)) (d2 : wb.cell? ⟨sb, so + k * 3 + 2, none⟩ = some (.int .i64 ms))
    (hQ : ∀ (z7 z9 z10 z11 z12 z14 z15 z16 z17 z28 z29 z30 z31 z32 z33 z34 z35 z36 z37 z38 z39 z40 z41 z42 z43 z44 z45 z46 z47 z48 z49 z50 z51 z52 z53 z54 z55 z56 z57 z58 z59 z60 z61 z62 z63 z64 z65 z66 z67 z68 z69 z70 z71 z72 z73 z74 z75 z76 z77 z78 z79 z80 z81 z82 z83 z84 z85 z86 z87 z88 z89 z90 z91 z92 z93 z94 z95 z96 z97 z98 z99 z100 z101 z102 z103 z104 z105 z106 z107 z108 z109 z110 z111 z112 z113 z114 z115 z116 z117 z118 z119 z120 z121 z122 z123 z124 z125 z126 z127 z128 z129 z130 z131 z132 z133 z134 z135 z136 z137 z138 z139 z140 z141 z142 z143 z144 z145 z146 z147 z148 z149 z150 z151 z152 z153 z154 z155 z156 z157 z158 z159 z160 z161 z162 z163 z164 z165 z166 z167 z168 z169 z170 z171 z172 z173 z174 z175 z176 z177 z178 z179 z180 z181 z182 z183 z184 z185 z186 z187 z188 z189 z190 z191 z192 z193 z194 z195 z196 z197 z198 z199 z200 z201 z202 z203 z204 z205 z206 z207 z208 z209 z210 z211 z212 z213 z214 z215 z216 z217 z218 z219 z220 z221 z222 z223 z224 z225 z226 z227 z228 z229 z230 z231 z232 z233 z234 z235 z236 z237 z238 z239 z240 z241 z242 z243 z244 z245 z246 z247 z248 z249 z250 z251 z252 z253 z254 z255 z256 z257 z258 z259 z260 z261 z262 z263 z264 z265 z266 z267 z268 z269 z270 z271 z272 z273 z274 z275 z276 z277 z278 z279 z280 z281 z282 z283 z284 z285 z286 z287 z288 z289 z290 z291 z292 z293 z294 z295 z296 z297 z298 z299 z300 z301 z302 z303 z304 z305 z306 z307 z308 z309 z310 : Value) (wx : World) (t2 : Nat → Option RT) (v2 : RT → Value) (L2 : List Lt), Pool wx t2 (RD n b5 P (stepM n S ⟨kd, wh, ms⟩) L2 (cdk ++ [codeM n S ⟨kd, wh, ms⟩]) [] 0 v2) → PStep wb t wx t2 → z7 = v2 .post → SimL n (stepM n S ⟨kd, wh, ms⟩) L2 → L2.length ≤ ln + 6 → Q .normal ⟨#[.int .i64 (n : Int), c1, undef, undef, c4, .pointer (some ⟨b5, 0, none⟩), .slice (some ⟨P, 0, none⟩) n n, z7, u8, z9, z10, z11, z12, undef, z14, z15, z16, z17, undef, undef, undef, c21, c22, c23, .slice (some ⟨sb, so, none⟩) pl pc, c25, .int .i64 (k : Int), u27, z28, z29, z30, z31, z32, z33, z34, z35, z36, z37, z38, z39, z40, z41, z42, z43, z44, z45, z46, z47, z48, z49, z50, z51, z52, z53, z54, z55, z56, z57, z58, z59, z60, z61, z62, z63, z64, z65, z66, z67, z68, z69, z70, z71, z72, z73, z74, z75, z76, z77, z78, z79, z80, z81, z82, z83, z84, z85, z86, z87, z88, z89, z90, z91, z92, z93, z94, z95, z96, z97, z98, z99, z100, z101, z102, z103, z104, z105, z106, z107, z108, z109, z110, z111, z112, z113, z114, z115, z116, z117, z118, z119, z120, z121, z122, z123, z124, z125, z126, z127, z128, z129, z130, z131, z132, z133, z134, z135, z136, z137, z138, z139, z140, z141, z142, z143, z144, z145, z146, z147, z148, z149, z150, z151, z152, z153, z154, z155, z156, z157, z158, z159, z160, z161, z162, z163, z164, z165, z166, z167, z168, z169, z170, z171, z172, z173, z174, z175, z176, z177, z178, z179, z180, z181, z182, z183, z184, z185, z186, z187, z188, z189, z190, z191, z192, z193, z194, z195, z196, z197, z198, z199, z200, z201, z202, z203, z204, z205, z206, z207, z208, z209, z210, z211, z212, z213, z214, z215, z216, z217, z218, z219, z220, z221, z222, z223, z224, z225, z226, z227, z228, z229, z230, z231, z232, z233, z234, z235, z236, z237, z238, z239, z240, z241, z242, z243, z244, z245, z246, z247, z248, z249, z250, z251, z252, z253, z254, z255, z256, z257, z258, z259, z260, z261, z262, z263, z264, z265, z266, z267, z268, z269, z270, z271, z272, z273, z274, z275, z276, z277, z278, z279, z280, z281, z282, z283, z284, z285, z286, z287, z288, z289, z290, z291, z292, z293, z294, z295, z296, z297, z298, z299, z300, z301, z302, z303, z304, z305, z306, z307, z308, z309, z310, u311, undef, undef, undef, undef, undef, undef, undef, undef, undef, undef, undef, undef, undef, undef, undef, undef, undef, undef, undef, undef, undef, undef, undef, undef, undef, undef, undef, undef, undef, undef, undef, undef], []⟩ wx) :
    Code.wp Try.prog roundCode Q ⟨#[.int .i64 (n : Int), c1, undef, undef, c4, .pointer (some ⟨b5, 0, none⟩), .slice (some ⟨P, 0, none⟩) n n, .slice qa ln qc, u8, x9, u10, u11, u12, undef, u14, u15, u16, u17, undef, undef, undef, c21, c22, c23, .slice (some ⟨sb, so, none⟩) pl pc, c25, .int .i64 (k : Int), u27, u28, u29, u30, u31, u32, u33, u34, u35, u36, u37, u38, u39, u40, u41, u42, u43, u44, u45, u46, u47, u48, u49, u50, u51, u52, u53, u54, u55, u56, u57, u58, u59, u60, u61, u62, u63, u64, u65, u66, u67, u68, u69, u70, u71, u72, u73, u74, u75, u76, u77, u78, u79, u80, u81, u82, u83, u84, u85, u86, u87, u88, u89, u90, u91, u92, u93, u94, u95, u96, u97, u98, u99, u100, u101, u102, u103, u104, u105, u106, u107, u108, u109, u110, u111, u112, u113, u114, u115, u116, u117, u118, u119, u120, u121, u122, u123, u124, u125, u126, u127, u128, u129, u130, u131, u132, u133, u134, u135, u136, u137, u138, u139, u140, u141, u142, u143, u144, u145, u146, u147, u148, u149, u150, u151, u152, u153, u154, u155, u156, u157, u158, u159, u160, u161, u162, u163, u164, u165, u166, u167, u168, u169, u170, u171, u172, u173, u174, u175, u176, u177, u178, u179, u180, u181, u182, u183, u184, u185, u186, u187, u188, u189, u190, u191, u192, u193, u194, u195, u196, u197, u198, u199, u200, u201, u202, u203, u204, u205, u206, u207, u208, u209, u210, u211, u212, u213, u214, u215, u216, u217, u218, u219, u220, u221, u222, u223, u224, u225, u226, u227, u228, u229, u230, u231, u232, u233, u234, u235, u236, u237, u238, u239, u240, u241, u242, u243, u244, u245, u246, u247, u248, u249, u250, u251, u252, u253, u254, u255, u256, u257, u258, u259, u260, u261, u262, u263, u264, u265, u266, u267, u268, u269, u270, u271, u272, u273, u274, u275, u276, u277, u278, u279, u280, u281, u282, u283, u284, u285, u286, u287, u288, u289, u290, u291, u292, u293, u294, u295, u296, u297, u298, u299, u300, u301, u302, u303, u304, u305, u306, u307, u308, u309, u310, u311, undef, undef, undef, undef, undef, undef, undef, undef, undef, undef, undef, undef, undef, undef, undef, undef, undef, undef, undef, undef, undef, undef, undef, undef, undef, undef, undef, undef, undef, undef, undef, undef], []⟩ wb := by
  refine Code.wp_mono onlyN_imp ?_
  have HQ := hidMk hQ
  clear hQ
  have hkp' : (k : Int) < (pl : Int) := by omega
  have hpl' : (pl : Int) ≤ 1000 := by omega
  have HP1 := hidMk (HPb.out.alloc (.cells #[.int .i64 kd, .int .i64 wh, .int .i64 ms] 39))
  have HT1 : Hid (t wb.heap.size = none) := HPb.out.fresh _ (Nat.le_refl _)
  have HS1 : Hid (PStep wb t (wb.alloc (.cells #[.int .i64 kd, .int .i64 wh, .int .i64 ms] 39)) t) := PStep.of_still t (Stil.new wb _)
  have HL1 := hidMk (al_new wb (.cells #[.int .i64 kd, .int .i64 wh, .int .i64 ms] 39))
  have HZ1 : Hid (wb.heap.size < (wb.alloc (.cells #[.int .i64 kd, .int .i64 wh, .int .i64 ms] 39)).heap.size) := by show _ < _; simp
  conv => arg 2; whnf
  refine wp_seq_k (fun K1 hK1 => ?_)
  have HK1 := hidMk hK1
  clear hK1
  go_wp2
  refine HK1.out _ _ ?_
  clear d0 d1 d2 HK1
  generalize wb.alloc (.cells #[.int .i64 kd, .int .i64 wh, .int .i64 ms] 39) = w1 at *
  generalize wb.heap.size = bb at *
  refine wp_seq_k (fun K2 hK2 => ?_)
  have HK2 := hidMk hK2
  clear hK2
  go_wp2
  refine HK2.out _ _ ?_
  refine wp_seq_k (fun K3 hK3 => ?_)
  have HK3 := hidMk hK3
  clear hK3
  refine move_walk h0 h6 hI hnm hwl6 hwy hin HSim hln hll hfp HP1 (by rw [cell_of_row w1 _ _ _ _ _ HL1.out]; rfl) (by rw [cell_of_row w1 _ _ _ _ _ HL1.out]; rfl) (by rw [cell_of_row w1 _ _ _ _ _ HL1.out]; rfl) HT1.out HZ1.out ?_
  intro z7 z10 z11 z12 z14 z15 z16 z17 z30 z31 z32 z33 z34 z35 z36 z37 z38 z39 z40 z41 z42 z43 z44 z45 z46 z47 z48 z49 z50 z51 z52 z53 z54 z55 z56 z57 z58 z59 z60 z61 z62 z63 z64 z65 z66 z67 z68 z69 z70 z71 z72 z73 z74 z75 z76 z77 z78 z79 z80 z81 z82 z83 z84 z85 z86 z87 z88 z89 z90 z91 z92 z93 z94 z95 z96 z97 z98 z99 z100 z101 z102 z103 z104 z105 z106 z107 z108 z109 z110 z111 z112 z113 z114 z115 z116 z117 z118 z119 z120 z121 z122 z123 z124 z125 z126 z127 z128 z129 z130 z131 z132 z133 z134 z135 z136 z137 z138 z139 z140 z141 z142 z143 z144 z145 z146 z147 z148 z149 z150 z151 z152 z153 z154 z155 z156 z157 z158 z159 z160 z161 z162 z163 z164 z165 z166 z167 z168 z169 z170 z171 z172 z173 z174 z175 z176 z177 z178 z179 z180 z181 z182 z183 z184 z185 z186 z187 z188 z189 z190 z191 z192 z193 z194 z195 z196 z197 z198 z199 z200 z201 z202 z203 z204 z205 z206 z207 z208 z209 z210 z211 z212 z213 z214 z215 z216 z217 z218 z219 z220 z221 z222 z223 z224 z225 z226 z227 z228 z229 z230 z231 z232 z233 z234 z235 z236 z237 z238 z239 z240 z241 z242 z243 z244 z245 z246 z247 z248 z249 z250 z251 z252 z253 z254 z255 z256 z257 z258 z259 z260 z261 z262 z263 z264 z265 z266 z267 z268 z269 z270 z271 z272 z273 z274 z275 z276 z277 z278 z279 z280 z281 z282 z283 z284 z285 z286 z287 z288 z289 z290 z291 z292 z293 z294 z295 z296 z297 z298 z299 z300 z301 z302 z303 z304 wx t2 v2 L2 P2 S2 e7 M2 l2 e10
  refine HK3.out _ _ ?_
  subst e10
  have HP2 := hidMk P2
  have HS2 := hidMk (HS1.out.trans S2)
  have HM2 := hidMk M2
  obtain ⟨o0, o1, o2, o3, o4, of⟩ := rd_out P2
  have hsi : Seg wx (fun g => t2 g = some .cd) 27 1 (v2 .cd) cdk.length (intsV cdk) := P2.seg .cd _ rfl
  obtain ⟨va, vc, hvi⟩ := segForm hsi
  rw [hvi] at o1 hsi
  have HSi := hidMk hsi
  have HVi := hidMk hvi
  obtain ⟨i0, hi, hz0, hz1, hz2⟩ := info_parts cInfoErr
  clear P2 S2 M2 hsi hvi o2 o3 o4 of o0
  have of0 : wx.frozen? ⟨b5, 0, none⟩ = wx.frozen? ⟨b5, 0, none⟩ := rfl
  clear of0
  generalize hcd : codeM n S ⟨kd, wh, ms⟩ = cd at *
  generalize hil : cdk.length = il at *
  have HIl := hidMk hil
  have HCd := hidMk hcd
  clear hil hcd HK2 HK3 HP1 HS1 HL1 HZ1
  go_wp2_with (at_builtin; refine wpList_append_seg _ rfl _ _ 23 rfl 27 i0 (.int .i64 0) 1 8 Try.underlying23 hi hz0 hz1 hz2 rfl (by decide) (.slice va il vc) il (intsV cdk) rfl (segAlloc HSi.out _) ⟨wx.heap.size, 0, none⟩ 1 1 [.int .i64 cd] rfl rfl (cCell1 _ _ _ _ rfl) (cOne _) (by unfold maxLen; omega) (by omega) ?_)
  intro v3 w3 hs3 hg3
  obtain ⟨g1, g2, HM⟩ := rd_code HP2.out (e := cd) (Stil.new _ (.cells #[.int .i64 cd] 27)) (by rw [HVi.out]; show Seg _ _ _ 1 _ (cdk.length + 1) (intsV cdk ++ _); rw [HIl.out]; exact hs3.mono (fun g _ e => by simpa using e)) (by rw [HVi.out]; exact hg3)
  rw [HVi.out] at g1
  have HM5 := hidMk HM
  obtain ⟨a3, c3, rfl⟩ := segForm hs3
  clear hs3 hg3 HM
  go_wp2
  obtain ⟨t3, P3, S3⟩ := HM5.out
  exact HQ.out _ _ _ _ _ _ _ _ _ _ _ _ _ _ _ _ _ _ _ _ _ _ _ _ _ _ _ _ _ _ _ _ _ _ _ _ _ _ _ _ _ _ _ _ _ _ _ _ _ _ _ _ _ _ _ _ _ _ _ _ _ _ _ _ _ _ _ _ _ _ _ _ _ _ _ _ _ _ _ _ _ _ _ _ _ _ _ _ _ _ _ _ _ _ _ _ _ _ _ _ _ _ _ _ _ _ _ _ _ _ _ _ _ _ _ _ _ _ _ _ _ _ _ _ _ _ _ _ _ _ _ _ _ _ _ _ _ _ _ _ _ _ _ _ _ _ _ _ _ _ _ _ _ _ _ _ _ _ _ _ _ _ _ _ _ _ _ _ _ _ _ _ _ _ _ _ _ _ _ _ _ _ _ _ _ _ _ _ _ _ _ _ _ _ _ _ _ _ _ _ _ _ _ _ _ _ _ _ _ _ _ _ _ _ _ _ _ _ _ _ _ _ _ _ _ _ _ _ _ _ _ _ _ _ _ _ _ _ _ _ _ _ _ _ _ _ _ _ _ _ _ _ _ _ _ _ _ _ _ _ _ _ _ _ _ _ _ _ _ _ _ _ _ _ _ _ _ _ _ _ _ _ _ _ _ _ _ _ _ _ _ _ _ t3 _ L2 P3 (HS2.out.trans S3) (by first | (rw [updV_other _ _ (by simp)]) | (rw [e7, updV_other _ _ (by simp)])) HM2.out l2
end Go.Proofs.Ytaojmbebkggafaa
