/- The document's Mutex, in pieces: a key taken. -/
import Derived.Test.YtaojmbebkggafaaMr7
namespace Go.Proofs.Ytaojmbebkggafaa
open Go.RowKit
set_option linter.unusedVariables false

noncomputable def keyCode2 : Code := (branchOf 217 false body9).getD .skip
def ansM (S : MS) (w x j : Nat) : MS := if holdB (S.pr w) x j = true then prM S w { S.pr w with wait := (S.pr w).wait ++ [j] } else putM S w j 0
theorem prM_id (S : MS) (w : Nat) : prM S w (S.pr w) = S := by
  unfold prM
  have e : upd1 S.pr w (S.pr w) = S.pr := by
    funext k
    by_cases h : k = w
    · subst h; rw [upd1_same]
    · rw [upd1_other _ _ h]
  rw [e]
theorem answer_ans (S : MS) (w x j : Nat) : answerM S w x j = ansM (numS S w x) w x j := by
  have e : holdB ((numS S w x).pr w) x j = holdB (S.pr w) x j := by unfold numS; rw [prM_prR]; rfl
  unfold answerM ansM
  rw [e]
  by_cases h : holdB (S.pr w) x j = true
  · rw [if_pos h, if_pos h]
    unfold numS
    rw [prM_prM, prM_prR]
  · rw [if_neg h, if_neg h]
set_option maxRecDepth 1000000 in
set_option maxHeartbeats 16000000 in
theorem hold_walk {Q : Exit → Act → World → Prop} {wb : World} {n b5 P bb w j x ln qc : Nat} {qa : Option Addr} {S : MS} {L : List Lt} {cdk : List Int} {t : Nat → Option RT} {v : RT → Value} {x10 c1 c4 c21 c22 c23 c24 c25 c26 : Value} {u8 u12 u14 u15 u16 u27 u28 u29 u30 u31 u32 u33 u34 u35 u36 u37 u38 u39 u40 u41 u42 u43 u44 u45 u46 u47 u48 u49 u50 u51 u52 u53 u54 u55 u56 u57 u58 u59 u60 u61 u62 u63 u64 u65 u66 u67 u68 u69 u70 u71 u72 u73 u74 u75 u76 u77 u78 u79 u80 u81 u82 u83 u84 u85 u86 u87 u88 u89 u90 u91 u92 u93 u94 u95 u96 u97 u98 u99 u100 u101 u102 u103 u104 u105 u106 u107 u108 u109 u110 u111 u112 u113 u114 u115 u116 u117 u118 u119 u120 u121 u122 u123 u124 u125 u126 u127 u128 u129 u130 u131 u132 u133 u134 u135 u136 u137 u138 u139 u140 u141 u142 u143 u144 u145 u146 u147 u148 u149 u150 u151 u152 u153 u154 u155 u156 u157 u158 u159 u160 u161 u162 u163 u164 u165 u166 u167 u168 u169 u170 u171 u172 u173 u174 u175 u176 u177 u178 u179 u180 u181 u182 u183 u184 u185 u186 u187 u188 u189 u190 u191 u192 u193 u194 u195 u196 u197 u198 u199 u200 u201 u202 u203 u204 u205 u206 u207 u208 u209 u210 u211 u212 u213 u214 u215 u216 u217 u218 u219 u220 u221 u222 u223 u224 u225 u226 u227 u228 u229 u230 u231 u232 u233 u234 u235 u236 u237 u238 u239 u240 u241 u242 u243 u244 u245 u246 u247 u248 u249 u250 u251 u252 u253 u254 u255 u256 u257 u258 u259 u260 u261 u262 u263 u264 u265 u266 u267 u268 u269 u270 u271 u272 u273 u274 u275 u276 u277 u278 u279 u280 u281 u282 u283 u284 u285 u286 u287 u288 u289 u290 u291 u292 u293 u294 u295 u296 u297 u298 u299 u300 u301 u302 u303 u304 u305 u306 u307 u308 u309 u310 u311 : Value}
    (h0 : 0 < n) (h6 : n ≤ 6) (hw : w < n) (hj : j < n) (hst : (S.pr w).st ≤ 2) (hkp : (S.pr w).st = 1 → (S.pr w).kp = w) (hwl : (S.pr w).wait.length ≤ 1000) (HSim : Hid (SimL n S L)) (hln : ln ≤ 20000) (hll : L.length = ln) (hfp : v .post = .slice qa ln qc) (HPb : Hid (Pool wb t (RD n b5 P S L cdk [] 0 v))) (b1 : wb.cell? ⟨bb, 1, none⟩ = some (.int .i64 (w : Int))) (b2 : wb.cell? ⟨bb, 2, none⟩ = some (.int .i64 (j : Int))) (htb : t bb = none)
    (hQ : ∀ (z7 z236 z237 z238 z239 z240 z241 z242 z243 z244 z245 z246 z247 z248 z249 z250 z251 z252 z253 z254 z255 z256 z257 z258 z259 z260 z261 z262 z263 z264 z265 z266 z267 z268 z269 z270 z271 z272 z273 z274 z275 z276 z277 z278 z279 z280 : Value) (wx : World) (t2 : Nat → Option RT) (v2 : RT → Value) (L2 : List Lt), Pool wx t2 (RD n b5 P (ansM S w x j) L2 cdk [] 0 v2) → PStep wb t wx t2 → z7 = v2 .post → SimL n (ansM S w x j) L2 → L2.length ≤ ln + 1 → Q .normal ⟨#[.int .i64 (n : Int), c1, undef, undef, c4, .pointer (some ⟨b5, 0, none⟩), .slice (some ⟨P, 0, none⟩) n n, z7, u8, .pointer (some ⟨bb, 0, none⟩), x10, .pointer (some ⟨P, w * 5, none⟩), u12, undef, u14, u15, u16, .int .i64 (x : Int), undef, undef, undef, c21, c22, c23, c24, c25, c26, u27, u28, u29, u30, u31, u32, u33, u34, u35, u36, u37, u38, u39, u40, u41, u42, u43, u44, u45, u46, u47, u48, u49, u50, u51, u52, u53, u54, u55, u56, u57, u58, u59, u60, u61, u62, u63, u64, u65, u66, u67, u68, u69, u70, u71, u72, u73, u74, u75, u76, u77, u78, u79, u80, u81, u82, u83, u84, u85, u86, u87, u88, u89, u90, u91, u92, u93, u94, u95, u96, u97, u98, u99, u100, u101, u102, u103, u104, u105, u106, u107, u108, u109, u110, u111, u112, u113, u114, u115, u116, u117, u118, u119, u120, u121, u122, u123, u124, u125, u126, u127, u128, u129, u130, u131, u132, u133, u134, u135, u136, u137, u138, u139, u140, u141, u142, u143, u144, u145, u146, u147, u148, u149, u150, u151, u152, u153, u154, u155, u156, u157, u158, u159, u160, u161, u162, u163, u164, u165, u166, u167, u168, u169, u170, u171, u172, u173, u174, u175, u176, u177, u178, u179, u180, u181, u182, u183, u184, u185, u186, u187, u188, u189, u190, u191, u192, u193, u194, u195, u196, u197, u198, u199, u200, u201, u202, u203, u204, u205, u206, u207, u208, u209, u210, u211, u212, u213, u214, u215, u216, u217, u218, u219, u220, u221, u222, u223, u224, u225, u226, u227, u228, u229, u230, u231, u232, u233, u234, u235, z236, z237, z238, z239, z240, z241, z242, z243, z244, z245, z246, z247, z248, z249, z250, z251, z252, z253, z254, z255, z256, z257, z258, z259, z260, z261, z262, z263, z264, z265, z266, z267, z268, z269, z270, z271, z272, z273, z274, z275, z276, z277, z278, z279, z280, u281, u282, u283, u284, u285, u286, u287, u288, u289, u290, u291, u292, u293, u294, u295, u296, u297, u298, u299, u300, u301, u302, u303, u304, u305, u306, u307, u308, u309, u310, u311, undef, undef, undef, undef, undef, undef, undef, undef, undef, undef, undef, undef, undef, undef, undef, undef, undef, undef, undef, undef, undef, undef, undef, undef, undef, undef, undef, undef, undef, undef, undef, undef], []⟩ wx) :
    Code.wp Try.prog holdCode Q ⟨#[.int .i64 (n : Int), c1, undef, undef, c4, .pointer (some ⟨b5, 0, none⟩), .slice (some ⟨P, 0, none⟩) n n, .slice qa ln qc, u8, .pointer (some ⟨bb, 0, none⟩), x10, .pointer (some ⟨P, w * 5, none⟩), u12, undef, u14, u15, u16, .int .i64 (x : Int), undef, undef, undef, c21, c22, c23, c24, c25, c26, u27, u28, u29, u30, u31, u32, u33, u34, u35, u36, u37, u38, u39, u40, u41, u42, u43, u44, u45, u46, u47, u48, u49, u50, u51, u52, u53, u54, u55, u56, u57, u58, u59, u60, u61, u62, u63, u64, u65, u66, u67, u68, u69, u70, u71, u72, u73, u74, u75, u76, u77, u78, u79, u80, u81, u82, u83, u84, u85, u86, u87, u88, u89, u90, u91, u92, u93, u94, u95, u96, u97, u98, u99, u100, u101, u102, u103, u104, u105, u106, u107, u108, u109, u110, u111, u112, u113, u114, u115, u116, u117, u118, u119, u120, u121, u122, u123, u124, u125, u126, u127, u128, u129, u130, u131, u132, u133, u134, u135, u136, u137, u138, u139, u140, u141, u142, u143, u144, u145, u146, u147, u148, u149, u150, u151, u152, u153, u154, u155, u156, u157, u158, u159, u160, u161, u162, u163, u164, u165, u166, u167, u168, u169, u170, u171, u172, u173, u174, u175, u176, u177, u178, u179, u180, u181, u182, u183, u184, u185, u186, u187, u188, u189, u190, u191, u192, u193, u194, u195, u196, u197, u198, u199, u200, u201, u202, u203, u204, u205, u206, u207, u208, u209, u210, u211, u212, u213, u214, u215, u216, u217, u218, u219, u220, u221, u222, u223, u224, u225, u226, u227, u228, u229, u230, u231, u232, u233, u234, u235, u236, u237, u238, u239, u240, u241, u242, u243, u244, u245, u246, u247, u248, u249, u250, u251, u252, u253, u254, u255, u256, u257, u258, u259, u260, u261, u262, u263, u264, u265, u266, u267, u268, u269, u270, u271, u272, u273, u274, u275, u276, u277, u278, u279, u280, u281, u282, u283, u284, u285, u286, u287, u288, u289, u290, u291, u292, u293, u294, u295, u296, u297, u298, u299, u300, u301, u302, u303, u304, u305, u306, u307, u308, u309, u310, u311, undef, undef, undef, undef, undef, undef, undef, undef, undef, undef, undef, undef, undef, undef, undef, undef, undef, undef, undef, undef, undef, undef, undef, undef, undef, undef, undef, undef, undef, undef, undef, undef], []⟩ wb := by
  have HQ := hidMk hQ
  clear hQ
  obtain ⟨p0, p1, p2, p3, p4, pf⟩ := rd_proc HPb.out hw
  conv => arg 2; whnf
  refine wp_seq_k (fun K hK => ?_)
  have HB : ∀ hb, holdB (S.pr w) x j = hb → ∀ (z236 z237 z238 z239 z240 z241 z242 z243 z244 z245 z246 z247 z248 z249 z250 z251 z252 z253 z254 z255 z256 z257 z258 z259 z260 : Value) (wx : World), Stil wb wx → K ⟨#[.int .i64 (n : Int), c1, undef, undef, c4, .pointer (some ⟨b5, 0, none⟩), .slice (some ⟨P, 0, none⟩) n n, .slice qa ln qc, u8, .pointer (some ⟨bb, 0, none⟩), x10, .pointer (some ⟨P, w * 5, none⟩), u12, undef, u14, u15, u16, .int .i64 (x : Int), undef, undef, undef, c21, c22, c23, c24, c25, c26, u27, u28, u29, u30, u31, u32, u33, u34, u35, u36, u37, u38, u39, u40, u41, u42, u43, u44, u45, u46, u47, u48, u49, u50, u51, u52, u53, u54, u55, u56, u57, u58, u59, u60, u61, u62, u63, u64, u65, u66, u67, u68, u69, u70, u71, u72, u73, u74, u75, u76, u77, u78, u79, u80, u81, u82, u83, u84, u85, u86, u87, u88, u89, u90, u91, u92, u93, u94, u95, u96, u97, u98, u99, u100, u101, u102, u103, u104, u105, u106, u107, u108, u109, u110, u111, u112, u113, u114, u115, u116, u117, u118, u119, u120, u121, u122, u123, u124, u125, u126, u127, u128, u129, u130, u131, u132, u133, u134, u135, u136, u137, u138, u139, u140, u141, u142, u143, u144, u145, u146, u147, u148, u149, u150, u151, u152, u153, u154, u155, u156, u157, u158, u159, u160, u161, u162, u163, u164, u165, u166, u167, u168, u169, u170, u171, u172, u173, u174, u175, u176, u177, u178, u179, u180, u181, u182, u183, u184, u185, u186, u187, u188, u189, u190, u191, u192, u193, u194, u195, u196, u197, u198, u199, u200, u201, u202, u203, u204, u205, u206, u207, u208, u209, u210, u211, u212, u213, u214, u215, u216, u217, u218, u219, u220, u221, u222, u223, u224, u225, u226, u227, u228, u229, u230, u231, u232, u233, u234, u235, z236, z237, z238, z239, z240, z241, z242, z243, z244, z245, z246, z247, z248, z249, z250, z251, z252, z253, z254, z255, z256, z257, z258, z259, z260, .bool hb, u262, u263, u264, u265, u266, u267, u268, u269, u270, u271, u272, u273, u274, u275, u276, u277, u278, u279, u280, u281, u282, u283, u284, u285, u286, u287, u288, u289, u290, u291, u292, u293, u294, u295, u296, u297, u298, u299, u300, u301, u302, u303, u304, u305, u306, u307, u308, u309, u310, u311, undef, undef, undef, undef, undef, undef, undef, undef, undef, undef, undef, undef, undef, undef, undef, undef, undef, undef, undef, undef, undef, undef, undef, undef, undef, undef, undef, undef, undef, undef, undef, undef], []⟩ wx := by
    intro hb eb z236 z237 z238 z239 z240 z241 z242 z243 z244 z245 z246 z247 z248 z249 z250 z251 z252 z253 z254 z255 z256 z257 z258 z259 z260 wx hwx
    have HPx := hidMk (HPb.out.still hwx)
    have HSx := hidMk (PStep.of_still t hwx)
    have b1x := hwx.cell b1
    have b2x := hwx.cell b2
    refine hK _ _ ?_
    cases hb with
    | false =>
      have ea : ansM S w x j = putM S w j 0 := by unfold ansM; rw [if_neg (by rw [eb]; simp)]
      refine wp_cond_false rfl ?_
      refine nay_walk h0 h6 hw hj HSim hln hll hfp HPx b1x b2x htb ?_
      intro z7 z273 z274 z275 z276 z277 z278 z279 z280 wy t2 v2 P2 S2 e2 M2
      exact HQ.out _ _ _ _ _ _ _ _ _ _ _ _ _ _ _ _ _ _ _ _ _ _ _ _ _ _ _ _ _ _ _ _ _ _ _ _ _ _ _ _ _ _ _ _ _ _ _ t2 v2 _ (by rw [ea]; exact P2) (HSx.out.trans S2) e2 (by rw [ea]; exact M2) (by rw [List.length_append, List.length_singleton, hll]; exact Nat.le_refl _)
    | true =>
      have ea : ansM S w x j = prM S w { S.pr w with wait := (S.pr w).wait ++ [j] } := by unfold ansM; rw [if_pos eb]
      refine wp_cond_true rfl ?_
      refine wait_walk h0 h6 hw hj hwl HPx b1x b2x htb ?_
      intro z262 z263 z264 z265 z266 z267 z268 z269 z270 z271 z272 wy t2 v2 P2 S2 e2
      exact HQ.out _ _ _ _ _ _ _ _ _ _ _ _ _ _ _ _ _ _ _ _ _ _ _ _ _ _ _ _ _ _ _ _ _ _ _ _ _ _ _ _ _ _ _ _ _ _ _ t2 v2 L (by rw [ea]; exact P2) (HSx.out.trans S2) (by rw [e2, hfp]) (by rw [ea]; exact sim_pr HSim.out _ _) (by omega)
  obtain e | e | e : (S.pr w).st = 0 ∨ (S.pr w).st = 1 ∨ (S.pr w).st = 2 := by omega
  · rw [e] at p1
    exact reg47_out (Q := Exit.then K Q) p1 p2 b1 b2 (HB false (by unfold holdB; rw [e]; simp))
  · rw [e] at p1
    cases hlt : mlt (S.pr w).kn w x j with
    | true => exact reg47_yes (Q := Exit.then K Q) p1 p2 b1 b2 hlt (HB true (by unfold holdB; rw [hkp e, e, hlt]; simp))
    | false => exact reg47_no (Q := Exit.then K Q) p1 p2 b1 b2 hlt (HB false (by unfold holdB; rw [hkp e, e, hlt]; simp))
  · rw [e] at p1
    exact reg47_in (Q := Exit.then K Q) p1 p2 b1 b2 (HB true (by unfold holdB; rw [e]; simp))
set_option maxRecDepth 1000000 in
set_option maxHeartbeats 16000000 in
theorem key_walk {Q : Exit → Act → World → Prop} {wb : World} {n b5 P bb w j x ln qc : Nat} {qa : Option Addr} {S : MS} {L : List Lt} {cdk : List Int} {t : Nat → Option RT} {v : RT → Value} {x10 c1 c4 c21 c22 c23 c24 c25 c26 : Value} {u8 u12 u14 u15 u16 u27 u28 u29 u30 u31 u32 u33 u34 u35 u36 u37 u38 u39 u40 u41 u42 u43 u44 u45 u46 u47 u48 u49 u50 u51 u52 u53 u54 u55 u56 u57 u58 u59 u60 u61 u62 u63 u64 u65 u66 u67 u68 u69 u70 u71 u72 u73 u74 u75 u76 u77 u78 u79 u80 u81 u82 u83 u84 u85 u86 u87 u88 u89 u90 u91 u92 u93 u94 u95 u96 u97 u98 u99 u100 u101 u102 u103 u104 u105 u106 u107 u108 u109 u110 u111 u112 u113 u114 u115 u116 u117 u118 u119 u120 u121 u122 u123 u124 u125 u126 u127 u128 u129 u130 u131 u132 u133 u134 u135 u136 u137 u138 u139 u140 u141 u142 u143 u144 u145 u146 u147 u148 u149 u150 u151 u152 u153 u154 u155 u156 u157 u158 u159 u160 u161 u162 u163 u164 u165 u166 u167 u168 u169 u170 u171 u172 u173 u174 u175 u176 u177 u178 u179 u180 u181 u182 u183 u184 u185 u186 u187 u188 u189 u190 u191 u192 u193 u194 u195 u196 u197 u198 u199 u200 u201 u202 u203 u204 u205 u206 u207 u208 u209 u210 u211 u212 u213 u214 u215 u216 u217 u218 u219 u220 u221 u222 u223 u224 u225 u226 u227 u228 u229 u230 u231 u232 u233 u234 u235 u236 u237 u238 u239 u240 u241 u242 u243 u244 u245 u246 u247 u248 u249 u250 u251 u252 u253 u254 u255 u256 u257 u258 u259 u260 u261 u262 u263 u264 u265 u266 u267 u268 u269 u270 u271 u272 u273 u274 u275 u276 u277 u278 u279 u280 u281 u282 u283 u284 u285 u286 u287 u288 u289 u290 u291 u292 u293 u294 u295 u296 u297 u298 u299 u300 u301 u302 u303 u304 u305 u306 u307 u308 u309 u310 u311 : Value}
    (h0 : 0 < n) (h6 : n ≤ 6) (hw : w < n) (hj : j < n) (hx : x ≤ 100000) (hnum : (S.pr w).num ≤ 100000) (hst : (S.pr w).st ≤ 2) (hkp : (S.pr w).st = 1 → (S.pr w).kp = w) (hwl : (S.pr w).wait.length ≤ 1000) (HSim : Hid (SimL n S L)) (hln : ln ≤ 20000) (hll : L.length = ln) (hfp : v .post = .slice qa ln qc) (HPb : Hid (Pool wb t (RD n b5 P S L cdk [] 0 v))) (b1 : wb.cell? ⟨bb, 1, none⟩ = some (.int .i64 (w : Int))) (b2 : wb.cell? ⟨bb, 2, none⟩ = some (.int .i64 (j : Int))) (htb : t bb = none)
    (hQ : ∀ (z7 z226 z227 z228 z229 z230 z231 z232 z233 z234 z235 z236 z237 z238 z239 z240 z241 z242 z243 z244 z245 z246 z247 z248 z249 z250 z251 z252 z253 z254 z255 z256 z257 z258 z259 z260 z261 z262 z263 z264 z265 z266 z267 z268 z269 z270 z271 z272 z273 z274 z275 z276 z277 z278 z279 z280 : Value) (wx : World) (t2 : Nat → Option RT) (v2 : RT → Value) (L2 : List Lt), Pool wx t2 (RD n b5 P (answerM S w x j) L2 cdk [] 0 v2) → PStep wb t wx t2 → z7 = v2 .post → SimL n (answerM S w x j) L2 → L2.length ≤ ln + 1 → Q .normal ⟨#[.int .i64 (n : Int), c1, undef, undef, c4, .pointer (some ⟨b5, 0, none⟩), .slice (some ⟨P, 0, none⟩) n n, z7, u8, .pointer (some ⟨bb, 0, none⟩), x10, .pointer (some ⟨P, w * 5, none⟩), u12, undef, u14, u15, u16, .int .i64 (x : Int), undef, undef, undef, c21, c22, c23, c24, c25, c26, u27, u28, u29, u30, u31, u32, u33, u34, u35, u36, u37, u38, u39, u40, u41, u42, u43, u44, u45, u46, u47, u48, u49, u50, u51, u52, u53, u54, u55, u56, u57, u58, u59, u60, u61, u62, u63, u64, u65, u66, u67, u68, u69, u70, u71, u72, u73, u74, u75, u76, u77, u78, u79, u80, u81, u82, u83, u84, u85, u86, u87, u88, u89, u90, u91, u92, u93, u94, u95, u96, u97, u98, u99, u100, u101, u102, u103, u104, u105, u106, u107, u108, u109, u110, u111, u112, u113, u114, u115, u116, u117, u118, u119, u120, u121, u122, u123, u124, u125, u126, u127, u128, u129, u130, u131, u132, u133, u134, u135, u136, u137, u138, u139, u140, u141, u142, u143, u144, u145, u146, u147, u148, u149, u150, u151, u152, u153, u154, u155, u156, u157, u158, u159, u160, u161, u162, u163, u164, u165, u166, u167, u168, u169, u170, u171, u172, u173, u174, u175, u176, u177, u178, u179, u180, u181, u182, u183, u184, u185, u186, u187, u188, u189, u190, u191, u192, u193, u194, u195, u196, u197, u198, u199, u200, u201, u202, u203, u204, u205, u206, u207, u208, u209, u210, u211, u212, u213, u214, u215, u216, u217, u218, u219, u220, u221, u222, u223, u224, u225, z226, z227, z228, z229, z230, z231, z232, z233, z234, z235, z236, z237, z238, z239, z240, z241, z242, z243, z244, z245, z246, z247, z248, z249, z250, z251, z252, z253, z254, z255, z256, z257, z258, z259, z260, z261, z262, z263, z264, z265, z266, z267, z268, z269, z270, z271, z272, z273, z274, z275, z276, z277, z278, z279, z280, u281, u282, u283, u284, u285, u286, u287, u288, u289, u290, u291, u292, u293, u294, u295, u296, u297, u298, u299, u300, u301, u302, u303, u304, u305, u306, u307, u308, u309, u310, u311, undef, undef, undef, undef, undef, undef, undef, undef, undef, undef, undef, undef, undef, undef, undef, undef, undef, undef, undef, undef, undef, undef, undef, undef, undef, undef, undef, undef, undef, undef, undef, undef], []⟩ wx) :
    Code.wp Try.prog keyCode2 Q ⟨#[.int .i64 (n : Int), c1, undef, undef, c4, .pointer (some ⟨b5, 0, none⟩), .slice (some ⟨P, 0, none⟩) n n, .slice qa ln qc, u8, .pointer (some ⟨bb, 0, none⟩), x10, .pointer (some ⟨P, w * 5, none⟩), u12, undef, u14, u15, u16, .int .i64 (x : Int), undef, undef, undef, c21, c22, c23, c24, c25, c26, u27, u28, u29, u30, u31, u32, u33, u34, u35, u36, u37, u38, u39, u40, u41, u42, u43, u44, u45, u46, u47, u48, u49, u50, u51, u52, u53, u54, u55, u56, u57, u58, u59, u60, u61, u62, u63, u64, u65, u66, u67, u68, u69, u70, u71, u72, u73, u74, u75, u76, u77, u78, u79, u80, u81, u82, u83, u84, u85, u86, u87, u88, u89, u90, u91, u92, u93, u94, u95, u96, u97, u98, u99, u100, u101, u102, u103, u104, u105, u106, u107, u108, u109, u110, u111, u112, u113, u114, u115, u116, u117, u118, u119, u120, u121, u122, u123, u124, u125, u126, u127, u128, u129, u130, u131, u132, u133, u134, u135, u136, u137, u138, u139, u140, u141, u142, u143, u144, u145, u146, u147, u148, u149, u150, u151, u152, u153, u154, u155, u156, u157, u158, u159, u160, u161, u162, u163, u164, u165, u166, u167, u168, u169, u170, u171, u172, u173, u174, u175, u176, u177, u178, u179, u180, u181, u182, u183, u184, u185, u186, u187, u188, u189, u190, u191, u192, u193, u194, u195, u196, u197, u198, u199, u200, u201, u202, u203, u204, u205, u206, u207, u208, u209, u210, u211, u212, u213, u214, u215, u216, u217, u218, u219, u220, u221, u222, u223, u224, u225, u226, u227, u228, u229, u230, u231, u232, u233, u234, u235, u236, u237, u238, u239, u240, u241, u242, u243, u244, u245, u246, u247, u248, u249, u250, u251, u252, u253, u254, u255, u256, u257, u258, u259, u260, u261, u262, u263, u264, u265, u266, u267, u268, u269, u270, u271, u272, u273, u274, u275, u276, u277, u278, u279, u280, u281, u282, u283, u284, u285, u286, u287, u288, u289, u290, u291, u292, u293, u294, u295, u296, u297, u298, u299, u300, u301, u302, u303, u304, u305, u306, u307, u308, u309, u310, u311, undef, undef, undef, undef, undef, undef, undef, undef, undef, undef, undef, undef, undef, undef, undef, undef, undef, undef, undef, undef, undef, undef, undef, undef, undef, undef, undef, undef, undef, undef, undef, undef], []⟩ wb := by
  refine Code.wp_mono onlyN_imp ?_
  have HQ := hidMk hQ
  clear hQ
  obtain ⟨p0, p1, p2, p3, p4, pf⟩ := rd_proc HPb.out hw
  have f0 := pf (w * 5)
  have b1' := hidMk b1
  have b2' := hidMk b2
  have HE := answer_ans S w x j
  conv => arg 2; whnf
  by_cases hv : (S.pr w).num < x
  · have e1 : numS S w x = prM S w { S.pr w with num := x } := by unfold numS; rw [Nat.max_eq_right (by omega)]
    obtain ⟨P1, S1⟩ := rd_num HPb.out hw x
    rw [← e1] at P1
    have HP1 := hidMk P1
    have HS1 := hidMk S1
    have hv' : (((S.pr w).num : Nat) : Int) < (x : Int) := by omega
    have hv2 : decide ((((S.pr w).num : Nat) : Int) < (x : Int)) = true := decide_eq_true hv'
    clear p1 p2 p3 p4 pf b1 b2 P1 S1
    refine wp_seq_k (fun K1 hK1 => ?_)
    have HK1 := hidMk hK1
    clear hK1
    go_wp2
    refine HK1.out _ _ ?_
    refine hold_walk h0 h6 hw hj ?_ ?_ ?_ (hidMk (sim_pr HSim.out _ _)) hln hll hfp HP1 (HS1.out.cell htb b1'.out) (HS1.out.cell htb b2'.out) htb ?_
    · rw [prM_prR]; exact hst
    · rw [prM_prR]; exact hkp
    · rw [prM_prR]; exact hwl
    · intro z7 z236 z237 z238 z239 z240 z241 z242 z243 z244 z245 z246 z247 z248 z249 z250 z251 z252 z253 z254 z255 z256 z257 z258 z259 z260 z261 z262 z263 z264 z265 z266 z267 z268 z269 z270 z271 z272 z273 z274 z275 z276 z277 z278 z279 z280 wx t2 v2 L2 P2 S2 e2 M2 l2
      exact HQ.out _ _ _ _ _ _ _ _ _ _ _ _ _ _ _ _ _ _ _ _ _ _ _ _ _ _ _ _ _ _ _ _ _ _ _ _ _ _ _ _ _ _ _ _ _ _ _ _ _ _ _ _ _ _ _ _ _ t2 v2 L2 (by rw [HE]; exact P2) (HS1.out.trans S2) e2 (by rw [HE]; exact M2) l2
  · have e1 : numS S w x = S := by unfold numS; rw [Nat.max_eq_left (by omega)]; exact prM_id S w
    have hv' : ¬ ((((S.pr w).num : Nat) : Int) < (x : Int)) := by omega
    have hv2 : decide ((((S.pr w).num : Nat) : Int) < (x : Int)) = false := decide_eq_false hv'
    rw [e1] at HE
    clear p1 p2 p3 p4 pf b1 b2
    refine wp_seq_k (fun K1 hK1 => ?_)
    have HK1 := hidMk hK1
    clear hK1
    go_wp2
    refine HK1.out _ _ ?_
    refine hold_walk h0 h6 hw hj hst hkp hwl HSim hln hll hfp HPb b1'.out b2'.out htb ?_
    intro z7 z236 z237 z238 z239 z240 z241 z242 z243 z244 z245 z246 z247 z248 z249 z250 z251 z252 z253 z254 z255 z256 z257 z258 z259 z260 z261 z262 z263 z264 z265 z266 z267 z268 z269 z270 z271 z272 z273 z274 z275 z276 z277 z278 z279 z280 wx t2 v2 L2 P2 S2 e2 M2 l2
    exact HQ.out _ _ _ _ _ _ _ _ _ _ _ _ _ _ _ _ _ _ _ _ _ _ _ _ _ _ _ _ _ _ _ _ _ _ _ _ _ _ _ _ _ _ _ _ _ _ _ _ _ _ _ _ _ _ _ _ _ t2 v2 L2 (by rw [HE]; exact P2) S2 e2 (by rw [HE]; exact M2) l2
end Go.Proofs.Ytaojmbebkggafaa
