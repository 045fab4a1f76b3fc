/- The document's Mutex, in pieces: what has come. -/
import Derived.Test.YtaojmbebkggafaaMr8
namespace Go.Proofs.Ytaojmbebkggafaa
open Go.RowKit
set_option linter.unusedVariables false

/-- What a letter that has come does: its way is told already. -/
def gotM (S : MS) (w x j : Nat) : MS := if x = 0 then yesS S w else answerM S w x j
set_option maxRecDepth 1000000 in
set_option maxHeartbeats 16000000 in
theorem come_walk {Q : Exit → Act → World → Prop} {wb : World} {n b5 P bb w j ln qc q : Nat} {qa : Option Addr} {S : MS} {L : List Lt} {l : Lt} {cdk : List Int} {t : Nat → Option RT} {v : RT → Value} {x10 c1 c4 c21 c22 c23 c24 c25 c26 : Value} {u8 u12 u14 u16 u17 u27 u28 u29 u30 u31 u32 u33 u34 u35 u36 u37 u38 u39 u40 u41 u42 u43 u44 u45 u46 u47 u48 u49 u50 u51 u52 u53 u54 u55 u56 u57 u58 u59 u60 u61 u62 u63 u64 u65 u66 u67 u68 u69 u70 u71 u72 u73 u74 u75 u76 u77 u78 u79 u80 u81 u82 u83 u84 u85 u86 u87 u88 u89 u90 u91 u92 u93 u94 u95 u96 u97 u98 u99 u100 u101 u102 u103 u104 u105 u106 u107 u108 u109 u110 u111 u112 u113 u114 u115 u116 u117 u118 u119 u120 u121 u122 u123 u124 u125 u126 u127 u128 u129 u130 u131 u132 u133 u134 u135 u136 u137 u138 u139 u140 u141 u142 u143 u144 u145 u146 u147 u148 u149 u150 u151 u152 u153 u154 u155 u156 u157 u158 u159 u160 u161 u162 u163 u164 u165 u166 u167 u168 u169 u170 u171 u172 u173 u174 u175 u176 u177 u178 u179 u180 u181 u182 u183 u184 u185 u186 u187 u188 u189 u190 u191 u192 u193 u194 u195 u196 u197 u198 u199 u200 u201 u202 u203 u204 u205 u206 u207 u208 u209 u210 u211 u212 u213 u214 u215 u216 u217 u218 u219 u220 u221 u222 u223 u224 u225 u226 u227 u228 u229 u230 u231 u232 u233 u234 u235 u236 u237 u238 u239 u240 u241 u242 u243 u244 u245 u246 u247 u248 u249 u250 u251 u252 u253 u254 u255 u256 u257 u258 u259 u260 u261 u262 u263 u264 u265 u266 u267 u268 u269 u270 u271 u272 u273 u274 u275 u276 u277 u278 u279 u280 u281 u282 u283 u284 u285 u286 u287 u288 u289 u290 u291 u292 u293 u294 u295 u296 u297 u298 u299 u300 u301 u302 u303 u304 u305 u306 u307 u308 u309 u310 u311 : Value}
    (h0 : 0 < n) (h6 : n ≤ 6) (hw : w < n) (hj : j < n) (hq : L[q]? = some l) (hx : l.x ≤ 100000) (hnum : (S.pr w).num ≤ 100000) (hy : (S.pr w).yes ≤ 100000) (hst : (S.pr w).st ≤ 2) (hkp : (S.pr w).st = 1 → (S.pr w).kp = w) (hwl : (S.pr w).wait.length ≤ 1000) (HSim : Hid (SimL n S (L.set q (comeL l)))) (hln : ln ≤ 20000) (hll : L.length = ln) (hfp : v .post = .slice qa ln qc) (HPb : Hid (Pool wb t (RD n b5 P S L cdk [] 0 v))) (b1 : wb.cell? ⟨bb, 1, none⟩ = some (.int .i64 (w : Int))) (b2 : wb.cell? ⟨bb, 2, none⟩ = some (.int .i64 (j : Int))) (htb : t bb = none)
    (hQ : ∀ (z7 z17 z207 z208 z209 z210 z211 z212 z213 z214 z215 z216 z217 z218 z219 z220 z221 z222 z223 z224 z225 z226 z227 z228 z229 z230 z231 z232 z233 z234 z235 z236 z237 z238 z239 z240 z241 z242 z243 z244 z245 z246 z247 z248 z249 z250 z251 z252 z253 z254 z255 z256 z257 z258 z259 z260 z261 z262 z263 z264 z265 z266 z267 z268 z269 z270 z271 z272 z273 z274 z275 z276 z277 z278 z279 z280 : Value) (wx : World) (t2 : Nat → Option RT) (v2 : RT → Value) (L2 : List Lt), Pool wx t2 (RD n b5 P (gotM S w l.x j) L2 cdk [] 0 v2) → PStep wb t wx t2 → z7 = v2 .post → SimL n (gotM S w l.x j) L2 → L2.length ≤ ln + 1 → Q .normal ⟨#[.int .i64 (n : Int), c1, undef, undef, c4, .pointer (some ⟨b5, 0, none⟩), .slice (some ⟨P, 0, none⟩) n n, z7, u8, .pointer (some ⟨bb, 0, none⟩), x10, .pointer (some ⟨P, w * 5, none⟩), u12, undef, u14, .int .i64 (q : Int), u16, z17, undef, undef, undef, c21, c22, c23, c24, c25, c26, u27, u28, u29, u30, u31, u32, u33, u34, u35, u36, u37, u38, u39, u40, u41, u42, u43, u44, u45, u46, u47, u48, u49, u50, u51, u52, u53, u54, u55, u56, u57, u58, u59, u60, u61, u62, u63, u64, u65, u66, u67, u68, u69, u70, u71, u72, u73, u74, u75, u76, u77, u78, u79, u80, u81, u82, u83, u84, u85, u86, u87, u88, u89, u90, u91, u92, u93, u94, u95, u96, u97, u98, u99, u100, u101, u102, u103, u104, u105, u106, u107, u108, u109, u110, u111, u112, u113, u114, u115, u116, u117, u118, u119, u120, u121, u122, u123, u124, u125, u126, u127, u128, u129, u130, u131, u132, u133, u134, u135, u136, u137, u138, u139, u140, u141, u142, u143, u144, u145, u146, u147, u148, u149, u150, u151, u152, u153, u154, u155, u156, u157, u158, u159, u160, u161, u162, u163, u164, u165, u166, u167, u168, u169, u170, u171, u172, u173, u174, u175, u176, u177, u178, u179, u180, u181, u182, u183, u184, u185, u186, u187, u188, u189, u190, u191, u192, u193, u194, u195, u196, u197, u198, u199, u200, u201, u202, u203, u204, u205, u206, z207, z208, z209, z210, z211, z212, z213, z214, z215, z216, z217, z218, z219, z220, z221, z222, z223, z224, z225, z226, z227, z228, z229, z230, z231, z232, z233, z234, z235, z236, z237, z238, z239, z240, z241, z242, z243, z244, z245, z246, z247, z248, z249, z250, z251, z252, z253, z254, z255, z256, z257, z258, z259, z260, z261, z262, z263, z264, z265, z266, z267, z268, z269, z270, z271, z272, z273, z274, z275, z276, z277, z278, z279, z280, u281, u282, u283, u284, u285, u286, u287, u288, u289, u290, u291, u292, u293, u294, u295, u296, u297, u298, u299, u300, u301, u302, u303, u304, u305, u306, u307, u308, u309, u310, u311, undef, undef, undef, undef, undef, undef, undef, undef, undef, undef, undef, undef, undef, undef, undef, undef, undef, undef, undef, undef, undef, undef, undef, undef, undef, undef, undef, undef, undef, undef, undef, undef], []⟩ wx) :
    Code.wp Try.prog comeCode Q ⟨#[.int .i64 (n : Int), c1, undef, undef, c4, .pointer (some ⟨b5, 0, none⟩), .slice (some ⟨P, 0, none⟩) n n, .slice qa ln qc, u8, .pointer (some ⟨bb, 0, none⟩), x10, .pointer (some ⟨P, w * 5, none⟩), u12, undef, u14, .int .i64 (q : Int), u16, u17, undef, undef, undef, c21, c22, c23, c24, c25, c26, u27, u28, u29, u30, u31, u32, u33, u34, u35, u36, u37, u38, u39, u40, u41, u42, u43, u44, u45, u46, u47, u48, u49, u50, u51, u52, u53, u54, u55, u56, u57, u58, u59, u60, u61, u62, u63, u64, u65, u66, u67, u68, u69, u70, u71, u72, u73, u74, u75, u76, u77, u78, u79, u80, u81, u82, u83, u84, u85, u86, u87, u88, u89, u90, u91, u92, u93, u94, u95, u96, u97, u98, u99, u100, u101, u102, u103, u104, u105, u106, u107, u108, u109, u110, u111, u112, u113, u114, u115, u116, u117, u118, u119, u120, u121, u122, u123, u124, u125, u126, u127, u128, u129, u130, u131, u132, u133, u134, u135, u136, u137, u138, u139, u140, u141, u142, u143, u144, u145, u146, u147, u148, u149, u150, u151, u152, u153, u154, u155, u156, u157, u158, u159, u160, u161, u162, u163, u164, u165, u166, u167, u168, u169, u170, u171, u172, u173, u174, u175, u176, u177, u178, u179, u180, u181, u182, u183, u184, u185, u186, u187, u188, u189, u190, u191, u192, u193, u194, u195, u196, u197, u198, u199, u200, u201, u202, u203, u204, u205, u206, u207, u208, u209, u210, u211, u212, u213, u214, u215, u216, u217, u218, u219, u220, u221, u222, u223, u224, u225, u226, u227, u228, u229, u230, u231, u232, u233, u234, u235, u236, u237, u238, u239, u240, u241, u242, u243, u244, u245, u246, u247, u248, u249, u250, u251, u252, u253, u254, u255, u256, u257, u258, u259, u260, u261, u262, u263, u264, u265, u266, u267, u268, u269, u270, u271, u272, u273, u274, u275, u276, u277, u278, u279, u280, u281, u282, u283, u284, u285, u286, u287, u288, u289, u290, u291, u292, u293, u294, u295, u296, u297, u298, u299, u300, u301, u302, u303, u304, u305, u306, u307, u308, u309, u310, u311, undef, undef, undef, undef, undef, undef, undef, undef, undef, undef, undef, undef, undef, undef, undef, undef, undef, undef, undef, undef, undef, undef, undef, undef, undef, undef, undef, undef, undef, undef, undef, undef], []⟩ wb := by
  refine Code.wp_mono onlyN_imp ?_
  have HQ := hidMk hQ
  clear hQ
  have hl := (List.getElem?_eq_some_iff.1 hq).1
  obtain ⟨g, o, c, eg, _⟩ := (HPb.out.seg .post _ rfl).at (by show 0 < L.length; omega)
  have eg1 : v .post = .slice (some ⟨g, o, none⟩) L.length c := eg
  have eg2 : Value.slice qa ln qc = .slice (some ⟨g, o, none⟩) ln c := by rw [← hfp, eg1, hll]
  obtain ⟨rfl, rfl⟩ : qa = some ⟨g, o, none⟩ ∧ qc = c := by simpa using eg2
  obtain ⟨y, yf, ty, P1, S1⟩ := rd_come HPb.out eg1 hq
  have hq1 : (L.set q (comeL l))[q]? = some (comeL l) := List.getElem?_set_self hl
  obtain ⟨y1, _, _, _, _⟩ := rd_come P1 (by rw [List.length_set]; exact eg1) hq1
  have y3 : wb.cell? ⟨g, o + q * 4 + 3, none⟩ = some (.bool l.c) := by have := y 3 (by omega); rw [show o + (q * 4 + 3) = o + q * 4 + 3 from by omega] at this; exact this
  have z2 : (wb.setCell ⟨g, o + (q * 4 + 3), none⟩ (.bool true)).cell? ⟨g, o + q * 4 + 2, none⟩ = some (.int .i64 (l.x : Int)) := by have := y1 2 (by omega); rw [show o + (q * 4 + 2) = o + q * 4 + 2 from by omega] at this; exact this
  rw [show o + (q * 4 + 3) = o + q * 4 + 3 from by omega] at P1 S1 z2
  have f3 := yf (o + q * 4 + 3)
  have HP1 := hidMk P1
  have HS1 := hidMk S1
  have HZ2 := hidMk z2
  have b1' := hidMk (S1.cell htb b1)
  have b2' := hidMk (S1.cell htb b2)
  have hq' : (q : Int) < (ln : Int) := by omega
  clear y yf y1 P1 S1 z2 b1 b2 eg eg1 eg2
  conv => arg 2; whnf
  refine wp_seq_k (fun K1 hK1 => ?_)
  have HK1 := hidMk hK1
  clear hK1
  go_wp2
  refine HK1.out _ _ ?_
  clear y3 f3
  generalize wb.setCell ⟨g, o + q * 4 + 3, none⟩ (.bool true) = w1 at *
  have z2 := HZ2.out
  refine wp_seq_k (fun K2 hK2 => ?_)
  have HK2 := hidMk hK2
  clear hK2
  go_wp2
  refine HK2.out _ _ ?_
  clear z2
  have hl2 : (L.set q (comeL l)).length = ln := by rw [List.length_set]; exact hll
  by_cases hx0 : l.x = 0
  · have eT : gotM S w l.x j = yesS S w := by unfold gotM; rw [if_pos hx0]
    have hx1 : ((l.x : Int) == 0) = true := by rw [beq_iff_eq]; omega
    obtain ⟨p0, p1, p2, p3, p4, pf⟩ := rd_proc HP1.out hw
    have f4 := pf (w * 5 + 3)
    obtain ⟨P2, S2⟩ := rd_yes HP1.out hw ((S.pr w).yes + 1)
    have P2 : Pool (w1.setCell ⟨P, w * 5 + 3, none⟩ (.int .i64 (((S.pr w).yes + 1 : Nat) : Int))) t (RD n b5 P (yesS S w) (L.set q (comeL l)) cdk [] 0 v) := P2
    have HP2 := hidMk P2
    have HS2 := hidMk (HS1.out.trans S2)
    have hwr : IntKind.i64.wrap (((S.pr w).yes : Int) + 1) = (((S.pr w).yes + 1 : Nat) : Int) := by
      rw [show (((S.pr w).yes : Int) + 1) = (((S.pr w).yes + 1 : Nat) : Int) from by omega]
      exact wrap_of ⟨by omega, by omega⟩
    clear p0 p1 p2 p4 pf P2 S2
    generalize ((S.pr w).yes + 1 : Nat) = y9 at *
    go_wp2
    refine HQ.out _ _ _ _ _ _ _ _ _ _ _ _ _ _ _ _ _ _ _ _ _ _ _ _ _ _ _ _ _ _ _ _ _ _ _ _ _ _ _ _ _ _ _ _ _ _ _ _ _ _ _ _ _ _ _ _ _ _ _ _ _ _ _ _ _ _ _ _ _ _ _ _ _ _ _ _ _ t v (L.set q (comeL l)) (by rw [eT]; exact HP2.out) HS2.out hfp.symm (by rw [eT]; exact sim_pr HSim.out _ _) (by omega)
  · have eT : gotM S w l.x j = answerM S w l.x j := by unfold gotM; rw [if_neg hx0]
    have hx1 : ((l.x : Int) == 0) = false := by rw [beq_eq_false_iff_ne]; omega
    refine wp_seq_k (fun K3 hK3 => ?_)
    have HK3 := hidMk hK3
    clear hK3
    go_wp2
    refine HK3.out _ _ ?_
    refine wp_cond_false (by first | rfl | (rw [← hx1]; rfl)) ?_
    refine key_walk h0 h6 hw hj hx hnum hst hkp hwl HSim hln hl2 hfp HP1 b1'.out b2'.out htb ?_
    intro z7 z226 z227 z228 z229 z230 z231 z232 z233 z234 z235 z236 z237 z238 z239 z240 z241 z242 z243 z244 z245 z246 z247 z248 z249 z250 z251 z252 z253 z254 z255 z256 z257 z258 z259 z260 z261 z262 z263 z264 z265 z266 z267 z268 z269 z270 z271 z272 z273 z274 z275 z276 z277 z278 z279 z280 wx t2 v2 L2 P2 S2 e2 M2 l2
    exact HQ.out _ _ _ _ _ _ _ _ _ _ _ _ _ _ _ _ _ _ _ _ _ _ _ _ _ _ _ _ _ _ _ _ _ _ _ _ _ _ _ _ _ _ _ _ _ _ _ _ _ _ _ _ _ _ _ _ _ _ _ _ _ _ _ _ _ _ _ _ _ _ _ _ _ _ _ _ _ t2 v2 L2 (by rw [eT]; exact P2) (HS1.out.trans S2) e2 (by rw [eT]; exact M2) l2
end Go.Proofs.Ytaojmbebkggafaa
