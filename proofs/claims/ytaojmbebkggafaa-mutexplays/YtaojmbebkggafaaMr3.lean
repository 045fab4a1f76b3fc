/- The document's Mutex, in pieces: the code. -/
import Derived.Test.YtaojmbebkggafaaMr2a
namespace Go.Proofs.Ytaojmbebkggafaa
open Go.RowKit
set_option linter.unusedVariables false

def orC (a b : Option Code) : Option Code := match a with
  | some c => some c
  | none => b
/-- The branch of the condition that reads a slot. -/
def branchOf (k : Nat) (th : Bool) : Code → Option Code
  | .cond (.tmp t) a b => if t = k then some (if th then a else b) else orC (branchOf k th a) (branchOf k th b)
  | .cond _ a b => orC (branchOf k th a) (branchOf k th b)
  | .seq a b => orC (branchOf k th a) (branchOf k th b)
  | .block _ c => branchOf k th c
  | .loop c => branchOf k th c
  | .scope c => branchOf k th c
  | _ => none
/-- What begins with a region. -/
def seqOf (k : Nat) : Code → Option Code
  | .seq (.region i o d) r => if i = k then some (.seq (.region i o d) r) else seqOf k r
  | .seq a b => orC (seqOf k a) (seqOf k b)
  | .cond _ a b => orC (seqOf k a) (seqOf k b)
  | .block _ c => seqOf k c
  | .loop c => seqOf k c
  | .scope c => seqOf k c
  | _ => none
noncomputable def body9 : Code := (Try.f6).body.getD .skip
noncomputable def askCode : Code := (branchOf 103 true body9).getD .skip
noncomputable def leaveCode : Code := (branchOf 147 true body9).getD .skip
noncomputable def takeCode : Code := (branchOf 147 false body9).getD .skip
noncomputable def finCode : Code := (seqOf 50 body9).getD .skip
noncomputable def chainCode : Code := (branchOf 42 false body9).getD .skip

def finM (n : Nat) (s : MS) (w : Nat) : MS := if (s.pr w).st = 1 ∧ (s.pr w).yes + 1 = n then ⟨upd1 s.pr w { s.pr w with st := 2 }, s.ways, s.ins ++ [w]⟩ else s
theorem prM_prR (s : MS) (i : Nat) (p : Pr) : (prM s i p).pr i = p := upd1_same _ _ _
set_option maxRecDepth 1000000 in
set_option maxHeartbeats 16000000 in
theorem fin_walk {Q : Exit → Act → World → Prop} {wb : World} {n b5 P bb w : Nat} {S : MS} {L : List Lt} {cdk : List Int} {t : Nat → Option RT} {v : RT → Value} {x7 x10 c1 c4 c21 c22 c23 c24 c25 c26 : Value} {u8 u12 u14 u15 u16 u17 u27 u28 u29 u30 u31 u32 u33 u34 u35 u36 u37 u38 u39 u40 u41 u42 u43 u44 u45 u46 u47 u48 u49 u50 u51 u52 u53 u54 u55 u56 u57 u58 u59 u60 u61 u62 u63 u64 u65 u66 u67 u68 u69 u70 u71 u72 u73 u74 u75 u76 u77 u78 u79 u80 u81 u82 u83 u84 u85 u86 u87 u88 u89 u90 u91 u92 u93 u94 u95 u96 u97 u98 u99 u100 u101 u102 u103 u104 u105 u106 u107 u108 u109 u110 u111 u112 u113 u114 u115 u116 u117 u118 u119 u120 u121 u122 u123 u124 u125 u126 u127 u128 u129 u130 u131 u132 u133 u134 u135 u136 u137 u138 u139 u140 u141 u142 u143 u144 u145 u146 u147 u148 u149 u150 u151 u152 u153 u154 u155 u156 u157 u158 u159 u160 u161 u162 u163 u164 u165 u166 u167 u168 u169 u170 u171 u172 u173 u174 u175 u176 u177 u178 u179 u180 u181 u182 u183 u184 u185 u186 u187 u188 u189 u190 u191 u192 u193 u194 u195 u196 u197 u198 u199 u200 u201 u202 u203 u204 u205 u206 u207 u208 u209 u210 u211 u212 u213 u214 u215 u216 u217 u218 u219 u220 u221 u222 u223 u224 u225 u226 u227 u228 u229 u230 u231 u232 u233 u234 u235 u236 u237 u238 u239 u240 u241 u242 u243 u244 u245 u246 u247 u248 u249 u250 u251 u252 u253 u254 u255 u256 u257 u258 u259 u260 u261 u262 u263 u264 u265 u266 u267 u268 u269 u270 u271 u272 u273 u274 u275 u276 u277 u278 u279 u280 u281 u282 u283 u284 u285 u286 u287 u288 u289 u290 u291 u292 u293 u294 u295 u296 u297 u298 u299 u300 u301 u302 u303 u304 u305 u306 u307 u308 u309 u310 u311 : Value}
    (h0 : 0 < n) (h6 : n ≤ 6) (hw : w < n) (hy : (S.pr w).yes ≤ 1000) (hin : S.ins.length ≤ 1000) (HPb : Hid (Pool wb t (RD n b5 P S L cdk [] 0 v))) (b1 : wb.cell? ⟨bb, 1, none⟩ = some (.int .i64 (w : Int))) (htb : t bb = none)
    (hQ : ∀ (z281 z282 z283 z284 z285 z286 z287 z288 z289 z290 z291 z292 z293 z294 z295 z296 z297 z298 z299 z300 z301 z302 z303 z304 : Value) (wx : World) (t2 : Nat → Option RT) (v2 : RT → Value), Pool wx t2 (RD n b5 P (finM n S w) L cdk [] 0 v2) → PStep wb t wx t2 → v2 .post = v .post → Q .normal ⟨#[.int .i64 (n : Int), c1, undef, undef, c4, .pointer (some ⟨b5, 0, none⟩), .slice (some ⟨P, 0, none⟩) n n, x7, u8, .pointer (some ⟨bb, 0, none⟩), x10, .pointer (some ⟨P, w * 5, none⟩), u12, undef, u14, u15, u16, u17, undef, undef, undef, c21, c22, c23, c24, c25, c26, u27, u28, u29, u30, u31, u32, u33, u34, u35, u36, u37, u38, u39, u40, u41, u42, u43, u44, u45, u46, u47, u48, u49, u50, u51, u52, u53, u54, u55, u56, u57, u58, u59, u60, u61, u62, u63, u64, u65, u66, u67, u68, u69, u70, u71, u72, u73, u74, u75, u76, u77, u78, u79, u80, u81, u82, u83, u84, u85, u86, u87, u88, u89, u90, u91, u92, u93, u94, u95, u96, u97, u98, u99, u100, u101, u102, u103, u104, u105, u106, u107, u108, u109, u110, u111, u112, u113, u114, u115, u116, u117, u118, u119, u120, u121, u122, u123, u124, u125, u126, u127, u128, u129, u130, u131, u132, u133, u134, u135, u136, u137, u138, u139, u140, u141, u142, u143, u144, u145, u146, u147, u148, u149, u150, u151, u152, u153, u154, u155, u156, u157, u158, u159, u160, u161, u162, u163, u164, u165, u166, u167, u168, u169, u170, u171, u172, u173, u174, u175, u176, u177, u178, u179, u180, u181, u182, u183, u184, u185, u186, u187, u188, u189, u190, u191, u192, u193, u194, u195, u196, u197, u198, u199, u200, u201, u202, u203, u204, u205, u206, u207, u208, u209, u210, u211, u212, u213, u214, u215, u216, u217, u218, u219, u220, u221, u222, u223, u224, u225, u226, u227, u228, u229, u230, u231, u232, u233, u234, u235, u236, u237, u238, u239, u240, u241, u242, u243, u244, u245, u246, u247, u248, u249, u250, u251, u252, u253, u254, u255, u256, u257, u258, u259, u260, u261, u262, u263, u264, u265, u266, u267, u268, u269, u270, u271, u272, u273, u274, u275, u276, u277, u278, u279, u280, z281, z282, z283, z284, z285, z286, z287, z288, z289, z290, z291, z292, z293, z294, z295, z296, z297, z298, z299, z300, z301, z302, z303, z304, u305, u306, u307, u308, u309, u310, u311, undef, undef, undef, undef, undef, undef, undef, undef, undef, undef, undef, undef, undef, undef, undef, undef, undef, undef, undef, undef, undef, undef, undef, undef, undef, undef, undef, undef, undef, undef, undef, undef], []⟩ wx) :
    Code.wp Try.prog finCode Q ⟨#[.int .i64 (n : Int), c1, undef, undef, c4, .pointer (some ⟨b5, 0, none⟩), .slice (some ⟨P, 0, none⟩) n n, x7, u8, .pointer (some ⟨bb, 0, none⟩), x10, .pointer (some ⟨P, w * 5, none⟩), u12, undef, u14, u15, u16, u17, undef, undef, undef, c21, c22, c23, c24, c25, c26, u27, u28, u29, u30, u31, u32, u33, u34, u35, u36, u37, u38, u39, u40, u41, u42, u43, u44, u45, u46, u47, u48, u49, u50, u51, u52, u53, u54, u55, u56, u57, u58, u59, u60, u61, u62, u63, u64, u65, u66, u67, u68, u69, u70, u71, u72, u73, u74, u75, u76, u77, u78, u79, u80, u81, u82, u83, u84, u85, u86, u87, u88, u89, u90, u91, u92, u93, u94, u95, u96, u97, u98, u99, u100, u101, u102, u103, u104, u105, u106, u107, u108, u109, u110, u111, u112, u113, u114, u115, u116, u117, u118, u119, u120, u121, u122, u123, u124, u125, u126, u127, u128, u129, u130, u131, u132, u133, u134, u135, u136, u137, u138, u139, u140, u141, u142, u143, u144, u145, u146, u147, u148, u149, u150, u151, u152, u153, u154, u155, u156, u157, u158, u159, u160, u161, u162, u163, u164, u165, u166, u167, u168, u169, u170, u171, u172, u173, u174, u175, u176, u177, u178, u179, u180, u181, u182, u183, u184, u185, u186, u187, u188, u189, u190, u191, u192, u193, u194, u195, u196, u197, u198, u199, u200, u201, u202, u203, u204, u205, u206, u207, u208, u209, u210, u211, u212, u213, u214, u215, u216, u217, u218, u219, u220, u221, u222, u223, u224, u225, u226, u227, u228, u229, u230, u231, u232, u233, u234, u235, u236, u237, u238, u239, u240, u241, u242, u243, u244, u245, u246, u247, u248, u249, u250, u251, u252, u253, u254, u255, u256, u257, u258, u259, u260, u261, u262, u263, u264, u265, u266, u267, u268, u269, u270, u271, u272, u273, u274, u275, u276, u277, u278, u279, u280, u281, u282, u283, u284, u285, u286, u287, u288, u289, u290, u291, u292, u293, u294, u295, u296, u297, u298, u299, u300, u301, u302, u303, u304, u305, u306, u307, u308, u309, u310, u311, undef, undef, undef, undef, undef, undef, undef, undef, undef, undef, undef, undef, undef, undef, undef, undef, undef, undef, undef, undef, undef, undef, undef, undef, undef, undef, undef, undef, undef, undef, undef, undef], []⟩ wb := by
  obtain ⟨p0, p1, p2, p3, p4, pf⟩ := rd_proc HPb.out hw
  have HF : Hid (finM n S w = if (S.pr w).st = 1 ∧ (S.pr w).yes + 1 = n then ⟨upd1 S.pr w { S.pr w with st := 2 }, S.ways, S.ins ++ [w]⟩ else S) := rfl
  have hn1 : (1 : Int) ≤ (n : Int) := by omega
  have hn6 : (n : Int) ≤ 6 := by omega
  have hw1 : IntKind.i64.wrap ((n : Int) - 1) = (n : Int) - 1 := wrap_of ⟨by omega, by omega⟩
  have HQ := hidMk hQ
  clear hQ
  by_cases e1 : (S.pr w).st = 1
  · by_cases e2 : (S.pr w).yes + 1 = n
    · rw [if_pos ⟨e1, e2⟩] at HF
      obtain ⟨P1, S1⟩ := rd_st HPb.out hw 2
      have P1 : Pool (wb.setCell ⟨P, w * 5 + 1, none⟩ (.int .i64 2)) t (RD n b5 P (prM S w { S.pr w with st := 2 }) L cdk [] 0 v) := P1
      have S1 : PStep wb t (wb.setCell ⟨P, w * 5 + 1, none⟩ (.int .i64 2)) t := S1
      obtain ⟨i0, hi, hz0, hz1, hz2⟩ := info_parts cInfoInt
      have HP1 := hidMk P1
      have HS1 := hidMk S1
      obtain ⟨o0, o1, o2, o3, o4, of⟩ := rd_out P1
      have b1' := S1.cell htb b1
      have hsi : Seg (wb.setCell ⟨P, w * 5 + 1, none⟩ (.int .i64 2)) (fun g => t g = some .ins) 3 1 (v .ins) S.ins.length (natsL S.ins) := P1.seg .ins _ rfl
      have HSi := hidMk hsi
      obtain ⟨va, vc, hvi⟩ := segForm hsi
      clear hsi
      rw [hvi] at o2 HSi
      have HVi := hidMk hvi
      rw [e1] at p1
      have q1 : (((S.pr w).yes : Int) == (n : Int) - 1) = true := by rw [beq_iff_eq]; omega
      have hy' : ((S.pr w).yes : Int) ≤ 1000 := by omega
      have f1 := pf (w * 5 + 1)
      clear e1 e2 P1 S1 hvi o1 o3 o4
      generalize (S.pr w).yes = yy at *
      generalize hil : S.ins.length = il at *
      have HIl := hidMk hil
      clear hil
      conv => arg 2; whnf
      go_upto_region 52 with fail
      clear p0 p1 p2 p3 p4 f1 b1
      generalize wb.setCell ⟨P, w * 5 + 1, none⟩ (.int .i64 2) = w1 at *
      go_wp2_with (at_builtin; refine wpList_append_seg _ rfl _ _ 24 rfl 3 i0 (.int .i64 0) 1 8 Try.underlying24 hi hz0 hz1 hz2 rfl (by decide) _ _ _ rfl (segAlloc HSi.out _) ⟨w1.heap.size, 0, none⟩ 1 1 [.int .i64 (w : Int)] rfl rfl (cCell1 _ _ _ _ rfl) (cOne _) (by unfold maxLen; omega) (by omega) ?_)
      intro v3 w3 hs3 hg3
      obtain ⟨g1, g2, HM⟩ := rd_ins HP1.out (w := w) (Stil.new _ (.cells #[.int .i64 (w : Int)] 3)) (by rw [HVi.out]; show Seg _ _ _ 1 _ (S.ins.length + 1) (natsL S.ins ++ _); rw [HIl.out]; exact hs3.mono (fun g _ e => by simpa using e)) (by rw [HVi.out]; exact hg3)
      rw [HVi.out] at g1
      have HM5 := hidMk HM
      obtain ⟨a3, c3, rfl⟩ := segForm hs3
      clear hs3 hg3 HM
      go_wp2
      obtain ⟨t3, P3, S3⟩ := HM5.out
      exact HQ.out _ _ _ _ _ _ _ _ _ _ _ _ _ _ _ _ _ _ _ _ _ _ _ _ _ t3 _ (by rw [HF.out]; exact P3) (HS1.out.trans S3) (updV_other _ _ (by simp))
    · rw [if_neg (fun e => e2 e.2)] at HF
      rw [e1] at p1
      have q1 : (((S.pr w).yes : Int) == (n : Int) - 1) = false := by rw [beq_eq_false_iff_ne]; omega
      have hy' : ((S.pr w).yes : Int) ≤ 1000 := by omega
      clear e1 e2
      generalize (S.pr w).yes = yy at *
      conv => arg 2; whnf
      go_wp2
      exact HQ.out _ _ _ _ _ _ _ _ _ _ _ _ _ _ _ _ _ _ _ _ _ _ _ _ wb t v (by rw [HF.out]; exact HPb.out) (PStep.refl _ _) rfl
  · rw [if_neg (fun e => e1 e.1)] at HF
    have q1 : (((S.pr w).st : Int) == 1) = false := by rw [beq_eq_false_iff_ne]; omega
    clear e1
    generalize (S.pr w).st = ss at *
    conv => arg 2; whnf
    go_wp2
    exact HQ.out _ _ _ _ _ _ _ _ _ _ _ _ _ _ _ _ _ _ _ _ _ _ _ _ wb t v (by rw [HF.out]; exact HPb.out) (PStep.refl _ _) rfl
end Go.Proofs.Ytaojmbebkggafaa
