/- The document's Mutex, in pieces: a hold. -/
import Derived.Test.YtaojmbebkggafaaMr5
namespace Go.Proofs.Ytaojmbebkggafaa
open Go.RowKit
set_option linter.unusedVariables false

noncomputable def headOf : Code → Code
  | .seq a _ => a
  | c => c
noncomputable def reg47 : Code := headOf ((seqOf 47 body9).getD .skip)
noncomputable def holdCode : Code := (seqOf 47 body9).getD .skip
noncomputable def keyCode : Code := (seqOf 45 body9).getD .skip
noncomputable def comeCode : Code := (seqOf 41 body9).getD .skip
noncomputable def waitCode : Code := (branchOf 261 true body9).getD .skip
noncomputable def nayCode : Code := (branchOf 261 false body9).getD .skip
set_option maxRecDepth 100000 in
set_option maxHeartbeats 4000000 in
theorem less_ref (W : World) (a b c d : Nat) : Calls Try.prog 12 #[.agg #[.int .i64 (a : Int), .int .i64 (b : Int)], .agg #[.int .i64 (c : Int), .int .i64 (d : Int)]] W fun e W2 => e = .returned (.bool (mlt a b c d)) ∧ Stil W W2 := by
  have HK : Stil W ((W.alloc (.cells #[.int .i64 (a : Int), .int .i64 (b : Int)] 53)).alloc (.cells #[.int .i64 (c : Int), .int .i64 (d : Int)] 53)) := ((Keep.refl _ W).alloc _).alloc _
  have HK2 := hidMk HK
  clear HK
  by_cases l1 : a < c
  · have e1 : decide ((a : Int) < (c : Int)) = true := decide_eq_true (by omega)
    have e2 : decide (a < c) = true := decide_eq_true l1
    have e3 : mlt a b c d = true := by unfold mlt; exact decide_eq_true (.inl l1)
    rw [e3]
    clear l1 e3
    go_enter Try.func12, Try.ntmps12
    go_wp2
    go_ret
    exact ⟨rfl, HK2.out⟩
  · have e1 : decide ((a : Int) < (c : Int)) = false := decide_eq_false (by omega)
    have e2 : decide (a < c) = false := decide_eq_false l1
    by_cases l2 : a = c
    · subst l2
      have e4 : ((a : Int) == (a : Int)) = true := by simp
      have e3 : mlt a b a d = decide (b < d) := by
        unfold mlt
        by_cases hb : b < d
        · rw [decide_eq_true (by omega), decide_eq_true (by omega)]
        · rw [decide_eq_false (by omega), decide_eq_false (by omega)]
      rw [e3]
      clear l1 e3
      go_enter Try.func12, Try.ntmps12
      go_wp2
      go_ret
      exact ⟨rfl, HK2.out⟩
    · have e4 : ((a : Int) == (c : Int)) = false := by rw [beq_eq_false_iff_ne]; omega
      have e5 : (a == c) = false := by rw [beq_eq_false_iff_ne]; omega
      have e3 : mlt a b c d = false := by unfold mlt; exact decide_eq_false (by omega)
      rw [e3]
      clear l1 l2 e3
      go_enter Try.func12, Try.ntmps12
      go_wp2
      go_ret
      exact ⟨rfl, HK2.out⟩
set_option maxRecDepth 1000000 in
set_option maxHeartbeats 16000000 in
theorem reg47_in {Q : Exit → Act → World → Prop} {wb : World} {n b5 P bb w j x kn ln qc : Nat} {qa : Option Addr} {x10 c1 c4 c21 c22 c23 c24 c25 c26 : Value} {u8 u12 u14 u15 u16 u27 u28 u29 u30 u31 u32 u33 u34 u35 u36 u37 u38 u39 u40 u41 u42 u43 u44 u45 u46 u47 u48 u49 u50 u51 u52 u53 u54 u55 u56 u57 u58 u59 u60 u61 u62 u63 u64 u65 u66 u67 u68 u69 u70 u71 u72 u73 u74 u75 u76 u77 u78 u79 u80 u81 u82 u83 u84 u85 u86 u87 u88 u89 u90 u91 u92 u93 u94 u95 u96 u97 u98 u99 u100 u101 u102 u103 u104 u105 u106 u107 u108 u109 u110 u111 u112 u113 u114 u115 u116 u117 u118 u119 u120 u121 u122 u123 u124 u125 u126 u127 u128 u129 u130 u131 u132 u133 u134 u135 u136 u137 u138 u139 u140 u141 u142 u143 u144 u145 u146 u147 u148 u149 u150 u151 u152 u153 u154 u155 u156 u157 u158 u159 u160 u161 u162 u163 u164 u165 u166 u167 u168 u169 u170 u171 u172 u173 u174 u175 u176 u177 u178 u179 u180 u181 u182 u183 u184 u185 u186 u187 u188 u189 u190 u191 u192 u193 u194 u195 u196 u197 u198 u199 u200 u201 u202 u203 u204 u205 u206 u207 u208 u209 u210 u211 u212 u213 u214 u215 u216 u217 u218 u219 u220 u221 u222 u223 u224 u225 u226 u227 u228 u229 u230 u231 u232 u233 u234 u235 u236 u237 u238 u239 u240 u241 u242 u243 u244 u245 u246 u247 u248 u249 u250 u251 u252 u253 u254 u255 u256 u257 u258 u259 u260 u261 u262 u263 u264 u265 u266 u267 u268 u269 u270 u271 u272 u273 u274 u275 u276 u277 u278 u279 u280 u281 u282 u283 u284 u285 u286 u287 u288 u289 u290 u291 u292 u293 u294 u295 u296 u297 u298 u299 u300 u301 u302 u303 u304 u305 u306 u307 u308 u309 u310 u311 : Value}
    (p1 : wb.cell? ⟨P, w * 5 + 1, none⟩ = some (.int .i64 2)) (p2 : wb.cell? ⟨P, w * 5 + 2, none⟩ = some (.int .i64 (kn : Int))) (b1 : wb.cell? ⟨bb, 1, none⟩ = some (.int .i64 (w : Int))) (b2 : wb.cell? ⟨bb, 2, none⟩ = some (.int .i64 (j : Int))) 
    (hQ : ∀ (z236 z237 z238 z239 z240 z241 z242 z243 z244 z245 z246 z247 z248 z249 z250 z251 z252 z253 z254 z255 z256 z257 z258 z259 z260 : Value) (wx : World), Stil wb wx → Q .normal ⟨#[.int .i64 (n : Int), c1, undef, undef, c4, .pointer (some ⟨b5, 0, none⟩), .slice (some ⟨P, 0, none⟩) n n, .slice qa ln qc, u8, .pointer (some ⟨bb, 0, none⟩), x10, .pointer (some ⟨P, w * 5, none⟩), u12, undef, u14, u15, u16, .int .i64 (x : Int), undef, undef, undef, c21, c22, c23, c24, c25, c26, u27, u28, u29, u30, u31, u32, u33, u34, u35, u36, u37, u38, u39, u40, u41, u42, u43, u44, u45, u46, u47, u48, u49, u50, u51, u52, u53, u54, u55, u56, u57, u58, u59, u60, u61, u62, u63, u64, u65, u66, u67, u68, u69, u70, u71, u72, u73, u74, u75, u76, u77, u78, u79, u80, u81, u82, u83, u84, u85, u86, u87, u88, u89, u90, u91, u92, u93, u94, u95, u96, u97, u98, u99, u100, u101, u102, u103, u104, u105, u106, u107, u108, u109, u110, u111, u112, u113, u114, u115, u116, u117, u118, u119, u120, u121, u122, u123, u124, u125, u126, u127, u128, u129, u130, u131, u132, u133, u134, u135, u136, u137, u138, u139, u140, u141, u142, u143, u144, u145, u146, u147, u148, u149, u150, u151, u152, u153, u154, u155, u156, u157, u158, u159, u160, u161, u162, u163, u164, u165, u166, u167, u168, u169, u170, u171, u172, u173, u174, u175, u176, u177, u178, u179, u180, u181, u182, u183, u184, u185, u186, u187, u188, u189, u190, u191, u192, u193, u194, u195, u196, u197, u198, u199, u200, u201, u202, u203, u204, u205, u206, u207, u208, u209, u210, u211, u212, u213, u214, u215, u216, u217, u218, u219, u220, u221, u222, u223, u224, u225, u226, u227, u228, u229, u230, u231, u232, u233, u234, u235, z236, z237, z238, z239, z240, z241, z242, z243, z244, z245, z246, z247, z248, z249, z250, z251, z252, z253, z254, z255, z256, z257, z258, z259, z260, .bool true, u262, u263, u264, u265, u266, u267, u268, u269, u270, u271, u272, u273, u274, u275, u276, u277, u278, u279, u280, u281, u282, u283, u284, u285, u286, u287, u288, u289, u290, u291, u292, u293, u294, u295, u296, u297, u298, u299, u300, u301, u302, u303, u304, u305, u306, u307, u308, u309, u310, u311, undef, undef, undef, undef, undef, undef, undef, undef, undef, undef, undef, undef, undef, undef, undef, undef, undef, undef, undef, undef, undef, undef, undef, undef, undef, undef, undef, undef, undef, undef, undef, undef], []⟩ wx) :
    Code.wp Try.prog reg47 Q ⟨#[.int .i64 (n : Int), c1, undef, undef, c4, .pointer (some ⟨b5, 0, none⟩), .slice (some ⟨P, 0, none⟩) n n, .slice qa ln qc, u8, .pointer (some ⟨bb, 0, none⟩), x10, .pointer (some ⟨P, w * 5, none⟩), u12, undef, u14, u15, u16, .int .i64 (x : Int), undef, undef, undef, c21, c22, c23, c24, c25, c26, u27, u28, u29, u30, u31, u32, u33, u34, u35, u36, u37, u38, u39, u40, u41, u42, u43, u44, u45, u46, u47, u48, u49, u50, u51, u52, u53, u54, u55, u56, u57, u58, u59, u60, u61, u62, u63, u64, u65, u66, u67, u68, u69, u70, u71, u72, u73, u74, u75, u76, u77, u78, u79, u80, u81, u82, u83, u84, u85, u86, u87, u88, u89, u90, u91, u92, u93, u94, u95, u96, u97, u98, u99, u100, u101, u102, u103, u104, u105, u106, u107, u108, u109, u110, u111, u112, u113, u114, u115, u116, u117, u118, u119, u120, u121, u122, u123, u124, u125, u126, u127, u128, u129, u130, u131, u132, u133, u134, u135, u136, u137, u138, u139, u140, u141, u142, u143, u144, u145, u146, u147, u148, u149, u150, u151, u152, u153, u154, u155, u156, u157, u158, u159, u160, u161, u162, u163, u164, u165, u166, u167, u168, u169, u170, u171, u172, u173, u174, u175, u176, u177, u178, u179, u180, u181, u182, u183, u184, u185, u186, u187, u188, u189, u190, u191, u192, u193, u194, u195, u196, u197, u198, u199, u200, u201, u202, u203, u204, u205, u206, u207, u208, u209, u210, u211, u212, u213, u214, u215, u216, u217, u218, u219, u220, u221, u222, u223, u224, u225, u226, u227, u228, u229, u230, u231, u232, u233, u234, u235, u236, u237, u238, u239, u240, u241, u242, u243, u244, u245, u246, u247, u248, u249, u250, u251, u252, u253, u254, u255, u256, u257, u258, u259, u260, u261, u262, u263, u264, u265, u266, u267, u268, u269, u270, u271, u272, u273, u274, u275, u276, u277, u278, u279, u280, u281, u282, u283, u284, u285, u286, u287, u288, u289, u290, u291, u292, u293, u294, u295, u296, u297, u298, u299, u300, u301, u302, u303, u304, u305, u306, u307, u308, u309, u310, u311, undef, undef, undef, undef, undef, undef, undef, undef, undef, undef, undef, undef, undef, undef, undef, undef, undef, undef, undef, undef, undef, undef, undef, undef, undef, undef, undef, undef, undef, undef, undef, undef], []⟩ wb := by
  refine Code.wp_mono onlyN_imp ?_
  have HQ := hidMk hQ
  clear hQ
  conv => arg 2; whnf
  have HC : Hid (∀ w9, Stil wb w9 → (fun w' => w'.cell? ⟨P, w * 5 + 1, none⟩ = some (.int .i64 2) ∧ w'.cell? ⟨P, w * 5 + 2, none⟩ = some (.int .i64 (kn : Int)) ∧ w'.cell? ⟨bb, 1, none⟩ = some (.int .i64 (w : Int)) ∧ w'.cell? ⟨bb, 2, none⟩ = some (.int .i64 (j : Int))) w9) := fun w9 h9 => ⟨h9.cell p1, h9.cell p2, h9.cell b1, h9.cell b2⟩
  have HC0 := hidMk (HC.out _ (stilDrew wb))
  have HKz := hidMk (stilDrew wb)
  clear p1 p2 b1 b2
  refine wp_region_class (fun w' => w'.cell? ⟨P, w * 5 + 1, none⟩ = some (.int .i64 2) ∧ w'.cell? ⟨P, w * 5 + 2, none⟩ = some (.int .i64 (kn : Int)) ∧ w'.cell? ⟨bb, 1, none⟩ = some (.int .i64 (w : Int)) ∧ w'.cell? ⟨bb, 2, none⟩ = some (.int .i64 (j : Int))) 26 (by kernel_rfl) ?_
  refine wpAnyC_take (i := 0) (fuel := 25) (v := .pointer (some ⟨P, w * 5, none⟩)) rfl (by kernel_rfl) (by kernel_rfl) (by kernel_rfl) (by kernel_rfl) (fun _ _ _ h => h) (.inl ⟨by kernel_rfl, fun w' hC => by obtain ⟨y1, y2, y3, y4⟩ := hC; go_simp⟩) HC0.out ?_
  go_frame
  refine wpAnyC_take (i := 1) (fuel := 24) (v := .pointer (some ⟨P, w * 5, none⟩)) rfl (by kernel_rfl) (by kernel_rfl) (by kernel_rfl) (by kernel_rfl) (fun _ _ _ h => h) (.inl ⟨by kernel_rfl, fun w' hC => by obtain ⟨y1, y2, y3, y4⟩ := hC; go_simp⟩) HC0.out ?_
  go_frame
  refine wpAnyC_take (i := 2) (fuel := 23) (v := .pointer (some ⟨P, w * 5 + 1, none⟩)) rfl (by kernel_rfl) (by kernel_rfl) (by kernel_rfl) (by kernel_rfl) (fun _ _ _ h => h) (.inl ⟨by kernel_rfl, fun w' hC => by obtain ⟨y1, y2, y3, y4⟩ := hC; go_simp⟩) HC0.out ?_
  go_frame
  refine wpAnyC_take (i := 3) (fuel := 22) (v := .int .i64 2) rfl (by kernel_rfl) (by kernel_rfl) (by kernel_rfl) (by kernel_rfl) (fun _ _ _ h => h) (.inl ⟨by kernel_rfl, fun w' hC => by obtain ⟨y1, y2, y3, y4⟩ := hC; go_simp⟩) HC0.out ?_
  go_frame
  refine wpAnyC_take (i := 4) (fuel := 21) (v := .bool true) rfl (by kernel_rfl) (by kernel_rfl) (by kernel_rfl) (by kernel_rfl) (fun _ _ _ h => h) (.inl ⟨by kernel_rfl, fun w' hC => by obtain ⟨y1, y2, y3, y4⟩ := hC; go_simp⟩) HC0.out ?_
  go_frame
  refine wpAnyC_take (i := 5) (fuel := 20) (v := .bool true) rfl (by kernel_rfl) (by kernel_rfl) (by kernel_rfl) (by kernel_rfl) (fun _ _ _ h => h) (.inl ⟨by kernel_rfl, fun w' hC => by obtain ⟨y1, y2, y3, y4⟩ := hC; go_simp⟩) HC0.out ?_
  go_frame
  refine wpAnyC_take (i := 6) (fuel := 19) (v := undef) rfl (by kernel_rfl) (by kernel_rfl) (by kernel_rfl) (by kernel_rfl) (fun _ _ _ h => h) (.inr ⟨by kernel_rfl, rfl⟩) HC0.out ?_
  go_frame
  refine wpAnyC_take (i := 7) (fuel := 18) (v := undef) rfl (by kernel_rfl) (by kernel_rfl) (by kernel_rfl) (by kernel_rfl) (fun _ _ _ h => h) (.inr ⟨by kernel_rfl, rfl⟩) HC0.out ?_
  go_frame
  refine wpAnyC_take (i := 8) (fuel := 17) (v := undef) rfl (by kernel_rfl) (by kernel_rfl) (by kernel_rfl) (by kernel_rfl) (fun _ _ _ h => h) (.inr ⟨by kernel_rfl, rfl⟩) HC0.out ?_
  go_frame
  refine wpAnyC_take (i := 9) (fuel := 16) (v := undef) rfl (by kernel_rfl) (by kernel_rfl) (by kernel_rfl) (by kernel_rfl) (fun _ _ _ h => h) (.inr ⟨by kernel_rfl, rfl⟩) HC0.out ?_
  go_frame
  refine wpAnyC_take (i := 10) (fuel := 15) (v := undef) rfl (by kernel_rfl) (by kernel_rfl) (by kernel_rfl) (by kernel_rfl) (fun _ _ _ h => h) (.inr ⟨by kernel_rfl, rfl⟩) HC0.out ?_
  go_frame
  refine wpAnyC_take (i := 11) (fuel := 14) (v := undef) rfl (by kernel_rfl) (by kernel_rfl) (by kernel_rfl) (by kernel_rfl) (fun _ _ _ h => h) (.inr ⟨by kernel_rfl, rfl⟩) HC0.out ?_
  go_frame
  refine wpAnyC_take (i := 12) (fuel := 13) (v := undef) rfl (by kernel_rfl) (by kernel_rfl) (by kernel_rfl) (by kernel_rfl) (fun _ _ _ h => h) (.inr ⟨by kernel_rfl, rfl⟩) HC0.out ?_
  go_frame
  refine wpAnyC_take (i := 13) (fuel := 12) (v := undef) rfl (by kernel_rfl) (by kernel_rfl) (by kernel_rfl) (by kernel_rfl) (fun _ _ _ h => h) (.inr ⟨by kernel_rfl, rfl⟩) HC0.out ?_
  go_frame
  refine wpAnyC_take (i := 14) (fuel := 11) (v := undef) rfl (by kernel_rfl) (by kernel_rfl) (by kernel_rfl) (by kernel_rfl) (fun _ _ _ h => h) (.inr ⟨by kernel_rfl, rfl⟩) HC0.out ?_
  go_frame
  refine wpAnyC_take (i := 15) (fuel := 10) (v := undef) rfl (by kernel_rfl) (by kernel_rfl) (by kernel_rfl) (by kernel_rfl) (fun _ _ _ h => h) (.inr ⟨by kernel_rfl, rfl⟩) HC0.out ?_
  go_frame
  refine wpAnyC_take (i := 16) (fuel := 9) (v := undef) rfl (by kernel_rfl) (by kernel_rfl) (by kernel_rfl) (by kernel_rfl) (fun _ _ _ h => h) (.inr ⟨by kernel_rfl, rfl⟩) HC0.out ?_
  go_frame
  refine wpAnyC_take (i := 17) (fuel := 8) (v := undef) rfl (by kernel_rfl) (by kernel_rfl) (by kernel_rfl) (by kernel_rfl) (fun _ _ _ h => h) (.inr ⟨by kernel_rfl, rfl⟩) HC0.out ?_
  go_frame
  refine wpAnyC_take (i := 18) (fuel := 7) (v := undef) rfl (by kernel_rfl) (by kernel_rfl) (by kernel_rfl) (by kernel_rfl) (fun _ _ _ h => h) (.inr ⟨by kernel_rfl, rfl⟩) HC0.out ?_
  go_frame
  refine wpAnyC_take (i := 19) (fuel := 6) (v := undef) rfl (by kernel_rfl) (by kernel_rfl) (by kernel_rfl) (by kernel_rfl) (fun _ _ _ h => h) (.inr ⟨by kernel_rfl, rfl⟩) HC0.out ?_
  go_frame
  refine wpAnyC_take (i := 20) (fuel := 5) (v := undef) rfl (by kernel_rfl) (by kernel_rfl) (by kernel_rfl) (by kernel_rfl) (fun _ _ _ h => h) (.inr ⟨by kernel_rfl, rfl⟩) HC0.out ?_
  go_frame
  refine wpAnyC_take (i := 21) (fuel := 4) (v := undef) rfl (by kernel_rfl) (by kernel_rfl) (by kernel_rfl) (by kernel_rfl) (fun _ _ _ h => h) (.inr ⟨by kernel_rfl, rfl⟩) HC0.out ?_
  go_frame
  refine wpAnyC_take (i := 22) (fuel := 3) (v := undef) rfl (by kernel_rfl) (by kernel_rfl) (by kernel_rfl) (by kernel_rfl) (fun _ _ _ h => h) (.inr ⟨by kernel_rfl, rfl⟩) HC0.out ?_
  go_frame
  refine wpAnyC_take (i := 23) (fuel := 2) (v := undef) rfl (by kernel_rfl) (by kernel_rfl) (by kernel_rfl) (by kernel_rfl) (fun _ _ _ h => h) (.inr ⟨by kernel_rfl, rfl⟩) HC0.out ?_
  go_frame
  refine wpAnyC_take (i := 24) (fuel := 1) (v := undef) rfl (by kernel_rfl) (by kernel_rfl) (by kernel_rfl) (by kernel_rfl) (fun _ _ _ h => h) (.inr ⟨by kernel_rfl, rfl⟩) HC0.out ?_
  go_frame
  refine wpAnyC_one 25 (fuel := 0) (by kernel_rfl) rfl rfl (fun K7 hK7 => ?_)
  go_wp2
  first | refine ⟨fun _ => HC0.out, ?_⟩ | refine ⟨HC.out wb (Keep.refl _ wb), ?_⟩ | refine ⟨fun _ => HC.out wb (Keep.refl _ wb), ?_⟩
  refine wpAnyC_done (by kernel_rfl) ?_
  exact HQ.out _ _ _ _ _ _ _ _ _ _ _ _ _ _ _ _ _ _ _ _ _ _ _ _ _ _ HKz.out
set_option maxRecDepth 1000000 in
set_option maxHeartbeats 16000000 in
theorem reg47_out {Q : Exit → Act → World → Prop} {wb : World} {n b5 P bb w j x kn ln qc : Nat} {qa : Option Addr} {x10 c1 c4 c21 c22 c23 c24 c25 c26 : Value} {u8 u12 u14 u15 u16 u27 u28 u29 u30 u31 u32 u33 u34 u35 u36 u37 u38 u39 u40 u41 u42 u43 u44 u45 u46 u47 u48 u49 u50 u51 u52 u53 u54 u55 u56 u57 u58 u59 u60 u61 u62 u63 u64 u65 u66 u67 u68 u69 u70 u71 u72 u73 u74 u75 u76 u77 u78 u79 u80 u81 u82 u83 u84 u85 u86 u87 u88 u89 u90 u91 u92 u93 u94 u95 u96 u97 u98 u99 u100 u101 u102 u103 u104 u105 u106 u107 u108 u109 u110 u111 u112 u113 u114 u115 u116 u117 u118 u119 u120 u121 u122 u123 u124 u125 u126 u127 u128 u129 u130 u131 u132 u133 u134 u135 u136 u137 u138 u139 u140 u141 u142 u143 u144 u145 u146 u147 u148 u149 u150 u151 u152 u153 u154 u155 u156 u157 u158 u159 u160 u161 u162 u163 u164 u165 u166 u167 u168 u169 u170 u171 u172 u173 u174 u175 u176 u177 u178 u179 u180 u181 u182 u183 u184 u185 u186 u187 u188 u189 u190 u191 u192 u193 u194 u195 u196 u197 u198 u199 u200 u201 u202 u203 u204 u205 u206 u207 u208 u209 u210 u211 u212 u213 u214 u215 u216 u217 u218 u219 u220 u221 u222 u223 u224 u225 u226 u227 u228 u229 u230 u231 u232 u233 u234 u235 u236 u237 u238 u239 u240 u241 u242 u243 u244 u245 u246 u247 u248 u249 u250 u251 u252 u253 u254 u255 u256 u257 u258 u259 u260 u261 u262 u263 u264 u265 u266 u267 u268 u269 u270 u271 u272 u273 u274 u275 u276 u277 u278 u279 u280 u281 u282 u283 u284 u285 u286 u287 u288 u289 u290 u291 u292 u293 u294 u295 u296 u297 u298 u299 u300 u301 u302 u303 u304 u305 u306 u307 u308 u309 u310 u311 : Value}
    (p1 : wb.cell? ⟨P, w * 5 + 1, none⟩ = some (.int .i64 0)) (p2 : wb.cell? ⟨P, w * 5 + 2, none⟩ = some (.int .i64 (kn : Int))) (b1 : wb.cell? ⟨bb, 1, none⟩ = some (.int .i64 (w : Int))) (b2 : wb.cell? ⟨bb, 2, none⟩ = some (.int .i64 (j : Int))) 
    (hQ : ∀ (z236 z237 z238 z239 z240 z241 z242 z243 z244 z245 z246 z247 z248 z249 z250 z251 z252 z253 z254 z255 z256 z257 z258 z259 z260 : Value) (wx : World), Stil wb wx → Q .normal ⟨#[.int .i64 (n : Int), c1, undef, undef, c4, .pointer (some ⟨b5, 0, none⟩), .slice (some ⟨P, 0, none⟩) n n, .slice qa ln qc, u8, .pointer (some ⟨bb, 0, none⟩), x10, .pointer (some ⟨P, w * 5, none⟩), u12, undef, u14, u15, u16, .int .i64 (x : Int), undef, undef, undef, c21, c22, c23, c24, c25, c26, u27, u28, u29, u30, u31, u32, u33, u34, u35, u36, u37, u38, u39, u40, u41, u42, u43, u44, u45, u46, u47, u48, u49, u50, u51, u52, u53, u54, u55, u56, u57, u58, u59, u60, u61, u62, u63, u64, u65, u66, u67, u68, u69, u70, u71, u72, u73, u74, u75, u76, u77, u78, u79, u80, u81, u82, u83, u84, u85, u86, u87, u88, u89, u90, u91, u92, u93, u94, u95, u96, u97, u98, u99, u100, u101, u102, u103, u104, u105, u106, u107, u108, u109, u110, u111, u112, u113, u114, u115, u116, u117, u118, u119, u120, u121, u122, u123, u124, u125, u126, u127, u128, u129, u130, u131, u132, u133, u134, u135, u136, u137, u138, u139, u140, u141, u142, u143, u144, u145, u146, u147, u148, u149, u150, u151, u152, u153, u154, u155, u156, u157, u158, u159, u160, u161, u162, u163, u164, u165, u166, u167, u168, u169, u170, u171, u172, u173, u174, u175, u176, u177, u178, u179, u180, u181, u182, u183, u184, u185, u186, u187, u188, u189, u190, u191, u192, u193, u194, u195, u196, u197, u198, u199, u200, u201, u202, u203, u204, u205, u206, u207, u208, u209, u210, u211, u212, u213, u214, u215, u216, u217, u218, u219, u220, u221, u222, u223, u224, u225, u226, u227, u228, u229, u230, u231, u232, u233, u234, u235, z236, z237, z238, z239, z240, z241, z242, z243, z244, z245, z246, z247, z248, z249, z250, z251, z252, z253, z254, z255, z256, z257, z258, z259, z260, .bool false, u262, u263, u264, u265, u266, u267, u268, u269, u270, u271, u272, u273, u274, u275, u276, u277, u278, u279, u280, u281, u282, u283, u284, u285, u286, u287, u288, u289, u290, u291, u292, u293, u294, u295, u296, u297, u298, u299, u300, u301, u302, u303, u304, u305, u306, u307, u308, u309, u310, u311, undef, undef, undef, undef, undef, undef, undef, undef, undef, undef, undef, undef, undef, undef, undef, undef, undef, undef, undef, undef, undef, undef, undef, undef, undef, undef, undef, undef, undef, undef, undef, undef], []⟩ wx) :
    Code.wp Try.prog reg47 Q ⟨#[.int .i64 (n : Int), c1, undef, undef, c4, .pointer (some ⟨b5, 0, none⟩), .slice (some ⟨P, 0, none⟩) n n, .slice qa ln qc, u8, .pointer (some ⟨bb, 0, none⟩), x10, .pointer (some ⟨P, w * 5, none⟩), u12, undef, u14, u15, u16, .int .i64 (x : Int), undef, undef, undef, c21, c22, c23, c24, c25, c26, u27, u28, u29, u30, u31, u32, u33, u34, u35, u36, u37, u38, u39, u40, u41, u42, u43, u44, u45, u46, u47, u48, u49, u50, u51, u52, u53, u54, u55, u56, u57, u58, u59, u60, u61, u62, u63, u64, u65, u66, u67, u68, u69, u70, u71, u72, u73, u74, u75, u76, u77, u78, u79, u80, u81, u82, u83, u84, u85, u86, u87, u88, u89, u90, u91, u92, u93, u94, u95, u96, u97, u98, u99, u100, u101, u102, u103, u104, u105, u106, u107, u108, u109, u110, u111, u112, u113, u114, u115, u116, u117, u118, u119, u120, u121, u122, u123, u124, u125, u126, u127, u128, u129, u130, u131, u132, u133, u134, u135, u136, u137, u138, u139, u140, u141, u142, u143, u144, u145, u146, u147, u148, u149, u150, u151, u152, u153, u154, u155, u156, u157, u158, u159, u160, u161, u162, u163, u164, u165, u166, u167, u168, u169, u170, u171, u172, u173, u174, u175, u176, u177, u178, u179, u180, u181, u182, u183, u184, u185, u186, u187, u188, u189, u190, u191, u192, u193, u194, u195, u196, u197, u198, u199, u200, u201, u202, u203, u204, u205, u206, u207, u208, u209, u210, u211, u212, u213, u214, u215, u216, u217, u218, u219, u220, u221, u222, u223, u224, u225, u226, u227, u228, u229, u230, u231, u232, u233, u234, u235, u236, u237, u238, u239, u240, u241, u242, u243, u244, u245, u246, u247, u248, u249, u250, u251, u252, u253, u254, u255, u256, u257, u258, u259, u260, u261, u262, u263, u264, u265, u266, u267, u268, u269, u270, u271, u272, u273, u274, u275, u276, u277, u278, u279, u280, u281, u282, u283, u284, u285, u286, u287, u288, u289, u290, u291, u292, u293, u294, u295, u296, u297, u298, u299, u300, u301, u302, u303, u304, u305, u306, u307, u308, u309, u310, u311, undef, undef, undef, undef, undef, undef, undef, undef, undef, undef, undef, undef, undef, undef, undef, undef, undef, undef, undef, undef, undef, undef, undef, undef, undef, undef, undef, undef, undef, undef, undef, undef], []⟩ wb := by
  refine Code.wp_mono onlyN_imp ?_
  have HQ := hidMk hQ
  clear hQ
  conv => arg 2; whnf
  have HC : Hid (∀ w9, Stil wb w9 → (fun w' => w'.cell? ⟨P, w * 5 + 1, none⟩ = some (.int .i64 0) ∧ w'.cell? ⟨P, w * 5 + 2, none⟩ = some (.int .i64 (kn : Int)) ∧ w'.cell? ⟨bb, 1, none⟩ = some (.int .i64 (w : Int)) ∧ w'.cell? ⟨bb, 2, none⟩ = some (.int .i64 (j : Int))) w9) := fun w9 h9 => ⟨h9.cell p1, h9.cell p2, h9.cell b1, h9.cell b2⟩
  have HC0 := hidMk (HC.out _ (stilDrew wb))
  have HKz := hidMk (stilDrew wb)
  clear p1 p2 b1 b2
  refine wp_region_class (fun w' => w'.cell? ⟨P, w * 5 + 1, none⟩ = some (.int .i64 0) ∧ w'.cell? ⟨P, w * 5 + 2, none⟩ = some (.int .i64 (kn : Int)) ∧ w'.cell? ⟨bb, 1, none⟩ = some (.int .i64 (w : Int)) ∧ w'.cell? ⟨bb, 2, none⟩ = some (.int .i64 (j : Int))) 26 (by kernel_rfl) ?_
  refine wpAnyC_take (i := 0) (fuel := 25) (v := .pointer (some ⟨P, w * 5, none⟩)) rfl (by kernel_rfl) (by kernel_rfl) (by kernel_rfl) (by kernel_rfl) (fun _ _ _ h => h) (.inl ⟨by kernel_rfl, fun w' hC => by obtain ⟨y1, y2, y3, y4⟩ := hC; go_simp⟩) HC0.out ?_
  go_frame
  refine wpAnyC_take (i := 1) (fuel := 24) (v := .pointer (some ⟨P, w * 5, none⟩)) rfl (by kernel_rfl) (by kernel_rfl) (by kernel_rfl) (by kernel_rfl) (fun _ _ _ h => h) (.inl ⟨by kernel_rfl, fun w' hC => by obtain ⟨y1, y2, y3, y4⟩ := hC; go_simp⟩) HC0.out ?_
  go_frame
  refine wpAnyC_take (i := 2) (fuel := 23) (v := .pointer (some ⟨P, w * 5 + 1, none⟩)) rfl (by kernel_rfl) (by kernel_rfl) (by kernel_rfl) (by kernel_rfl) (fun _ _ _ h => h) (.inl ⟨by kernel_rfl, fun w' hC => by obtain ⟨y1, y2, y3, y4⟩ := hC; go_simp⟩) HC0.out ?_
  go_frame
  refine wpAnyC_take (i := 3) (fuel := 22) (v := .int .i64 0) rfl (by kernel_rfl) (by kernel_rfl) (by kernel_rfl) (by kernel_rfl) (fun _ _ _ h => h) (.inl ⟨by kernel_rfl, fun w' hC => by obtain ⟨y1, y2, y3, y4⟩ := hC; go_simp⟩) HC0.out ?_
  go_frame
  refine wpAnyC_take (i := 4) (fuel := 21) (v := .bool false) rfl (by kernel_rfl) (by kernel_rfl) (by kernel_rfl) (by kernel_rfl) (fun _ _ _ h => h) (.inl ⟨by kernel_rfl, fun w' hC => by obtain ⟨y1, y2, y3, y4⟩ := hC; go_simp⟩) HC0.out ?_
  go_frame
  refine wpAnyC_take (i := 5) (fuel := 20) (v := .bool false) rfl (by kernel_rfl) (by kernel_rfl) (by kernel_rfl) (by kernel_rfl) (fun _ _ _ h => h) (.inl ⟨by kernel_rfl, fun w' hC => by obtain ⟨y1, y2, y3, y4⟩ := hC; go_simp⟩) HC0.out ?_
  go_frame
  refine wpAnyC_take (i := 6) (fuel := 19) (v := .pointer (some ⟨P, w * 5, none⟩)) rfl (by kernel_rfl) (by kernel_rfl) (by kernel_rfl) (by kernel_rfl) (fun _ _ _ h => h) (.inl ⟨by kernel_rfl, fun w' hC => by obtain ⟨y1, y2, y3, y4⟩ := hC; go_simp⟩) HC0.out ?_
  go_frame
  refine wpAnyC_take (i := 7) (fuel := 18) (v := .pointer (some ⟨P, w * 5, none⟩)) rfl (by kernel_rfl) (by kernel_rfl) (by kernel_rfl) (by kernel_rfl) (fun _ _ _ h => h) (.inl ⟨by kernel_rfl, fun w' hC => by obtain ⟨y1, y2, y3, y4⟩ := hC; go_simp⟩) HC0.out ?_
  go_frame
  refine wpAnyC_take (i := 8) (fuel := 17) (v := .pointer (some ⟨P, w * 5 + 1, none⟩)) rfl (by kernel_rfl) (by kernel_rfl) (by kernel_rfl) (by kernel_rfl) (fun _ _ _ h => h) (.inl ⟨by kernel_rfl, fun w' hC => by obtain ⟨y1, y2, y3, y4⟩ := hC; go_simp⟩) HC0.out ?_
  go_frame
  refine wpAnyC_take (i := 9) (fuel := 16) (v := .int .i64 0) rfl (by kernel_rfl) (by kernel_rfl) (by kernel_rfl) (by kernel_rfl) (fun _ _ _ h => h) (.inl ⟨by kernel_rfl, fun w' hC => by obtain ⟨y1, y2, y3, y4⟩ := hC; go_simp⟩) HC0.out ?_
  go_frame
  refine wpAnyC_take (i := 10) (fuel := 15) (v := .bool false) rfl (by kernel_rfl) (by kernel_rfl) (by kernel_rfl) (by kernel_rfl) (fun _ _ _ h => h) (.inl ⟨by kernel_rfl, fun w' hC => by obtain ⟨y1, y2, y3, y4⟩ := hC; go_simp⟩) HC0.out ?_
  go_frame
  refine wpAnyC_take (i := 11) (fuel := 14) (v := .bool false) rfl (by kernel_rfl) (by kernel_rfl) (by kernel_rfl) (by kernel_rfl) (fun _ _ _ h => h) (.inl ⟨by kernel_rfl, fun w' hC => by obtain ⟨y1, y2, y3, y4⟩ := hC; go_simp⟩) HC0.out ?_
  go_frame
  refine wpAnyC_take (i := 12) (fuel := 13) (v := undef) rfl (by kernel_rfl) (by kernel_rfl) (by kernel_rfl) (by kernel_rfl) (fun _ _ _ h => h) (.inr ⟨by kernel_rfl, rfl⟩) HC0.out ?_
  go_frame
  refine wpAnyC_take (i := 13) (fuel := 12) (v := undef) rfl (by kernel_rfl) (by kernel_rfl) (by kernel_rfl) (by kernel_rfl) (fun _ _ _ h => h) (.inr ⟨by kernel_rfl, rfl⟩) HC0.out ?_
  go_frame
  refine wpAnyC_take (i := 14) (fuel := 11) (v := undef) rfl (by kernel_rfl) (by kernel_rfl) (by kernel_rfl) (by kernel_rfl) (fun _ _ _ h => h) (.inr ⟨by kernel_rfl, rfl⟩) HC0.out ?_
  go_frame
  refine wpAnyC_take (i := 15) (fuel := 10) (v := undef) rfl (by kernel_rfl) (by kernel_rfl) (by kernel_rfl) (by kernel_rfl) (fun _ _ _ h => h) (.inr ⟨by kernel_rfl, rfl⟩) HC0.out ?_
  go_frame
  refine wpAnyC_take (i := 16) (fuel := 9) (v := undef) rfl (by kernel_rfl) (by kernel_rfl) (by kernel_rfl) (by kernel_rfl) (fun _ _ _ h => h) (.inr ⟨by kernel_rfl, rfl⟩) HC0.out ?_
  go_frame
  refine wpAnyC_take (i := 17) (fuel := 8) (v := undef) rfl (by kernel_rfl) (by kernel_rfl) (by kernel_rfl) (by kernel_rfl) (fun _ _ _ h => h) (.inr ⟨by kernel_rfl, rfl⟩) HC0.out ?_
  go_frame
  refine wpAnyC_take (i := 18) (fuel := 7) (v := undef) rfl (by kernel_rfl) (by kernel_rfl) (by kernel_rfl) (by kernel_rfl) (fun _ _ _ h => h) (.inr ⟨by kernel_rfl, rfl⟩) HC0.out ?_
  go_frame
  refine wpAnyC_take (i := 19) (fuel := 6) (v := undef) rfl (by kernel_rfl) (by kernel_rfl) (by kernel_rfl) (by kernel_rfl) (fun _ _ _ h => h) (.inr ⟨by kernel_rfl, rfl⟩) HC0.out ?_
  go_frame
  refine wpAnyC_take (i := 20) (fuel := 5) (v := undef) rfl (by kernel_rfl) (by kernel_rfl) (by kernel_rfl) (by kernel_rfl) (fun _ _ _ h => h) (.inr ⟨by kernel_rfl, rfl⟩) HC0.out ?_
  go_frame
  refine wpAnyC_take (i := 21) (fuel := 4) (v := undef) rfl (by kernel_rfl) (by kernel_rfl) (by kernel_rfl) (by kernel_rfl) (fun _ _ _ h => h) (.inr ⟨by kernel_rfl, rfl⟩) HC0.out ?_
  go_frame
  refine wpAnyC_take (i := 22) (fuel := 3) (v := undef) rfl (by kernel_rfl) (by kernel_rfl) (by kernel_rfl) (by kernel_rfl) (fun _ _ _ h => h) (.inr ⟨by kernel_rfl, rfl⟩) HC0.out ?_
  go_frame
  refine wpAnyC_take (i := 23) (fuel := 2) (v := undef) rfl (by kernel_rfl) (by kernel_rfl) (by kernel_rfl) (by kernel_rfl) (fun _ _ _ h => h) (.inr ⟨by kernel_rfl, rfl⟩) HC0.out ?_
  go_frame
  refine wpAnyC_take (i := 24) (fuel := 1) (v := .bool false) rfl (by kernel_rfl) (by kernel_rfl) (by kernel_rfl) (by kernel_rfl) (fun _ _ _ h => h) (.inl ⟨by kernel_rfl, fun w' hC => by obtain ⟨y1, y2, y3, y4⟩ := hC; go_simp⟩) HC0.out ?_
  go_frame
  refine wpAnyC_one 25 (fuel := 0) (by kernel_rfl) rfl rfl (fun K7 hK7 => ?_)
  go_wp2
  first | refine ⟨fun _ => HC0.out, ?_⟩ | refine ⟨HC.out wb (Keep.refl _ wb), ?_⟩ | refine ⟨fun _ => HC.out wb (Keep.refl _ wb), ?_⟩
  refine wpAnyC_done (by kernel_rfl) ?_
  exact HQ.out _ _ _ _ _ _ _ _ _ _ _ _ _ _ _ _ _ _ _ _ _ _ _ _ _ _ HKz.out
set_option maxRecDepth 1000000 in
set_option maxHeartbeats 16000000 in
theorem reg47_yes {Q : Exit → Act → World → Prop} {wb : World} {n b5 P bb w j x kn ln qc : Nat} {qa : Option Addr} {x10 c1 c4 c21 c22 c23 c24 c25 c26 : Value} {u8 u12 u14 u15 u16 u27 u28 u29 u30 u31 u32 u33 u34 u35 u36 u37 u38 u39 u40 u41 u42 u43 u44 u45 u46 u47 u48 u49 u50 u51 u52 u53 u54 u55 u56 u57 u58 u59 u60 u61 u62 u63 u64 u65 u66 u67 u68 u69 u70 u71 u72 u73 u74 u75 u76 u77 u78 u79 u80 u81 u82 u83 u84 u85 u86 u87 u88 u89 u90 u91 u92 u93 u94 u95 u96 u97 u98 u99 u100 u101 u102 u103 u104 u105 u106 u107 u108 u109 u110 u111 u112 u113 u114 u115 u116 u117 u118 u119 u120 u121 u122 u123 u124 u125 u126 u127 u128 u129 u130 u131 u132 u133 u134 u135 u136 u137 u138 u139 u140 u141 u142 u143 u144 u145 u146 u147 u148 u149 u150 u151 u152 u153 u154 u155 u156 u157 u158 u159 u160 u161 u162 u163 u164 u165 u166 u167 u168 u169 u170 u171 u172 u173 u174 u175 u176 u177 u178 u179 u180 u181 u182 u183 u184 u185 u186 u187 u188 u189 u190 u191 u192 u193 u194 u195 u196 u197 u198 u199 u200 u201 u202 u203 u204 u205 u206 u207 u208 u209 u210 u211 u212 u213 u214 u215 u216 u217 u218 u219 u220 u221 u222 u223 u224 u225 u226 u227 u228 u229 u230 u231 u232 u233 u234 u235 u236 u237 u238 u239 u240 u241 u242 u243 u244 u245 u246 u247 u248 u249 u250 u251 u252 u253 u254 u255 u256 u257 u258 u259 u260 u261 u262 u263 u264 u265 u266 u267 u268 u269 u270 u271 u272 u273 u274 u275 u276 u277 u278 u279 u280 u281 u282 u283 u284 u285 u286 u287 u288 u289 u290 u291 u292 u293 u294 u295 u296 u297 u298 u299 u300 u301 u302 u303 u304 u305 u306 u307 u308 u309 u310 u311 : Value}
    (p1 : wb.cell? ⟨P, w * 5 + 1, none⟩ = some (.int .i64 1)) (p2 : wb.cell? ⟨P, w * 5 + 2, none⟩ = some (.int .i64 (kn : Int))) (b1 : wb.cell? ⟨bb, 1, none⟩ = some (.int .i64 (w : Int))) (b2 : wb.cell? ⟨bb, 2, none⟩ = some (.int .i64 (j : Int))) (hlt : mlt kn w x j = true)
    (hQ : ∀ (z236 z237 z238 z239 z240 z241 z242 z243 z244 z245 z246 z247 z248 z249 z250 z251 z252 z253 z254 z255 z256 z257 z258 z259 z260 : Value) (wx : World), Stil wb wx → Q .normal ⟨#[.int .i64 (n : Int), c1, undef, undef, c4, .pointer (some ⟨b5, 0, none⟩), .slice (some ⟨P, 0, none⟩) n n, .slice qa ln qc, u8, .pointer (some ⟨bb, 0, none⟩), x10, .pointer (some ⟨P, w * 5, none⟩), u12, undef, u14, u15, u16, .int .i64 (x : Int), undef, undef, undef, c21, c22, c23, c24, c25, c26, u27, u28, u29, u30, u31, u32, u33, u34, u35, u36, u37, u38, u39, u40, u41, u42, u43, u44, u45, u46, u47, u48, u49, u50, u51, u52, u53, u54, u55, u56, u57, u58, u59, u60, u61, u62, u63, u64, u65, u66, u67, u68, u69, u70, u71, u72, u73, u74, u75, u76, u77, u78, u79, u80, u81, u82, u83, u84, u85, u86, u87, u88, u89, u90, u91, u92, u93, u94, u95, u96, u97, u98, u99, u100, u101, u102, u103, u104, u105, u106, u107, u108, u109, u110, u111, u112, u113, u114, u115, u116, u117, u118, u119, u120, u121, u122, u123, u124, u125, u126, u127, u128, u129, u130, u131, u132, u133, u134, u135, u136, u137, u138, u139, u140, u141, u142, u143, u144, u145, u146, u147, u148, u149, u150, u151, u152, u153, u154, u155, u156, u157, u158, u159, u160, u161, u162, u163, u164, u165, u166, u167, u168, u169, u170, u171, u172, u173, u174, u175, u176, u177, u178, u179, u180, u181, u182, u183, u184, u185, u186, u187, u188, u189, u190, u191, u192, u193, u194, u195, u196, u197, u198, u199, u200, u201, u202, u203, u204, u205, u206, u207, u208, u209, u210, u211, u212, u213, u214, u215, u216, u217, u218, u219, u220, u221, u222, u223, u224, u225, u226, u227, u228, u229, u230, u231, u232, u233, u234, u235, z236, z237, z238, z239, z240, z241, z242, z243, z244, z245, z246, z247, z248, z249, z250, z251, z252, z253, z254, z255, z256, z257, z258, z259, z260, .bool true, u262, u263, u264, u265, u266, u267, u268, u269, u270, u271, u272, u273, u274, u275, u276, u277, u278, u279, u280, u281, u282, u283, u284, u285, u286, u287, u288, u289, u290, u291, u292, u293, u294, u295, u296, u297, u298, u299, u300, u301, u302, u303, u304, u305, u306, u307, u308, u309, u310, u311, undef, undef, undef, undef, undef, undef, undef, undef, undef, undef, undef, undef, undef, undef, undef, undef, undef, undef, undef, undef, undef, undef, undef, undef, undef, undef, undef, undef, undef, undef, undef, undef], []⟩ wx) :
    Code.wp Try.prog reg47 Q ⟨#[.int .i64 (n : Int), c1, undef, undef, c4, .pointer (some ⟨b5, 0, none⟩), .slice (some ⟨P, 0, none⟩) n n, .slice qa ln qc, u8, .pointer (some ⟨bb, 0, none⟩), x10, .pointer (some ⟨P, w * 5, none⟩), u12, undef, u14, u15, u16, .int .i64 (x : Int), undef, undef, undef, c21, c22, c23, c24, c25, c26, u27, u28, u29, u30, u31, u32, u33, u34, u35, u36, u37, u38, u39, u40, u41, u42, u43, u44, u45, u46, u47, u48, u49, u50, u51, u52, u53, u54, u55, u56, u57, u58, u59, u60, u61, u62, u63, u64, u65, u66, u67, u68, u69, u70, u71, u72, u73, u74, u75, u76, u77, u78, u79, u80, u81, u82, u83, u84, u85, u86, u87, u88, u89, u90, u91, u92, u93, u94, u95, u96, u97, u98, u99, u100, u101, u102, u103, u104, u105, u106, u107, u108, u109, u110, u111, u112, u113, u114, u115, u116, u117, u118, u119, u120, u121, u122, u123, u124, u125, u126, u127, u128, u129, u130, u131, u132, u133, u134, u135, u136, u137, u138, u139, u140, u141, u142, u143, u144, u145, u146, u147, u148, u149, u150, u151, u152, u153, u154, u155, u156, u157, u158, u159, u160, u161, u162, u163, u164, u165, u166, u167, u168, u169, u170, u171, u172, u173, u174, u175, u176, u177, u178, u179, u180, u181, u182, u183, u184, u185, u186, u187, u188, u189, u190, u191, u192, u193, u194, u195, u196, u197, u198, u199, u200, u201, u202, u203, u204, u205, u206, u207, u208, u209, u210, u211, u212, u213, u214, u215, u216, u217, u218, u219, u220, u221, u222, u223, u224, u225, u226, u227, u228, u229, u230, u231, u232, u233, u234, u235, u236, u237, u238, u239, u240, u241, u242, u243, u244, u245, u246, u247, u248, u249, u250, u251, u252, u253, u254, u255, u256, u257, u258, u259, u260, u261, u262, u263, u264, u265, u266, u267, u268, u269, u270, u271, u272, u273, u274, u275, u276, u277, u278, u279, u280, u281, u282, u283, u284, u285, u286, u287, u288, u289, u290, u291, u292, u293, u294, u295, u296, u297, u298, u299, u300, u301, u302, u303, u304, u305, u306, u307, u308, u309, u310, u311, undef, undef, undef, undef, undef, undef, undef, undef, undef, undef, undef, undef, undef, undef, undef, undef, undef, undef, undef, undef, undef, undef, undef, undef, undef, undef, undef, undef, undef, undef, undef, undef], []⟩ wb := by
  refine Code.wp_mono onlyN_imp ?_
  have HQ := hidMk hQ
  clear hQ
  conv => arg 2; whnf
  have HC : Hid (∀ w9, Stil wb w9 → (fun w' => w'.cell? ⟨P, w * 5 + 1, none⟩ = some (.int .i64 1) ∧ w'.cell? ⟨P, w * 5 + 2, none⟩ = some (.int .i64 (kn : Int)) ∧ w'.cell? ⟨bb, 1, none⟩ = some (.int .i64 (w : Int)) ∧ w'.cell? ⟨bb, 2, none⟩ = some (.int .i64 (j : Int))) w9) := fun w9 h9 => ⟨h9.cell p1, h9.cell p2, h9.cell b1, h9.cell b2⟩
  have HC0 := hidMk (HC.out _ (stilDrew wb))
  have HKz := hidMk (stilDrew wb)
  clear p1 p2 b1 b2
  refine wp_region_class (fun w' => w'.cell? ⟨P, w * 5 + 1, none⟩ = some (.int .i64 1) ∧ w'.cell? ⟨P, w * 5 + 2, none⟩ = some (.int .i64 (kn : Int)) ∧ w'.cell? ⟨bb, 1, none⟩ = some (.int .i64 (w : Int)) ∧ w'.cell? ⟨bb, 2, none⟩ = some (.int .i64 (j : Int))) 26 (by kernel_rfl) ?_
  refine wpAnyC_take (i := 0) (fuel := 25) (v := .pointer (some ⟨P, w * 5, none⟩)) rfl (by kernel_rfl) (by kernel_rfl) (by kernel_rfl) (by kernel_rfl) (fun _ _ _ h => h) (.inl ⟨by kernel_rfl, fun w' hC => by obtain ⟨y1, y2, y3, y4⟩ := hC; go_simp⟩) HC0.out ?_
  go_frame
  refine wpAnyC_take (i := 1) (fuel := 24) (v := .pointer (some ⟨P, w * 5, none⟩)) rfl (by kernel_rfl) (by kernel_rfl) (by kernel_rfl) (by kernel_rfl) (fun _ _ _ h => h) (.inl ⟨by kernel_rfl, fun w' hC => by obtain ⟨y1, y2, y3, y4⟩ := hC; go_simp⟩) HC0.out ?_
  go_frame
  refine wpAnyC_take (i := 2) (fuel := 23) (v := .pointer (some ⟨P, w * 5 + 1, none⟩)) rfl (by kernel_rfl) (by kernel_rfl) (by kernel_rfl) (by kernel_rfl) (fun _ _ _ h => h) (.inl ⟨by kernel_rfl, fun w' hC => by obtain ⟨y1, y2, y3, y4⟩ := hC; go_simp⟩) HC0.out ?_
  go_frame
  refine wpAnyC_take (i := 3) (fuel := 22) (v := .int .i64 1) rfl (by kernel_rfl) (by kernel_rfl) (by kernel_rfl) (by kernel_rfl) (fun _ _ _ h => h) (.inl ⟨by kernel_rfl, fun w' hC => by obtain ⟨y1, y2, y3, y4⟩ := hC; go_simp⟩) HC0.out ?_
  go_frame
  refine wpAnyC_take (i := 4) (fuel := 21) (v := .bool false) rfl (by kernel_rfl) (by kernel_rfl) (by kernel_rfl) (by kernel_rfl) (fun _ _ _ h => h) (.inl ⟨by kernel_rfl, fun w' hC => by obtain ⟨y1, y2, y3, y4⟩ := hC; go_simp⟩) HC0.out ?_
  go_frame
  refine wpAnyC_take (i := 5) (fuel := 20) (v := .bool false) rfl (by kernel_rfl) (by kernel_rfl) (by kernel_rfl) (by kernel_rfl) (fun _ _ _ h => h) (.inl ⟨by kernel_rfl, fun w' hC => by obtain ⟨y1, y2, y3, y4⟩ := hC; go_simp⟩) HC0.out ?_
  go_frame
  refine wpAnyC_take (i := 6) (fuel := 19) (v := .pointer (some ⟨P, w * 5, none⟩)) rfl (by kernel_rfl) (by kernel_rfl) (by kernel_rfl) (by kernel_rfl) (fun _ _ _ h => h) (.inl ⟨by kernel_rfl, fun w' hC => by obtain ⟨y1, y2, y3, y4⟩ := hC; go_simp⟩) HC0.out ?_
  go_frame
  refine wpAnyC_take (i := 7) (fuel := 18) (v := .pointer (some ⟨P, w * 5, none⟩)) rfl (by kernel_rfl) (by kernel_rfl) (by kernel_rfl) (by kernel_rfl) (fun _ _ _ h => h) (.inl ⟨by kernel_rfl, fun w' hC => by obtain ⟨y1, y2, y3, y4⟩ := hC; go_simp⟩) HC0.out ?_
  go_frame
  refine wpAnyC_take (i := 8) (fuel := 17) (v := .pointer (some ⟨P, w * 5 + 1, none⟩)) rfl (by kernel_rfl) (by kernel_rfl) (by kernel_rfl) (by kernel_rfl) (fun _ _ _ h => h) (.inl ⟨by kernel_rfl, fun w' hC => by obtain ⟨y1, y2, y3, y4⟩ := hC; go_simp⟩) HC0.out ?_
  go_frame
  refine wpAnyC_take (i := 9) (fuel := 16) (v := .int .i64 1) rfl (by kernel_rfl) (by kernel_rfl) (by kernel_rfl) (by kernel_rfl) (fun _ _ _ h => h) (.inl ⟨by kernel_rfl, fun w' hC => by obtain ⟨y1, y2, y3, y4⟩ := hC; go_simp⟩) HC0.out ?_
  go_frame
  refine wpAnyC_take (i := 10) (fuel := 15) (v := .bool true) rfl (by kernel_rfl) (by kernel_rfl) (by kernel_rfl) (by kernel_rfl) (fun _ _ _ h => h) (.inl ⟨by kernel_rfl, fun w' hC => by obtain ⟨y1, y2, y3, y4⟩ := hC; go_simp⟩) HC0.out ?_
  go_frame
  refine wpAnyC_take (i := 11) (fuel := 14) (v := .bool true) rfl (by kernel_rfl) (by kernel_rfl) (by kernel_rfl) (by kernel_rfl) (fun _ _ _ h => h) (.inl ⟨by kernel_rfl, fun w' hC => by obtain ⟨y1, y2, y3, y4⟩ := hC; go_simp⟩) HC0.out ?_
  go_frame
  refine wpAnyC_take (i := 12) (fuel := 13) (v := .pointer (some ⟨P, w * 5, none⟩)) rfl (by kernel_rfl) (by kernel_rfl) (by kernel_rfl) (by kernel_rfl) (fun _ _ _ h => h) (.inl ⟨by kernel_rfl, fun w' hC => by obtain ⟨y1, y2, y3, y4⟩ := hC; go_simp⟩) HC0.out ?_
  go_frame
  refine wpAnyC_take (i := 13) (fuel := 12) (v := .pointer (some ⟨P, w * 5, none⟩)) rfl (by kernel_rfl) (by kernel_rfl) (by kernel_rfl) (by kernel_rfl) (fun _ _ _ h => h) (.inl ⟨by kernel_rfl, fun w' hC => by obtain ⟨y1, y2, y3, y4⟩ := hC; go_simp⟩) HC0.out ?_
  go_frame
  refine wpAnyC_take (i := 14) (fuel := 11) (v := .pointer (some ⟨P, w * 5 + 2, none⟩)) rfl (by kernel_rfl) (by kernel_rfl) (by kernel_rfl) (by kernel_rfl) (fun _ _ _ h => h) (.inl ⟨by kernel_rfl, fun w' hC => by obtain ⟨y1, y2, y3, y4⟩ := hC; go_simp⟩) HC0.out ?_
  go_frame
  refine wpAnyC_take (i := 15) (fuel := 10) (v := .int .i64 (kn : Int)) rfl (by kernel_rfl) (by kernel_rfl) (by kernel_rfl) (by kernel_rfl) (fun _ _ _ h => h) (.inl ⟨by kernel_rfl, fun w' hC => by obtain ⟨y1, y2, y3, y4⟩ := hC; go_simp⟩) HC0.out ?_
  go_frame
  refine wpAnyC_take (i := 16) (fuel := 9) (v := .pointer (some ⟨bb, 1, none⟩)) rfl (by kernel_rfl) (by kernel_rfl) (by kernel_rfl) (by kernel_rfl) (fun _ _ _ h => h) (.inl ⟨by kernel_rfl, fun w' hC => by obtain ⟨y1, y2, y3, y4⟩ := hC; go_simp⟩) HC0.out ?_
  go_frame
  refine wpAnyC_take (i := 17) (fuel := 8) (v := .int .i64 (w : Int)) rfl (by kernel_rfl) (by kernel_rfl) (by kernel_rfl) (by kernel_rfl) (fun _ _ _ h => h) (.inl ⟨by kernel_rfl, fun w' hC => by obtain ⟨y1, y2, y3, y4⟩ := hC; go_simp⟩) HC0.out ?_
  go_frame
  refine wpAnyC_take (i := 18) (fuel := 7) (v := .agg #[.int .i64 (kn : Int), .int .i64 (w : Int)]) rfl (by kernel_rfl) (by kernel_rfl) (by kernel_rfl) (by kernel_rfl) (fun _ _ _ h => h) (.inl ⟨by kernel_rfl, fun w' hC => by obtain ⟨y1, y2, y3, y4⟩ := hC; go_simp⟩) HC0.out ?_
  go_frame
  refine wpAnyC_take (i := 19) (fuel := 6) (v := .int .i64 (x : Int)) rfl (by kernel_rfl) (by kernel_rfl) (by kernel_rfl) (by kernel_rfl) (fun _ _ _ h => h) (.inl ⟨by kernel_rfl, fun w' hC => by obtain ⟨y1, y2, y3, y4⟩ := hC; go_simp⟩) HC0.out ?_
  go_frame
  refine wpAnyC_take (i := 20) (fuel := 5) (v := .pointer (some ⟨bb, 2, none⟩)) rfl (by kernel_rfl) (by kernel_rfl) (by kernel_rfl) (by kernel_rfl) (fun _ _ _ h => h) (.inl ⟨by kernel_rfl, fun w' hC => by obtain ⟨y1, y2, y3, y4⟩ := hC; go_simp⟩) HC0.out ?_
  go_frame
  refine wpAnyC_take (i := 21) (fuel := 4) (v := .int .i64 (j : Int)) rfl (by kernel_rfl) (by kernel_rfl) (by kernel_rfl) (by kernel_rfl) (fun _ _ _ h => h) (.inl ⟨by kernel_rfl, fun w' hC => by obtain ⟨y1, y2, y3, y4⟩ := hC; go_simp⟩) HC0.out ?_
  go_frame
  refine wpAnyC_take (i := 22) (fuel := 3) (v := .agg #[.int .i64 (x : Int), .int .i64 (j : Int)]) rfl (by kernel_rfl) (by kernel_rfl) (by kernel_rfl) (by kernel_rfl) (fun _ _ _ h => h) (.inl ⟨by kernel_rfl, fun w' hC => by obtain ⟨y1, y2, y3, y4⟩ := hC; go_simp⟩) HC0.out ?_
  go_frame
  refine wpAnyC_one_g 23 (fuel := 2) (by kernel_rfl) rfl (by kernel_rfl) (fun K4 hK4 => ?_)
  go_wp2_with (go_at_call 12; refine (less_ref wb.drew kn w x j).mono ?_; rintro e w9 ⟨rfl, hk9⟩)
  try rw [hlt]
  refine ⟨fun _ => HC.out _ ((stilDrew wb).tr hk9), ?_⟩
  refine wpAnyC_take (i := 24) (fuel := 1) (v := .bool true) rfl (by kernel_rfl) (by kernel_rfl) (by kernel_rfl) (by kernel_rfl) (fun _ _ _ h => h) (.inl ⟨by kernel_rfl, fun w' hC => by obtain ⟨y1, y2, y3, y4⟩ := hC; go_simp⟩) (HC.out _ ((stilDrew wb).tr hk9)) ?_
  go_frame
  refine wpAnyC_one 25 (fuel := 0) (by kernel_rfl) rfl rfl (fun K7 hK7 => ?_)
  go_wp2
  first | refine ⟨fun _ => (HC.out _ ((stilDrew wb).tr hk9)), ?_⟩ | refine ⟨HC.out wb (Keep.refl _ wb), ?_⟩ | refine ⟨fun _ => HC.out wb (Keep.refl _ wb), ?_⟩
  refine wpAnyC_done (by kernel_rfl) ?_
  exact HQ.out _ _ _ _ _ _ _ _ _ _ _ _ _ _ _ _ _ _ _ _ _ _ _ _ _ _ ((stilDrew wb).tr hk9)
set_option maxRecDepth 1000000 in
set_option maxHeartbeats 16000000 in
theorem reg47_no {Q : Exit → Act → World → Prop} {wb : World} {n b5 P bb w j x kn ln qc : Nat} {qa : Option Addr} {x10 c1 c4 c21 c22 c23 c24 c25 c26 : Value} {u8 u12 u14 u15 u16 u27 u28 u29 u30 u31 u32 u33 u34 u35 u36 u37 u38 u39 u40 u41 u42 u43 u44 u45 u46 u47 u48 u49 u50 u51 u52 u53 u54 u55 u56 u57 u58 u59 u60 u61 u62 u63 u64 u65 u66 u67 u68 u69 u70 u71 u72 u73 u74 u75 u76 u77 u78 u79 u80 u81 u82 u83 u84 u85 u86 u87 u88 u89 u90 u91 u92 u93 u94 u95 u96 u97 u98 u99 u100 u101 u102 u103 u104 u105 u106 u107 u108 u109 u110 u111 u112 u113 u114 u115 u116 u117 u118 u119 u120 u121 u122 u123 u124 u125 u126 u127 u128 u129 u130 u131 u132 u133 u134 u135 u136 u137 u138 u139 u140 u141 u142 u143 u144 u145 u146 u147 u148 u149 u150 u151 u152 u153 u154 u155 u156 u157 u158 u159 u160 u161 u162 u163 u164 u165 u166 u167 u168 u169 u170 u171 u172 u173 u174 u175 u176 u177 u178 u179 u180 u181 u182 u183 u184 u185 u186 u187 u188 u189 u190 u191 u192 u193 u194 u195 u196 u197 u198 u199 u200 u201 u202 u203 u204 u205 u206 u207 u208 u209 u210 u211 u212 u213 u214 u215 u216 u217 u218 u219 u220 u221 u222 u223 u224 u225 u226 u227 u228 u229 u230 u231 u232 u233 u234 u235 u236 u237 u238 u239 u240 u241 u242 u243 u244 u245 u246 u247 u248 u249 u250 u251 u252 u253 u254 u255 u256 u257 u258 u259 u260 u261 u262 u263 u264 u265 u266 u267 u268 u269 u270 u271 u272 u273 u274 u275 u276 u277 u278 u279 u280 u281 u282 u283 u284 u285 u286 u287 u288 u289 u290 u291 u292 u293 u294 u295 u296 u297 u298 u299 u300 u301 u302 u303 u304 u305 u306 u307 u308 u309 u310 u311 : Value}
    (p1 : wb.cell? ⟨P, w * 5 + 1, none⟩ = some (.int .i64 1)) (p2 : wb.cell? ⟨P, w * 5 + 2, none⟩ = some (.int .i64 (kn : Int))) (b1 : wb.cell? ⟨bb, 1, none⟩ = some (.int .i64 (w : Int))) (b2 : wb.cell? ⟨bb, 2, none⟩ = some (.int .i64 (j : Int))) (hlt : mlt kn w x j = false)
    (hQ : ∀ (z236 z237 z238 z239 z240 z241 z242 z243 z244 z245 z246 z247 z248 z249 z250 z251 z252 z253 z254 z255 z256 z257 z258 z259 z260 : Value) (wx : World), Stil wb wx → Q .normal ⟨#[.int .i64 (n : Int), c1, undef, undef, c4, .pointer (some ⟨b5, 0, none⟩), .slice (some ⟨P, 0, none⟩) n n, .slice qa ln qc, u8, .pointer (some ⟨bb, 0, none⟩), x10, .pointer (some ⟨P, w * 5, none⟩), u12, undef, u14, u15, u16, .int .i64 (x : Int), undef, undef, undef, c21, c22, c23, c24, c25, c26, u27, u28, u29, u30, u31, u32, u33, u34, u35, u36, u37, u38, u39, u40, u41, u42, u43, u44, u45, u46, u47, u48, u49, u50, u51, u52, u53, u54, u55, u56, u57, u58, u59, u60, u61, u62, u63, u64, u65, u66, u67, u68, u69, u70, u71, u72, u73, u74, u75, u76, u77, u78, u79, u80, u81, u82, u83, u84, u85, u86, u87, u88, u89, u90, u91, u92, u93, u94, u95, u96, u97, u98, u99, u100, u101, u102, u103, u104, u105, u106, u107, u108, u109, u110, u111, u112, u113, u114, u115, u116, u117, u118, u119, u120, u121, u122, u123, u124, u125, u126, u127, u128, u129, u130, u131, u132, u133, u134, u135, u136, u137, u138, u139, u140, u141, u142, u143, u144, u145, u146, u147, u148, u149, u150, u151, u152, u153, u154, u155, u156, u157, u158, u159, u160, u161, u162, u163, u164, u165, u166, u167, u168, u169, u170, u171, u172, u173, u174, u175, u176, u177, u178, u179, u180, u181, u182, u183, u184, u185, u186, u187, u188, u189, u190, u191, u192, u193, u194, u195, u196, u197, u198, u199, u200, u201, u202, u203, u204, u205, u206, u207, u208, u209, u210, u211, u212, u213, u214, u215, u216, u217, u218, u219, u220, u221, u222, u223, u224, u225, u226, u227, u228, u229, u230, u231, u232, u233, u234, u235, z236, z237, z238, z239, z240, z241, z242, z243, z244, z245, z246, z247, z248, z249, z250, z251, z252, z253, z254, z255, z256, z257, z258, z259, z260, .bool false, u262, u263, u264, u265, u266, u267, u268, u269, u270, u271, u272, u273, u274, u275, u276, u277, u278, u279, u280, u281, u282, u283, u284, u285, u286, u287, u288, u289, u290, u291, u292, u293, u294, u295, u296, u297, u298, u299, u300, u301, u302, u303, u304, u305, u306, u307, u308, u309, u310, u311, undef, undef, undef, undef, undef, undef, undef, undef, undef, undef, undef, undef, undef, undef, undef, undef, undef, undef, undef, undef, undef, undef, undef, undef, undef, undef, undef, undef, undef, undef, undef, undef], []⟩ wx) :
    Code.wp Try.prog reg47 Q ⟨#[.int .i64 (n : Int), c1, undef, undef, c4, .pointer (some ⟨b5, 0, none⟩), .slice (some ⟨P, 0, none⟩) n n, .slice qa ln qc, u8, .pointer (some ⟨bb, 0, none⟩), x10, .pointer (some ⟨P, w * 5, none⟩), u12, undef, u14, u15, u16, .int .i64 (x : Int), undef, undef, undef, c21, c22, c23, c24, c25, c26, u27, u28, u29, u30, u31, u32, u33, u34, u35, u36, u37, u38, u39, u40, u41, u42, u43, u44, u45, u46, u47, u48, u49, u50, u51, u52, u53, u54, u55, u56, u57, u58, u59, u60, u61, u62, u63, u64, u65, u66, u67, u68, u69, u70, u71, u72, u73, u74, u75, u76, u77, u78, u79, u80, u81, u82, u83, u84, u85, u86, u87, u88, u89, u90, u91, u92, u93, u94, u95, u96, u97, u98, u99, u100, u101, u102, u103, u104, u105, u106, u107, u108, u109, u110, u111, u112, u113, u114, u115, u116, u117, u118, u119, u120, u121, u122, u123, u124, u125, u126, u127, u128, u129, u130, u131, u132, u133, u134, u135, u136, u137, u138, u139, u140, u141, u142, u143, u144, u145, u146, u147, u148, u149, u150, u151, u152, u153, u154, u155, u156, u157, u158, u159, u160, u161, u162, u163, u164, u165, u166, u167, u168, u169, u170, u171, u172, u173, u174, u175, u176, u177, u178, u179, u180, u181, u182, u183, u184, u185, u186, u187, u188, u189, u190, u191, u192, u193, u194, u195, u196, u197, u198, u199, u200, u201, u202, u203, u204, u205, u206, u207, u208, u209, u210, u211, u212, u213, u214, u215, u216, u217, u218, u219, u220, u221, u222, u223, u224, u225, u226, u227, u228, u229, u230, u231, u232, u233, u234, u235, u236, u237, u238, u239, u240, u241, u242, u243, u244, u245, u246, u247, u248, u249, u250, u251, u252, u253, u254, u255, u256, u257, u258, u259, u260, u261, u262, u263, u264, u265, u266, u267, u268, u269, u270, u271, u272, u273, u274, u275, u276, u277, u278, u279, u280, u281, u282, u283, u284, u285, u286, u287, u288, u289, u290, u291, u292, u293, u294, u295, u296, u297, u298, u299, u300, u301, u302, u303, u304, u305, u306, u307, u308, u309, u310, u311, undef, undef, undef, undef, undef, undef, undef, undef, undef, undef, undef, undef, undef, undef, undef, undef, undef, undef, undef, undef, undef, undef, undef, undef, undef, undef, undef, undef, undef, undef, undef, undef], []⟩ wb := by
  refine Code.wp_mono onlyN_imp ?_
  have HQ := hidMk hQ
  clear hQ
  conv => arg 2; whnf
  have HC : Hid (∀ w9, Stil wb w9 → (fun w' => w'.cell? ⟨P, w * 5 + 1, none⟩ = some (.int .i64 1) ∧ w'.cell? ⟨P, w * 5 + 2, none⟩ = some (.int .i64 (kn : Int)) ∧ w'.cell? ⟨bb, 1, none⟩ = some (.int .i64 (w : Int)) ∧ w'.cell? ⟨bb, 2, none⟩ = some (.int .i64 (j : Int))) w9) := fun w9 h9 => ⟨h9.cell p1, h9.cell p2, h9.cell b1, h9.cell b2⟩
  have HC0 := hidMk (HC.out _ (stilDrew wb))
  have HKz := hidMk (stilDrew wb)
  clear p1 p2 b1 b2
  refine wp_region_class (fun w' => w'.cell? ⟨P, w * 5 + 1, none⟩ = some (.int .i64 1) ∧ w'.cell? ⟨P, w * 5 + 2, none⟩ = some (.int .i64 (kn : Int)) ∧ w'.cell? ⟨bb, 1, none⟩ = some (.int .i64 (w : Int)) ∧ w'.cell? ⟨bb, 2, none⟩ = some (.int .i64 (j : Int))) 26 (by kernel_rfl) ?_
  refine wpAnyC_take (i := 0) (fuel := 25) (v := .pointer (some ⟨P, w * 5, none⟩)) rfl (by kernel_rfl) (by kernel_rfl) (by kernel_rfl) (by kernel_rfl) (fun _ _ _ h => h) (.inl ⟨by kernel_rfl, fun w' hC => by obtain ⟨y1, y2, y3, y4⟩ := hC; go_simp⟩) HC0.out ?_
  go_frame
  refine wpAnyC_take (i := 1) (fuel := 24) (v := .pointer (some ⟨P, w * 5, none⟩)) rfl (by kernel_rfl) (by kernel_rfl) (by kernel_rfl) (by kernel_rfl) (fun _ _ _ h => h) (.inl ⟨by kernel_rfl, fun w' hC => by obtain ⟨y1, y2, y3, y4⟩ := hC; go_simp⟩) HC0.out ?_
  go_frame
  refine wpAnyC_take (i := 2) (fuel := 23) (v := .pointer (some ⟨P, w * 5 + 1, none⟩)) rfl (by kernel_rfl) (by kernel_rfl) (by kernel_rfl) (by kernel_rfl) (fun _ _ _ h => h) (.inl ⟨by kernel_rfl, fun w' hC => by obtain ⟨y1, y2, y3, y4⟩ := hC; go_simp⟩) HC0.out ?_
  go_frame
  refine wpAnyC_take (i := 3) (fuel := 22) (v := .int .i64 1) rfl (by kernel_rfl) (by kernel_rfl) (by kernel_rfl) (by kernel_rfl) (fun _ _ _ h => h) (.inl ⟨by kernel_rfl, fun w' hC => by obtain ⟨y1, y2, y3, y4⟩ := hC; go_simp⟩) HC0.out ?_
  go_frame
  refine wpAnyC_take (i := 4) (fuel := 21) (v := .bool false) rfl (by kernel_rfl) (by kernel_rfl) (by kernel_rfl) (by kernel_rfl) (fun _ _ _ h => h) (.inl ⟨by kernel_rfl, fun w' hC => by obtain ⟨y1, y2, y3, y4⟩ := hC; go_simp⟩) HC0.out ?_
  go_frame
  refine wpAnyC_take (i := 5) (fuel := 20) (v := .bool false) rfl (by kernel_rfl) (by kernel_rfl) (by kernel_rfl) (by kernel_rfl) (fun _ _ _ h => h) (.inl ⟨by kernel_rfl, fun w' hC => by obtain ⟨y1, y2, y3, y4⟩ := hC; go_simp⟩) HC0.out ?_
  go_frame
  refine wpAnyC_take (i := 6) (fuel := 19) (v := .pointer (some ⟨P, w * 5, none⟩)) rfl (by kernel_rfl) (by kernel_rfl) (by kernel_rfl) (by kernel_rfl) (fun _ _ _ h => h) (.inl ⟨by kernel_rfl, fun w' hC => by obtain ⟨y1, y2, y3, y4⟩ := hC; go_simp⟩) HC0.out ?_
  go_frame
  refine wpAnyC_take (i := 7) (fuel := 18) (v := .pointer (some ⟨P, w * 5, none⟩)) rfl (by kernel_rfl) (by kernel_rfl) (by kernel_rfl) (by kernel_rfl) (fun _ _ _ h => h) (.inl ⟨by kernel_rfl, fun w' hC => by obtain ⟨y1, y2, y3, y4⟩ := hC; go_simp⟩) HC0.out ?_
  go_frame
  refine wpAnyC_take (i := 8) (fuel := 17) (v := .pointer (some ⟨P, w * 5 + 1, none⟩)) rfl (by kernel_rfl) (by kernel_rfl) (by kernel_rfl) (by kernel_rfl) (fun _ _ _ h => h) (.inl ⟨by kernel_rfl, fun w' hC => by obtain ⟨y1, y2, y3, y4⟩ := hC; go_simp⟩) HC0.out ?_
  go_frame
  refine wpAnyC_take (i := 9) (fuel := 16) (v := .int .i64 1) rfl (by kernel_rfl) (by kernel_rfl) (by kernel_rfl) (by kernel_rfl) (fun _ _ _ h => h) (.inl ⟨by kernel_rfl, fun w' hC => by obtain ⟨y1, y2, y3, y4⟩ := hC; go_simp⟩) HC0.out ?_
  go_frame
  refine wpAnyC_take (i := 10) (fuel := 15) (v := .bool true) rfl (by kernel_rfl) (by kernel_rfl) (by kernel_rfl) (by kernel_rfl) (fun _ _ _ h => h) (.inl ⟨by kernel_rfl, fun w' hC => by obtain ⟨y1, y2, y3, y4⟩ := hC; go_simp⟩) HC0.out ?_
  go_frame
  refine wpAnyC_take (i := 11) (fuel := 14) (v := .bool true) rfl (by kernel_rfl) (by kernel_rfl) (by kernel_rfl) (by kernel_rfl) (fun _ _ _ h => h) (.inl ⟨by kernel_rfl, fun w' hC => by obtain ⟨y1, y2, y3, y4⟩ := hC; go_simp⟩) HC0.out ?_
  go_frame
  refine wpAnyC_take (i := 12) (fuel := 13) (v := .pointer (some ⟨P, w * 5, none⟩)) rfl (by kernel_rfl) (by kernel_rfl) (by kernel_rfl) (by kernel_rfl) (fun _ _ _ h => h) (.inl ⟨by kernel_rfl, fun w' hC => by obtain ⟨y1, y2, y3, y4⟩ := hC; go_simp⟩) HC0.out ?_
  go_frame
  refine wpAnyC_take (i := 13) (fuel := 12) (v := .pointer (some ⟨P, w * 5, none⟩)) rfl (by kernel_rfl) (by kernel_rfl) (by kernel_rfl) (by kernel_rfl) (fun _ _ _ h => h) (.inl ⟨by kernel_rfl, fun w' hC => by obtain ⟨y1, y2, y3, y4⟩ := hC; go_simp⟩) HC0.out ?_
  go_frame
  refine wpAnyC_take (i := 14) (fuel := 11) (v := .pointer (some ⟨P, w * 5 + 2, none⟩)) rfl (by kernel_rfl) (by kernel_rfl) (by kernel_rfl) (by kernel_rfl) (fun _ _ _ h => h) (.inl ⟨by kernel_rfl, fun w' hC => by obtain ⟨y1, y2, y3, y4⟩ := hC; go_simp⟩) HC0.out ?_
  go_frame
  refine wpAnyC_take (i := 15) (fuel := 10) (v := .int .i64 (kn : Int)) rfl (by kernel_rfl) (by kernel_rfl) (by kernel_rfl) (by kernel_rfl) (fun _ _ _ h => h) (.inl ⟨by kernel_rfl, fun w' hC => by obtain ⟨y1, y2, y3, y4⟩ := hC; go_simp⟩) HC0.out ?_
  go_frame
  refine wpAnyC_take (i := 16) (fuel := 9) (v := .pointer (some ⟨bb, 1, none⟩)) rfl (by kernel_rfl) (by kernel_rfl) (by kernel_rfl) (by kernel_rfl) (fun _ _ _ h => h) (.inl ⟨by kernel_rfl, fun w' hC => by obtain ⟨y1, y2, y3, y4⟩ := hC; go_simp⟩) HC0.out ?_
  go_frame
  refine wpAnyC_take (i := 17) (fuel := 8) (v := .int .i64 (w : Int)) rfl (by kernel_rfl) (by kernel_rfl) (by kernel_rfl) (by kernel_rfl) (fun _ _ _ h => h) (.inl ⟨by kernel_rfl, fun w' hC => by obtain ⟨y1, y2, y3, y4⟩ := hC; go_simp⟩) HC0.out ?_
  go_frame
  refine wpAnyC_take (i := 18) (fuel := 7) (v := .agg #[.int .i64 (kn : Int), .int .i64 (w : Int)]) rfl (by kernel_rfl) (by kernel_rfl) (by kernel_rfl) (by kernel_rfl) (fun _ _ _ h => h) (.inl ⟨by kernel_rfl, fun w' hC => by obtain ⟨y1, y2, y3, y4⟩ := hC; go_simp⟩) HC0.out ?_
  go_frame
  refine wpAnyC_take (i := 19) (fuel := 6) (v := .int .i64 (x : Int)) rfl (by kernel_rfl) (by kernel_rfl) (by kernel_rfl) (by kernel_rfl) (fun _ _ _ h => h) (.inl ⟨by kernel_rfl, fun w' hC => by obtain ⟨y1, y2, y3, y4⟩ := hC; go_simp⟩) HC0.out ?_
  go_frame
  refine wpAnyC_take (i := 20) (fuel := 5) (v := .pointer (some ⟨bb, 2, none⟩)) rfl (by kernel_rfl) (by kernel_rfl) (by kernel_rfl) (by kernel_rfl) (fun _ _ _ h => h) (.inl ⟨by kernel_rfl, fun w' hC => by obtain ⟨y1, y2, y3, y4⟩ := hC; go_simp⟩) HC0.out ?_
  go_frame
  refine wpAnyC_take (i := 21) (fuel := 4) (v := .int .i64 (j : Int)) rfl (by kernel_rfl) (by kernel_rfl) (by kernel_rfl) (by kernel_rfl) (fun _ _ _ h => h) (.inl ⟨by kernel_rfl, fun w' hC => by obtain ⟨y1, y2, y3, y4⟩ := hC; go_simp⟩) HC0.out ?_
  go_frame
  refine wpAnyC_take (i := 22) (fuel := 3) (v := .agg #[.int .i64 (x : Int), .int .i64 (j : Int)]) rfl (by kernel_rfl) (by kernel_rfl) (by kernel_rfl) (by kernel_rfl) (fun _ _ _ h => h) (.inl ⟨by kernel_rfl, fun w' hC => by obtain ⟨y1, y2, y3, y4⟩ := hC; go_simp⟩) HC0.out ?_
  go_frame
  refine wpAnyC_one_g 23 (fuel := 2) (by kernel_rfl) rfl (by kernel_rfl) (fun K4 hK4 => ?_)
  go_wp2_with (go_at_call 12; refine (less_ref wb.drew kn w x j).mono ?_; rintro e w9 ⟨rfl, hk9⟩)
  try rw [hlt]
  refine ⟨fun _ => HC.out _ ((stilDrew wb).tr hk9), ?_⟩
  refine wpAnyC_take (i := 24) (fuel := 1) (v := .bool false) rfl (by kernel_rfl) (by kernel_rfl) (by kernel_rfl) (by kernel_rfl) (fun _ _ _ h => h) (.inl ⟨by kernel_rfl, fun w' hC => by obtain ⟨y1, y2, y3, y4⟩ := hC; go_simp⟩) (HC.out _ ((stilDrew wb).tr hk9)) ?_
  go_frame
  refine wpAnyC_one 25 (fuel := 0) (by kernel_rfl) rfl rfl (fun K7 hK7 => ?_)
  go_wp2
  first | refine ⟨fun _ => (HC.out _ ((stilDrew wb).tr hk9)), ?_⟩ | refine ⟨HC.out wb (Keep.refl _ wb), ?_⟩ | refine ⟨fun _ => HC.out wb (Keep.refl _ wb), ?_⟩
  refine wpAnyC_done (by kernel_rfl) ?_
  exact HQ.out _ _ _ _ _ _ _ _ _ _ _ _ _ _ _ _ _ _ _ _ _ _ _ _ _ _ ((stilDrew wb).tr hk9)
end Go.Proofs.Ytaojmbebkggafaa
