/- The document's Mutex, in pieces: an asking. -/
import Derived.Test.YtaojmbebkggafaaMr4
import Derived.Test.YtaojmbebkggafaaMa6
namespace Go.Proofs.Ytaojmbebkggafaa
open Go.RowKit
set_option linter.unusedVariables false

/-- Only that a walk comes to its end: no fault. -/
def onlyN (Q : Exit → Act → World → Prop) : Exit → Act → World → Prop := fun e a w => match e with
  | .normal => Q .normal a w
  | _ => False
theorem onlyN_imp {Q : Exit → Act → World → Prop} : ∀ e a w, onlyN Q e a w → Q e a w := fun e _ _ h => match e, h with
  | .normal, h => h
set_option maxRecDepth 1000000 in
set_option maxHeartbeats 16000000 in
theorem ask_walk {Q : Exit → Act → World → Prop} {wb : World} {n b5 P bb w ln qc : Nat} {qa : Option Addr} {S : MS} {L : List Lt} {cdk : List Int} {t : Nat → Option RT} {v : RT → Value} {x10 c1 c4 c21 c22 c23 c24 c25 c26 : Value} {u8 u12 u14 u15 u16 u17 u27 u28 u29 u30 u31 u32 u33 u34 u35 u36 u37 u38 u39 u40 u41 u42 u43 u44 u45 u46 u47 u48 u49 u50 u51 u52 u53 u54 u55 u56 u57 u58 u59 u60 u61 u62 u63 u64 u65 u66 u67 u68 u69 u70 u71 u72 u73 u74 u75 u76 u77 u78 u79 u80 u81 u82 u83 u84 u85 u86 u87 u88 u89 u90 u91 u92 u93 u94 u95 u96 u97 u98 u99 u100 u101 u102 u103 u104 u105 u106 u107 u108 u109 u110 u111 u112 u113 u114 u115 u116 u117 u118 u119 u120 u121 u122 u123 u124 u125 u126 u127 u128 u129 u130 u131 u132 u133 u134 u135 u136 u137 u138 u139 u140 u141 u142 u143 u144 u145 u146 u147 u148 u149 u150 u151 u152 u153 u154 u155 u156 u157 u158 u159 u160 u161 u162 u163 u164 u165 u166 u167 u168 u169 u170 u171 u172 u173 u174 u175 u176 u177 u178 u179 u180 u181 u182 u183 u184 u185 u186 u187 u188 u189 u190 u191 u192 u193 u194 u195 u196 u197 u198 u199 u200 u201 u202 u203 u204 u205 u206 u207 u208 u209 u210 u211 u212 u213 u214 u215 u216 u217 u218 u219 u220 u221 u222 u223 u224 u225 u226 u227 u228 u229 u230 u231 u232 u233 u234 u235 u236 u237 u238 u239 u240 u241 u242 u243 u244 u245 u246 u247 u248 u249 u250 u251 u252 u253 u254 u255 u256 u257 u258 u259 u260 u261 u262 u263 u264 u265 u266 u267 u268 u269 u270 u271 u272 u273 u274 u275 u276 u277 u278 u279 u280 u281 u282 u283 u284 u285 u286 u287 u288 u289 u290 u291 u292 u293 u294 u295 u296 u297 u298 u299 u300 u301 u302 u303 u304 u305 u306 u307 u308 u309 u310 u311 : Value}
    (h0 : 0 < n) (h6 : n ≤ 6) (hw : w < n) (hnum : (S.pr w).num ≤ 90000) (HSim : Hid (SimL n S L)) (hln : ln ≤ 20000) (hll : L.length = ln) (hfp : v .post = .slice qa ln qc) (HPb : Hid (Pool wb t (RD n b5 P S L cdk [] 0 v))) (b1 : wb.cell? ⟨bb, 1, none⟩ = some (.int .i64 (w : Int))) (htb : t bb = none)
    (hQ : ∀ (z7 z12 z104 z105 z106 z107 z108 z109 z110 z111 z112 z113 z114 z115 z116 z117 z118 z119 z120 z121 z122 z123 z124 z125 z126 z127 z128 z129 z130 z131 z132 z133 z134 z135 z136 z137 z138 z139 z140 z141 z142 z143 z144 : Value) (wx : World) (t2 : Nat → Option RT) (v2 : RT → Value) (L2 : List Lt), Pool wx t2 (RD n b5 P (keysTo (askS S w) w ((S.pr w).num + 1) n) L2 cdk [] 0 v2) → PStep wb t wx t2 → z7 = v2 .post → SimL n (keysTo (askS S w) w ((S.pr w).num + 1) n) L2 → L2.length ≤ ln + n → Q .normal ⟨#[.int .i64 (n : Int), c1, undef, undef, c4, .pointer (some ⟨b5, 0, none⟩), .slice (some ⟨P, 0, none⟩) n n, z7, u8, .pointer (some ⟨bb, 0, none⟩), x10, .pointer (some ⟨P, w * 5, none⟩), z12, undef, u14, u15, u16, u17, undef, undef, undef, c21, c22, c23, c24, c25, c26, u27, u28, u29, u30, u31, u32, u33, u34, u35, u36, u37, u38, u39, u40, u41, u42, u43, u44, u45, u46, u47, u48, u49, u50, u51, u52, u53, u54, u55, u56, u57, u58, u59, u60, u61, u62, u63, u64, u65, u66, u67, u68, u69, u70, u71, u72, u73, u74, u75, u76, u77, u78, u79, u80, u81, u82, u83, u84, u85, u86, u87, u88, u89, u90, u91, u92, u93, u94, u95, u96, u97, u98, u99, u100, u101, u102, u103, z104, z105, z106, z107, z108, z109, z110, z111, z112, z113, z114, z115, z116, z117, z118, z119, z120, z121, z122, z123, z124, z125, z126, z127, z128, z129, z130, z131, z132, z133, z134, z135, z136, z137, z138, z139, z140, z141, z142, z143, z144, u145, u146, u147, u148, u149, u150, u151, u152, u153, u154, u155, u156, u157, u158, u159, u160, u161, u162, u163, u164, u165, u166, u167, u168, u169, u170, u171, u172, u173, u174, u175, u176, u177, u178, u179, u180, u181, u182, u183, u184, u185, u186, u187, u188, u189, u190, u191, u192, u193, u194, u195, u196, u197, u198, u199, u200, u201, u202, u203, u204, u205, u206, u207, u208, u209, u210, u211, u212, u213, u214, u215, u216, u217, u218, u219, u220, u221, u222, u223, u224, u225, u226, u227, u228, u229, u230, u231, u232, u233, u234, u235, u236, u237, u238, u239, u240, u241, u242, u243, u244, u245, u246, u247, u248, u249, u250, u251, u252, u253, u254, u255, u256, u257, u258, u259, u260, u261, u262, u263, u264, u265, u266, u267, u268, u269, u270, u271, u272, u273, u274, u275, u276, u277, u278, u279, u280, u281, u282, u283, u284, u285, u286, u287, u288, u289, u290, u291, u292, u293, u294, u295, u296, u297, u298, u299, u300, u301, u302, u303, u304, u305, u306, u307, u308, u309, u310, u311, undef, undef, undef, undef, undef, undef, undef, undef, undef, undef, undef, undef, undef, undef, undef, undef, undef, undef, undef, undef, undef, undef, undef, undef, undef, undef, undef, undef, undef, undef, undef, undef], []⟩ wx) :
    Code.wp Try.prog askCode Q ⟨#[.int .i64 (n : Int), c1, undef, undef, c4, .pointer (some ⟨b5, 0, none⟩), .slice (some ⟨P, 0, none⟩) n n, .slice qa ln qc, u8, .pointer (some ⟨bb, 0, none⟩), x10, .pointer (some ⟨P, w * 5, none⟩), u12, undef, u14, u15, u16, u17, undef, undef, undef, c21, c22, c23, c24, c25, c26, u27, u28, u29, u30, u31, u32, u33, u34, u35, u36, u37, u38, u39, u40, u41, u42, u43, u44, u45, u46, u47, u48, u49, u50, u51, u52, u53, u54, u55, u56, u57, u58, u59, u60, u61, u62, u63, u64, u65, u66, u67, u68, u69, u70, u71, u72, u73, u74, u75, u76, u77, u78, u79, u80, u81, u82, u83, u84, u85, u86, u87, u88, u89, u90, u91, u92, u93, u94, u95, u96, u97, u98, u99, u100, u101, u102, u103, u104, u105, u106, u107, u108, u109, u110, u111, u112, u113, u114, u115, u116, u117, u118, u119, u120, u121, u122, u123, u124, u125, u126, u127, u128, u129, u130, u131, u132, u133, u134, u135, u136, u137, u138, u139, u140, u141, u142, u143, u144, u145, u146, u147, u148, u149, u150, u151, u152, u153, u154, u155, u156, u157, u158, u159, u160, u161, u162, u163, u164, u165, u166, u167, u168, u169, u170, u171, u172, u173, u174, u175, u176, u177, u178, u179, u180, u181, u182, u183, u184, u185, u186, u187, u188, u189, u190, u191, u192, u193, u194, u195, u196, u197, u198, u199, u200, u201, u202, u203, u204, u205, u206, u207, u208, u209, u210, u211, u212, u213, u214, u215, u216, u217, u218, u219, u220, u221, u222, u223, u224, u225, u226, u227, u228, u229, u230, u231, u232, u233, u234, u235, u236, u237, u238, u239, u240, u241, u242, u243, u244, u245, u246, u247, u248, u249, u250, u251, u252, u253, u254, u255, u256, u257, u258, u259, u260, u261, u262, u263, u264, u265, u266, u267, u268, u269, u270, u271, u272, u273, u274, u275, u276, u277, u278, u279, u280, u281, u282, u283, u284, u285, u286, u287, u288, u289, u290, u291, u292, u293, u294, u295, u296, u297, u298, u299, u300, u301, u302, u303, u304, u305, u306, u307, u308, u309, u310, u311, undef, undef, undef, undef, undef, undef, undef, undef, undef, undef, undef, undef, undef, undef, undef, undef, undef, undef, undef, undef, undef, undef, undef, undef, undef, undef, undef, undef, undef, undef, undef, undef], []⟩ wb := by
  refine Code.wp_mono onlyN_imp ?_
  obtain ⟨i2, hq, hx0, hx1, hx2⟩ := info_parts mInfoLetter
  obtain ⟨p0, p1, p2, p3, p4, pf⟩ := rd_proc HPb.out hw
  have f0 := pf (w * 5)
  have f1 := pf (w * 5 + 1)
  have f2 := pf (w * 5 + 2)
  have f3 := pf (w * 5 + 3)
  have HQ := hidMk hQ
  have HFp := hidMk hfp
  have HLl := hidMk hll
  clear hQ hfp hll pf
  generalize hv : (S.pr w).num = vv at *
  generalize hv1 : vv + 1 = v1 at *
  have hw1 : IntKind.i64.wrap ((vv : Int) + 1) = (v1 : Int) := by
    rw [show ((vv : Int) + 1) = (v1 : Int) from by omega]
    exact wrap_of ⟨by omega, by omega⟩
  obtain ⟨P1, S1⟩ := rd_num HPb.out hw v1
  obtain ⟨P2, S2⟩ := rd_kn P1 hw v1
  obtain ⟨P3, S3⟩ := rd_st P2 hw 1
  obtain ⟨P4, S4⟩ := rd_yes P3 hw 0
  have P5 := rd_kp P4 w w
  simp only [prM_prR, prM_prM] at P5
  have e5 : prM S w { num := v1, st := 1, kn := v1, kp := w, yes := 0, wait := (S.pr w).wait } = askS S w := by unfold askS; rw [hv, hv1]
  rw [e5] at P5
  have SS := ((S1.trans S2).trans S3).trans S4
  have HA : Hid (((askS S w).pr w).kn = v1) := by show ((askS S w).pr w).kn = v1; unfold askS; rw [prM_prR]; show (S.pr w).num + 1 = v1; rw [hv, hv1]
  have HSo : Hid (SimL n (askS S w) L) := sim_pr HSim.out _ _
  clear P1 P2 P3 P4 S1 S2 S3 S4 e5 hv hv1
  have P5 : Pool ((((wb.setCell ⟨P, w * 5, none⟩ (.int .i64 (v1 : Int))).setCell ⟨P, w * 5 + 2, none⟩ (.int .i64 (v1 : Int))).setCell ⟨P, w * 5 + 1, none⟩ (.int .i64 1)).setCell ⟨P, w * 5 + 3, none⟩ (.int .i64 0)) t (RD n b5 P (askS S w) L cdk [] 0 v) := P5
  have SS : PStep wb t ((((wb.setCell ⟨P, w * 5, none⟩ (.int .i64 (v1 : Int))).setCell ⟨P, w * 5 + 2, none⟩ (.int .i64 (v1 : Int))).setCell ⟨P, w * 5 + 1, none⟩ (.int .i64 1)).setCell ⟨P, w * 5 + 3, none⟩ (.int .i64 0)) t := SS
  have HP1 := hidMk P5
  have HS1 := hidMk SS
  have c1' := SS.cell htb b1
  clear P5 SS
  conv => arg 2; whnf
  go_upto_region 20 with fail
  clear p0 p1 p2 p3 p4 f0 f1 f2 f3 b1 hw1
  generalize (((wb.setCell ⟨P, w * 5, none⟩ (.int .i64 (v1 : Int))).setCell ⟨P, w * 5 + 2, none⟩ (.int .i64 (v1 : Int))).setCell ⟨P, w * 5 + 1, none⟩ (.int .i64 1)).setCell ⟨P, w * 5 + 3, none⟩ (.int .i64 0) = w1 at *
  generalize askS S w = So at *
  go_wp2_with (fail)
  go_loopw [7, 12] (fun x7 u wr => ∃ (k : Nat) (tk : Nat → Option RT) (vk : RT → Value) (Lk : List Lt), k ≤ n ∧ u = .int .i64 (k : Int) ∧ x7 = vk .post ∧ Hid (Pool wr tk (RD n b5 P (keysTo So w v1 k) Lk cdk [] 0 vk)) ∧ Hid (PStep w1 t wr tk) ∧ Hid (SimL n (keysTo So w v1 k) Lk) ∧ Hid (Lk.length ≤ ln + k)) (fun _ u _ => n - (intOf u).toNat)
  case atStart => exact ⟨0, t, v, L, Nat.zero_le _, rfl, HFp.out.symm, HP1, PStep.refl _ _, HSo, by show _ ≤ _; rw [HLl.out]; exact Nat.le_refl _⟩
  case round =>
    obtain ⟨k, tk, vk, Lk, hk, rfl, rfl, HPk, HSk, HSmk, HLk⟩ := hrel
    have hsp : Seg wr (fun g => tk g = some .post) 50 4 (vk .post) Lk.length (flatL Lk) := HPk.out.seg .post _ rfl
    obtain ⟨qa2, qc2, hvp⟩ := segForm hsp
    rw [hvp] at hsp ⊢
    have hlk2 : Lk.length ≤ 20006 := by have := HLk.out; omega
    generalize hlk : Lk.length = lk at *
    have HSp := hidMk hsp
    have HVp := hidMk hvp
    have HLv := hidMk hlk
    clear hsp hvp hlk
    have b1k := HSk.out.cell htb c1'
    by_cases hlt : k < n
    · have hlt' : (k : Int) < (n : Int) := by omega
      by_cases hkw : k = w
      · subst hkw
        have HP3 : Hid (Pool wr tk (RD n b5 P (keysTo So k v1 (k + 1)) Lk cdk [] 0 vk)) := by
          show Pool _ _ (RD n b5 P (if k = k then keysTo So k v1 k else _) Lk cdk [] 0 vk)
          rw [if_pos rfl]; exact HPk.out
        have HS3 : Hid (SimL n (keysTo So k v1 (k + 1)) Lk) := by
          show SimL n (if k = k then keysTo So k v1 k else _) Lk
          rw [if_pos rfl]; exact HSmk.out
        go_wp2
        go_roundw
        case rel => exact ⟨k + 1, tk, vk, Lk, by omega, by go_num, HVp.out.symm, HP3, HSk, HS3, by have := HLk.out; show _ ≤ _; rw [HLv.out]; omega⟩
        case measure => simp [intOf]; omega
      · have hkw' : (k : Int) ≠ (w : Int) := by omega
        have hkw2 : ((k : Int) != (w : Int)) = true := by simp; omega
        obtain ⟨_, _, y2, _⟩ := rd_proc HPk.out hw
        rw [(keysTo_pr So w v1 k).1, HA.out] at y2
        have HC : Hid (∀ w9, Stil wr w9 → w9.cell? ⟨bb, 1, none⟩ = some (.int .i64 (w : Int)) ∧ w9.cell? ⟨P, w * 5 + 2, none⟩ = some (.int .i64 (v1 : Int))) := fun w9 h9 => ⟨h9.cell b1k, h9.cell y2⟩
        have HC0 := hidMk (HC.out _ (stilDrew wr))
        have HKw := hidMk hkw
        clear y2 hkw
        go_wp2_with (fail)
        refine wp_region_class (fun w' => w'.cell? ⟨bb, 1, none⟩ = some (.int .i64 (w : Int)) ∧ w'.cell? ⟨P, w * 5 + 2, none⟩ = some (.int .i64 (v1 : Int))) 12 (by kernel_rfl) ?_
        refine wpAnyC_take (i := 0) (fuel := 11) (v := .slice qa2 lk qc2) rfl (by kernel_rfl) (by kernel_rfl) (by kernel_rfl) (by kernel_rfl) (fun _ _ _ h => h) (.inl ⟨by kernel_rfl, fun w' hC => by obtain ⟨y1, y2⟩ := hC; go_simp⟩) HC0.out ?_
        go_frame
        refine wpAnyC_take (i := 1) (fuel := 10) (v := .pointer (some ⟨bb, 1, none⟩)) rfl (by kernel_rfl) (by kernel_rfl) (by kernel_rfl) (by kernel_rfl) (fun _ _ _ h => h) (.inl ⟨by kernel_rfl, fun w' hC => by obtain ⟨y1, y2⟩ := hC; go_simp⟩) HC0.out ?_
        go_frame
        refine wpAnyC_take (i := 2) (fuel := 9) (v := .int .i64 (w : Int)) rfl (by kernel_rfl) (by kernel_rfl) (by kernel_rfl) (by kernel_rfl) (fun _ _ _ h => h) (.inl ⟨by kernel_rfl, fun w' hC => by obtain ⟨y1, y2⟩ := hC; go_simp⟩) HC0.out ?_
        go_frame
        refine wpAnyC_take (i := 3) (fuel := 8) (v := .int .i64 (k : Int)) rfl (by kernel_rfl) (by kernel_rfl) (by kernel_rfl) (by kernel_rfl) (fun _ _ _ h => h) (.inl ⟨by kernel_rfl, fun w' hC => by obtain ⟨y1, y2⟩ := hC; go_simp⟩) HC0.out ?_
        go_frame
        refine wpAnyC_take (i := 4) (fuel := 7) (v := .pointer (some ⟨P, w * 5, none⟩)) rfl (by kernel_rfl) (by kernel_rfl) (by kernel_rfl) (by kernel_rfl) (fun _ _ _ h => h) (.inl ⟨by kernel_rfl, fun w' hC => by obtain ⟨y1, y2⟩ := hC; go_simp⟩) HC0.out ?_
        go_frame
        refine wpAnyC_take (i := 5) (fuel := 6) (v := .pointer (some ⟨P, w * 5, none⟩)) rfl (by kernel_rfl) (by kernel_rfl) (by kernel_rfl) (by kernel_rfl) (fun _ _ _ h => h) (.inl ⟨by kernel_rfl, fun w' hC => by obtain ⟨y1, y2⟩ := hC; go_simp⟩) HC0.out ?_
        go_frame
        refine wpAnyC_take (i := 6) (fuel := 5) (v := .pointer (some ⟨P, w * 5 + 2, none⟩)) rfl (by kernel_rfl) (by kernel_rfl) (by kernel_rfl) (by kernel_rfl) (fun _ _ _ h => h) (.inl ⟨by kernel_rfl, fun w' hC => by obtain ⟨y1, y2⟩ := hC; go_simp⟩) HC0.out ?_
        go_frame
        refine wpAnyC_take (i := 7) (fuel := 4) (v := .int .i64 (v1 : Int)) rfl (by kernel_rfl) (by kernel_rfl) (by kernel_rfl) (by kernel_rfl) (fun _ _ _ h => h) (.inl ⟨by kernel_rfl, fun w' hC => by obtain ⟨y1, y2⟩ := hC; go_simp⟩) HC0.out ?_
        go_frame
        refine wpAnyC_take (i := 8) (fuel := 3) (v := .agg #[.int .i64 (w : Int), .int .i64 (k : Int), .int .i64 (v1 : Int), .bool false]) rfl (by kernel_rfl) (by kernel_rfl) (by kernel_rfl) (by kernel_rfl) (fun _ _ _ h => h) (.inl ⟨by kernel_rfl, fun w' hC => by obtain ⟨y1, y2⟩ := hC; go_simp⟩) HC0.out ?_
        go_frame
        refine wpAnyC_one 9 (fuel := 2) (by kernel_rfl) rfl rfl (fun K4 hK4 => ?_)
        go_wp2
        refine ⟨fun _ => HC.out _ ((stilDrew wr).alloc _), ?_⟩
        refine wpAnyC_one 10 (fuel := 1) (by kernel_rfl) rfl rfl (fun K5 hK5 => ?_)
        refine oper_append_seg (.tmp 134) (.tmp 143) 45 rfl 50 i2 (.agg #[.int .i64 0, .int .i64 0, .int .i64 0, .bool false]) 4 32 Try.underlying45 hq hx0 hx1 hx2 rfl (by decide) (.slice qa2 lk qc2) lk (flatL Lk) rfl (segAlloc (segDrew HSp.out) _) ⟨wr.heap.size, 0, none⟩ 1 1 (cellsL ⟨w, k, v1, false⟩) rfl rfl (fun j2 u hu => cells_let_at wr.drew w k v1 false 50 _ rfl j2 u hu) (letCells _) (by unfold maxLen; omega) (by omega) ?_
        intro v3 w3 hs3 hg3
        obtain ⟨t5, P5, S5⟩ := rd_post HPk.out (l := ⟨w, k, v1, false⟩) (wa := wr.drew.alloc (.cells #[.int .i64 (w : Int), .int .i64 (k : Int), .int .i64 (v1 : Int), .bool false] 50)) ((stilDrew wr).alloc _) (by rw [HVp.out, HLv.out]; exact hs3) (by rw [HVp.out]; exact hg3)
        have HP5 : Hid (Pool w3 t5 (RD n b5 P (keysTo So w v1 (k + 1)) (Lk ++ [⟨w, k, v1, false⟩]) cdk [] 0 (updV vk .post v3))) := by
          show Pool _ _ (RD n b5 P (if k = w then _ else putM (keysTo So w v1 k) w k v1) _ _ _ _ _)
          rw [if_neg HKw.out]
          exact rd_ways P5 rfl rfl
        have HS6 : Hid (SimL n (keysTo So w v1 (k + 1)) (Lk ++ [⟨w, k, v1, false⟩])) := by
          show SimL n (if k = w then _ else putM (keysTo So w v1 k) w k v1) _
          rw [if_neg HKw.out]
          exact sim_put HSmk.out hw hlt v1
        have HS5 := hidMk (HSk.out.trans S5)
        have g1 := HS5.out.cell htb c1'
        obtain ⟨_, _, g2, _⟩ := rd_proc P5 hw
        rw [(keysTo_pr So w v1 k).1, HA.out] at g2
        obtain ⟨a3, c3, rfl⟩ := segForm hs3
        refine hK5 _ _ ⟨fun _ => ⟨g1, g2⟩, ?_⟩
        clear hs3 hg3 P5 S5
        go_frame
        refine wpAnyC_one 11 (fuel := 0) (by kernel_rfl) rfl rfl (fun K7 hK7 => ?_)
        go_wp2
        try (refine ⟨fun _ => ⟨g1, g2⟩, ?_⟩)
        refine wpAnyC_done (by kernel_rfl) ?_
        try (show Exit.then _ _ Exit.normal _ _)
        clear g1 g2
        go_wp2
        go_roundw
        case rel => exact ⟨k + 1, t5, updV vk .post (.slice a3 (lk + 1) c3), Lk ++ [⟨w, k, v1, false⟩], by omega, by go_num, by rw [updV_same], HP5, HS5, HS6, by have := HLk.out; show _ ≤ _; rw [List.length_append, List.length_singleton, HLv.out]; omega⟩
        case measure => simp [intOf]; omega
    · obtain rfl : k = n := by omega
      go_wp2
      refine HQ.out _ _ _ _ _ _ _ _ _ _ _ _ _ _ _ _ _ _ _ _ _ _ _ _ _ _ _ _ _ _ _ _ _ _ _ _ _ _ _ _ _ _ _ _ tk vk Lk HPk.out (HS1.out.trans HSk.out) HVp.out.symm HSmk.out (by rw [HLv.out]; exact HLk.out)
end Go.Proofs.Ytaojmbebkggafaa
