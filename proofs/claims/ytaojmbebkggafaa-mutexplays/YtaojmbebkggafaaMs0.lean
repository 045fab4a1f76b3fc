/- The document's Mutex, in pieces: a search. -/
import Derived.Test.YtaojmbebkggafaaMr9
import Derived.BigQuiet
namespace Go.Proofs.Ytaojmbebkggafaa
open Go.RowKit
set_option linter.unusedVariables false

noncomputable def searchCode : Code := (seqOf 34 body9).getD .skip
set_option maxRecDepth 1000000 in
set_option maxHeartbeats 16000000 in
theorem search_walk {Q : Exit → Act → World → Prop} {wb : World} {n b5 P bb w j ln qc : Nat} {qa : Option Addr} {S : MS} {L : List Lt} {cdk : List Int} {t : Nat → Option RT} {v : RT → Value} {x10 c1 c4 c21 c22 c23 c24 c25 c26 : Value} {u8 u12 u14 u16 u17 u27 u28 u29 u30 u31 u32 u33 u34 u35 u36 u37 u38 u39 u40 u41 u42 u43 u44 u45 u46 u47 u48 u49 u50 u51 u52 u53 u54 u55 u56 u57 u58 u59 u60 u61 u62 u63 u64 u65 u66 u67 u68 u69 u70 u71 u72 u73 u74 u75 u76 u77 u78 u79 u80 u81 u82 u83 u84 u85 u86 u87 u88 u89 u90 u91 u92 u93 u94 u95 u96 u97 u98 u99 u100 u101 u102 u103 u104 u105 u106 u107 u108 u109 u110 u111 u112 u113 u114 u115 u116 u117 u118 u119 u120 u121 u122 u123 u124 u125 u126 u127 u128 u129 u130 u131 u132 u133 u134 u135 u136 u137 u138 u139 u140 u141 u142 u143 u144 u145 u146 u147 u148 u149 u150 u151 u152 u153 u154 u155 u156 u157 u158 u159 u160 u161 u162 u163 u164 u165 u166 u167 u168 u169 u170 u171 u172 u173 u174 u175 u176 u177 u178 u179 u180 u181 u182 u183 u184 u185 u186 u187 u188 u189 u190 u191 u192 u193 u194 u195 u196 u197 u198 u199 u200 u201 u202 u203 u204 u205 u206 u207 u208 u209 u210 u211 u212 u213 u214 u215 u216 u217 u218 u219 u220 u221 u222 u223 u224 u225 u226 u227 u228 u229 u230 u231 u232 u233 u234 u235 u236 u237 u238 u239 u240 u241 u242 u243 u244 u245 u246 u247 u248 u249 u250 u251 u252 u253 u254 u255 u256 u257 u258 u259 u260 u261 u262 u263 u264 u265 u266 u267 u268 u269 u270 u271 u272 u273 u274 u275 u276 u277 u278 u279 u280 u281 u282 u283 u284 u285 u286 u287 u288 u289 u290 u291 u292 u293 u294 u295 u296 u297 u298 u299 u300 u301 u302 u303 u304 u305 u306 u307 u308 u309 u310 u311 : Value}
    (hw : w < n) (hj : j < n) (hln : ln ≤ 20000) (hll : L.length = ln) (hfp : v .post = .slice qa ln qc) (HPb : Hid (Pool wb t (RD n b5 P S L cdk [] 0 v))) (b1 : wb.cell? ⟨bb, 1, none⟩ = some (.int .i64 (w : Int))) (b2 : wb.cell? ⟨bb, 2, none⟩ = some (.int .i64 (j : Int))) (htb : t bb = none)
    (hQ : ∀ (z16 z171 z172 z173 z174 z175 z176 z177 z178 z179 z180 z181 z182 z183 z184 z185 z186 z187 z188 z189 z190 z191 z192 z193 z194 z195 z196 z197 z198 z199 z200 z201 z202 z203 z204 : Value) (wx : World), Stil wb wx → Q .normal ⟨#[.int .i64 (n : Int), c1, undef, undef, c4, .pointer (some ⟨b5, 0, none⟩), .slice (some ⟨P, 0, none⟩) n n, .slice qa ln qc, u8, .pointer (some ⟨bb, 0, none⟩), x10, .pointer (some ⟨P, w * 5, none⟩), u12, undef, u14, .int .i64 (atFrom j w L 0), z16, u17, undef, undef, undef, c21, c22, c23, c24, c25, c26, u27, u28, u29, u30, u31, u32, u33, u34, u35, u36, u37, u38, u39, u40, u41, u42, u43, u44, u45, u46, u47, u48, u49, u50, u51, u52, u53, u54, u55, u56, u57, u58, u59, u60, u61, u62, u63, u64, u65, u66, u67, u68, u69, u70, u71, u72, u73, u74, u75, u76, u77, u78, u79, u80, u81, u82, u83, u84, u85, u86, u87, u88, u89, u90, u91, u92, u93, u94, u95, u96, u97, u98, u99, u100, u101, u102, u103, u104, u105, u106, u107, u108, u109, u110, u111, u112, u113, u114, u115, u116, u117, u118, u119, u120, u121, u122, u123, u124, u125, u126, u127, u128, u129, u130, u131, u132, u133, u134, u135, u136, u137, u138, u139, u140, u141, u142, u143, u144, u145, u146, u147, u148, u149, u150, u151, u152, u153, u154, u155, u156, u157, u158, u159, u160, u161, u162, u163, u164, u165, u166, u167, u168, u169, u170, z171, z172, z173, z174, z175, z176, z177, z178, z179, z180, z181, z182, z183, z184, z185, z186, z187, z188, z189, z190, z191, z192, z193, z194, z195, z196, z197, z198, z199, z200, z201, z202, z203, z204, u205, u206, u207, u208, u209, u210, u211, u212, u213, u214, u215, u216, u217, u218, u219, u220, u221, u222, u223, u224, u225, u226, u227, u228, u229, u230, u231, u232, u233, u234, u235, u236, u237, u238, u239, u240, u241, u242, u243, u244, u245, u246, u247, u248, u249, u250, u251, u252, u253, u254, u255, u256, u257, u258, u259, u260, u261, u262, u263, u264, u265, u266, u267, u268, u269, u270, u271, u272, u273, u274, u275, u276, u277, u278, u279, u280, u281, u282, u283, u284, u285, u286, u287, u288, u289, u290, u291, u292, u293, u294, u295, u296, u297, u298, u299, u300, u301, u302, u303, u304, u305, u306, u307, u308, u309, u310, u311, undef, undef, undef, undef, undef, undef, undef, undef, undef, undef, undef, undef, undef, undef, undef, undef, undef, undef, undef, undef, undef, undef, undef, undef, undef, undef, undef, undef, undef, undef, undef, undef], []⟩ wx) :
    Code.wp Try.prog searchCode Q ⟨#[.int .i64 (n : Int), c1, undef, undef, c4, .pointer (some ⟨b5, 0, none⟩), .slice (some ⟨P, 0, none⟩) n n, .slice qa ln qc, u8, .pointer (some ⟨bb, 0, none⟩), x10, .pointer (some ⟨P, w * 5, none⟩), u12, undef, u14, .int .i64 (-1), u16, u17, undef, undef, undef, c21, c22, c23, c24, c25, c26, u27, u28, u29, u30, u31, u32, u33, u34, u35, u36, u37, u38, u39, u40, u41, u42, u43, u44, u45, u46, u47, u48, u49, u50, u51, u52, u53, u54, u55, u56, u57, u58, u59, u60, u61, u62, u63, u64, u65, u66, u67, u68, u69, u70, u71, u72, u73, u74, u75, u76, u77, u78, u79, u80, u81, u82, u83, u84, u85, u86, u87, u88, u89, u90, u91, u92, u93, u94, u95, u96, u97, u98, u99, u100, u101, u102, u103, u104, u105, u106, u107, u108, u109, u110, u111, u112, u113, u114, u115, u116, u117, u118, u119, u120, u121, u122, u123, u124, u125, u126, u127, u128, u129, u130, u131, u132, u133, u134, u135, u136, u137, u138, u139, u140, u141, u142, u143, u144, u145, u146, u147, u148, u149, u150, u151, u152, u153, u154, u155, u156, u157, u158, u159, u160, u161, u162, u163, u164, u165, u166, u167, u168, u169, u170, u171, u172, u173, u174, u175, u176, u177, u178, u179, u180, u181, u182, u183, u184, u185, u186, u187, u188, u189, u190, u191, u192, u193, u194, u195, u196, u197, u198, u199, u200, u201, u202, u203, u204, u205, u206, u207, u208, u209, u210, u211, u212, u213, u214, u215, u216, u217, u218, u219, u220, u221, u222, u223, u224, u225, u226, u227, u228, u229, u230, u231, u232, u233, u234, u235, u236, u237, u238, u239, u240, u241, u242, u243, u244, u245, u246, u247, u248, u249, u250, u251, u252, u253, u254, u255, u256, u257, u258, u259, u260, u261, u262, u263, u264, u265, u266, u267, u268, u269, u270, u271, u272, u273, u274, u275, u276, u277, u278, u279, u280, u281, u282, u283, u284, u285, u286, u287, u288, u289, u290, u291, u292, u293, u294, u295, u296, u297, u298, u299, u300, u301, u302, u303, u304, u305, u306, u307, u308, u309, u310, u311, undef, undef, undef, undef, undef, undef, undef, undef, undef, undef, undef, undef, undef, undef, undef, undef, undef, undef, undef, undef, undef, undef, undef, undef, undef, undef, undef, undef, undef, undef, undef, undef], []⟩ wb := by
  refine Code.wp_mono onlyN_imp ?_
  have HQ := hidMk hQ
  clear hQ
  have HG : Hid (∀ k l, L[k]? = some l → ∃ g o, qa = some ⟨g, o, none⟩ ∧ ∀ i, i < 4 → wb.cell? ⟨g, o + (k * 4 + i), none⟩ = (cellsL l)[i]?) := by
    intro k l hk
    have hl := (List.getElem?_eq_some_iff.1 hk).1
    obtain ⟨g, o, c, eg, _⟩ := (HPb.out.seg .post _ rfl).at (by show 0 < L.length; omega)
    have eg1 : v .post = .slice (some ⟨g, o, none⟩) L.length c := eg
    have eg2 : Value.slice qa ln qc = .slice (some ⟨g, o, none⟩) ln c := by rw [← hfp, eg1, hll]
    obtain ⟨e1, e2⟩ : qa = some ⟨g, o, none⟩ ∧ qc = c := by simpa using eg2
    exact ⟨g, o, e1, (rd_come HPb.out eg1 hk).1⟩
  have hw0 : IntKind.i64.wrap ((ln : Int) - 1) = (ln : Int) - 1 := wrap_of ⟨by omega, by omega⟩
  have HEnd : Hid (atFrom j w L ln = -1) := by show _ = _; rw [← hll]; exact atFrom_end j w L
  have HLl := hidMk hll
  have b1' := hidMk b1
  have b2' := hidMk b2
  clear b1 b2 hll hfp
  conv => arg 2; whnf
  go_wp2_with (fail)
  go_loopw [15, 16] (fun x15 u wr => ∃ (m : Int) (o : Nat), o ≤ ln ∧ u = .int .i64 m ∧ x15 = .int .i64 (atFrom j w L o) ∧ Hid (m + 1 = (o : Int)) ∧ Hid (Stil wb wr)) (fun _ u _ => (intOf u + 1).toNat)
  case atStart => exact ⟨(ln : Int) - 1, ln, Nat.le_refl _, rfl, by rw [HEnd.out], hidMk (by omega), hidMk (Keep.refl _ _)⟩
  case round =>
    obtain ⟨m, o, ho, rfl, rfl, HM, HKr⟩ := hrel
    by_cases hm : m < 0
    · obtain ⟨rfl, rfl⟩ : m = -1 ∧ o = 0 := by have := HM.out; omega
      clear hm
      go_wp2
      exact HQ.out _ _ _ _ _ _ _ _ _ _ _ _ _ _ _ _ _ _ _ _ _ _ _ _ _ _ _ _ _ _ _ _ _ _ _ _ HKr.out
    · obtain ⟨k, rfl⟩ : ∃ k : Nat, m = (k : Int) := ⟨m.toNat, by omega⟩
      obtain rfl : o = k + 1 := by have := HM.out; omega
      have hk : k < L.length := by rw [HLl.out]; omega
      have hlk : L[k]? = some L[k] := List.getElem?_eq_getElem hk
      generalize L[k] = l at hlk
      have HAt := hidMk (atFrom_step j w hlk)
      obtain ⟨g, o2, rfl, hc⟩ := HG.out k l hlk
      obtain ⟨f, tt, xx, cc⟩ := l
      have d0 : wr.cell? ⟨g, o2 + k * 4, none⟩ = some (.int .i64 (f : Int)) := HKr.out.cell (by have := hc 0 (by omega); rw [show o2 + (k * 4 + 0) = o2 + k * 4 from by omega] at this; exact this)
      have d1 : wr.cell? ⟨g, o2 + k * 4 + 1, none⟩ = some (.int .i64 (tt : Int)) := HKr.out.cell (by have := hc 1 (by omega); rw [show o2 + (k * 4 + 1) = o2 + k * 4 + 1 from by omega] at this; exact this)
      have d3 : wr.cell? ⟨g, o2 + k * 4 + 3, none⟩ = some (.bool cc) := HKr.out.cell (by have := hc 3 (by omega); rw [show o2 + (k * 4 + 3) = o2 + k * 4 + 3 from by omega] at this; exact this)
      have c1r := HKr.out.cell b1'.out
      have c2r := HKr.out.cell b2'.out
      have hk1 : (k : Int) < (ln : Int) := by omega
      have hk2 : k < ln := by omega
      have hwk : IntKind.i64.wrap ((k : Int) - 1) = (k : Int) - 1 := wrap_of ⟨by omega, by omega⟩
      clear hc hm hlk hk
      cases cc with
      | true =>
        have HAt2 : Hid (atFrom j w L k = atFrom j w L (k + 1)) := by show _ = _; rw [HAt.out, if_neg (by simp [hit])]
        clear HAt
        go_wp2_with (fail)
        go_quiet (fail)
        go_wp2
        go_roundw
        case rel => exact ⟨(k : Int) - 1, k, by omega, rfl, by rw [HAt2.out], hidMk (by omega), hidMk (HKr.out.tr (Stil.drewN _ _))⟩
        case measure => first | (simp [intOf]; done) | (simp [intOf]; omega)
      | false =>
        by_cases hf : f = j
        · subst hf
          by_cases ht : tt = w
          · subst ht
            have HAt2 : Hid (atFrom f tt L k = (k : Int)) := by show _ = _; rw [HAt.out, if_pos (by simp [hit])]
            have q1 : ((f : Int) == (f : Int)) = true := by simp
            have q2 : ((tt : Int) == (tt : Int)) = true := by simp
            clear HAt
            go_wp2_with (fail)
            go_quiet (fail)
            go_wp2
            go_roundw
            case rel => exact ⟨(k : Int) - 1, k, by omega, rfl, by rw [HAt2.out], hidMk (by omega), hidMk (HKr.out.tr (Stil.drewN _ _))⟩
            case measure => first | (simp [intOf]; done) | (simp [intOf]; omega)
          · have HAt2 : Hid (atFrom f w L k = atFrom f w L (k + 1)) := by show _ = _; rw [HAt.out, if_neg (by simp [hit, ht])]
            have q1 : ((f : Int) == (f : Int)) = true := by simp
            have q2 : ((tt : Int) == (w : Int)) = false := by rw [beq_eq_false_iff_ne]; omega
            have q3 : (tt == w) = false := by rw [beq_eq_false_iff_ne]; exact ht
            clear HAt ht
            go_wp2_with (fail)
            go_quiet (fail)
            go_wp2
            go_roundw
            case rel => exact ⟨(k : Int) - 1, k, by omega, rfl, by rw [HAt2.out], hidMk (by omega), hidMk (HKr.out.tr (Stil.drewN _ _))⟩
            case measure => first | (simp [intOf]; done) | (simp [intOf]; omega)
        · have HAt2 : Hid (atFrom j w L k = atFrom j w L (k + 1)) := by show _ = _; rw [HAt.out, if_neg (by simp [hit, hf])]
          have q1 : ((f : Int) == (j : Int)) = false := by rw [beq_eq_false_iff_ne]; omega
          have q3 : (f == j) = false := by rw [beq_eq_false_iff_ne]; exact hf
          clear HAt hf
          go_wp2_with (fail)
          go_quiet (fail)
          go_wp2
          go_roundw
          case rel => exact ⟨(k : Int) - 1, k, by omega, rfl, by rw [HAt2.out], hidMk (by omega), hidMk (HKr.out.tr (Stil.drewN _ _))⟩
          case measure => first | (simp [intOf]; done) | (simp [intOf]; omega)
end Go.Proofs.Ytaojmbebkggafaa
