/- The document's Mutex, in pieces: a move of a kind. -/
import Derived.Test.YtaojmbebkggafaaMs2
namespace Go.Proofs.Ytaojmbebkggafaa
open Go.RowKit
set_option linter.unusedVariables false

theorem fin_same {n : Nat} {S : MS} (h : MInv n S) {w : Nat} (hw : w < n) : finM n S w = S := by
  unfold finM
  rw [if_neg]
  rintro ⟨h1, h2⟩
  have := h.lt w hw h1
  omega
theorem fin_ask (n : Nat) (S : MS) (w : Nat) : finM n (keysTo (askS S w) w ((S.pr w).num + 1) n) w = askM n S w := by
  have e : ((keysTo (askS S w) w ((S.pr w).num + 1) n).pr w).st = 1 := by
    rw [(keysTo_pr _ _ _ _).1]
    unfold askS
    rw [prM_prR]
  unfold finM askM enterM
  by_cases h : ((keysTo (askS S w) w ((S.pr w).num + 1) n).pr w).yes + 1 = n
  · rw [if_pos ⟨e, h⟩, if_pos h]
  · rw [if_neg (fun x => h x.2), if_neg h]
theorem fin_leave (n : Nat) (S : MS) (w : Nat) : finM n (leaveM S w) w = leaveM S w := by
  unfold finM
  rw [if_neg]
  rintro ⟨h1, _⟩
  unfold leaveM noneS at h1
  rw [prM_prR] at h1
  have h2 : ((yesesTo (outS S w) w (S.pr w).wait).pr w).st = 1 := h1
  rw [(yesesTo_pr w _ _).1] at h2
  unfold outS at h2
  rw [prM_prR] at h2
  exact absurd (show (0 : Nat) = 1 from h2) (by decide)
theorem fin_took {n : Nat} {S : MS} (h : MInv n S) {w j : Nat} (hw : w < n) (hj : j < n) (hjw : j ≠ w) : finM n (tookM S j w) w = takeM n S j w := by
  unfold tookM takeM
  cases hz : S.ways j w with
  | nil => exact fin_same h hw
  | cons x r =>
    show finM n (gotM (wayM S j w r) w x j) w = if x = 0 then _ else _
    unfold gotM
    by_cases hx : x = 0
    · rw [if_pos hx, if_pos hx]
      have e : (S.pr w).st = 1 := by
        refine Classical.byContradiction fun hn => ?_
        have h1 := h.off j w hj hw hjw hn
        unfold cc at h1
        rw [hz, nz_cons, if_pos hx] at h1
        omega
      have e1 : ((yesS (wayM S j w r) w).pr w).st = 1 := by unfold yesS; rw [prM_prR]; exact e
      unfold finM enterM
      by_cases h2 : ((yesS (wayM S j w r) w).pr w).yes + 1 = n
      · rw [if_pos ⟨e1, h2⟩, if_pos h2]
      · rw [if_neg (fun x => h2 x.2), if_neg h2]
    · rw [if_neg hx, if_neg hx]
      have e : ((answerM (wayM S j w r) w x j).pr w).st = (S.pr w).st ∧ ((answerM (wayM S j w r) w x j).pr w).yes = (S.pr w).yes := by
        unfold answerM
        split
        · rw [prM_prR]; exact ⟨rfl, rfl⟩
        · show ((numS (wayM S j w r) w x).pr w).st = _ ∧ ((numS (wayM S j w r) w x).pr w).yes = _
          unfold numS; rw [prM_prR]; exact ⟨rfl, rfl⟩
      unfold finM
      rw [if_neg]
      rintro ⟨h1, h2⟩
      rw [e.1] at h1
      rw [e.2] at h2
      have := h.lt w hw h1
      omega
set_option maxRecDepth 1000000 in
set_option maxHeartbeats 16000000 in
theorem chain_walk {Q : Exit → Act → World → Prop} {wb : World} {n b5 P bb ln qc : Nat} {qa : Option Addr} {kd wh ms : Int} {S : MS} {L : List Lt} {cdk : List Int} {t : Nat → Option RT} {v : RT → Value} {c1 c4 c21 c22 c23 c24 c25 c26 : Value} {u8 u11 u12 u14 u15 u16 u17 u27 u28 u29 u30 u31 u32 u33 u34 u35 u36 u37 u38 u39 u40 u41 u42 u43 u44 u45 u46 u47 u48 u49 u50 u51 u52 u53 u54 u55 u56 u57 u58 u59 u60 u61 u62 u63 u64 u65 u66 u67 u68 u69 u70 u71 u72 u73 u74 u75 u76 u77 u78 u79 u80 u81 u82 u83 u84 u85 u86 u87 u88 u89 u90 u91 u92 u93 u94 u95 u96 u97 u98 u99 u100 u101 u102 u103 u104 u105 u106 u107 u108 u109 u110 u111 u112 u113 u114 u115 u116 u117 u118 u119 u120 u121 u122 u123 u124 u125 u126 u127 u128 u129 u130 u131 u132 u133 u134 u135 u136 u137 u138 u139 u140 u141 u142 u143 u144 u145 u146 u147 u148 u149 u150 u151 u152 u153 u154 u155 u156 u157 u158 u159 u160 u161 u162 u163 u164 u165 u166 u167 u168 u169 u170 u171 u172 u173 u174 u175 u176 u177 u178 u179 u180 u181 u182 u183 u184 u185 u186 u187 u188 u189 u190 u191 u192 u193 u194 u195 u196 u197 u198 u199 u200 u201 u202 u203 u204 u205 u206 u207 u208 u209 u210 u211 u212 u213 u214 u215 u216 u217 u218 u219 u220 u221 u222 u223 u224 u225 u226 u227 u228 u229 u230 u231 u232 u233 u234 u235 u236 u237 u238 u239 u240 u241 u242 u243 u244 u245 u246 u247 u248 u249 u250 u251 u252 u253 u254 u255 u256 u257 u258 u259 u260 u261 u262 u263 u264 u265 u266 u267 u268 u269 u270 u271 u272 u273 u274 u275 u276 u277 u278 u279 u280 u281 u282 u283 u284 u285 u286 u287 u288 u289 u290 u291 u292 u293 u294 u295 u296 u297 u298 u299 u300 u301 u302 u303 u304 u305 u306 u307 u308 u309 u310 u311 : Value}
    (h0 : 0 < n) (h6 : n ≤ 6) (hkd : kd = 1 ∨ kd = 2 ∨ kd = 3) (hI : Hid (MInv n S)) (hnm : Hid (∀ i, (S.pr i).num ≤ 900 ∧ (S.pr i).yes ≤ 900)) (hwl6 : Hid (∀ i, i < n → (S.pr i).wait.length ≤ 6)) (hwy : Hid (∀ i j x, x ∈ S.ways i j → x ≤ 900)) (hin : S.ins.length ≤ 1000) (HSim : Hid (SimL n S L)) (hln : ln ≤ 20000) (hll : L.length = ln) (hfp : v .post = .slice qa ln qc)
    (HPb : Hid (Pool wb t (RD n b5 P S L cdk [] 0 v))) (b0 : wb.cell? ⟨bb, 0, none⟩ = some (.int .i64 kd)) (b1 : wb.cell? ⟨bb, 1, none⟩ = some (.int .i64 wh)) (b2 : wb.cell? ⟨bb, 2, none⟩ = some (.int .i64 ms)) (htb : t bb = none) (hbs : bb < wb.heap.size)
    (hQ : ∀ (z7 z10 z11 z12 z14 z15 z16 z17 z43 z44 z45 z46 z47 z48 z49 z50 z51 z52 z53 z54 z55 z56 z57 z58 z59 z60 z61 z62 z63 z64 z65 z66 z67 z68 z69 z70 z71 z72 z73 z74 z75 z76 z77 z78 z79 z80 z81 z82 z83 z84 z85 z86 z87 z88 z89 z90 z91 z92 z93 z94 z95 z96 z97 z98 z99 z100 z101 z102 z103 z104 z105 z106 z107 z108 z109 z110 z111 z112 z113 z114 z115 z116 z117 z118 z119 z120 z121 z122 z123 z124 z125 z126 z127 z128 z129 z130 z131 z132 z133 z134 z135 z136 z137 z138 z139 z140 z141 z142 z143 z144 z145 z146 z147 z148 z149 z150 z151 z152 z153 z154 z155 z156 z157 z158 z159 z160 z161 z162 z163 z164 z165 z166 z167 z168 z169 z170 z171 z172 z173 z174 z175 z176 z177 z178 z179 z180 z181 z182 z183 z184 z185 z186 z187 z188 z189 z190 z191 z192 z193 z194 z195 z196 z197 z198 z199 z200 z201 z202 z203 z204 z205 z206 z207 z208 z209 z210 z211 z212 z213 z214 z215 z216 z217 z218 z219 z220 z221 z222 z223 z224 z225 z226 z227 z228 z229 z230 z231 z232 z233 z234 z235 z236 z237 z238 z239 z240 z241 z242 z243 z244 z245 z246 z247 z248 z249 z250 z251 z252 z253 z254 z255 z256 z257 z258 z259 z260 z261 z262 z263 z264 z265 z266 z267 z268 z269 z270 z271 z272 z273 z274 z275 z276 z277 z278 z279 z280 z281 z282 z283 z284 z285 z286 z287 z288 z289 z290 z291 z292 z293 z294 z295 z296 z297 z298 z299 z300 z301 z302 z303 z304 : Value) (wx : World) (t2 : Nat → Option RT) (v2 : RT → Value) (L2 : List Lt), Pool wx t2 (RD n b5 P (stepM n S ⟨kd, wh, ms⟩) L2 cdk [] 0 v2) → PStep wb t wx t2 → z7 = v2 .post → SimL n (stepM n S ⟨kd, wh, ms⟩) L2 → L2.length ≤ ln + 6 → z10 = .int .i64 (codeM n S ⟨kd, wh, ms⟩) → Q .normal ⟨#[.int .i64 (n : Int), c1, undef, undef, c4, .pointer (some ⟨b5, 0, none⟩), .slice (some ⟨P, 0, none⟩) n n, z7, u8, .pointer (some ⟨bb, 0, none⟩), z10, z11, z12, undef, z14, z15, z16, z17, undef, undef, undef, c21, c22, c23, c24, c25, c26, u27, u28, u29, u30, u31, u32, u33, u34, u35, u36, u37, u38, u39, u40, u41, u42, z43, z44, z45, z46, z47, z48, z49, z50, z51, z52, z53, z54, z55, z56, z57, z58, z59, z60, z61, z62, z63, z64, z65, z66, z67, z68, z69, z70, z71, z72, z73, z74, z75, z76, z77, z78, z79, z80, z81, z82, z83, z84, z85, z86, z87, z88, z89, z90, z91, z92, z93, z94, z95, z96, z97, z98, z99, z100, z101, z102, z103, z104, z105, z106, z107, z108, z109, z110, z111, z112, z113, z114, z115, z116, z117, z118, z119, z120, z121, z122, z123, z124, z125, z126, z127, z128, z129, z130, z131, z132, z133, z134, z135, z136, z137, z138, z139, z140, z141, z142, z143, z144, z145, z146, z147, z148, z149, z150, z151, z152, z153, z154, z155, z156, z157, z158, z159, z160, z161, z162, z163, z164, z165, z166, z167, z168, z169, z170, z171, z172, z173, z174, z175, z176, z177, z178, z179, z180, z181, z182, z183, z184, z185, z186, z187, z188, z189, z190, z191, z192, z193, z194, z195, z196, z197, z198, z199, z200, z201, z202, z203, z204, z205, z206, z207, z208, z209, z210, z211, z212, z213, z214, z215, z216, z217, z218, z219, z220, z221, z222, z223, z224, z225, z226, z227, z228, z229, z230, z231, z232, z233, z234, z235, z236, z237, z238, z239, z240, z241, z242, z243, z244, z245, z246, z247, z248, z249, z250, z251, z252, z253, z254, z255, z256, z257, z258, z259, z260, z261, z262, z263, z264, z265, z266, z267, z268, z269, z270, z271, z272, z273, z274, z275, z276, z277, z278, z279, z280, z281, z282, z283, z284, z285, z286, z287, z288, z289, z290, z291, z292, z293, z294, z295, z296, z297, z298, z299, z300, z301, z302, z303, z304, u305, u306, u307, u308, u309, u310, u311, undef, undef, undef, undef, undef, undef, undef, undef, undef, undef, undef, undef, undef, undef, undef, undef, undef, undef, undef, undef, undef, undef, undef, undef, undef, undef, undef, undef, undef, undef, undef, undef], []⟩ wx) :
    Code.wp Try.prog chainCode Q ⟨#[.int .i64 (n : Int), c1, undef, undef, c4, .pointer (some ⟨b5, 0, none⟩), .slice (some ⟨P, 0, none⟩) n n, .slice qa ln qc, u8, .pointer (some ⟨bb, 0, none⟩), .int .i64 0, u11, u12, undef, u14, u15, u16, u17, undef, undef, undef, c21, c22, c23, c24, c25, c26, u27, u28, u29, u30, u31, u32, u33, u34, u35, u36, u37, u38, u39, u40, u41, u42, u43, u44, u45, u46, u47, u48, u49, u50, u51, u52, u53, u54, u55, u56, u57, u58, u59, u60, u61, u62, u63, u64, u65, u66, u67, u68, u69, u70, u71, u72, u73, u74, u75, u76, u77, u78, u79, u80, u81, u82, u83, u84, u85, u86, u87, u88, u89, u90, u91, u92, u93, u94, u95, u96, u97, u98, u99, u100, u101, u102, u103, u104, u105, u106, u107, u108, u109, u110, u111, u112, u113, u114, u115, u116, u117, u118, u119, u120, u121, u122, u123, u124, u125, u126, u127, u128, u129, u130, u131, u132, u133, u134, u135, u136, u137, u138, u139, u140, u141, u142, u143, u144, u145, u146, u147, u148, u149, u150, u151, u152, u153, u154, u155, u156, u157, u158, u159, u160, u161, u162, u163, u164, u165, u166, u167, u168, u169, u170, u171, u172, u173, u174, u175, u176, u177, u178, u179, u180, u181, u182, u183, u184, u185, u186, u187, u188, u189, u190, u191, u192, u193, u194, u195, u196, u197, u198, u199, u200, u201, u202, u203, u204, u205, u206, u207, u208, u209, u210, u211, u212, u213, u214, u215, u216, u217, u218, u219, u220, u221, u222, u223, u224, u225, u226, u227, u228, u229, u230, u231, u232, u233, u234, u235, u236, u237, u238, u239, u240, u241, u242, u243, u244, u245, u246, u247, u248, u249, u250, u251, u252, u253, u254, u255, u256, u257, u258, u259, u260, u261, u262, u263, u264, u265, u266, u267, u268, u269, u270, u271, u272, u273, u274, u275, u276, u277, u278, u279, u280, u281, u282, u283, u284, u285, u286, u287, u288, u289, u290, u291, u292, u293, u294, u295, u296, u297, u298, u299, u300, u301, u302, u303, u304, u305, u306, u307, u308, u309, u310, u311, undef, undef, undef, undef, undef, undef, undef, undef, undef, undef, undef, undef, undef, undef, undef, undef, undef, undef, undef, undef, undef, undef, undef, undef, undef, undef, undef, undef, undef, undef, undef, undef], []⟩ wb := by
  refine Code.wp_mono onlyN_imp ?_
  have HQ := hidMk hQ
  clear hQ
  have hk4 : ¬ (kd ≠ 1 ∧ kd ≠ 2 ∧ kd ≠ 3) := by omega
  have hcode : codeM n S ⟨kd, wh, ms⟩ = if inP n wh = false ∨ (kd = 2 ∧ (inP n ms = false ∨ wh = ms)) then 2 else if kd = 2 then (if S.ways ms.toNat wh.toNat = [] then 5 else 0) else if (kd = 1 ∧ (S.pr wh.toNat).st ≠ 0) ∨ (kd = 3 ∧ (S.pr wh.toNat).st ≠ 2) then 6 else 0 := by
    unfold codeM
    rw [if_neg hk4]
  have hstep : codeM n S ⟨kd, wh, ms⟩ ≠ 0 → stepM n S ⟨kd, wh, ms⟩ = S := by intro h; unfold stepM; rw [if_neg h]
  have hdo : codeM n S ⟨kd, wh, ms⟩ = 0 → stepM n S ⟨kd, wh, ms⟩ = doM n S ⟨kd, wh, ms⟩ := by intro h; unfold stepM; rw [if_pos h]
  have HDo := hidMk hdo
  have HStep := hidMk hstep
  clear hdo hstep hk4
  conv => arg 2; whnf
  refine wp_seq_k (fun K1 hK1 => ?_)
  have HK1 := hidMk hK1
  clear hK1
  by_cases w1 : inP n wh = false
  · rw [if_pos (.inl w1)] at hcode
    have HE1 := hidMk hcode
    have HE2 := hidMk (HStep.out (by rw [hcode]; decide))
    have w2 : wh < 0 ∨ ¬ wh < 0 ∧ (n : Int) ≤ wh := by simp [inP] at w1; omega
    clear hcode w1
    rcases w2 with w2 | ⟨w2, w3⟩
    · have w4 : decide (wh < 0) = true := decide_eq_true w2
      go_wp2
      refine HK1.out _ _ ?_
      refine wp_cond_true rfl ?_
      go_wp2
      exact HQ.out _ _ _ _ _ _ _ _ _ _ _ _ _ _ _ _ _ _ _ _ _ _ _ _ _ _ _ _ _ _ _ _ _ _ _ _ _ _ _ _ _ _ _ _ _ _ _ _ _ _ _ _ _ _ _ _ _ _ _ _ _ _ _ _ _ _ _ _ _ _ _ _ _ _ _ _ _ _ _ _ _ _ _ _ _ _ _ _ _ _ _ _ _ _ _ _ _ _ _ _ _ _ _ _ _ _ _ _ _ _ _ _ _ _ _ _ _ _ _ _ _ _ _ _ _ _ _ _ _ _ _ _ _ _ _ _ _ _ _ _ _ _ _ _ _ _ _ _ _ _ _ _ _ _ _ _ _ _ _ _ _ _ _ _ _ _ _ _ _ _ _ _ _ _ _ _ _ _ _ _ _ _ _ _ _ _ _ _ _ _ _ _ _ _ _ _ _ _ _ _ _ _ _ _ _ _ _ _ _ _ _ _ _ _ _ _ _ _ _ _ _ _ _ _ _ _ _ _ _ _ _ _ _ _ _ _ _ _ _ _ _ _ _ _ _ _ _ _ _ _ _ _ _ _ _ _ _ _ _ _ _ _ _ _ _ _ _ _ _ _ _ t v L (by rw [HE2.out]; exact HPb.out) (PStep.refl _ _) hfp.symm (by rw [HE2.out]; exact HSim.out) (by omega) (by rw [HE1.out])
    · have w4 : decide (wh < 0) = false := decide_eq_false w2
      have w5 : decide ((n : Int) ≤ wh) = true := decide_eq_true w3
      go_wp2
      refine HK1.out _ _ ?_
      refine wp_cond_true rfl ?_
      go_wp2
      exact HQ.out _ _ _ _ _ _ _ _ _ _ _ _ _ _ _ _ _ _ _ _ _ _ _ _ _ _ _ _ _ _ _ _ _ _ _ _ _ _ _ _ _ _ _ _ _ _ _ _ _ _ _ _ _ _ _ _ _ _ _ _ _ _ _ _ _ _ _ _ _ _ _ _ _ _ _ _ _ _ _ _ _ _ _ _ _ _ _ _ _ _ _ _ _ _ _ _ _ _ _ _ _ _ _ _ _ _ _ _ _ _ _ _ _ _ _ _ _ _ _ _ _ _ _ _ _ _ _ _ _ _ _ _ _ _ _ _ _ _ _ _ _ _ _ _ _ _ _ _ _ _ _ _ _ _ _ _ _ _ _ _ _ _ _ _ _ _ _ _ _ _ _ _ _ _ _ _ _ _ _ _ _ _ _ _ _ _ _ _ _ _ _ _ _ _ _ _ _ _ _ _ _ _ _ _ _ _ _ _ _ _ _ _ _ _ _ _ _ _ _ _ _ _ _ _ _ _ _ _ _ _ _ _ _ _ _ _ _ _ _ _ _ _ _ _ _ _ _ _ _ _ _ _ _ _ _ _ _ _ _ _ _ _ _ _ _ _ _ _ _ _ _ t v L (by rw [HE2.out]; exact HPb.out) (PStep.refl _ _) hfp.symm (by rw [HE2.out]; exact HSim.out) (by omega) (by rw [HE1.out])
  · obtain ⟨w, hw, rfl⟩ : ∃ w : Nat, w < n ∧ wh = (w : Int) := ⟨wh.toNat, by simp [inP] at w1; omega, by simp [inP] at w1; omega⟩
    have w4 : decide ((w : Int) < 0) = false := decide_eq_false (by omega)
    have w5 : ¬ (n : Int) ≤ (w : Int) := by omega
    have w6 : decide ((n : Int) ≤ (w : Int)) = false := decide_eq_false (by omega)
    have w8 : decide (n ≤ w) = false := decide_eq_false (by omega)
    have w9 : ¬ n ≤ w := by omega
    simp only [Int.toNat_natCast] at hcode
    have hn1 := (hnm.out w).1
    have hn2 := (hnm.out w).2
    rcases hkd with rfl | rfl | rfl
    · rw [if_neg (by rintro (h | ⟨h, _⟩); exact w1 h; omega), if_neg (by decide)] at hcode
      by_cases hst : (S.pr w).st = 0
      · rw [if_neg (by rintro (⟨_, h⟩ | ⟨h, _⟩); exact h hst; omega)] at hcode
        have HE1 := hidMk hcode
        have HE2 : Hid (stepM n S ⟨1, (w : Int), ms⟩ = finM n (keysTo (askS S w) w ((S.pr w).num + 1) n) w) := by show _ = _; rw [HDo.out hcode, fin_ask]; rfl
        clear hcode w1
        go_wp2
        refine HK1.out _ _ ?_
        refine wp_cond_false rfl ?_
        refine work_ask h0 h6 hw hst (by omega) (by omega) hin HSim hln hll hfp HPb b0 b1 b2 htb hbs ?_
        intro z7 z10 z11 z12 z14 z15 z16 z17 z75 z76 z77 z78 z79 z80 z81 z82 z83 z84 z85 z86 z87 z88 z89 z90 z91 z92 z93 z94 z95 z96 z97 z98 z99 z100 z101 z102 z103 z104 z105 z106 z107 z108 z109 z110 z111 z112 z113 z114 z115 z116 z117 z118 z119 z120 z121 z122 z123 z124 z125 z126 z127 z128 z129 z130 z131 z132 z133 z134 z135 z136 z137 z138 z139 z140 z141 z142 z143 z144 z145 z146 z147 z148 z149 z150 z151 z152 z153 z154 z155 z156 z157 z158 z159 z160 z161 z162 z163 z164 z165 z166 z167 z168 z169 z170 z171 z172 z173 z174 z175 z176 z177 z178 z179 z180 z181 z182 z183 z184 z185 z186 z187 z188 z189 z190 z191 z192 z193 z194 z195 z196 z197 z198 z199 z200 z201 z202 z203 z204 z205 z206 z207 z208 z209 z210 z211 z212 z213 z214 z215 z216 z217 z218 z219 z220 z221 z222 z223 z224 z225 z226 z227 z228 z229 z230 z231 z232 z233 z234 z235 z236 z237 z238 z239 z240 z241 z242 z243 z244 z245 z246 z247 z248 z249 z250 z251 z252 z253 z254 z255 z256 z257 z258 z259 z260 z261 z262 z263 z264 z265 z266 z267 z268 z269 z270 z271 z272 z273 z274 z275 z276 z277 z278 z279 z280 z281 z282 z283 z284 z285 z286 z287 z288 z289 z290 z291 z292 z293 z294 z295 z296 z297 z298 z299 z300 z301 z302 z303 z304 wx t2 v2 L2 P2 S2 e2 M2 l2 e10
        exact HQ.out _ _ _ _ _ _ _ _ _ _ _ _ _ _ _ _ _ _ _ _ _ _ _ _ _ _ _ _ _ _ _ _ _ _ _ _ _ _ _ _ _ _ _ _ _ _ _ _ _ _ _ _ _ _ _ _ _ _ _ _ _ _ _ _ _ _ _ _ _ _ _ _ _ _ _ _ _ _ _ _ _ _ _ _ _ _ _ _ _ _ _ _ _ _ _ _ _ _ _ _ _ _ _ _ _ _ _ _ _ _ _ _ _ _ _ _ _ _ _ _ _ _ _ _ _ _ _ _ _ _ _ _ _ _ _ _ _ _ _ _ _ _ _ _ _ _ _ _ _ _ _ _ _ _ _ _ _ _ _ _ _ _ _ _ _ _ _ _ _ _ _ _ _ _ _ _ _ _ _ _ _ _ _ _ _ _ _ _ _ _ _ _ _ _ _ _ _ _ _ _ _ _ _ _ _ _ _ _ _ _ _ _ _ _ _ _ _ _ _ _ _ _ _ _ _ _ _ _ _ _ _ _ _ _ _ _ _ _ _ _ _ _ _ _ _ _ _ _ _ _ _ _ _ _ _ _ _ _ _ _ _ _ _ _ _ _ _ _ _ _ _ t2 v2 L2 (by rw [HE2.out]; exact P2) S2 e2 (by rw [HE2.out]; exact M2) l2 (by rw [HE1.out, e10])
      · rw [if_pos (.inl ⟨rfl, hst⟩)] at hcode
        have HE1 := hidMk hcode
        have HE2 : Hid (stepM n S ⟨1, (w : Int), ms⟩ = finM n S w) := by show _ = _; rw [HStep.out (by rw [hcode]; decide), fin_same hI.out hw]
        clear hcode w1
        go_wp2
        refine HK1.out _ _ ?_
        refine wp_cond_false rfl ?_
        refine work_hold1 h0 h6 hw hst (by omega) (by omega) hin HSim hln hll hfp HPb b0 b1 b2 htb hbs ?_
        intro z7 z10 z11 z12 z14 z15 z16 z17 z75 z76 z77 z78 z79 z80 z81 z82 z83 z84 z85 z86 z87 z88 z89 z90 z91 z92 z93 z94 z95 z96 z97 z98 z99 z100 z101 z102 z103 z104 z105 z106 z107 z108 z109 z110 z111 z112 z113 z114 z115 z116 z117 z118 z119 z120 z121 z122 z123 z124 z125 z126 z127 z128 z129 z130 z131 z132 z133 z134 z135 z136 z137 z138 z139 z140 z141 z142 z143 z144 z145 z146 z147 z148 z149 z150 z151 z152 z153 z154 z155 z156 z157 z158 z159 z160 z161 z162 z163 z164 z165 z166 z167 z168 z169 z170 z171 z172 z173 z174 z175 z176 z177 z178 z179 z180 z181 z182 z183 z184 z185 z186 z187 z188 z189 z190 z191 z192 z193 z194 z195 z196 z197 z198 z199 z200 z201 z202 z203 z204 z205 z206 z207 z208 z209 z210 z211 z212 z213 z214 z215 z216 z217 z218 z219 z220 z221 z222 z223 z224 z225 z226 z227 z228 z229 z230 z231 z232 z233 z234 z235 z236 z237 z238 z239 z240 z241 z242 z243 z244 z245 z246 z247 z248 z249 z250 z251 z252 z253 z254 z255 z256 z257 z258 z259 z260 z261 z262 z263 z264 z265 z266 z267 z268 z269 z270 z271 z272 z273 z274 z275 z276 z277 z278 z279 z280 z281 z282 z283 z284 z285 z286 z287 z288 z289 z290 z291 z292 z293 z294 z295 z296 z297 z298 z299 z300 z301 z302 z303 z304 wx t2 v2 L2 P2 S2 e2 M2 l2 e10
        exact HQ.out _ _ _ _ _ _ _ _ _ _ _ _ _ _ _ _ _ _ _ _ _ _ _ _ _ _ _ _ _ _ _ _ _ _ _ _ _ _ _ _ _ _ _ _ _ _ _ _ _ _ _ _ _ _ _ _ _ _ _ _ _ _ _ _ _ _ _ _ _ _ _ _ _ _ _ _ _ _ _ _ _ _ _ _ _ _ _ _ _ _ _ _ _ _ _ _ _ _ _ _ _ _ _ _ _ _ _ _ _ _ _ _ _ _ _ _ _ _ _ _ _ _ _ _ _ _ _ _ _ _ _ _ _ _ _ _ _ _ _ _ _ _ _ _ _ _ _ _ _ _ _ _ _ _ _ _ _ _ _ _ _ _ _ _ _ _ _ _ _ _ _ _ _ _ _ _ _ _ _ _ _ _ _ _ _ _ _ _ _ _ _ _ _ _ _ _ _ _ _ _ _ _ _ _ _ _ _ _ _ _ _ _ _ _ _ _ _ _ _ _ _ _ _ _ _ _ _ _ _ _ _ _ _ _ _ _ _ _ _ _ _ _ _ _ _ _ _ _ _ _ _ _ _ _ _ _ _ _ _ _ _ _ _ _ _ _ _ _ _ _ _ t2 v2 L2 (by rw [HE2.out]; exact P2) S2 e2 (by rw [HE2.out]; exact M2) l2 (by rw [HE1.out, e10])
    · by_cases m1 : inP n ms = false
      · rw [if_pos (.inr ⟨rfl, .inl m1⟩)] at hcode
        have HE1 := hidMk hcode
        have HE2 := hidMk (HStep.out (by rw [hcode]; decide))
        have m2 : ms < 0 ∨ ¬ ms < 0 ∧ (n : Int) ≤ ms := by simp [inP] at m1; omega
        clear hcode w1 m1
        rcases m2 with m2 | ⟨m2, m3⟩
        · have m4 : decide (ms < 0) = true := decide_eq_true m2
          go_wp2
          refine HK1.out _ _ ?_
          refine wp_cond_true rfl ?_
          go_wp2
          exact HQ.out _ _ _ _ _ _ _ _ _ _ _ _ _ _ _ _ _ _ _ _ _ _ _ _ _ _ _ _ _ _ _ _ _ _ _ _ _ _ _ _ _ _ _ _ _ _ _ _ _ _ _ _ _ _ _ _ _ _ _ _ _ _ _ _ _ _ _ _ _ _ _ _ _ _ _ _ _ _ _ _ _ _ _ _ _ _ _ _ _ _ _ _ _ _ _ _ _ _ _ _ _ _ _ _ _ _ _ _ _ _ _ _ _ _ _ _ _ _ _ _ _ _ _ _ _ _ _ _ _ _ _ _ _ _ _ _ _ _ _ _ _ _ _ _ _ _ _ _ _ _ _ _ _ _ _ _ _ _ _ _ _ _ _ _ _ _ _ _ _ _ _ _ _ _ _ _ _ _ _ _ _ _ _ _ _ _ _ _ _ _ _ _ _ _ _ _ _ _ _ _ _ _ _ _ _ _ _ _ _ _ _ _ _ _ _ _ _ _ _ _ _ _ _ _ _ _ _ _ _ _ _ _ _ _ _ _ _ _ _ _ _ _ _ _ _ _ _ _ _ _ _ _ _ _ _ _ _ _ _ _ _ _ _ _ _ _ _ _ _ _ _ t v L (by rw [HE2.out]; exact HPb.out) (PStep.refl _ _) hfp.symm (by rw [HE2.out]; exact HSim.out) (by omega) (by rw [HE1.out])
        · have m4 : decide (ms < 0) = false := decide_eq_false m2
          have m5 : decide ((n : Int) ≤ ms) = true := decide_eq_true m3
          go_wp2
          refine HK1.out _ _ ?_
          refine wp_cond_true rfl ?_
          go_wp2
          exact HQ.out _ _ _ _ _ _ _ _ _ _ _ _ _ _ _ _ _ _ _ _ _ _ _ _ _ _ _ _ _ _ _ _ _ _ _ _ _ _ _ _ _ _ _ _ _ _ _ _ _ _ _ _ _ _ _ _ _ _ _ _ _ _ _ _ _ _ _ _ _ _ _ _ _ _ _ _ _ _ _ _ _ _ _ _ _ _ _ _ _ _ _ _ _ _ _ _ _ _ _ _ _ _ _ _ _ _ _ _ _ _ _ _ _ _ _ _ _ _ _ _ _ _ _ _ _ _ _ _ _ _ _ _ _ _ _ _ _ _ _ _ _ _ _ _ _ _ _ _ _ _ _ _ _ _ _ _ _ _ _ _ _ _ _ _ _ _ _ _ _ _ _ _ _ _ _ _ _ _ _ _ _ _ _ _ _ _ _ _ _ _ _ _ _ _ _ _ _ _ _ _ _ _ _ _ _ _ _ _ _ _ _ _ _ _ _ _ _ _ _ _ _ _ _ _ _ _ _ _ _ _ _ _ _ _ _ _ _ _ _ _ _ _ _ _ _ _ _ _ _ _ _ _ _ _ _ _ _ _ _ _ _ _ _ _ _ _ _ _ _ _ _ t v L (by rw [HE2.out]; exact HPb.out) (PStep.refl _ _) hfp.symm (by rw [HE2.out]; exact HSim.out) (by omega) (by rw [HE1.out])
      · obtain ⟨j, hj, rfl⟩ : ∃ j : Nat, j < n ∧ ms = (j : Int) := ⟨ms.toNat, by simp [inP] at m1; omega, by simp [inP] at m1; omega⟩
        have m4 : decide ((j : Int) < 0) = false := decide_eq_false (by omega)
        have m5 : ¬ (n : Int) ≤ (j : Int) := by omega
        have m6 : decide ((n : Int) ≤ (j : Int)) = false := decide_eq_false (by omega)
        have m8 : decide (n ≤ j) = false := decide_eq_false (by omega)
        have m9 : ¬ n ≤ j := by omega
        rw [Int.toNat_natCast] at hcode
        by_cases hjw : j = w
        · subst hjw
          rw [if_pos (.inr ⟨rfl, .inr rfl⟩)] at hcode
          have HE1 := hidMk hcode
          have HE2 := hidMk (HStep.out (by rw [hcode]; decide))
          have m7 : ((j : Int) == (j : Int)) = true := by simp
          clear hcode w1 m1
          go_wp2
          refine HK1.out _ _ ?_
          refine wp_cond_true rfl ?_
          go_wp2
          exact HQ.out _ _ _ _ _ _ _ _ _ _ _ _ _ _ _ _ _ _ _ _ _ _ _ _ _ _ _ _ _ _ _ _ _ _ _ _ _ _ _ _ _ _ _ _ _ _ _ _ _ _ _ _ _ _ _ _ _ _ _ _ _ _ _ _ _ _ _ _ _ _ _ _ _ _ _ _ _ _ _ _ _ _ _ _ _ _ _ _ _ _ _ _ _ _ _ _ _ _ _ _ _ _ _ _ _ _ _ _ _ _ _ _ _ _ _ _ _ _ _ _ _ _ _ _ _ _ _ _ _ _ _ _ _ _ _ _ _ _ _ _ _ _ _ _ _ _ _ _ _ _ _ _ _ _ _ _ _ _ _ _ _ _ _ _ _ _ _ _ _ _ _ _ _ _ _ _ _ _ _ _ _ _ _ _ _ _ _ _ _ _ _ _ _ _ _ _ _ _ _ _ _ _ _ _ _ _ _ _ _ _ _ _ _ _ _ _ _ _ _ _ _ _ _ _ _ _ _ _ _ _ _ _ _ _ _ _ _ _ _ _ _ _ _ _ _ _ _ _ _ _ _ _ _ _ _ _ _ _ _ _ _ _ _ _ _ _ _ _ _ _ _ t v L (by rw [HE2.out]; exact HPb.out) (PStep.refl _ _) hfp.symm (by rw [HE2.out]; exact HSim.out) (by omega) (by rw [HE1.out])
        · rw [if_neg (by rintro (h | ⟨_, h | h⟩); exact w1 h; exact m1 h; omega), if_pos rfl] at hcode
          have m7 : ((j : Int) == (w : Int)) = false := by rw [beq_eq_false_iff_ne]; omega
          have m10 : (j == w) = false := by rw [beq_eq_false_iff_ne]; exact hjw
          have HE1 := hidMk hcode
          have HE2 : Hid (stepM n S ⟨2, (w : Int), (j : Int)⟩ = finM n (tookM S j w) w) := by
            show _ = _
            rw [fin_took hI.out hw hj hjw]
            by_cases hz : S.ways j w = []
            · rw [HStep.out (by rw [hcode, if_pos hz]; decide)]
              unfold takeM; rw [hz]
            · rw [HDo.out (by rw [hcode, if_neg hz])]; rfl
          have hkp : (S.pr w).st = 1 → (S.pr w).kp = w := fun h => (hI.out.own w hw (by omega)).1
          have hst := hI.out.st3 w
          have hways : ∀ x ∈ S.ways j w, x ≤ 100000 := fun x hx => by have := hwy.out j w x hx; omega
          have hwl : (S.pr w).wait.length ≤ 1000 := by have := hwl6.out w hw; omega
          clear hcode w1 m1 hjw
          go_wp2
          refine HK1.out _ _ ?_
          refine wp_cond_false rfl ?_
          refine work_take h0 h6 hw hj hways hst hkp hwl (by omega) (by omega) hin HSim hln hll hfp HPb b0 b1 b2 htb hbs ?_
          intro z7 z10 z11 z12 z14 z15 z16 z17 z75 z76 z77 z78 z79 z80 z81 z82 z83 z84 z85 z86 z87 z88 z89 z90 z91 z92 z93 z94 z95 z96 z97 z98 z99 z100 z101 z102 z103 z104 z105 z106 z107 z108 z109 z110 z111 z112 z113 z114 z115 z116 z117 z118 z119 z120 z121 z122 z123 z124 z125 z126 z127 z128 z129 z130 z131 z132 z133 z134 z135 z136 z137 z138 z139 z140 z141 z142 z143 z144 z145 z146 z147 z148 z149 z150 z151 z152 z153 z154 z155 z156 z157 z158 z159 z160 z161 z162 z163 z164 z165 z166 z167 z168 z169 z170 z171 z172 z173 z174 z175 z176 z177 z178 z179 z180 z181 z182 z183 z184 z185 z186 z187 z188 z189 z190 z191 z192 z193 z194 z195 z196 z197 z198 z199 z200 z201 z202 z203 z204 z205 z206 z207 z208 z209 z210 z211 z212 z213 z214 z215 z216 z217 z218 z219 z220 z221 z222 z223 z224 z225 z226 z227 z228 z229 z230 z231 z232 z233 z234 z235 z236 z237 z238 z239 z240 z241 z242 z243 z244 z245 z246 z247 z248 z249 z250 z251 z252 z253 z254 z255 z256 z257 z258 z259 z260 z261 z262 z263 z264 z265 z266 z267 z268 z269 z270 z271 z272 z273 z274 z275 z276 z277 z278 z279 z280 z281 z282 z283 z284 z285 z286 z287 z288 z289 z290 z291 z292 z293 z294 z295 z296 z297 z298 z299 z300 z301 z302 z303 z304 wx t2 v2 L2 P2 S2 e2 M2 l2 e10
          exact HQ.out _ _ _ _ _ _ _ _ _ _ _ _ _ _ _ _ _ _ _ _ _ _ _ _ _ _ _ _ _ _ _ _ _ _ _ _ _ _ _ _ _ _ _ _ _ _ _ _ _ _ _ _ _ _ _ _ _ _ _ _ _ _ _ _ _ _ _ _ _ _ _ _ _ _ _ _ _ _ _ _ _ _ _ _ _ _ _ _ _ _ _ _ _ _ _ _ _ _ _ _ _ _ _ _ _ _ _ _ _ _ _ _ _ _ _ _ _ _ _ _ _ _ _ _ _ _ _ _ _ _ _ _ _ _ _ _ _ _ _ _ _ _ _ _ _ _ _ _ _ _ _ _ _ _ _ _ _ _ _ _ _ _ _ _ _ _ _ _ _ _ _ _ _ _ _ _ _ _ _ _ _ _ _ _ _ _ _ _ _ _ _ _ _ _ _ _ _ _ _ _ _ _ _ _ _ _ _ _ _ _ _ _ _ _ _ _ _ _ _ _ _ _ _ _ _ _ _ _ _ _ _ _ _ _ _ _ _ _ _ _ _ _ _ _ _ _ _ _ _ _ _ _ _ _ _ _ _ _ _ _ _ _ _ _ _ _ _ _ _ _ _ t2 v2 L2 (by rw [HE2.out]; exact P2) S2 e2 (by rw [HE2.out]; exact M2) l2 (by rw [HE1.out, e10]; split <;> rfl)
    · rw [if_neg (by rintro (h | ⟨h, _⟩); exact w1 h; omega), if_neg (by decide)] at hcode
      by_cases hst : (S.pr w).st = 2
      · rw [if_neg (by rintro (⟨h, _⟩ | ⟨_, h⟩); omega; exact h hst)] at hcode
        have HE1 := hidMk hcode
        have HE2 : Hid (stepM n S ⟨3, (w : Int), ms⟩ = finM n (leaveM S w) w) := by show _ = _; rw [HDo.out hcode, fin_leave]; rfl
        have hwl := hwl6.out w hw
        have hwn : ∀ x ∈ (S.pr w).wait, x < n := fun x hx => (hI.out.wt w hw x hx).1
        clear hcode w1
        go_wp2
        refine HK1.out _ _ ?_
        refine wp_cond_false rfl ?_
        refine work_leave h0 h6 hw hst hwl hwn (by omega) (by omega) hin HSim hln hll hfp HPb b0 b1 b2 htb hbs ?_
        intro z7 z10 z11 z12 z14 z15 z16 z17 z75 z76 z77 z78 z79 z80 z81 z82 z83 z84 z85 z86 z87 z88 z89 z90 z91 z92 z93 z94 z95 z96 z97 z98 z99 z100 z101 z102 z103 z104 z105 z106 z107 z108 z109 z110 z111 z112 z113 z114 z115 z116 z117 z118 z119 z120 z121 z122 z123 z124 z125 z126 z127 z128 z129 z130 z131 z132 z133 z134 z135 z136 z137 z138 z139 z140 z141 z142 z143 z144 z145 z146 z147 z148 z149 z150 z151 z152 z153 z154 z155 z156 z157 z158 z159 z160 z161 z162 z163 z164 z165 z166 z167 z168 z169 z170 z171 z172 z173 z174 z175 z176 z177 z178 z179 z180 z181 z182 z183 z184 z185 z186 z187 z188 z189 z190 z191 z192 z193 z194 z195 z196 z197 z198 z199 z200 z201 z202 z203 z204 z205 z206 z207 z208 z209 z210 z211 z212 z213 z214 z215 z216 z217 z218 z219 z220 z221 z222 z223 z224 z225 z226 z227 z228 z229 z230 z231 z232 z233 z234 z235 z236 z237 z238 z239 z240 z241 z242 z243 z244 z245 z246 z247 z248 z249 z250 z251 z252 z253 z254 z255 z256 z257 z258 z259 z260 z261 z262 z263 z264 z265 z266 z267 z268 z269 z270 z271 z272 z273 z274 z275 z276 z277 z278 z279 z280 z281 z282 z283 z284 z285 z286 z287 z288 z289 z290 z291 z292 z293 z294 z295 z296 z297 z298 z299 z300 z301 z302 z303 z304 wx t2 v2 L2 P2 S2 e2 M2 l2 e10
        exact HQ.out _ _ _ _ _ _ _ _ _ _ _ _ _ _ _ _ _ _ _ _ _ _ _ _ _ _ _ _ _ _ _ _ _ _ _ _ _ _ _ _ _ _ _ _ _ _ _ _ _ _ _ _ _ _ _ _ _ _ _ _ _ _ _ _ _ _ _ _ _ _ _ _ _ _ _ _ _ _ _ _ _ _ _ _ _ _ _ _ _ _ _ _ _ _ _ _ _ _ _ _ _ _ _ _ _ _ _ _ _ _ _ _ _ _ _ _ _ _ _ _ _ _ _ _ _ _ _ _ _ _ _ _ _ _ _ _ _ _ _ _ _ _ _ _ _ _ _ _ _ _ _ _ _ _ _ _ _ _ _ _ _ _ _ _ _ _ _ _ _ _ _ _ _ _ _ _ _ _ _ _ _ _ _ _ _ _ _ _ _ _ _ _ _ _ _ _ _ _ _ _ _ _ _ _ _ _ _ _ _ _ _ _ _ _ _ _ _ _ _ _ _ _ _ _ _ _ _ _ _ _ _ _ _ _ _ _ _ _ _ _ _ _ _ _ _ _ _ _ _ _ _ _ _ _ _ _ _ _ _ _ _ _ _ _ _ _ _ _ _ _ _ t2 v2 L2 (by rw [HE2.out]; exact P2) S2 e2 (by rw [HE2.out]; exact M2) l2 (by rw [HE1.out, e10])
      · rw [if_pos (.inr ⟨rfl, hst⟩)] at hcode
        have HE1 := hidMk hcode
        have HE2 : Hid (stepM n S ⟨3, (w : Int), ms⟩ = finM n S w) := by show _ = _; rw [HStep.out (by rw [hcode]; decide), fin_same hI.out hw]
        clear hcode w1
        go_wp2
        refine HK1.out _ _ ?_
        refine wp_cond_false rfl ?_
        refine work_hold3 h0 h6 hw hst (by omega) (by omega) hin HSim hln hll hfp HPb b0 b1 b2 htb hbs ?_
        intro z7 z10 z11 z12 z14 z15 z16 z17 z75 z76 z77 z78 z79 z80 z81 z82 z83 z84 z85 z86 z87 z88 z89 z90 z91 z92 z93 z94 z95 z96 z97 z98 z99 z100 z101 z102 z103 z104 z105 z106 z107 z108 z109 z110 z111 z112 z113 z114 z115 z116 z117 z118 z119 z120 z121 z122 z123 z124 z125 z126 z127 z128 z129 z130 z131 z132 z133 z134 z135 z136 z137 z138 z139 z140 z141 z142 z143 z144 z145 z146 z147 z148 z149 z150 z151 z152 z153 z154 z155 z156 z157 z158 z159 z160 z161 z162 z163 z164 z165 z166 z167 z168 z169 z170 z171 z172 z173 z174 z175 z176 z177 z178 z179 z180 z181 z182 z183 z184 z185 z186 z187 z188 z189 z190 z191 z192 z193 z194 z195 z196 z197 z198 z199 z200 z201 z202 z203 z204 z205 z206 z207 z208 z209 z210 z211 z212 z213 z214 z215 z216 z217 z218 z219 z220 z221 z222 z223 z224 z225 z226 z227 z228 z229 z230 z231 z232 z233 z234 z235 z236 z237 z238 z239 z240 z241 z242 z243 z244 z245 z246 z247 z248 z249 z250 z251 z252 z253 z254 z255 z256 z257 z258 z259 z260 z261 z262 z263 z264 z265 z266 z267 z268 z269 z270 z271 z272 z273 z274 z275 z276 z277 z278 z279 z280 z281 z282 z283 z284 z285 z286 z287 z288 z289 z290 z291 z292 z293 z294 z295 z296 z297 z298 z299 z300 z301 z302 z303 z304 wx t2 v2 L2 P2 S2 e2 M2 l2 e10
        exact HQ.out _ _ _ _ _ _ _ _ _ _ _ _ _ _ _ _ _ _ _ _ _ _ _ _ _ _ _ _ _ _ _ _ _ _ _ _ _ _ _ _ _ _ _ _ _ _ _ _ _ _ _ _ _ _ _ _ _ _ _ _ _ _ _ _ _ _ _ _ _ _ _ _ _ _ _ _ _ _ _ _ _ _ _ _ _ _ _ _ _ _ _ _ _ _ _ _ _ _ _ _ _ _ _ _ _ _ _ _ _ _ _ _ _ _ _ _ _ _ _ _ _ _ _ _ _ _ _ _ _ _ _ _ _ _ _ _ _ _ _ _ _ _ _ _ _ _ _ _ _ _ _ _ _ _ _ _ _ _ _ _ _ _ _ _ _ _ _ _ _ _ _ _ _ _ _ _ _ _ _ _ _ _ _ _ _ _ _ _ _ _ _ _ _ _ _ _ _ _ _ _ _ _ _ _ _ _ _ _ _ _ _ _ _ _ _ _ _ _ _ _ _ _ _ _ _ _ _ _ _ _ _ _ _ _ _ _ _ _ _ _ _ _ _ _ _ _ _ _ _ _ _ _ _ _ _ _ _ _ _ _ _ _ _ _ _ _ _ _ _ _ _ t2 v2 L2 (by rw [HE2.out]; exact P2) S2 e2 (by rw [HE2.out]; exact M2) l2 (by rw [HE1.out, e10])
end Go.Proofs.Ytaojmbebkggafaa
