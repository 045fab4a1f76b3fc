/- The walk, in parts: ARM5. -/
import Derived.Test.YtgnigjfgddhgiaaBc1
namespace Go.Proofs.Ytgnigjfgddhgiaa
open Go.RowKit
set_option linter.unusedVariables false

set_option maxRecDepth 100000 in
set_option maxHeartbeats 16000000 in
theorem bak_ARM5 : bakP.ARM5 := by
  conv => whnf
  intro W n pl pc zs h0 h4 hpl hpl' hn4 i0 hit hz0 hz1 hz2 q0 qit qz0 qz1 qz2 _ w0 r hr wc u11 u12 u13 u14 u15 u16 u17 o A T C _ _ hro w5 HK2 HR2 Mb Kb _ tt0 HM0 HT0 wr u9 u10 u25 u26 u27 u28 u29 u30 u31 u32 u33 u34 u35 u36 u37 u38 u39 u40 u41 u42 u43 u44 u45 u46 u47 u48 u49 u50 u51 u52 u53 u54 u55 u56 u57 u58 u59 u60 u61 u62 u63 u64 u65 u66 u67 u68 u69 u70 u71 u72 u73 u74 u75 u76 u77 u78 u79 u80 u81 u82 u83 u84 u85 u86 u87 u88 u89 u90 u91 u92 u93 u94 u95 u96 u97 u98 u99 u100 u101 u102 u103 u104 u105 u106 u107 u108 u109 u110 u111 u112 u113 u114 u115 u116 u117 u118 u119 u120 u121 u122 u123 u124 u125 u126 u127 u128 u129 u130 u131 u132 u133 u134 u135 u136 u137 u138 u139 u140 u141 u142 u143 u144 u145 u146 u147 u148 u149 u150 u151 u152 u153 u154 u155 u156 u157 u158 u159 u160 u161 u162 u163 u164 u165 u166 u167 u168 u169 u170 u171 u172 u173 u174 u175 u176 u177 u178 u179 u180 u181 u182 u183 u184 u185 u186 u187 u188 u189 u190 u191 u192 u193 u194 u195 u196 u197 u198 u199 u200 u201 u202 u203 u204 u205 u206 u207 u208 u209 u210 u211 u212 u213 u214 k iv tt hk HT HR HK hlt hlt' hpl1 hpl2 b off HP hbW S HBI CD HCl ca cc HM HG _ _ _ HE2 i hi HE1 q1 q2 hi' _ w3 a3 c3 t3 _ _ w4 HM3 HS3 o1 o2 o3 o4 o8 e0 e1 e2 e3 e4 e5
  have HA : Hid (actB n S i = setB S i ⟨0, 0, (S.pr i).ch, (S.pr i).k, (S.pr i).m⟩) := by show _ = _; unfold actB; rw [if_neg e0, if_neg e1, if_neg e2, if_neg e3, if_neg e4]; rfl
  obtain ⟨y0, y1, y2, y3, y4, yf⟩ := HM3.out.cells
  obtain ⟨z1, z2, z3, z4, z5⟩ := HM3.out.row hi
  obtain ⟨f1, f2, f3, f4, f5⟩ := HM3.out.froz
  have g1 := f1 i
  have g2 := f2 i
  have g3 := f3 i
  have g4 := f4 i
  have g5 := f5 i
  simp only at y0 y1 y2 y3 y4 z1 z2 z3 z4 z5
  simp only at g1 g2 g3 g4 g5
  clear f1 f2 f3 f4 f5 yf
  rw [e5] at z1
  have HM4 : Hid (Rmov (w4.setCell ⟨T, i, none⟩ (.int .i64 0)) o n (setB S i { S.pr i with tk := 0 }) (CD ++ [0]) ⟨A, T, C, Kb, Mb, .slice a3 (k + 1) c3, iv, t3⟩) := by
    have M' := (HM3.out.setTk hi (0)).1
    exact M'
  have HS4 : Hid (RStp o wr ⟨A, T, C, Kb, Mb, .slice ca k cc, iv, tt⟩ (w4.setCell ⟨T, i, none⟩ (.int .i64 0)) ⟨A, T, C, Kb, Mb, .slice a3 (k + 1) c3, iv, t3⟩) := HS3.out.trans (HM3.out.setTk hi (0)).2
  clear HM3 HS3
  go_upto_region 40 with fail
  clear y0 y1 y2 y3 y4 z1 z2 z3 z4 z5 g1 g2 g3 g4 g5
  generalize (w4.setCell ⟨T, i, none⟩ (.int .i64 0)) = v4 at *
  obtain ⟨y0, y1, y2, y3, y4, yf⟩ := HM4.out.cells
  obtain ⟨z1, z2, z3, z4, z5⟩ := HM4.out.row hi
  obtain ⟨f1, f2, f3, f4, f5⟩ := HM4.out.froz
  have g1 := f1 i
  have g2 := f2 i
  have g3 := f3 i
  have g4 := f4 i
  have g5 := f5 i
  simp only [setB_at] at y0 y1 y2 y3 y4 z1 z2 z3 z4 z5
  simp only at g1 g2 g3 g4 g5
  clear f1 f2 f3 f4 f5 yf
  have HM5 : Hid (Rmov (v4.setCell ⟨A, i, none⟩ (.int .i64 0)) o n (setB S i ⟨0, 0, (S.pr i).ch, (S.pr i).k, (S.pr i).m⟩) (CD ++ [0]) ⟨A, T, C, Kb, Mb, .slice a3 (k + 1) c3, iv, t3⟩) := by
    have M' := (HM4.out.setPl hi (0)).1
    simp only [setB_setB, setB_at] at M'
    exact M'
  have HS5 : Hid (RStp o wr ⟨A, T, C, Kb, Mb, .slice ca k cc, iv, tt⟩ (v4.setCell ⟨A, i, none⟩ (.int .i64 0)) ⟨A, T, C, Kb, Mb, .slice a3 (k + 1) c3, iv, t3⟩) := HS4.out.trans (HM4.out.setPl hi (0)).2
  clear HM4 HS4
  obtain ⟨HRf, HKf, HTf⟩ := r_close HM5.out HS5.out HT.out HR.out HK.out hr hro
  have HMf : Hid (Rmov (v4.setCell ⟨A, i, none⟩ (.int .i64 0)) o n (bsAt n zs (k + 1)) (bcL n zs (k + 1)) ⟨A, T, C, Kb, Mb, .slice a3 (k + 1) c3, iv, t3⟩) := by rw [HE1.out, HE2.out, HA.out]; exact HM5.out
  have HRf := hidMk HRf
  have HKf := hidMk HKf
  have HTf := hidMk HTf
  clear HM5 HS5 HM HT HR HK HBI
  go_wp2
  go_roundw
  case rel => exact ⟨k + 1, _, _, t3, by omega, by go_num, HMf, HTf, HRf, HKf⟩
  case measure => simp [intOf]; omega
end Go.Proofs.Ytgnigjfgddhgiaa
