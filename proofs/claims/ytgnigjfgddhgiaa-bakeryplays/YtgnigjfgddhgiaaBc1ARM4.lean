/- The walk, in parts: ARM4. -/
import Derived.Test.YtgnigjfgddhgiaaBc1
namespace Go.Proofs.Ytgnigjfgddhgiaa
open Go.RowKit
set_option linter.unusedVariables false

set_option maxRecDepth 100000 in
set_option maxHeartbeats 16000000 in
theorem bak_ARM4 : bakP.ARM4 := by
  conv => whnf
  intro W n pl pc zs h0 h4 hpl hpl' hn4 i0 hit hz0 hz1 hz2 q0 qit qz0 qz1 qz2 _ w0 r hr wc u11 u12 u13 u14 u15 u16 u17 o A T C _ _ hro w5 HK2 HR2 Mb Kb _ tt0 HM0 HT0 wr u9 u10 u25 u26 u27 u28 u29 u30 u31 u32 u33 u34 u35 u36 u37 u38 u39 u40 u41 u42 u43 u44 u45 u46 u47 u48 u49 u50 u51 u52 u53 u54 u55 u56 u57 u58 u59 u60 u61 u62 u63 u64 u65 u66 u67 u68 u69 u70 u71 u72 u73 u74 u75 u76 u77 u78 u79 u80 u81 u82 u83 u84 u85 u86 u87 u88 u89 u90 u91 u92 u93 u94 u95 u96 u97 u98 u99 u100 u101 u102 u103 u104 u105 u106 u107 u108 u109 u110 u111 u112 u113 u114 u115 u116 u117 u118 u119 u120 u121 u122 u123 u124 u125 u126 u127 u128 u129 u130 u131 u132 u133 u134 u135 u136 u137 u138 u139 u140 u141 u142 u143 u144 u145 u146 u147 u148 u149 u150 u151 u152 u153 u154 u155 u156 u157 u158 u159 u160 u161 u162 u163 u164 u165 u166 u167 u168 u169 u170 u171 u172 u173 u174 u175 u176 u177 u178 u179 u180 u181 u182 u183 u184 u185 u186 u187 u188 u189 u190 u191 u192 u193 u194 u195 u196 u197 u198 u199 u200 u201 u202 u203 u204 u205 u206 u207 u208 u209 u210 u211 u212 u213 u214 k iv tt hk HT HR HK hlt hlt' hpl1 hpl2 b off HP hbW S HBI CD HCl ca cc HM HG _ _ _ HE2 i hi HE1 q1 q2 hi' _ w3 a3 c3 t3 _ _ w4 HM3 HS3 o1 o2 o3 o4 o8 e0 e1 e2 e3 e4
  have hkn : (S.pr i).k < n := o8 e4
  have hkn' : ((S.pr i).k : Int) < (n : Int) := by omega
  have hwk : IntKind.i64.wrap (((S.pr i).k : Int) + 1) = (((S.pr i).k + 1 : Nat) : Int) := by rw [wrap_of ⟨by omega, by omega⟩]; omega
  have zk := (HM3.out.row hkn).2.1
  (try simp only at zk)
  obtain ⟨y0, y1, y2, y3, y4, yf⟩ := HM3.out.cells
  obtain ⟨z1, z2, z3, z4, z5⟩ := HM3.out.row hi
  obtain ⟨f1, f2, f3, f4, f5⟩ := HM3.out.froz
  have g1 := f1 i
  have g2 := f2 i
  have g3 := f3 i
  have g4 := f4 i
  have g5 := f5 i
  simp only at y0 y1 y2 y3 y4 z1 z2 z3 z4 z5
  simp only at g1 g2 g3 g4 g5
  clear f1 f2 f3 f4 f5 yf
  rw [e4] at z1
  go_upto_region 34 with fail
  go_wp2_with (fail)
  go_quiet (fail)
  have HM4 := hidMk (HM3.out.still (Stil.drewN w4 nq))
  have HS4 := hidMk (HS3.out.trans (RStp.of_still o _ (Stil.drewN w4 nq)))
  clear HM3 HS3
  clear y0 y1 y2 y3 y4 z1 z2 z3 z4 z5 g1 g2 g3 g4 g5 zk
  generalize (w4.drewN nq) = v4 at *
  have HBr : Hid (barB S i = (decide ((S.pr (S.pr i).k).tk ≠ 0) && blt (S.pr (S.pr i).k).tk (S.pr i).k (S.pr i).tk i)) := rfl
  have HA1 : Hid (barB S i = true → actB n S i = S) := fun e => by unfold actB; rw [if_neg e0, if_neg e1, if_neg e2, if_neg e3, if_pos e4]; unfold yieldB; rw [if_pos e]
  have HA2 : Hid (barB S i = false → actB n S i = setB S i ⟨3, (S.pr i).tk, (S.pr i).ch, (S.pr i).k + 1, (S.pr i).m⟩) := fun e => by unfold actB; rw [if_neg e0, if_neg e1, if_neg e2, if_neg e3, if_pos e4]; unfold yieldB; rw [if_neg (by rw [e]; simp)]
  obtain ⟨y0, y1, y2, y3, y4, yf⟩ := HM4.out.cells
  obtain ⟨z1, z2, z3, z4, z5⟩ := HM4.out.row hi
  obtain ⟨f1, f2, f3, f4, f5⟩ := HM4.out.froz
  have g1 := f1 i
  have g2 := f2 i
  have g3 := f3 i
  have g4 := f4 i
  have g5 := f5 i
  simp only at y0 y1 y2 y3 y4 z1 z2 z3 z4 z5
  simp only at g1 g2 g3 g4 g5
  clear f1 f2 f3 f4 f5 yf
  by_cases et : (S.pr (S.pr i).k).tk = 0
  · have qt : (((S.pr (S.pr i).k).tk : Int) == 0) = true := by rw [beq_iff_eq]; omega
    have HA := hidMk (HA2.out (by rw [HBr.out, et]; simp))
    clear HA1 HA2 HBr et
    go_upto_region 35 with fail
    go_wp2_with (fail)
    go_quiet (fail)
    have HM5 := hidMk (HM4.out.still (Stil.drewN v4 nq))
    have HS5 := hidMk (HS4.out.trans (RStp.of_still o _ (Stil.drewN v4 nq)))
    clear HM4 HS4
    clear y0 y1 y2 y3 y4 z1 z2 z3 z4 z5 g1 g2 g3 g4 g5
    generalize (v4.drewN nq) = v5 at *
    obtain ⟨y0, y1, y2, y3, y4, yf⟩ := HM5.out.cells
    obtain ⟨z1, z2, z3, z4, z5⟩ := HM5.out.row hi
    obtain ⟨f1, f2, f3, f4, f5⟩ := HM5.out.froz
    have g1 := f1 i
    have g2 := f2 i
    have g3 := f3 i
    have g4 := f4 i
    have g5 := f5 i
    simp only at y0 y1 y2 y3 y4 z1 z2 z3 z4 z5
    simp only at g1 g2 g3 g4 g5
    clear f1 f2 f3 f4 f5 yf
    go_upto_region 36 with fail
    have HM6 : Hid (Rmov (v5.setCell ⟨Kb, i, none⟩ (.int .i64 (((S.pr i).k : Int) + 1))) o n (setB S i { S.pr i with k := (S.pr i).k + 1 }) (CD ++ [0]) ⟨A, T, C, Kb, Mb, .slice a3 (k + 1) c3, iv, t3⟩) := by
      have M' := (HM5.out.setK hi ((S.pr i).k + 1)).1
      exact M'
    have HS6 : Hid (RStp o wr ⟨A, T, C, Kb, Mb, .slice ca k cc, iv, tt⟩ (v5.setCell ⟨Kb, i, none⟩ (.int .i64 (((S.pr i).k : Int) + 1))) ⟨A, T, C, Kb, Mb, .slice a3 (k + 1) c3, iv, t3⟩) := HS5.out.trans (HM5.out.setK hi ((S.pr i).k + 1)).2
    clear HM5 HS5
    go_upto_region 37 with fail
    clear y0 y1 y2 y3 y4 z1 z2 z3 z4 z5 g1 g2 g3 g4 g5
    generalize (v5.setCell ⟨Kb, i, none⟩ (.int .i64 (((S.pr i).k : Int) + 1))) = v6 at *
    obtain ⟨y0, y1, y2, y3, y4, yf⟩ := HM6.out.cells
    obtain ⟨z1, z2, z3, z4, z5⟩ := HM6.out.row hi
    obtain ⟨f1, f2, f3, f4, f5⟩ := HM6.out.froz
    have g1 := f1 i
    have g2 := f2 i
    have g3 := f3 i
    have g4 := f4 i
    have g5 := f5 i
    simp only [setB_at] at y0 y1 y2 y3 y4 z1 z2 z3 z4 z5
    simp only at g1 g2 g3 g4 g5
    clear f1 f2 f3 f4 f5 yf
    have HM7 : Hid (Rmov (v6.setCell ⟨A, i, none⟩ (.int .i64 3)) o n (setB S i ⟨3, (S.pr i).tk, (S.pr i).ch, (S.pr i).k + 1, (S.pr i).m⟩) (CD ++ [0]) ⟨A, T, C, Kb, Mb, .slice a3 (k + 1) c3, iv, t3⟩) := by
      have M' := (HM6.out.setPl hi (3)).1
      simp only [setB_setB, setB_at] at M'
      exact M'
    have HS7 : Hid (RStp o wr ⟨A, T, C, Kb, Mb, .slice ca k cc, iv, tt⟩ (v6.setCell ⟨A, i, none⟩ (.int .i64 3)) ⟨A, T, C, Kb, Mb, .slice a3 (k + 1) c3, iv, t3⟩) := HS6.out.trans (HM6.out.setPl hi (3)).2
    clear HM6 HS6
    obtain ⟨HRf, HKf, HTf⟩ := r_close HM7.out HS7.out HT.out HR.out HK.out hr hro
    have HMf : Hid (Rmov (v6.setCell ⟨A, i, none⟩ (.int .i64 3)) o n (bsAt n zs (k + 1)) (bcL n zs (k + 1)) ⟨A, T, C, Kb, Mb, .slice a3 (k + 1) c3, iv, t3⟩) := by rw [HE1.out, HE2.out, HA.out]; exact HM7.out
    have HRf := hidMk HRf
    have HKf := hidMk HKf
    have HTf := hidMk HTf
    clear HM7 HS7 HM HT HR HK HBI
    go_wp2
    go_roundw
    case rel => exact ⟨k + 1, _, _, t3, by omega, by go_num, HMf, HTf, HRf, HKf⟩
    case measure => simp [intOf]; omega
  · have qt : (((S.pr (S.pr i).k).tk : Int) == 0) = false := by rw [beq_eq_false_iff_ne]; omega
    have HB2 : Hid (barB S i = blt (S.pr (S.pr i).k).tk (S.pr i).k (S.pr i).tk i) := by show _ = _; rw [HBr.out, decide_eq_true et, Bool.true_and]
    have HC : Hid (∀ w' : World, Stil v4 w' → w'.cell? ⟨o, 2, none⟩ = some (.slice (some ⟨T, 0, none⟩) n n) ∧ w'.cell? ⟨Kb, i, none⟩ = some (.int .i64 ((S.pr i).k : Int)) ∧ w'.cell? ⟨T, i, none⟩ = some (.int .i64 ((S.pr i).tk : Int))) := fun w' hw => ⟨hw.cell y2, hw.cell z4, hw.cell z2⟩
    have HC0 := hidMk (HC.out _ (stilDrew v4))
    go_upto_region 35 with fail
    go_wp2_with (fail)
    clear y0 y1 y2 y3 y4 z1 z2 z3 z4 z5 g1 g2 g3 g4 g5 et HBr
    refine wp_region_class (fun w' => w'.cell? ⟨o, 2, none⟩ = some (.slice (some ⟨T, 0, none⟩) n n) ∧ w'.cell? ⟨Kb, i, none⟩ = some (.int .i64 ((S.pr i).k : Int)) ∧ w'.cell? ⟨T, i, none⟩ = some (.int .i64 ((S.pr i).tk : Int))) 19 (by kernel_rfl) ?_
    refine wpAnyC_take (i := 0) (fuel := 18) (v := .int .i64 ((S.pr (S.pr i).k).tk : Int)) rfl (by kernel_rfl) (by kernel_rfl) (by kernel_rfl) (by kernel_rfl) (fun _ _ _ h => h) (.inl ⟨by kernel_rfl, fun w' hC => by obtain ⟨y1, y2, y3⟩ := hC; go_simp⟩) HC0.out ?_
    (try go_frame)
    refine wpAnyC_take (i := 1) (fuel := 17) (v := .bool false) rfl (by kernel_rfl) (by kernel_rfl) (by kernel_rfl) (by kernel_rfl) (fun _ _ _ h => h) (.inl ⟨by kernel_rfl, fun w' hC => by obtain ⟨y1, y2, y3⟩ := hC; go_simp⟩) HC0.out ?_
    (try go_frame)
    refine wpAnyC_take (i := 2) (fuel := 16) (v := .bool false) rfl (by kernel_rfl) (by kernel_rfl) (by kernel_rfl) (by kernel_rfl) (fun _ _ _ h => h) (.inl ⟨by kernel_rfl, fun w' hC => by obtain ⟨y1, y2, y3⟩ := hC; go_simp⟩) HC0.out ?_
    (try go_frame)
    refine wpAnyC_take (i := 3) (fuel := 15) (v := .int .i64 ((S.pr (S.pr i).k).tk : Int)) rfl (by kernel_rfl) (by kernel_rfl) (by kernel_rfl) (by kernel_rfl) (fun _ _ _ h => h) (.inl ⟨by kernel_rfl, fun w' hC => by obtain ⟨y1, y2, y3⟩ := hC; go_simp⟩) HC0.out ?_
    (try go_frame)
    refine wpAnyC_take (i := 4) (fuel := 14) (v := .slice (some ⟨Kb, 0, none⟩) n n) rfl (by kernel_rfl) (by kernel_rfl) (by kernel_rfl) (by kernel_rfl) (fun _ _ _ h => h) (.inl ⟨by kernel_rfl, fun w' hC => by obtain ⟨y1, y2, y3⟩ := hC; go_simp⟩) HC0.out ?_
    (try go_frame)
    refine wpAnyC_take (i := 5) (fuel := 13) (v := .int .i64 (i : Int)) rfl (by kernel_rfl) (by kernel_rfl) (by kernel_rfl) (by kernel_rfl) (fun _ _ _ h => h) (.inl ⟨by kernel_rfl, fun w' hC => by obtain ⟨y1, y2, y3⟩ := hC; go_simp⟩) HC0.out ?_
    (try go_frame)
    refine wpAnyC_take (i := 6) (fuel := 12) (v := .pointer (some ⟨Kb, i, none⟩)) rfl (by kernel_rfl) (by kernel_rfl) (by kernel_rfl) (by kernel_rfl) (fun _ _ _ h => h) (.inl ⟨by kernel_rfl, fun w' hC => by obtain ⟨y1, y2, y3⟩ := hC; go_simp⟩) HC0.out ?_
    (try go_frame)
    refine wpAnyC_take (i := 7) (fuel := 11) (v := .int .i64 ((S.pr i).k : Int)) rfl (by kernel_rfl) (by kernel_rfl) (by kernel_rfl) (by kernel_rfl) (fun _ _ _ h => h) (.inl ⟨by kernel_rfl, fun w' hC => by obtain ⟨y1, y2, y3⟩ := hC; go_simp⟩) HC0.out ?_
    (try go_frame)
    refine wpAnyC_take (i := 8) (fuel := 10) (v := .agg #[.int .i64 ((S.pr (S.pr i).k).tk : Int), .int .i64 ((S.pr i).k : Int)]) rfl (by kernel_rfl) (by kernel_rfl) (by kernel_rfl) (by kernel_rfl) (fun _ _ _ h => h) (.inl ⟨by kernel_rfl, fun w' hC => by obtain ⟨y1, y2, y3⟩ := hC; go_simp⟩) HC0.out ?_
    (try go_frame)
    refine wpAnyC_take (i := 9) (fuel := 9) (v := .pointer (some ⟨o, 2, none⟩)) rfl (by kernel_rfl) (by kernel_rfl) (by kernel_rfl) (by kernel_rfl) (fun _ _ _ h => h) (.inl ⟨by kernel_rfl, fun w' hC => by obtain ⟨y1, y2, y3⟩ := hC; go_simp⟩) HC0.out ?_
    (try go_frame)
    refine wpAnyC_take (i := 10) (fuel := 8) (v := .slice (some ⟨T, 0, none⟩) n n) rfl (by kernel_rfl) (by kernel_rfl) (by kernel_rfl) (by kernel_rfl) (fun _ _ _ h => h) (.inl ⟨by kernel_rfl, fun w' hC => by obtain ⟨y1, y2, y3⟩ := hC; go_simp⟩) HC0.out ?_
    (try go_frame)
    refine wpAnyC_take (i := 11) (fuel := 7) (v := .int .i64 (i : Int)) rfl (by kernel_rfl) (by kernel_rfl) (by kernel_rfl) (by kernel_rfl) (fun _ _ _ h => h) (.inl ⟨by kernel_rfl, fun w' hC => by obtain ⟨y1, y2, y3⟩ := hC; go_simp⟩) HC0.out ?_
    (try go_frame)
    refine wpAnyC_take (i := 12) (fuel := 6) (v := .pointer (some ⟨T, i, none⟩)) rfl (by kernel_rfl) (by kernel_rfl) (by kernel_rfl) (by kernel_rfl) (fun _ _ _ h => h) (.inl ⟨by kernel_rfl, fun w' hC => by obtain ⟨y1, y2, y3⟩ := hC; go_simp⟩) HC0.out ?_
    (try go_frame)
    refine wpAnyC_take (i := 13) (fuel := 5) (v := .int .i64 ((S.pr i).tk : Int)) rfl (by kernel_rfl) (by kernel_rfl) (by kernel_rfl) (by kernel_rfl) (fun _ _ _ h => h) (.inl ⟨by kernel_rfl, fun w' hC => by obtain ⟨y1, y2, y3⟩ := hC; go_simp⟩) HC0.out ?_
    (try go_frame)
    refine wpAnyC_take (i := 14) (fuel := 4) (v := .int .i64 (i : Int)) rfl (by kernel_rfl) (by kernel_rfl) (by kernel_rfl) (by kernel_rfl) (fun _ _ _ h => h) (.inl ⟨by kernel_rfl, fun w' hC => by obtain ⟨y1, y2, y3⟩ := hC; go_simp⟩) HC0.out ?_
    (try go_frame)
    refine wpAnyC_take (i := 15) (fuel := 3) (v := .agg #[.int .i64 ((S.pr i).tk : Int), .int .i64 (i : Int)]) rfl (by kernel_rfl) (by kernel_rfl) (by kernel_rfl) (by kernel_rfl) (fun _ _ _ h => h) (.inl ⟨by kernel_rfl, fun w' hC => by obtain ⟨y1, y2, y3⟩ := hC; go_simp⟩) HC0.out ?_
    (try go_frame)
    refine wpAnyC_one_g 16 (fuel := 2) (by kernel_rfl) rfl (by kernel_rfl) (fun K4 hK4 => ?_)
    go_wp2_with (go_at_call 17; refine (refLess_any v4.drew (S.pr (S.pr i).k).tk (S.pr i).k (S.pr i).tk i).mono ?_; rintro e w7 ⟨rfl, hk7⟩)
    have HK7 := hidMk (Stil.tr (stilDrew v4) hk7)
    clear hk7
    refine ⟨fun _ => HC.out _ HK7.out, ?_⟩
    (try go_frame)
    refine wpAnyC_one_g 17 (fuel := 1) (by kernel_rfl) rfl (by kernel_rfl) (fun K5 hK5 => ?_)
    go_wp2
    refine ⟨fun _ => HC.out _ HK7.out, ?_⟩
    refine wpAnyC_one 18 (fuel := 0) (by kernel_rfl) rfl rfl (fun K6 hK6 => ?_)
    go_wp2
    refine ⟨fun _ => HC.out _ HK7.out, ?_⟩
    refine wpAnyC_done (by kernel_rfl) ?_
    show Exit.then _ _ Exit.normal _ _
    have HM5 := hidMk (HM4.out.still HK7.out)
    have HS5 := hidMk (HS4.out.trans (RStp.of_still o _ HK7.out))
    clear HK7 HC0 HC HM4 HS4
    by_cases eb : blt (S.pr (S.pr i).k).tk (S.pr i).k (S.pr i).tk i = true
    · have HA := hidMk (HA1.out (by rw [HB2.out, eb]))
      (try rw [eb])
      clear HA1 HA2 HB2 eb
      obtain ⟨HRf, HKf, HTf⟩ := r_close HM5.out HS5.out HT.out HR.out HK.out hr hro
      have HMf : Hid (Rmov w7 o n (bsAt n zs (k + 1)) (bcL n zs (k + 1)) ⟨A, T, C, Kb, Mb, .slice a3 (k + 1) c3, iv, t3⟩) := by rw [HE1.out, HE2.out, HA.out]; exact HM5.out
      have HRf := hidMk HRf
      have HKf := hidMk HKf
      have HTf := hidMk HTf
      clear HM5 HS5 HM HT HR HK HBI
      go_wp2
      go_roundw
      case rel => exact ⟨k + 1, _, _, t3, by omega, by go_num, HMf, HTf, HRf, HKf⟩
      case measure => simp [intOf]; omega
    · have eb2 : blt (S.pr (S.pr i).k).tk (S.pr i).k (S.pr i).tk i = false := by simpa using eb
      have HA := hidMk (HA2.out (by rw [HB2.out, eb2]))
      (try rw [eb2])
      clear HA1 HA2 HB2 eb
      obtain ⟨y0, y1, y2, y3, y4, yf⟩ := HM5.out.cells
      obtain ⟨z1, z2, z3, z4, z5⟩ := HM5.out.row hi
      obtain ⟨f1, f2, f3, f4, f5⟩ := HM5.out.froz
      have g1 := f1 i
      have g2 := f2 i
      have g3 := f3 i
      have g4 := f4 i
      have g5 := f5 i
      simp only at y0 y1 y2 y3 y4 z1 z2 z3 z4 z5
      simp only at g1 g2 g3 g4 g5
      clear f1 f2 f3 f4 f5 yf
      go_upto_region 36 with fail
      have HM6 : Hid (Rmov (w7.setCell ⟨Kb, i, none⟩ (.int .i64 (((S.pr i).k : Int) + 1))) o n (setB S i { S.pr i with k := (S.pr i).k + 1 }) (CD ++ [0]) ⟨A, T, C, Kb, Mb, .slice a3 (k + 1) c3, iv, t3⟩) := by
        have M' := (HM5.out.setK hi ((S.pr i).k + 1)).1
        exact M'
      have HS6 : Hid (RStp o wr ⟨A, T, C, Kb, Mb, .slice ca k cc, iv, tt⟩ (w7.setCell ⟨Kb, i, none⟩ (.int .i64 (((S.pr i).k : Int) + 1))) ⟨A, T, C, Kb, Mb, .slice a3 (k + 1) c3, iv, t3⟩) := HS5.out.trans (HM5.out.setK hi ((S.pr i).k + 1)).2
      clear HM5 HS5
      go_upto_region 37 with fail
      clear y0 y1 y2 y3 y4 z1 z2 z3 z4 z5 g1 g2 g3 g4 g5
      generalize (w7.setCell ⟨Kb, i, none⟩ (.int .i64 (((S.pr i).k : Int) + 1))) = v6 at *
      obtain ⟨y0, y1, y2, y3, y4, yf⟩ := HM6.out.cells
      obtain ⟨z1, z2, z3, z4, z5⟩ := HM6.out.row hi
      obtain ⟨f1, f2, f3, f4, f5⟩ := HM6.out.froz
      have g1 := f1 i
      have g2 := f2 i
      have g3 := f3 i
      have g4 := f4 i
      have g5 := f5 i
      simp only [setB_at] at y0 y1 y2 y3 y4 z1 z2 z3 z4 z5
      simp only at g1 g2 g3 g4 g5
      clear f1 f2 f3 f4 f5 yf
      have HM7 : Hid (Rmov (v6.setCell ⟨A, i, none⟩ (.int .i64 3)) o n (setB S i ⟨3, (S.pr i).tk, (S.pr i).ch, (S.pr i).k + 1, (S.pr i).m⟩) (CD ++ [0]) ⟨A, T, C, Kb, Mb, .slice a3 (k + 1) c3, iv, t3⟩) := by
        have M' := (HM6.out.setPl hi (3)).1
        simp only [setB_setB, setB_at] at M'
        exact M'
      have HS7 : Hid (RStp o wr ⟨A, T, C, Kb, Mb, .slice ca k cc, iv, tt⟩ (v6.setCell ⟨A, i, none⟩ (.int .i64 3)) ⟨A, T, C, Kb, Mb, .slice a3 (k + 1) c3, iv, t3⟩) := HS6.out.trans (HM6.out.setPl hi (3)).2
      clear HM6 HS6
      obtain ⟨HRf, HKf, HTf⟩ := r_close HM7.out HS7.out HT.out HR.out HK.out hr hro
      have HMf : Hid (Rmov (v6.setCell ⟨A, i, none⟩ (.int .i64 3)) o n (bsAt n zs (k + 1)) (bcL n zs (k + 1)) ⟨A, T, C, Kb, Mb, .slice a3 (k + 1) c3, iv, t3⟩) := by rw [HE1.out, HE2.out, HA.out]; exact HM7.out
      have HRf := hidMk HRf
      have HKf := hidMk HKf
      have HTf := hidMk HTf
      clear HM7 HS7 HM HT HR HK HBI
      go_wp2
      go_roundw
      case rel => exact ⟨k + 1, _, _, t3, by omega, by go_num, HMf, HTf, HRf, HKf⟩
      case measure => simp [intOf]; omega
end Go.Proofs.Ytgnigjfgddhgiaa
