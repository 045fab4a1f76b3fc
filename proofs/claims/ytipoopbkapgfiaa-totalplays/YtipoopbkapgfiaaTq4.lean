/- The document's Total, in pieces: what is heard behind a telling. -/
import Derived.Test.YtipoopbkapgfiaaTq3
namespace Go.Proofs.Ytipoopbkapgfiaa
open Go.RowKit
set_option linter.unusedVariables false

/-- What is behind a head. -/
def tailOf : Code → Code
  | .seq _ b => b
  | c => c
noncomputable def hearCode : Code := tailOf (tailOf (tailOf tellCode))
theorem yields_slice {P : Program} {o : Oper} {a : Act} (t : TypeId) (x : Operand) (lo hi : Option Operand) (v xv : Value) (lov hiv : Option Value) (ho : o.op = .slice t x lo hi none) (hx : a.eval x = xv) (hlo : lo.map a.eval = lov) (hhi : hi.map a.eval = hiv)
    (hr : ∀ w, (Instr.sliceAt t xv lov hiv none).run P w = .ok v w) : ∀ w, (execOp a.eval o).run P w = .ok (.value v) w := fun w => by
  simp only [execOp, ho, Option.map_none]
  rw [hx, hlo, hhi, Sem.run_bind, hr w]
  rfl
theorem slice_got (G N lo hi : Nat) (h1 : lo < N) (h2 : lo ≤ hi) (h3 : hi ≤ N) (w : World) : (Instr.sliceAt 42 (.slice (some ⟨G, 0, none⟩) N N) (some (.int .i64 (lo : Int))) (some (.int .i64 (hi : Int))) none).run Try.prog w = .ok (.slice (some ⟨G, lo * 5, none⟩) (hi - lo) (N - lo)) w := by
  rw [run_sliceAt_slice (P := Try.prog) (w := w) 42 _ _ _ _ (by kernel_rfl), run_slice_lh (P := Try.prog) (w := w) 42 _ _ _ (by kernel_rfl) .i64 .i64 (lo : Int) (hi : Int) (by omega) (by omega) (by omega)]
  have e : ¬ (N = lo) := by omega
  have e2 : (sizeOf (Try.prog.elem 42)).run Try.prog w = .ok 5 w := by kernel_rfl
  rw [e2]
  simp [Result.andThen, sliced, e, addr_add]
set_option maxRecDepth 1000000 in
set_option maxHeartbeats 16000000 in
theorem hear_walk {Q : Exit → Act → World → Prop} {wb : World} {n pl ob Nb Gb Lb bk w : Nat} {S : TS} {g : Nat → Nat → Nat} {cds : List Int} {h : ZSh} {c1 c2 c3 c4 c9 c10 c12 c13 c14 c15 c16 c17 c18 c19 c20 c21 c22 c23 c24 c25 c26 c27 c28 c29 c30 c31 c32 c33 c34 c35 c36 c37 c38 c39 c40 c41 c42 c43 c44 c45 c46 c47 c48 c49 c50 c51 c52 c53 c54 c55 c56 c57 c58 c59 c60 c61 c62 c63 c64 c65 c66 c67 c68 c69 c70 c71 c72 c73 c74 c75 c76 c77 c78 c79 c80 c81 c82 c83 c84 c85 c86 c87 c88 c89 c90 c91 c92 c93 c94 c95 c96 c97 c98 c99 c100 c101 c102 c103 c104 c105 c106 c107 c108 c109 c110 c111 c112 c113 c114 c115 c116 c117 c118 c119 c120 c121 c122 c123 c124 c125 c126 c127 c128 c129 c130 c131 c132 c133 c134 c135 c136 c137 c138 c139 c140 c141 c142 c143 c144 c145 c146 c147 c148 c149 c150 c151 c152 c153 c154 c155 c156 c157 c158 c159 c160 c161 c162 c163 c164 c165 c166 c167 c168 c169 c170 c171 c172 c173 c174 c175 c176 c177 c178 c179 c180 c181 c182 c183 c184 c185 c186 c187 c188 c189 c190 c191 c192 c193 c194 c195 c196 c197 c198 c199 c200 c201 c202 c203 c204 c205 c206 c207 c208 c209 c210 c211 c212 c213 c214 c215 c216 c217 c218 c219 : Value}
    (hw : w < n) (h0 : 0 < pl) (h6 : n ≤ 6) (h120 : pl ≤ 120) (hi0 : TInv n S g) (hs : S.sent ≤ pl) (HM : Hid (Zmv wb ob n pl Nb Gb Lb S cds h)) (HO : Hid (∀ i, h.ov i = h.lv i)) (b1 : wb.cell? ⟨bk, 1, none⟩ = some (.int .i64 (w : Int))) (HFr : Hid (¬ h.own ob bk))
    (hQ : ∀ (z189 z190 z191 z192 z193 z194 z195 z196 z197 z198 z199 z200 z201 z202 z203 z204 z205 z206 z207 z208 z209 z210 z211 : Value) (wx : World) (h1 : ZSh), Zmv wx ob n pl Nb Gb Lb (hearN S w S.sent) cds h1 → (∀ i, h1.ov i = h1.lv i) → ZStp ob wb h wx h1 → Q .normal ⟨#[.int .i64 (n : Int), c1, c2, c3, c4, .pointer (some ⟨ob, 0, none⟩), .slice (some ⟨Nb, 0, none⟩) n n, .int .i64 (pl : Int), .slice (some ⟨Gb, 0, none⟩) (n * pl) (n * pl), c9, c10, .pointer (some ⟨bk, 0, none⟩), c12, c13, c14, c15, c16, c17, c18, c19, c20, c21, c22, c23, c24, c25, c26, c27, c28, c29, c30, c31, c32, c33, c34, c35, c36, c37, c38, c39, c40, c41, c42, c43, c44, c45, c46, c47, c48, c49, c50, c51, c52, c53, c54, c55, c56, c57, c58, c59, c60, c61, c62, c63, c64, c65, c66, c67, c68, c69, c70, c71, c72, c73, c74, c75, c76, c77, c78, c79, c80, c81, c82, c83, c84, c85, c86, c87, c88, c89, c90, c91, c92, c93, c94, c95, c96, c97, c98, c99, c100, c101, c102, c103, c104, c105, c106, c107, c108, c109, c110, c111, c112, c113, c114, c115, c116, c117, c118, c119, c120, c121, c122, c123, c124, c125, c126, c127, c128, c129, c130, c131, c132, c133, c134, c135, c136, c137, c138, c139, c140, c141, c142, c143, c144, c145, c146, c147, c148, c149, c150, c151, c152, c153, c154, c155, c156, c157, c158, c159, c160, c161, c162, c163, c164, c165, c166, c167, c168, c169, c170, c171, c172, c173, c174, c175, c176, c177, c178, c179, c180, c181, c182, c183, c184, c185, c186, c187, c188, z189, z190, z191, z192, z193, z194, z195, z196, z197, z198, z199, z200, z201, z202, z203, z204, z205, z206, z207, z208, z209, z210, z211, c212, c213, c214, c215, c216, c217, c218, c219], []⟩ wx) :
    Code.wp Try.prog hearCode Q ⟨#[.int .i64 (n : Int), c1, c2, c3, c4, .pointer (some ⟨ob, 0, none⟩), .slice (some ⟨Nb, 0, none⟩) n n, .int .i64 (pl : Int), .slice (some ⟨Gb, 0, none⟩) (n * pl) (n * pl), c9, c10, .pointer (some ⟨bk, 0, none⟩), c12, c13, c14, c15, c16, c17, c18, c19, c20, c21, c22, c23, c24, c25, c26, c27, c28, c29, c30, c31, c32, c33, c34, c35, c36, c37, c38, c39, c40, c41, c42, c43, c44, c45, c46, c47, c48, c49, c50, c51, c52, c53, c54, c55, c56, c57, c58, c59, c60, c61, c62, c63, c64, c65, c66, c67, c68, c69, c70, c71, c72, c73, c74, c75, c76, c77, c78, c79, c80, c81, c82, c83, c84, c85, c86, c87, c88, c89, c90, c91, c92, c93, c94, c95, c96, c97, c98, c99, c100, c101, c102, c103, c104, c105, c106, c107, c108, c109, c110, c111, c112, c113, c114, c115, c116, c117, c118, c119, c120, c121, c122, c123, c124, c125, c126, c127, c128, c129, c130, c131, c132, c133, c134, c135, c136, c137, c138, c139, c140, c141, c142, c143, c144, c145, c146, c147, c148, c149, c150, c151, c152, c153, c154, c155, c156, c157, c158, c159, c160, c161, c162, c163, c164, c165, c166, c167, c168, c169, c170, c171, c172, c173, c174, c175, c176, c177, c178, c179, c180, c181, c182, c183, c184, c185, c186, c187, c188, c189, c190, c191, c192, c193, c194, c195, c196, c197, c198, c199, c200, c201, c202, c203, c204, c205, c206, c207, c208, c209, c210, c211, c212, c213, c214, c215, c216, c217, c218, c219], []⟩ wb := by
  refine Code.wp_mono onlyN_imp ?_
  have HQ := hidMk hQ
  clear hQ
  have hw' : (w : Int) < (n : Int) := by omega
  have hlq : w * pl + pl ≤ n * pl := by
    have h1 : (w + 1) * pl ≤ n * pl := Nat.mul_le_mul_right _ hw
    rw [Nat.succ_mul] at h1
    exact h1
  have hnp : n * pl ≤ 720 := Nat.mul_le_mul h6 h120
  obtain ⟨lo, hlo⟩ : ∃ lo, lo = w * pl := ⟨_, rfl⟩
  obtain ⟨hi, hhi⟩ : ∃ hi, hi = lo + pl := ⟨_, rfl⟩
  obtain ⟨w1, hw1⟩ : ∃ w1, w1 = w + 1 := ⟨_, rfl⟩
  obtain ⟨gc, hgc⟩ : ∃ gc, gc = n * pl - lo := ⟨_, rfl⟩
  have e1 : (w : Int) * (pl : Int) = (lo : Int) := by rw [hlo]; simp
  have e2 : (w1 : Int) * (pl : Int) = (hi : Int) := by rw [hhi, hlo, hw1, ← Int.natCast_mul, Nat.succ_mul]
  have hwr1 : IntKind.i64.wrap ((w : Int) * (pl : Int)) = (lo : Int) := by rw [e1]; exact wrap_of ⟨by omega, by omega⟩
  have hwr2 : IntKind.i64.wrap ((w1 : Int) * (pl : Int)) = (hi : Int) := by rw [e2]; exact wrap_of ⟨by omega, by omega⟩
  have hwr3 : IntKind.i64.wrap ((w : Int) + 1) = (w1 : Int) := by rw [show (w : Int) + 1 = (w1 : Int) by omega]; exact wrap_of ⟨by omega, by omega⟩
  have HSl : Hid (∀ wx, (Instr.sliceAt 42 (.slice (some ⟨Gb, 0, none⟩) (n * pl) (n * pl)) (some (.int .i64 (lo : Int))) (some (.int .i64 (hi : Int))) none).run Try.prog wx = .ok (.slice (some ⟨Gb, lo * 5, none⟩) pl gc) wx) := fun wx => by
    have h9 := slice_got Gb (n * pl) lo hi (by omega) (by omega) (by omega) wx
    rw [h9, show hi - lo = pl by omega, hgc]
  have HTo := hidMk (fun wx (hs9 : Stil wb wx) => totals_any (gc := gc) (HM.out.still hs9) hi0 hw h6 hs h120 (show lo * 5 = w * pl * 5 by rw [hlo]))
  obtain ⟨la, lc, hlv⟩ := segForm (HM.out.li hw)
  obtain ⟨ll, hll⟩ : ∃ ll, (S.ls w).length = ll := ⟨_, rfl⟩
  rw [hll] at hlv
  have hov : h.ov w = .slice la ll lc := by rw [HO.out w]; exact hlv
  have HLv := hidMk hlv
  rw [hlv] at HTo
  obtain ⟨o0, o1, off⟩ := HM.out.cells
  obtain ⟨l1, lf⟩ := HM.out.row hw
  rw [hov] at l1
  have HC : Hid (∀ w9, Stil wb w9 → (fun w' => w'.cell? ⟨ob, 1, none⟩ = some (.slice (some ⟨Lb, 0, none⟩) n n) ∧ w'.cell? ⟨bk, 1, none⟩ = some (.int .i64 (w : Int)) ∧ w'.cell? ⟨Lb, w, none⟩ = some (.slice la ll lc)) w9) := fun w9 h9 => ⟨h9.cell o1, h9.cell b1, h9.cell l1⟩
  have HC0 := hidMk (HC.out _ (stilDrew wb))
  have HB1 := hidMk b1
  clear b1 o0 o1 off l1 lf hlv hov hll hlo hhi hw1 hgc e1 e2 hlq
  conv => arg 2; whnf
  refine wp_region_class (fun w' => w'.cell? ⟨ob, 1, none⟩ = some (.slice (some ⟨Lb, 0, none⟩) n n) ∧ w'.cell? ⟨bk, 1, none⟩ = some (.int .i64 (w : Int)) ∧ w'.cell? ⟨Lb, w, none⟩ = some (.slice la ll lc)) 23 (by kernel_rfl) ?_
  refine wpAnyC_take (i := 0) (fuel := 23) (v := .pointer (some ⟨ob, 1, none⟩)) rfl (by kernel_rfl) (by kernel_rfl) (by kernel_rfl) (by kernel_rfl) (fun _ _ _ h => h) (.inl ⟨by kernel_rfl, fun w' hC => by obtain ⟨y1, y2, y3⟩ := hC; go_simp⟩) HC0.out ?_
  go_frame
  refine wpAnyC_take (i := 1) (fuel := 22) (v := .slice (some ⟨Lb, 0, none⟩) n n) rfl (by kernel_rfl) (by kernel_rfl) (by kernel_rfl) (by kernel_rfl) (fun _ _ _ h => h) (.inl ⟨by kernel_rfl, fun w' hC => by obtain ⟨y1, y2, y3⟩ := hC; go_simp⟩) HC0.out ?_
  go_frame
  refine wpAnyC_take (i := 2) (fuel := 21) (v := .pointer (some ⟨bk, 1, none⟩)) rfl (by kernel_rfl) (by kernel_rfl) (by kernel_rfl) (by kernel_rfl) (fun _ _ _ h => h) (.inl ⟨by kernel_rfl, fun w' hC => by obtain ⟨y1, y2, y3⟩ := hC; go_simp⟩) HC0.out ?_
  go_frame
  refine wpAnyC_take (i := 3) (fuel := 20) (v := .int .i64 (w : Int)) rfl (by kernel_rfl) (by kernel_rfl) (by kernel_rfl) (by kernel_rfl) (fun _ _ _ h => h) (.inl ⟨by kernel_rfl, fun w' hC => by obtain ⟨y1, y2, y3⟩ := hC; go_simp⟩) HC0.out ?_
  go_frame
  refine wpAnyC_take (i := 4) (fuel := 19) (v := .slice (some ⟨Gb, 0, none⟩) (n * pl) (n * pl)) rfl (by kernel_rfl) (by kernel_rfl) (by kernel_rfl) (by kernel_rfl) (fun _ _ _ h => h) (.inl ⟨by kernel_rfl, fun w' hC => by obtain ⟨y1, y2, y3⟩ := hC; go_simp⟩) HC0.out ?_
  go_frame
  refine wpAnyC_take (i := 5) (fuel := 18) (v := .pointer (some ⟨bk, 1, none⟩)) rfl (by kernel_rfl) (by kernel_rfl) (by kernel_rfl) (by kernel_rfl) (fun _ _ _ h => h) (.inl ⟨by kernel_rfl, fun w' hC => by obtain ⟨y1, y2, y3⟩ := hC; go_simp⟩) HC0.out ?_
  go_frame
  refine wpAnyC_take (i := 6) (fuel := 17) (v := .int .i64 (w : Int)) rfl (by kernel_rfl) (by kernel_rfl) (by kernel_rfl) (by kernel_rfl) (fun _ _ _ h => h) (.inl ⟨by kernel_rfl, fun w' hC => by obtain ⟨y1, y2, y3⟩ := hC; go_simp⟩) HC0.out ?_
  go_frame
  refine wpAnyC_take (i := 7) (fuel := 16) (v := .int .i64 (pl : Int)) rfl (by kernel_rfl) (by kernel_rfl) (by kernel_rfl) (by kernel_rfl) (fun _ _ _ h => h) (.inl ⟨by kernel_rfl, fun w' hC => by obtain ⟨y1, y2, y3⟩ := hC; go_simp⟩) HC0.out ?_
  go_frame
  refine wpAnyC_take (i := 8) (fuel := 15) (v := .int .i64 (lo : Int)) rfl (by kernel_rfl) (by kernel_rfl) (by kernel_rfl) (by kernel_rfl) (fun _ _ _ h => h) (.inl ⟨by kernel_rfl, fun w' hC => by obtain ⟨y1, y2, y3⟩ := hC; go_simp⟩) HC0.out ?_
  go_frame
  refine wpAnyC_take (i := 9) (fuel := 14) (v := .pointer (some ⟨bk, 1, none⟩)) rfl (by kernel_rfl) (by kernel_rfl) (by kernel_rfl) (by kernel_rfl) (fun _ _ _ h => h) (.inl ⟨by kernel_rfl, fun w' hC => by obtain ⟨y1, y2, y3⟩ := hC; go_simp⟩) HC0.out ?_
  go_frame
  refine wpAnyC_take (i := 10) (fuel := 13) (v := .int .i64 (w : Int)) rfl (by kernel_rfl) (by kernel_rfl) (by kernel_rfl) (by kernel_rfl) (fun _ _ _ h => h) (.inl ⟨by kernel_rfl, fun w' hC => by obtain ⟨y1, y2, y3⟩ := hC; go_simp⟩) HC0.out ?_
  go_frame
  refine wpAnyC_take (i := 11) (fuel := 12) (v := .int .i64 (w1 : Int)) rfl (by kernel_rfl) (by kernel_rfl) (by kernel_rfl) (by kernel_rfl) (fun _ _ _ h => h) (.inl ⟨by kernel_rfl, fun w' hC => by obtain ⟨y1, y2, y3⟩ := hC; go_simp⟩) HC0.out ?_
  go_frame
  refine wpAnyC_take (i := 12) (fuel := 11) (v := .int .i64 (pl : Int)) rfl (by kernel_rfl) (by kernel_rfl) (by kernel_rfl) (by kernel_rfl) (fun _ _ _ h => h) (.inl ⟨by kernel_rfl, fun w' hC => by obtain ⟨y1, y2, y3⟩ := hC; go_simp⟩) HC0.out ?_
  go_frame
  refine wpAnyC_take (i := 13) (fuel := 10) (v := .int .i64 (hi : Int)) rfl (by kernel_rfl) (by kernel_rfl) (by kernel_rfl) (by kernel_rfl) (fun _ _ _ h => h) (.inl ⟨by kernel_rfl, fun w' hC => by obtain ⟨y1, y2, y3⟩ := hC; go_simp⟩) HC0.out ?_
  go_frame
  refine wpAnyC_take (i := 14) (fuel := 9) (v := .slice (some ⟨Gb, lo * 5, none⟩) pl gc) rfl (by kernel_rfl) (by kernel_rfl) (by kernel_rfl) (by kernel_rfl) (fun _ _ _ h => h) (.inl ⟨by kernel_rfl, fun w' _ => yields_slice 42 (.tmp 193) (some (.tmp 197)) (some (.tmp 202)) _ (.slice (some ⟨Gb, 0, none⟩) (n * pl) (n * pl)) (some (.int .i64 (lo : Int))) (some (.int .i64 (hi : Int))) (by kernel_rfl) (by kernel_rfl) (by kernel_rfl) (by kernel_rfl) HSl.out w'⟩) HC0.out ?_
  go_frame
  refine wpAnyC_take (i := 15) (fuel := 8) (v := .pointer (some ⟨ob, 1, none⟩)) rfl (by kernel_rfl) (by kernel_rfl) (by kernel_rfl) (by kernel_rfl) (fun _ _ _ h => h) (.inl ⟨by kernel_rfl, fun w' hC => by obtain ⟨y1, y2, y3⟩ := hC; go_simp⟩) HC0.out ?_
  go_frame
  refine wpAnyC_take (i := 16) (fuel := 7) (v := .slice (some ⟨Lb, 0, none⟩) n n) rfl (by kernel_rfl) (by kernel_rfl) (by kernel_rfl) (by kernel_rfl) (fun _ _ _ h => h) (.inl ⟨by kernel_rfl, fun w' hC => by obtain ⟨y1, y2, y3⟩ := hC; go_simp⟩) HC0.out ?_
  go_frame
  refine wpAnyC_take (i := 17) (fuel := 6) (v := .pointer (some ⟨bk, 1, none⟩)) rfl (by kernel_rfl) (by kernel_rfl) (by kernel_rfl) (by kernel_rfl) (fun _ _ _ h => h) (.inl ⟨by kernel_rfl, fun w' hC => by obtain ⟨y1, y2, y3⟩ := hC; go_simp⟩) HC0.out ?_
  go_frame
  refine wpAnyC_take (i := 18) (fuel := 5) (v := .int .i64 (w : Int)) rfl (by kernel_rfl) (by kernel_rfl) (by kernel_rfl) (by kernel_rfl) (fun _ _ _ h => h) (.inl ⟨by kernel_rfl, fun w' hC => by obtain ⟨y1, y2, y3⟩ := hC; go_simp⟩) HC0.out ?_
  go_frame
  refine wpAnyC_take (i := 19) (fuel := 4) (v := .pointer (some ⟨Lb, w, none⟩)) rfl (by kernel_rfl) (by kernel_rfl) (by kernel_rfl) (by kernel_rfl) (fun _ _ _ h => h) (.inl ⟨by kernel_rfl, fun w' hC => by obtain ⟨y1, y2, y3⟩ := hC; go_simp⟩) HC0.out ?_
  go_frame
  refine wpAnyC_take (i := 20) (fuel := 3) (v := .slice la ll lc) rfl (by kernel_rfl) (by kernel_rfl) (by kernel_rfl) (by kernel_rfl) (fun _ _ _ h => h) (.inl ⟨by kernel_rfl, fun w' hC => by obtain ⟨y1, y2, y3⟩ := hC; go_simp⟩) HC0.out ?_
  go_frame
  refine wpAnyC_one 21 (fuel := 2) (by kernel_rfl) rfl rfl (fun K4 hK4 => ?_)
  go_wp2_with (go_at_call 11; refine (HTo.out _ (stilDrew wb)).mono ?_; rintro e w6 ⟨v3, t3, rfl, m6, s6⟩)
  have hsg := m6.li hw
  obtain ⟨a3, c3, hv3⟩ := segForm hsg
  simp only [upd1_same] at hv3
  have HM6 := hidMk m6
  have HS6 := hidMk ((ZStp.of_still ob h (stilDrew wb)).trans s6)
  have g1 := m6.cells.2.1
  have g2 := HS6.out.free HFr.out HB1.out
  have g3 := (m6.row hw).1
  have g4 : w6.cell? ⟨Lb, w, none⟩ = some (.slice la ll lc) := by
    rw [g3]
    show some (h.ov w) = _
    rw [HO.out w, HLv.out]
  have f4 := (m6.row hw).2
  have HSt := hidMk (m6.storeOl hw v3)
  clear m6 s6 hsg g3
  subst hv3
  refine ⟨fun _ => ⟨g1, g2, g4⟩, ?_⟩
  refine wpAnyC_one 22 (fuel := 1) (by kernel_rfl) rfl rfl (fun K6 hK6 => ?_)
  go_wp2
  refine wpAnyC_one 23 (fuel := 0) (by kernel_rfl) rfl rfl (fun K7 hK7 => ?_)
  go_wp2
  refine ⟨fun h => absurd rfl h, ?_⟩
  refine wpAnyC_done (by kernel_rfl) ?_
  exact HQ.out _ _ _ _ _ _ _ _ _ _ _ _ _ _ _ _ _ _ _ _ _ _ _ _ _ HSt.out.1 (fun i => by
    show upd1 h.ov w _ i = upd1 h.lv w _ i
    by_cases e : i = w
    · subst e; rw [upd1_same, upd1_same]
    · rw [upd1_other _ _ e, upd1_other _ _ e]; exact HO.out i) (HS6.out.trans HSt.out.2)
end Go.Proofs.Ytipoopbkapgfiaa
