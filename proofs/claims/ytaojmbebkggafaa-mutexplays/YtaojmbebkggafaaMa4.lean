/- answer. -/
import Derived.Test.YtaojmbebkggafaaMa3
namespace Go.Proofs.Ytaojmbebkggafaa
open Go.RowKit Go.WideMaps
set_option linter.unusedVariables false

variable {W W2 : World} {mb n : Nat} {s : MS} {h h2 : MSh}
theorem wpAnyC_one_g {P : Program} {ops : Array Oper} {md : Region.Mode} {Q : Exit → Act → World → Prop} {C : World → Prop} {lst : Nat} {fuel : Nat} {listed : Array Bool} {a : Act} {w : World} (i : Nat) {o : Oper} (hr : Region.ready md ops listed = [i]) (ho : ops[i]? = some o) (hw : Region.wanted o (yielded ops a.tmps) = true)
    (h : ∀ K : Act → World → Prop, (∀ a' w', ((i ≠ lst → C w') ∧ wpAnyC P md ops Q C lst fuel (listed.setIfInBounds i true) a' w') → K a' w') → o.wp P a w K Q) : wpAnyC P md ops Q C lst (fuel + 1) listed a w := by
  refine ⟨fun h0 => (by rw [hr] at h0; cases h0), fun j hj => ?_⟩
  rw [hr] at hj
  obtain rfl : j = i := by simpa using hj
  unfold wpOp
  simp only [ho]
  rw [if_pos hw]
  exact .inl (h _ (fun _ _ h => h))
theorem prM_prM (s : MS) (i : Nat) (p q : Pr) : prM (prM s i p) i q = prM s i q := by
  unfold prM
  congr 1
  funext k
  by_cases e : k = i
  · subst e; show upd1 (upd1 s.pr k p) k q k = upd1 s.pr k q k; rw [upd1_same, upd1_same]
  · show upd1 (upd1 s.pr i p) i q k = upd1 s.pr i q k; rw [upd1_other _ _ e, upd1_other _ _ e, upd1_other _ _ e]
theorem keepOf {A B : World} {r : Option Nat} (hg : A.grownBy B r) : Keep (fun g => some g = r) A B := Keep.of_grown hg
set_option maxRecDepth 100000 in
set_option maxHeartbeats 8000000 in
theorem answer_in (m : Mmov W mb n s h) {i j x kn kp : Nat} (hi : i < n) (hj : j < n) (hn : n ≤ 6) (hc : h.c < 100000) (hlen : (s.ways i j).length ≤ 1000) (hwl : (s.pr i).wait.length ≤ 1000) (hnum : (s.pr i).num ≤ 100000) (hx : x ≤ 100000) (hst : (s.pr i).st = 2) (hkn : (s.pr i).kn = kn) (hkp : (s.pr i).kp = kp) (hB : holdB (s.pr i) x j = true) :
    Calls Try.prog 21 #[.pointer (some ⟨mb, 0, none⟩), .int .i64 (i : Int), .agg #[.int .i64 (x : Int), .int .i64 (j : Int)]] W fun e W2 => e = .returned (.tuple #[]) ∧ ∃ h2, Mmov W2 mb n (answerM s i x j) h2 ∧ MStp mb W h W2 h2 1 := by
  have m1 := m.alloc (.cells #[.int .i64 (x : Int), .int .i64 (j : Int)] 59)
  have HS1 := hidMk (MStp.of_still mb h (Stil.new W (.cells #[.int .i64 (x : Int), .int .i64 (j : Int)] 59)))
  obtain ⟨c0, c1, c2, cf⟩ := m1.cells
  obtain ⟨p0, p1, p2, p3, p4, p5, pf⟩ := m1.proc hi
  have b0 : (W.alloc (.cells #[.int .i64 (x : Int), .int .i64 (j : Int)] 59)).cell? ⟨W.heap.size, 0, none⟩ = some (.int .i64 (x : Int)) := by go_simp
  have b1 : (W.alloc (.cells #[.int .i64 (x : Int), .int .i64 (j : Int)] 59)).cell? ⟨W.heap.size, 1, none⟩ = some (.int .i64 (j : Int)) := by go_simp
  have hfr : ¬ h.own mb W.heap.size := m.fresh (Nat.le_refl _)
  have hi' : (i : Int) < (n : Int) := by omega
  have HM1 := hidMk m1
  have HFr := hidMk hfr
  have f0 := pf (i * 6)
  rw [hst] at p1
  rw [hkn] at p2
  rw [hkp] at p3
  generalize hv : (s.pr i).num = v at *
  have HV := hidMk hv
  have HAn := hidMk (show answerM s i x j = prM s i { s.pr i with num := max (s.pr i).num x, wait := (s.pr i).wait ++ [j] } from by unfold answerM; rw [if_pos hB])
  have hlen2 : (s.ways i j).length ≤ 1000 := hlen
  clear m m1 hv hfr
  go_enter Try.func21, Try.ntmps21
  go_wp2_with (fail)
  generalize W.alloc (.cells #[.int .i64 (x : Int), .int .i64 (j : Int)] 59) = w0 at *
  generalize W.heap.size = bk at *
  refine wp_region_tail rfl (by kernel_rfl) (by kernel_rfl) (by kernel_rfl) (by kernel_rfl) (by kernel_rfl) rfl ?_
  simp only [List.dropLast]
  repeat (go_big_quiet_step (fail))
  refine wpQuiet_nil ?_
  rintro _ ⟨q, rfl⟩
  have hmx : (if v < x then (x : Int) else (v : Int)) = ((max v x : Nat) : Int) := by
    split <;> omega
  rw [hmx]
  clear hmx
  have m3 := HM1.out.drewN q
  obtain ⟨M4, S4⟩ := m3.setNum hi (max v x)
  have HS4 := hidMk ((HS1.out.trans (MStp.of_still mb h (Stil.drewN w0 q))).trans S4)
  have b0' : (w0.drewN q).cell? ⟨bk, 0, none⟩ = some (.int .i64 (x : Int)) := b0
  have b1' : (w0.drewN q).cell? ⟨bk, 1, none⟩ = some (.int .i64 (j : Int)) := b1
  have z0 := S4.free HFr.out b0'
  have z1 := S4.free HFr.out b1'
  obtain ⟨e0, e1, e2, e3, e4, e5, ef⟩ := M4.proc hi
  simp only [prM, upd1_same] at e0 e1 e2 e3 e4 e5
  rw [hst] at e1
  rw [hkn] at e2
  rw [hkp] at e3
  have HM4 := hidMk M4
  have f0' : (w0.drewN q).frozen? ⟨h.P, i * 6, none⟩ = false := f0
  have p0' : (w0.drewN q).cell? ⟨h.P, i * 6, none⟩ = some (.int .i64 (v : Int)) := p0
  clear m3 M4 S4 b0 b1 b0' b1' c0 c1 c2 cf p0 p1 p2 p3 p4 p5 pf HM1 HS1 f0
  generalize hmv : max v x = mv at *
  have HMv := hidMk hmv
  clear hmv
  generalize w0.drewN q = w1 at *
  go_wp2_with (fail)
  clear f0' p0'
  generalize w1.setCell ⟨h.P, i * 6, none⟩ (.int .i64 (mv : Int)) = w2 at *
  have HC : Hid (∀ w9 : World, Stil w2 w9 → w9.cell? ⟨h.P, i * 6 + 1, none⟩ = some (.int .i64 2) ∧ w9.cell? ⟨h.P, i * 6 + 2, none⟩ = some (.int .i64 (kn : Int)) ∧ w9.cell? ⟨h.P, i * 6 + 3, none⟩ = some (.int .i64 (kp : Int)) ∧ w9.cell? ⟨bk, 0, none⟩ = some (.int .i64 (x : Int)) ∧ w9.cell? ⟨bk, 1, none⟩ = some (.int .i64 (j : Int))) := fun w9 h9 => ⟨h9.cell e1, h9.cell e2, h9.cell e3, h9.cell z0, h9.cell z1⟩
  have HC0 := hidMk (HC.out w2.drew (stilDrew w2))
  clear e0 e1 e2 e3 e4 e5 ef
  refine wp_region_class (fun w' => w'.cell? ⟨h.P, i * 6 + 1, none⟩ = some (.int .i64 2) ∧ w'.cell? ⟨h.P, i * 6 + 2, none⟩ = some (.int .i64 (kn : Int)) ∧ w'.cell? ⟨h.P, i * 6 + 3, none⟩ = some (.int .i64 (kp : Int)) ∧ w'.cell? ⟨bk, 0, none⟩ = some (.int .i64 (x : Int)) ∧ w'.cell? ⟨bk, 1, none⟩ = some (.int .i64 (j : Int))) 20 (by kernel_rfl) ?_
  refine wpAnyC_take (i := 0) (fuel := 19) (v := .pointer (some ⟨h.P, i * 6, none⟩)) rfl (by kernel_rfl) (by kernel_rfl) (by kernel_rfl) (by kernel_rfl) (fun _ _ _ h => h) (.inl ⟨by kernel_rfl, fun w' hC => by obtain ⟨y1, y2, y3, y4, y5⟩ := hC; go_simp⟩) HC0.out ?_
  go_frame
  refine wpAnyC_take (i := 1) (fuel := 18) (v := .pointer (some ⟨h.P, i * 6, none⟩)) rfl (by kernel_rfl) (by kernel_rfl) (by kernel_rfl) (by kernel_rfl) (fun _ _ _ h => h) (.inl ⟨by kernel_rfl, fun w' hC => by obtain ⟨y1, y2, y3, y4, y5⟩ := hC; go_simp⟩) HC0.out ?_
  go_frame
  refine wpAnyC_take (i := 2) (fuel := 17) (v := .pointer (some ⟨h.P, i * 6 + 1, none⟩)) rfl (by kernel_rfl) (by kernel_rfl) (by kernel_rfl) (by kernel_rfl) (fun _ _ _ h => h) (.inl ⟨by kernel_rfl, fun w' hC => by obtain ⟨y1, y2, y3, y4, y5⟩ := hC; go_simp⟩) HC0.out ?_
  go_frame
  refine wpAnyC_take (i := 3) (fuel := 16) (v := .int .i64 2) rfl (by kernel_rfl) (by kernel_rfl) (by kernel_rfl) (by kernel_rfl) (fun _ _ _ h => h) (.inl ⟨by kernel_rfl, fun w' hC => by obtain ⟨y1, y2, y3, y4, y5⟩ := hC; go_simp⟩) HC0.out ?_
  go_frame
  refine wpAnyC_take (i := 4) (fuel := 15) (v := .bool true) rfl (by kernel_rfl) (by kernel_rfl) (by kernel_rfl) (by kernel_rfl) (fun _ _ _ h => h) (.inl ⟨by kernel_rfl, fun w' hC => by obtain ⟨y1, y2, y3, y4, y5⟩ := hC; go_simp⟩) HC0.out ?_
  go_frame
  refine wpAnyC_take (i := 5) (fuel := 14) (v := .bool true) rfl (by kernel_rfl) (by kernel_rfl) (by kernel_rfl) (by kernel_rfl) (fun _ _ _ h => h) (.inl ⟨by kernel_rfl, fun w' hC => by obtain ⟨y1, y2, y3, y4, y5⟩ := hC; go_simp⟩) HC0.out ?_
  go_frame
  refine wpAnyC_take (i := 6) (fuel := 13) (v := undef) rfl (by kernel_rfl) (by kernel_rfl) (by kernel_rfl) (by kernel_rfl) (fun _ _ _ h => h) (.inr ⟨by kernel_rfl, rfl⟩) HC0.out ?_
  go_frame
  refine wpAnyC_take (i := 7) (fuel := 12) (v := undef) rfl (by kernel_rfl) (by kernel_rfl) (by kernel_rfl) (by kernel_rfl) (fun _ _ _ h => h) (.inr ⟨by kernel_rfl, rfl⟩) HC0.out ?_
  go_frame
  refine wpAnyC_take (i := 8) (fuel := 11) (v := undef) rfl (by kernel_rfl) (by kernel_rfl) (by kernel_rfl) (by kernel_rfl) (fun _ _ _ h => h) (.inr ⟨by kernel_rfl, rfl⟩) HC0.out ?_
  go_frame
  refine wpAnyC_take (i := 9) (fuel := 10) (v := undef) rfl (by kernel_rfl) (by kernel_rfl) (by kernel_rfl) (by kernel_rfl) (fun _ _ _ h => h) (.inr ⟨by kernel_rfl, rfl⟩) HC0.out ?_
  go_frame
  refine wpAnyC_take (i := 10) (fuel := 9) (v := undef) rfl (by kernel_rfl) (by kernel_rfl) (by kernel_rfl) (by kernel_rfl) (fun _ _ _ h => h) (.inr ⟨by kernel_rfl, rfl⟩) HC0.out ?_
  go_frame
  refine wpAnyC_take (i := 11) (fuel := 8) (v := undef) rfl (by kernel_rfl) (by kernel_rfl) (by kernel_rfl) (by kernel_rfl) (fun _ _ _ h => h) (.inr ⟨by kernel_rfl, rfl⟩) HC0.out ?_
  go_frame
  refine wpAnyC_take (i := 12) (fuel := 7) (v := undef) rfl (by kernel_rfl) (by kernel_rfl) (by kernel_rfl) (by kernel_rfl) (fun _ _ _ h => h) (.inr ⟨by kernel_rfl, rfl⟩) HC0.out ?_
  go_frame
  refine wpAnyC_take (i := 13) (fuel := 6) (v := undef) rfl (by kernel_rfl) (by kernel_rfl) (by kernel_rfl) (by kernel_rfl) (fun _ _ _ h => h) (.inr ⟨by kernel_rfl, rfl⟩) HC0.out ?_
  go_frame
  refine wpAnyC_take (i := 14) (fuel := 5) (v := undef) rfl (by kernel_rfl) (by kernel_rfl) (by kernel_rfl) (by kernel_rfl) (fun _ _ _ h => h) (.inr ⟨by kernel_rfl, rfl⟩) HC0.out ?_
  go_frame
  refine wpAnyC_take (i := 15) (fuel := 4) (v := undef) rfl (by kernel_rfl) (by kernel_rfl) (by kernel_rfl) (by kernel_rfl) (fun _ _ _ h => h) (.inr ⟨by kernel_rfl, rfl⟩) HC0.out ?_
  go_frame
  refine wpAnyC_take (i := 16) (fuel := 3) (v := undef) rfl (by kernel_rfl) (by kernel_rfl) (by kernel_rfl) (by kernel_rfl) (fun _ _ _ h => h) (.inr ⟨by kernel_rfl, rfl⟩) HC0.out ?_
  go_frame
  refine wpAnyC_take (i := 17) (fuel := 2) (v := undef) rfl (by kernel_rfl) (by kernel_rfl) (by kernel_rfl) (by kernel_rfl) (fun _ _ _ h => h) (.inr ⟨by kernel_rfl, rfl⟩) HC0.out ?_
  go_frame
  refine wpAnyC_take (i := 18) (fuel := 1) (v := undef) rfl (by kernel_rfl) (by kernel_rfl) (by kernel_rfl) (by kernel_rfl) (fun _ _ _ h => h) (.inr ⟨by kernel_rfl, rfl⟩) HC0.out ?_
  go_frame
  have HK9 := hidMk (stilDrew w2)
  have HCx := hidMk HC0.out
  refine wpAnyC_one 19 (fuel := 0) (by kernel_rfl) rfl rfl (fun K7 hK7 => ?_)
  go_wp2
  refine ⟨fun _ => HC0.out, ?_⟩
  refine wpAnyC_done (by kernel_rfl) ?_
  show Exit.then _ _ Exit.normal _ _
  have HKz : Hid (Stil w2 w2.drew) := hidMk (stilDrew w2)
  have HE1 : Hid (prM s i { s.pr i with num := mv } = numS s i x) := by show _ = _; unfold numS; rw [HV.out, HMv.out]
  clear HC0 HC
  generalize w2.drew = wz at *
  have Mz := HM4.out.still HKz.out
  have HSz := hidMk (HS4.out.trans (MStp.of_still mb h HKz.out))
  obtain ⟨i0, hit, hz0, hz1, hz2⟩ := info_parts cInfoInt
  have hseg := Mz.wt hi
  obtain ⟨ta, tc, et⟩ := segForm hseg
  have e5 := (Mz.proc hi).2.2.2.2.2.1
  have HC2 : Hid (∀ w9 : World, Stil wz w9 → w9.cell? ⟨h.P, i * 6 + 5, none⟩ = some (h.wv i) ∧ w9.cell? ⟨bk, 1, none⟩ = some (.int .i64 (j : Int))) := fun w9 h9 => ⟨h9.cell e5, h9.cell (HKz.out.cell z1)⟩
  have hwt : (prM s i { s.pr i with num := mv }).pr i = { s.pr i with num := mv } := upd1_same _ _ _
  have HWt := hidMk hwt
  rw [hwt] at hseg et
  simp only at hseg et
  generalize hwl2 : (s.pr i).wait.length = wl at *
  have HWl := hidMk hwl2
  rw [et] at HC2 hseg
  have HET := hidMk et
  have HG := hidMk hseg
  have HMz := hidMk Mz
  have HZ1 := hidMk (HKz.out.cell z1)
  clear Mz hseg et e5 hwt hwl2 z0 z1
  go_wp2_with (fail)
  refine wp_region_class (fun w' => w'.cell? ⟨h.P, i * 6 + 5, none⟩ = some (.slice ta wl tc) ∧ w'.cell? ⟨bk, 1, none⟩ = some (.int .i64 (j : Int))) 11 (by kernel_rfl) ?_
  have HC3 := hidMk (HC2.out _ (stilDrew wz))
  refine wpAnyC_take (i := 0) (fuel := 11) (v := .pointer (some ⟨h.P, i * 6, none⟩)) rfl (by kernel_rfl) (by kernel_rfl) (by kernel_rfl) (by kernel_rfl) (fun _ _ _ h => h) (.inl ⟨by kernel_rfl, fun w' hC => by obtain ⟨y1, y2⟩ := hC; go_simp⟩) HC3.out ?_
  go_frame
  refine wpAnyC_take (i := 1) (fuel := 10) (v := .pointer (some ⟨h.P, i * 6, none⟩)) rfl (by kernel_rfl) (by kernel_rfl) (by kernel_rfl) (by kernel_rfl) (fun _ _ _ h => h) (.inl ⟨by kernel_rfl, fun w' hC => by obtain ⟨y1, y2⟩ := hC; go_simp⟩) HC3.out ?_
  go_frame
  refine wpAnyC_take (i := 2) (fuel := 9) (v := .pointer (some ⟨h.P, i * 6, none⟩)) rfl (by kernel_rfl) (by kernel_rfl) (by kernel_rfl) (by kernel_rfl) (fun _ _ _ h => h) (.inl ⟨by kernel_rfl, fun w' hC => by obtain ⟨y1, y2⟩ := hC; go_simp⟩) HC3.out ?_
  go_frame
  refine wpAnyC_take (i := 3) (fuel := 8) (v := .pointer (some ⟨h.P, i * 6 + 5, none⟩)) rfl (by kernel_rfl) (by kernel_rfl) (by kernel_rfl) (by kernel_rfl) (fun _ _ _ h => h) (.inl ⟨by kernel_rfl, fun w' hC => by obtain ⟨y1, y2⟩ := hC; go_simp⟩) HC3.out ?_
  go_frame
  refine wpAnyC_take (i := 4) (fuel := 7) (v := .slice ta wl tc) rfl (by kernel_rfl) (by kernel_rfl) (by kernel_rfl) (by kernel_rfl) (fun _ _ _ h => h) (.inl ⟨by kernel_rfl, fun w' hC => by obtain ⟨y1, y2⟩ := hC; go_simp⟩) HC3.out ?_
  go_frame
  refine wpAnyC_take (i := 5) (fuel := 6) (v := .pointer (some ⟨bk, 1, none⟩)) rfl (by kernel_rfl) (by kernel_rfl) (by kernel_rfl) (by kernel_rfl) (fun _ _ _ h => h) (.inl ⟨by kernel_rfl, fun w' hC => by obtain ⟨y1, y2⟩ := hC; go_simp⟩) HC3.out ?_
  go_frame
  refine wpAnyC_take (i := 6) (fuel := 5) (v := .int .i64 (j : Int)) rfl (by kernel_rfl) (by kernel_rfl) (by kernel_rfl) (by kernel_rfl) (fun _ _ _ h => h) (.inl ⟨by kernel_rfl, fun w' hC => by obtain ⟨y1, y2⟩ := hC; go_simp⟩) HC3.out ?_
  go_frame
  refine wpAnyC_one 7 (fuel := 4) (by kernel_rfl) rfl rfl (fun K4 hK4 => ?_)
  go_wp2
  refine ⟨fun _ => HC2.out _ ((stilDrew wz).alloc _), ?_⟩
  refine wpAnyC_one 8 (fuel := 3) (by kernel_rfl) rfl rfl (fun K5 hK5 => ?_)
  refine oper_append_seg (.tmp 47) (.tmp 50) 24 rfl 3 i0 (.int .i64 0) 1 8 Try.underlying24 hit hz0 hz1 hz2 rfl (by decide) (.slice ta wl tc) wl (natsL (s.pr i).wait) rfl (segAlloc (segDrew HG.out) _) ⟨wz.heap.size, 0, none⟩ 1 1 [.int .i64 (j : Int)] rfl rfl (fun j2 u hu => cCell1 wz.drew (.int .i64 (j : Int)) 3 _ rfl j2 u hu) (cOne _) (by unfold maxLen; omega) (by omega) ?_
  intro v3 w3 hs3 hg3
  obtain ⟨a3, c3, rfl⟩ := segForm hs3
  obtain ⟨g1, g2, g3, HM5⟩ := HMz.out.pushWait (x := j) hi (wa := wz.drew.alloc (.cells #[.int .i64 (j : Int)] 3)) ((stilDrew wz).alloc _) (by rw [HWt.out]; simp only; rw [HET.out, HWl.out]; exact hs3) (by rw [HET.out]; exact hg3)
  have g4 : w3.cell? ⟨h.P, i * 6 + 5, none⟩ = some (.slice ta wl tc) := by rw [g1 5 (by omega)]; show some (h.wv i) = _; rw [HET.out]
  have g5 := g3 _ _ _ (Classical.byContradiction fun e => HFr.out (.inl e)) HZ1.out
  have g6 := g2 (i * 6 + 5)
  have HM6 := hidMk HM5
  refine hK5 _ _ ⟨fun _ => ⟨g4, g5⟩, ?_⟩
  clear hs3 hg3 HM5 g1 g2 g3
  go_frame
  refine wpAnyC_one 9 (fuel := 2) (by kernel_rfl) rfl rfl (fun K6 hK6 => ?_)
  go_wp2
  try (refine ⟨fun _ => ⟨g4, g5⟩, ?_⟩)
  refine wpAnyC_one 10 (fuel := 1) (by kernel_rfl) rfl rfl (fun K7 hK7 => ?_)
  go_wp2
  try (refine ⟨fun _ => ⟨g4, g5⟩, ?_⟩)
  refine wpAnyC_one 11 (fuel := 0) (by kernel_rfl) rfl rfl (fun K8 hK8 => ?_)
  go_wp2
  refine ⟨fun h => absurd rfl h, ?_⟩
  refine wpAnyC_done (by kernel_rfl) ?_
  go_end0
  obtain ⟨h5, M5, S5⟩ := HM6.out
  refine ⟨rfl, h5, ?_, (HSz.out.trans S5).mono (by omega)⟩
  rw [HAn.out]
  have e9 : prM (prM s i { s.pr i with num := mv }) i { (prM s i { s.pr i with num := mv }).pr i with wait := ((prM s i { s.pr i with num := mv }).pr i).wait ++ [j] } = prM s i { s.pr i with num := max (s.pr i).num x, wait := (s.pr i).wait ++ [j] } := by
    rw [HWt.out, prM_prM, ← HMv.out, HV.out]
  rw [← e9]
  exact M5

set_option maxRecDepth 100000 in
set_option maxHeartbeats 8000000 in
theorem answer_wait (m : Mmov W mb n s h) {i j x kn kp : Nat} (hi : i < n) (hj : j < n) (hn : n ≤ 6) (hc : h.c < 100000) (hlen : (s.ways i j).length ≤ 1000) (hwl : (s.pr i).wait.length ≤ 1000) (hnum : (s.pr i).num ≤ 100000) (hx : x ≤ 100000) (hst : (s.pr i).st = 1) (hkn : (s.pr i).kn = kn) (hkp : (s.pr i).kp = kp) (hlt : mlt kn kp x j = true) (hB : holdB (s.pr i) x j = true) :
    Calls Try.prog 21 #[.pointer (some ⟨mb, 0, none⟩), .int .i64 (i : Int), .agg #[.int .i64 (x : Int), .int .i64 (j : Int)]] W fun e W2 => e = .returned (.tuple #[]) ∧ ∃ h2, Mmov W2 mb n (answerM s i x j) h2 ∧ MStp mb W h W2 h2 1 := by
  have m1 := m.alloc (.cells #[.int .i64 (x : Int), .int .i64 (j : Int)] 59)
  have HS1 := hidMk (MStp.of_still mb h (Stil.new W (.cells #[.int .i64 (x : Int), .int .i64 (j : Int)] 59)))
  obtain ⟨c0, c1, c2, cf⟩ := m1.cells
  obtain ⟨p0, p1, p2, p3, p4, p5, pf⟩ := m1.proc hi
  have b0 : (W.alloc (.cells #[.int .i64 (x : Int), .int .i64 (j : Int)] 59)).cell? ⟨W.heap.size, 0, none⟩ = some (.int .i64 (x : Int)) := by go_simp
  have b1 : (W.alloc (.cells #[.int .i64 (x : Int), .int .i64 (j : Int)] 59)).cell? ⟨W.heap.size, 1, none⟩ = some (.int .i64 (j : Int)) := by go_simp
  have hfr : ¬ h.own mb W.heap.size := m.fresh (Nat.le_refl _)
  have hi' : (i : Int) < (n : Int) := by omega
  have HM1 := hidMk m1
  have HFr := hidMk hfr
  have f0 := pf (i * 6)
  rw [hst] at p1
  rw [hkn] at p2
  rw [hkp] at p3
  generalize hv : (s.pr i).num = v at *
  have HV := hidMk hv
  have HAn := hidMk (show answerM s i x j = prM s i { s.pr i with num := max (s.pr i).num x, wait := (s.pr i).wait ++ [j] } from by unfold answerM; rw [if_pos hB])
  have hlen2 : (s.ways i j).length ≤ 1000 := hlen
  clear m m1 hv hfr
  go_enter Try.func21, Try.ntmps21
  go_wp2_with (fail)
  generalize W.alloc (.cells #[.int .i64 (x : Int), .int .i64 (j : Int)] 59) = w0 at *
  generalize W.heap.size = bk at *
  refine wp_region_tail rfl (by kernel_rfl) (by kernel_rfl) (by kernel_rfl) (by kernel_rfl) (by kernel_rfl) rfl ?_
  simp only [List.dropLast]
  repeat (go_big_quiet_step (fail))
  refine wpQuiet_nil ?_
  rintro _ ⟨q, rfl⟩
  have hmx : (if v < x then (x : Int) else (v : Int)) = ((max v x : Nat) : Int) := by
    split <;> omega
  rw [hmx]
  clear hmx
  have m3 := HM1.out.drewN q
  obtain ⟨M4, S4⟩ := m3.setNum hi (max v x)
  have HS4 := hidMk ((HS1.out.trans (MStp.of_still mb h (Stil.drewN w0 q))).trans S4)
  have b0' : (w0.drewN q).cell? ⟨bk, 0, none⟩ = some (.int .i64 (x : Int)) := b0
  have b1' : (w0.drewN q).cell? ⟨bk, 1, none⟩ = some (.int .i64 (j : Int)) := b1
  have z0 := S4.free HFr.out b0'
  have z1 := S4.free HFr.out b1'
  obtain ⟨e0, e1, e2, e3, e4, e5, ef⟩ := M4.proc hi
  simp only [prM, upd1_same] at e0 e1 e2 e3 e4 e5
  rw [hst] at e1
  rw [hkn] at e2
  rw [hkp] at e3
  have HM4 := hidMk M4
  have f0' : (w0.drewN q).frozen? ⟨h.P, i * 6, none⟩ = false := f0
  have p0' : (w0.drewN q).cell? ⟨h.P, i * 6, none⟩ = some (.int .i64 (v : Int)) := p0
  clear m3 M4 S4 b0 b1 b0' b1' c0 c1 c2 cf p0 p1 p2 p3 p4 p5 pf HM1 HS1 f0
  generalize hmv : max v x = mv at *
  have HMv := hidMk hmv
  clear hmv
  generalize w0.drewN q = w1 at *
  go_wp2_with (fail)
  clear f0' p0'
  generalize w1.setCell ⟨h.P, i * 6, none⟩ (.int .i64 (mv : Int)) = w2 at *
  have HC : Hid (∀ w9 : World, Stil w2 w9 → w9.cell? ⟨h.P, i * 6 + 1, none⟩ = some (.int .i64 1) ∧ w9.cell? ⟨h.P, i * 6 + 2, none⟩ = some (.int .i64 (kn : Int)) ∧ w9.cell? ⟨h.P, i * 6 + 3, none⟩ = some (.int .i64 (kp : Int)) ∧ w9.cell? ⟨bk, 0, none⟩ = some (.int .i64 (x : Int)) ∧ w9.cell? ⟨bk, 1, none⟩ = some (.int .i64 (j : Int))) := fun w9 h9 => ⟨h9.cell e1, h9.cell e2, h9.cell e3, h9.cell z0, h9.cell z1⟩
  have HC0 := hidMk (HC.out w2.drew (stilDrew w2))
  clear e0 e1 e2 e3 e4 e5 ef
  refine wp_region_class (fun w' => w'.cell? ⟨h.P, i * 6 + 1, none⟩ = some (.int .i64 1) ∧ w'.cell? ⟨h.P, i * 6 + 2, none⟩ = some (.int .i64 (kn : Int)) ∧ w'.cell? ⟨h.P, i * 6 + 3, none⟩ = some (.int .i64 (kp : Int)) ∧ w'.cell? ⟨bk, 0, none⟩ = some (.int .i64 (x : Int)) ∧ w'.cell? ⟨bk, 1, none⟩ = some (.int .i64 (j : Int))) 20 (by kernel_rfl) ?_
  refine wpAnyC_take (i := 0) (fuel := 19) (v := .pointer (some ⟨h.P, i * 6, none⟩)) rfl (by kernel_rfl) (by kernel_rfl) (by kernel_rfl) (by kernel_rfl) (fun _ _ _ h => h) (.inl ⟨by kernel_rfl, fun w' hC => by obtain ⟨y1, y2, y3, y4, y5⟩ := hC; go_simp⟩) HC0.out ?_
  go_frame
  refine wpAnyC_take (i := 1) (fuel := 18) (v := .pointer (some ⟨h.P, i * 6, none⟩)) rfl (by kernel_rfl) (by kernel_rfl) (by kernel_rfl) (by kernel_rfl) (fun _ _ _ h => h) (.inl ⟨by kernel_rfl, fun w' hC => by obtain ⟨y1, y2, y3, y4, y5⟩ := hC; go_simp⟩) HC0.out ?_
  go_frame
  refine wpAnyC_take (i := 2) (fuel := 17) (v := .pointer (some ⟨h.P, i * 6 + 1, none⟩)) rfl (by kernel_rfl) (by kernel_rfl) (by kernel_rfl) (by kernel_rfl) (fun _ _ _ h => h) (.inl ⟨by kernel_rfl, fun w' hC => by obtain ⟨y1, y2, y3, y4, y5⟩ := hC; go_simp⟩) HC0.out ?_
  go_frame
  refine wpAnyC_take (i := 3) (fuel := 16) (v := .int .i64 1) rfl (by kernel_rfl) (by kernel_rfl) (by kernel_rfl) (by kernel_rfl) (fun _ _ _ h => h) (.inl ⟨by kernel_rfl, fun w' hC => by obtain ⟨y1, y2, y3, y4, y5⟩ := hC; go_simp⟩) HC0.out ?_
  go_frame
  refine wpAnyC_take (i := 4) (fuel := 15) (v := .bool false) rfl (by kernel_rfl) (by kernel_rfl) (by kernel_rfl) (by kernel_rfl) (fun _ _ _ h => h) (.inl ⟨by kernel_rfl, fun w' hC => by obtain ⟨y1, y2, y3, y4, y5⟩ := hC; go_simp⟩) HC0.out ?_
  go_frame
  refine wpAnyC_take (i := 5) (fuel := 14) (v := .bool false) rfl (by kernel_rfl) (by kernel_rfl) (by kernel_rfl) (by kernel_rfl) (fun _ _ _ h => h) (.inl ⟨by kernel_rfl, fun w' hC => by obtain ⟨y1, y2, y3, y4, y5⟩ := hC; go_simp⟩) HC0.out ?_
  go_frame
  refine wpAnyC_take (i := 6) (fuel := 13) (v := .pointer (some ⟨h.P, i * 6, none⟩)) rfl (by kernel_rfl) (by kernel_rfl) (by kernel_rfl) (by kernel_rfl) (fun _ _ _ h => h) (.inl ⟨by kernel_rfl, fun w' hC => by obtain ⟨y1, y2, y3, y4, y5⟩ := hC; go_simp⟩) HC0.out ?_
  go_frame
  refine wpAnyC_take (i := 7) (fuel := 12) (v := .pointer (some ⟨h.P, i * 6, none⟩)) rfl (by kernel_rfl) (by kernel_rfl) (by kernel_rfl) (by kernel_rfl) (fun _ _ _ h => h) (.inl ⟨by kernel_rfl, fun w' hC => by obtain ⟨y1, y2, y3, y4, y5⟩ := hC; go_simp⟩) HC0.out ?_
  go_frame
  refine wpAnyC_take (i := 8) (fuel := 11) (v := .pointer (some ⟨h.P, i * 6 + 1, none⟩)) rfl (by kernel_rfl) (by kernel_rfl) (by kernel_rfl) (by kernel_rfl) (fun _ _ _ h => h) (.inl ⟨by kernel_rfl, fun w' hC => by obtain ⟨y1, y2, y3, y4, y5⟩ := hC; go_simp⟩) HC0.out ?_
  go_frame
  refine wpAnyC_take (i := 9) (fuel := 10) (v := .int .i64 1) rfl (by kernel_rfl) (by kernel_rfl) (by kernel_rfl) (by kernel_rfl) (fun _ _ _ h => h) (.inl ⟨by kernel_rfl, fun w' hC => by obtain ⟨y1, y2, y3, y4, y5⟩ := hC; go_simp⟩) HC0.out ?_
  go_frame
  refine wpAnyC_take (i := 10) (fuel := 9) (v := .bool true) rfl (by kernel_rfl) (by kernel_rfl) (by kernel_rfl) (by kernel_rfl) (fun _ _ _ h => h) (.inl ⟨by kernel_rfl, fun w' hC => by obtain ⟨y1, y2, y3, y4, y5⟩ := hC; go_simp⟩) HC0.out ?_
  go_frame
  refine wpAnyC_take (i := 11) (fuel := 8) (v := .bool true) rfl (by kernel_rfl) (by kernel_rfl) (by kernel_rfl) (by kernel_rfl) (fun _ _ _ h => h) (.inl ⟨by kernel_rfl, fun w' hC => by obtain ⟨y1, y2, y3, y4, y5⟩ := hC; go_simp⟩) HC0.out ?_
  go_frame
  refine wpAnyC_take (i := 12) (fuel := 7) (v := .pointer (some ⟨h.P, i * 6, none⟩)) rfl (by kernel_rfl) (by kernel_rfl) (by kernel_rfl) (by kernel_rfl) (fun _ _ _ h => h) (.inl ⟨by kernel_rfl, fun w' hC => by obtain ⟨y1, y2, y3, y4, y5⟩ := hC; go_simp⟩) HC0.out ?_
  go_frame
  refine wpAnyC_take (i := 13) (fuel := 6) (v := .pointer (some ⟨h.P, i * 6, none⟩)) rfl (by kernel_rfl) (by kernel_rfl) (by kernel_rfl) (by kernel_rfl) (fun _ _ _ h => h) (.inl ⟨by kernel_rfl, fun w' hC => by obtain ⟨y1, y2, y3, y4, y5⟩ := hC; go_simp⟩) HC0.out ?_
  go_frame
  refine wpAnyC_take (i := 14) (fuel := 5) (v := .pointer (some ⟨h.P, i * 6 + 2, none⟩)) rfl (by kernel_rfl) (by kernel_rfl) (by kernel_rfl) (by kernel_rfl) (fun _ _ _ h => h) (.inl ⟨by kernel_rfl, fun w' hC => by obtain ⟨y1, y2, y3, y4, y5⟩ := hC; go_simp⟩) HC0.out ?_
  go_frame
  refine wpAnyC_take (i := 15) (fuel := 4) (v := .agg #[.int .i64 (kn : Int), .int .i64 (kp : Int)]) rfl (by kernel_rfl) (by kernel_rfl) (by kernel_rfl) (by kernel_rfl) (fun _ _ _ h => h) (.inl ⟨by kernel_rfl, fun w' hC => by obtain ⟨y1, y2, y3, y4, y5⟩ := hC; go_simp⟩) HC0.out ?_
  go_frame
  refine wpAnyC_take (i := 16) (fuel := 3) (v := .agg #[.int .i64 (x : Int), .int .i64 (j : Int)]) rfl (by kernel_rfl) (by kernel_rfl) (by kernel_rfl) (by kernel_rfl) (fun _ _ _ h => h) (.inl ⟨by kernel_rfl, fun w' hC => by obtain ⟨y1, y2, y3, y4, y5⟩ := hC; go_simp⟩) HC0.out ?_
  go_frame
  refine wpAnyC_one_g 17 (fuel := 2) (by kernel_rfl) rfl (by kernel_rfl) (fun K4 hK4 => ?_)
  go_wp2_with (go_at_call 22; refine (less_any w2.drew kn kp x j).mono ?_; rintro e w9 ⟨rfl, hk9⟩)
  try rw [hlt]
  refine ⟨fun _ => HC.out _ ((stilDrew w2).tr hk9), ?_⟩
  refine wpAnyC_take (i := 18) (fuel := 1) (v := .bool true) rfl (by kernel_rfl) (by kernel_rfl) (by kernel_rfl) (by kernel_rfl) (fun _ _ _ h => h) (.inl ⟨by kernel_rfl, fun w' hC => by obtain ⟨y1, y2, y3, y4, y5⟩ := hC; go_simp⟩) (HC.out _ ((stilDrew w2).tr hk9)) ?_
  go_frame
  refine wpAnyC_one 19 (fuel := 0) (by kernel_rfl) rfl rfl (fun K7 hK7 => ?_)
  go_wp2
  refine ⟨fun _ => (HC.out _ ((stilDrew w2).tr hk9)), ?_⟩
  refine wpAnyC_done (by kernel_rfl) ?_
  show Exit.then _ _ Exit.normal _ _
  have HKz : Hid (Stil w2 w9) := hidMk ((stilDrew w2).tr hk9)
  have HE1 : Hid (prM s i { s.pr i with num := mv } = numS s i x) := by show _ = _; unfold numS; rw [HV.out, HMv.out]
  clear HC0 HC
  clear hk9
  generalize w9 = wz at *
  have Mz := HM4.out.still HKz.out
  have HSz := hidMk (HS4.out.trans (MStp.of_still mb h HKz.out))
  obtain ⟨i0, hit, hz0, hz1, hz2⟩ := info_parts cInfoInt
  have hseg := Mz.wt hi
  obtain ⟨ta, tc, et⟩ := segForm hseg
  have e5 := (Mz.proc hi).2.2.2.2.2.1
  have HC2 : Hid (∀ w9 : World, Stil wz w9 → w9.cell? ⟨h.P, i * 6 + 5, none⟩ = some (h.wv i) ∧ w9.cell? ⟨bk, 1, none⟩ = some (.int .i64 (j : Int))) := fun w9 h9 => ⟨h9.cell e5, h9.cell (HKz.out.cell z1)⟩
  have hwt : (prM s i { s.pr i with num := mv }).pr i = { s.pr i with num := mv } := upd1_same _ _ _
  have HWt := hidMk hwt
  rw [hwt] at hseg et
  simp only at hseg et
  generalize hwl2 : (s.pr i).wait.length = wl at *
  have HWl := hidMk hwl2
  rw [et] at HC2 hseg
  have HET := hidMk et
  have HG := hidMk hseg
  have HMz := hidMk Mz
  have HZ1 := hidMk (HKz.out.cell z1)
  clear Mz hseg et e5 hwt hwl2 z0 z1
  go_wp2_with (fail)
  refine wp_region_class (fun w' => w'.cell? ⟨h.P, i * 6 + 5, none⟩ = some (.slice ta wl tc) ∧ w'.cell? ⟨bk, 1, none⟩ = some (.int .i64 (j : Int))) 11 (by kernel_rfl) ?_
  have HC3 := hidMk (HC2.out _ (stilDrew wz))
  refine wpAnyC_take (i := 0) (fuel := 11) (v := .pointer (some ⟨h.P, i * 6, none⟩)) rfl (by kernel_rfl) (by kernel_rfl) (by kernel_rfl) (by kernel_rfl) (fun _ _ _ h => h) (.inl ⟨by kernel_rfl, fun w' hC => by obtain ⟨y1, y2⟩ := hC; go_simp⟩) HC3.out ?_
  go_frame
  refine wpAnyC_take (i := 1) (fuel := 10) (v := .pointer (some ⟨h.P, i * 6, none⟩)) rfl (by kernel_rfl) (by kernel_rfl) (by kernel_rfl) (by kernel_rfl) (fun _ _ _ h => h) (.inl ⟨by kernel_rfl, fun w' hC => by obtain ⟨y1, y2⟩ := hC; go_simp⟩) HC3.out ?_
  go_frame
  refine wpAnyC_take (i := 2) (fuel := 9) (v := .pointer (some ⟨h.P, i * 6, none⟩)) rfl (by kernel_rfl) (by kernel_rfl) (by kernel_rfl) (by kernel_rfl) (fun _ _ _ h => h) (.inl ⟨by kernel_rfl, fun w' hC => by obtain ⟨y1, y2⟩ := hC; go_simp⟩) HC3.out ?_
  go_frame
  refine wpAnyC_take (i := 3) (fuel := 8) (v := .pointer (some ⟨h.P, i * 6 + 5, none⟩)) rfl (by kernel_rfl) (by kernel_rfl) (by kernel_rfl) (by kernel_rfl) (fun _ _ _ h => h) (.inl ⟨by kernel_rfl, fun w' hC => by obtain ⟨y1, y2⟩ := hC; go_simp⟩) HC3.out ?_
  go_frame
  refine wpAnyC_take (i := 4) (fuel := 7) (v := .slice ta wl tc) rfl (by kernel_rfl) (by kernel_rfl) (by kernel_rfl) (by kernel_rfl) (fun _ _ _ h => h) (.inl ⟨by kernel_rfl, fun w' hC => by obtain ⟨y1, y2⟩ := hC; go_simp⟩) HC3.out ?_
  go_frame
  refine wpAnyC_take (i := 5) (fuel := 6) (v := .pointer (some ⟨bk, 1, none⟩)) rfl (by kernel_rfl) (by kernel_rfl) (by kernel_rfl) (by kernel_rfl) (fun _ _ _ h => h) (.inl ⟨by kernel_rfl, fun w' hC => by obtain ⟨y1, y2⟩ := hC; go_simp⟩) HC3.out ?_
  go_frame
  refine wpAnyC_take (i := 6) (fuel := 5) (v := .int .i64 (j : Int)) rfl (by kernel_rfl) (by kernel_rfl) (by kernel_rfl) (by kernel_rfl) (fun _ _ _ h => h) (.inl ⟨by kernel_rfl, fun w' hC => by obtain ⟨y1, y2⟩ := hC; go_simp⟩) HC3.out ?_
  go_frame
  refine wpAnyC_one 7 (fuel := 4) (by kernel_rfl) rfl rfl (fun K4 hK4 => ?_)
  go_wp2
  refine ⟨fun _ => HC2.out _ ((stilDrew wz).alloc _), ?_⟩
  refine wpAnyC_one 8 (fuel := 3) (by kernel_rfl) rfl rfl (fun K5 hK5 => ?_)
  refine oper_append_seg (.tmp 47) (.tmp 50) 24 rfl 3 i0 (.int .i64 0) 1 8 Try.underlying24 hit hz0 hz1 hz2 rfl (by decide) (.slice ta wl tc) wl (natsL (s.pr i).wait) rfl (segAlloc (segDrew HG.out) _) ⟨wz.heap.size, 0, none⟩ 1 1 [.int .i64 (j : Int)] rfl rfl (fun j2 u hu => cCell1 wz.drew (.int .i64 (j : Int)) 3 _ rfl j2 u hu) (cOne _) (by unfold maxLen; omega) (by omega) ?_
  intro v3 w3 hs3 hg3
  obtain ⟨a3, c3, rfl⟩ := segForm hs3
  obtain ⟨g1, g2, g3, HM5⟩ := HMz.out.pushWait (x := j) hi (wa := wz.drew.alloc (.cells #[.int .i64 (j : Int)] 3)) ((stilDrew wz).alloc _) (by rw [HWt.out]; simp only; rw [HET.out, HWl.out]; exact hs3) (by rw [HET.out]; exact hg3)
  have g4 : w3.cell? ⟨h.P, i * 6 + 5, none⟩ = some (.slice ta wl tc) := by rw [g1 5 (by omega)]; show some (h.wv i) = _; rw [HET.out]
  have g5 := g3 _ _ _ (Classical.byContradiction fun e => HFr.out (.inl e)) HZ1.out
  have g6 := g2 (i * 6 + 5)
  have HM6 := hidMk HM5
  refine hK5 _ _ ⟨fun _ => ⟨g4, g5⟩, ?_⟩
  clear hs3 hg3 HM5 g1 g2 g3
  go_frame
  refine wpAnyC_one 9 (fuel := 2) (by kernel_rfl) rfl rfl (fun K6 hK6 => ?_)
  go_wp2
  try (refine ⟨fun _ => ⟨g4, g5⟩, ?_⟩)
  refine wpAnyC_one 10 (fuel := 1) (by kernel_rfl) rfl rfl (fun K7 hK7 => ?_)
  go_wp2
  try (refine ⟨fun _ => ⟨g4, g5⟩, ?_⟩)
  refine wpAnyC_one 11 (fuel := 0) (by kernel_rfl) rfl rfl (fun K8 hK8 => ?_)
  go_wp2
  refine ⟨fun h => absurd rfl h, ?_⟩
  refine wpAnyC_done (by kernel_rfl) ?_
  go_end0
  obtain ⟨h5, M5, S5⟩ := HM6.out
  refine ⟨rfl, h5, ?_, (HSz.out.trans S5).mono (by omega)⟩
  rw [HAn.out]
  have e9 : prM (prM s i { s.pr i with num := mv }) i { (prM s i { s.pr i with num := mv }).pr i with wait := ((prM s i { s.pr i with num := mv }).pr i).wait ++ [j] } = prM s i { s.pr i with num := max (s.pr i).num x, wait := (s.pr i).wait ++ [j] } := by
    rw [HWt.out, prM_prM, ← HMv.out, HV.out]
  rw [← e9]
  exact M5

set_option maxRecDepth 100000 in
set_option maxHeartbeats 8000000 in
theorem answer_yes1 (m : Mmov W mb n s h) {i j x kn kp : Nat} (hi : i < n) (hj : j < n) (hn : n ≤ 6) (hc : h.c < 100000) (hlen : (s.ways i j).length ≤ 1000) (hwl : (s.pr i).wait.length ≤ 1000) (hnum : (s.pr i).num ≤ 100000) (hx : x ≤ 100000) (hst : (s.pr i).st = 1) (hkn : (s.pr i).kn = kn) (hkp : (s.pr i).kp = kp) (hlt : mlt kn kp x j = false) (hB : holdB (s.pr i) x j = false) :
    Calls Try.prog 21 #[.pointer (some ⟨mb, 0, none⟩), .int .i64 (i : Int), .agg #[.int .i64 (x : Int), .int .i64 (j : Int)]] W fun e W2 => e = .returned (.tuple #[]) ∧ ∃ h2, Mmov W2 mb n (answerM s i x j) h2 ∧ MStp mb W h W2 h2 1 := by
  have m1 := m.alloc (.cells #[.int .i64 (x : Int), .int .i64 (j : Int)] 59)
  have HS1 := hidMk (MStp.of_still mb h (Stil.new W (.cells #[.int .i64 (x : Int), .int .i64 (j : Int)] 59)))
  obtain ⟨c0, c1, c2, cf⟩ := m1.cells
  obtain ⟨p0, p1, p2, p3, p4, p5, pf⟩ := m1.proc hi
  have b0 : (W.alloc (.cells #[.int .i64 (x : Int), .int .i64 (j : Int)] 59)).cell? ⟨W.heap.size, 0, none⟩ = some (.int .i64 (x : Int)) := by go_simp
  have b1 : (W.alloc (.cells #[.int .i64 (x : Int), .int .i64 (j : Int)] 59)).cell? ⟨W.heap.size, 1, none⟩ = some (.int .i64 (j : Int)) := by go_simp
  have hfr : ¬ h.own mb W.heap.size := m.fresh (Nat.le_refl _)
  have hi' : (i : Int) < (n : Int) := by omega
  have HM1 := hidMk m1
  have HFr := hidMk hfr
  have f0 := pf (i * 6)
  rw [hst] at p1
  rw [hkn] at p2
  rw [hkp] at p3
  generalize hv : (s.pr i).num = v at *
  have HV := hidMk hv
  have HAn := hidMk (show answerM s i x j = putM (numS s i x) i j 0 from by unfold answerM; rw [if_neg (by rw [hB]; simp)])
  have hlen2 : (s.ways i j).length ≤ 1000 := hlen
  clear m m1 hv hfr
  go_enter Try.func21, Try.ntmps21
  go_wp2_with (fail)
  generalize W.alloc (.cells #[.int .i64 (x : Int), .int .i64 (j : Int)] 59) = w0 at *
  generalize W.heap.size = bk at *
  refine wp_region_tail rfl (by kernel_rfl) (by kernel_rfl) (by kernel_rfl) (by kernel_rfl) (by kernel_rfl) rfl ?_
  simp only [List.dropLast]
  repeat (go_big_quiet_step (fail))
  refine wpQuiet_nil ?_
  rintro _ ⟨q, rfl⟩
  have hmx : (if v < x then (x : Int) else (v : Int)) = ((max v x : Nat) : Int) := by
    split <;> omega
  rw [hmx]
  clear hmx
  have m3 := HM1.out.drewN q
  obtain ⟨M4, S4⟩ := m3.setNum hi (max v x)
  have HS4 := hidMk ((HS1.out.trans (MStp.of_still mb h (Stil.drewN w0 q))).trans S4)
  have b0' : (w0.drewN q).cell? ⟨bk, 0, none⟩ = some (.int .i64 (x : Int)) := b0
  have b1' : (w0.drewN q).cell? ⟨bk, 1, none⟩ = some (.int .i64 (j : Int)) := b1
  have z0 := S4.free HFr.out b0'
  have z1 := S4.free HFr.out b1'
  obtain ⟨e0, e1, e2, e3, e4, e5, ef⟩ := M4.proc hi
  simp only [prM, upd1_same] at e0 e1 e2 e3 e4 e5
  rw [hst] at e1
  rw [hkn] at e2
  rw [hkp] at e3
  have HM4 := hidMk M4
  have f0' : (w0.drewN q).frozen? ⟨h.P, i * 6, none⟩ = false := f0
  have p0' : (w0.drewN q).cell? ⟨h.P, i * 6, none⟩ = some (.int .i64 (v : Int)) := p0
  clear m3 M4 S4 b0 b1 b0' b1' c0 c1 c2 cf p0 p1 p2 p3 p4 p5 pf HM1 HS1 f0
  generalize hmv : max v x = mv at *
  have HMv := hidMk hmv
  clear hmv
  generalize w0.drewN q = w1 at *
  go_wp2_with (fail)
  clear f0' p0'
  generalize w1.setCell ⟨h.P, i * 6, none⟩ (.int .i64 (mv : Int)) = w2 at *
  have HC : Hid (∀ w9 : World, Stil w2 w9 → w9.cell? ⟨h.P, i * 6 + 1, none⟩ = some (.int .i64 1) ∧ w9.cell? ⟨h.P, i * 6 + 2, none⟩ = some (.int .i64 (kn : Int)) ∧ w9.cell? ⟨h.P, i * 6 + 3, none⟩ = some (.int .i64 (kp : Int)) ∧ w9.cell? ⟨bk, 0, none⟩ = some (.int .i64 (x : Int)) ∧ w9.cell? ⟨bk, 1, none⟩ = some (.int .i64 (j : Int))) := fun w9 h9 => ⟨h9.cell e1, h9.cell e2, h9.cell e3, h9.cell z0, h9.cell z1⟩
  have HC0 := hidMk (HC.out w2.drew (stilDrew w2))
  clear e0 e1 e2 e3 e4 e5 ef
  refine wp_region_class (fun w' => w'.cell? ⟨h.P, i * 6 + 1, none⟩ = some (.int .i64 1) ∧ w'.cell? ⟨h.P, i * 6 + 2, none⟩ = some (.int .i64 (kn : Int)) ∧ w'.cell? ⟨h.P, i * 6 + 3, none⟩ = some (.int .i64 (kp : Int)) ∧ w'.cell? ⟨bk, 0, none⟩ = some (.int .i64 (x : Int)) ∧ w'.cell? ⟨bk, 1, none⟩ = some (.int .i64 (j : Int))) 20 (by kernel_rfl) ?_
  refine wpAnyC_take (i := 0) (fuel := 19) (v := .pointer (some ⟨h.P, i * 6, none⟩)) rfl (by kernel_rfl) (by kernel_rfl) (by kernel_rfl) (by kernel_rfl) (fun _ _ _ h => h) (.inl ⟨by kernel_rfl, fun w' hC => by obtain ⟨y1, y2, y3, y4, y5⟩ := hC; go_simp⟩) HC0.out ?_
  go_frame
  refine wpAnyC_take (i := 1) (fuel := 18) (v := .pointer (some ⟨h.P, i * 6, none⟩)) rfl (by kernel_rfl) (by kernel_rfl) (by kernel_rfl) (by kernel_rfl) (fun _ _ _ h => h) (.inl ⟨by kernel_rfl, fun w' hC => by obtain ⟨y1, y2, y3, y4, y5⟩ := hC; go_simp⟩) HC0.out ?_
  go_frame
  refine wpAnyC_take (i := 2) (fuel := 17) (v := .pointer (some ⟨h.P, i * 6 + 1, none⟩)) rfl (by kernel_rfl) (by kernel_rfl) (by kernel_rfl) (by kernel_rfl) (fun _ _ _ h => h) (.inl ⟨by kernel_rfl, fun w' hC => by obtain ⟨y1, y2, y3, y4, y5⟩ := hC; go_simp⟩) HC0.out ?_
  go_frame
  refine wpAnyC_take (i := 3) (fuel := 16) (v := .int .i64 1) rfl (by kernel_rfl) (by kernel_rfl) (by kernel_rfl) (by kernel_rfl) (fun _ _ _ h => h) (.inl ⟨by kernel_rfl, fun w' hC => by obtain ⟨y1, y2, y3, y4, y5⟩ := hC; go_simp⟩) HC0.out ?_
  go_frame
  refine wpAnyC_take (i := 4) (fuel := 15) (v := .bool false) rfl (by kernel_rfl) (by kernel_rfl) (by kernel_rfl) (by kernel_rfl) (fun _ _ _ h => h) (.inl ⟨by kernel_rfl, fun w' hC => by obtain ⟨y1, y2, y3, y4, y5⟩ := hC; go_simp⟩) HC0.out ?_
  go_frame
  refine wpAnyC_take (i := 5) (fuel := 14) (v := .bool false) rfl (by kernel_rfl) (by kernel_rfl) (by kernel_rfl) (by kernel_rfl) (fun _ _ _ h => h) (.inl ⟨by kernel_rfl, fun w' hC => by obtain ⟨y1, y2, y3, y4, y5⟩ := hC; go_simp⟩) HC0.out ?_
  go_frame
  refine wpAnyC_take (i := 6) (fuel := 13) (v := .pointer (some ⟨h.P, i * 6, none⟩)) rfl (by kernel_rfl) (by kernel_rfl) (by kernel_rfl) (by kernel_rfl) (fun _ _ _ h => h) (.inl ⟨by kernel_rfl, fun w' hC => by obtain ⟨y1, y2, y3, y4, y5⟩ := hC; go_simp⟩) HC0.out ?_
  go_frame
  refine wpAnyC_take (i := 7) (fuel := 12) (v := .pointer (some ⟨h.P, i * 6, none⟩)) rfl (by kernel_rfl) (by kernel_rfl) (by kernel_rfl) (by kernel_rfl) (fun _ _ _ h => h) (.inl ⟨by kernel_rfl, fun w' hC => by obtain ⟨y1, y2, y3, y4, y5⟩ := hC; go_simp⟩) HC0.out ?_
  go_frame
  refine wpAnyC_take (i := 8) (fuel := 11) (v := .pointer (some ⟨h.P, i * 6 + 1, none⟩)) rfl (by kernel_rfl) (by kernel_rfl) (by kernel_rfl) (by kernel_rfl) (fun _ _ _ h => h) (.inl ⟨by kernel_rfl, fun w' hC => by obtain ⟨y1, y2, y3, y4, y5⟩ := hC; go_simp⟩) HC0.out ?_
  go_frame
  refine wpAnyC_take (i := 9) (fuel := 10) (v := .int .i64 1) rfl (by kernel_rfl) (by kernel_rfl) (by kernel_rfl) (by kernel_rfl) (fun _ _ _ h => h) (.inl ⟨by kernel_rfl, fun w' hC => by obtain ⟨y1, y2, y3, y4, y5⟩ := hC; go_simp⟩) HC0.out ?_
  go_frame
  refine wpAnyC_take (i := 10) (fuel := 9) (v := .bool true) rfl (by kernel_rfl) (by kernel_rfl) (by kernel_rfl) (by kernel_rfl) (fun _ _ _ h => h) (.inl ⟨by kernel_rfl, fun w' hC => by obtain ⟨y1, y2, y3, y4, y5⟩ := hC; go_simp⟩) HC0.out ?_
  go_frame
  refine wpAnyC_take (i := 11) (fuel := 8) (v := .bool true) rfl (by kernel_rfl) (by kernel_rfl) (by kernel_rfl) (by kernel_rfl) (fun _ _ _ h => h) (.inl ⟨by kernel_rfl, fun w' hC => by obtain ⟨y1, y2, y3, y4, y5⟩ := hC; go_simp⟩) HC0.out ?_
  go_frame
  refine wpAnyC_take (i := 12) (fuel := 7) (v := .pointer (some ⟨h.P, i * 6, none⟩)) rfl (by kernel_rfl) (by kernel_rfl) (by kernel_rfl) (by kernel_rfl) (fun _ _ _ h => h) (.inl ⟨by kernel_rfl, fun w' hC => by obtain ⟨y1, y2, y3, y4, y5⟩ := hC; go_simp⟩) HC0.out ?_
  go_frame
  refine wpAnyC_take (i := 13) (fuel := 6) (v := .pointer (some ⟨h.P, i * 6, none⟩)) rfl (by kernel_rfl) (by kernel_rfl) (by kernel_rfl) (by kernel_rfl) (fun _ _ _ h => h) (.inl ⟨by kernel_rfl, fun w' hC => by obtain ⟨y1, y2, y3, y4, y5⟩ := hC; go_simp⟩) HC0.out ?_
  go_frame
  refine wpAnyC_take (i := 14) (fuel := 5) (v := .pointer (some ⟨h.P, i * 6 + 2, none⟩)) rfl (by kernel_rfl) (by kernel_rfl) (by kernel_rfl) (by kernel_rfl) (fun _ _ _ h => h) (.inl ⟨by kernel_rfl, fun w' hC => by obtain ⟨y1, y2, y3, y4, y5⟩ := hC; go_simp⟩) HC0.out ?_
  go_frame
  refine wpAnyC_take (i := 15) (fuel := 4) (v := .agg #[.int .i64 (kn : Int), .int .i64 (kp : Int)]) rfl (by kernel_rfl) (by kernel_rfl) (by kernel_rfl) (by kernel_rfl) (fun _ _ _ h => h) (.inl ⟨by kernel_rfl, fun w' hC => by obtain ⟨y1, y2, y3, y4, y5⟩ := hC; go_simp⟩) HC0.out ?_
  go_frame
  refine wpAnyC_take (i := 16) (fuel := 3) (v := .agg #[.int .i64 (x : Int), .int .i64 (j : Int)]) rfl (by kernel_rfl) (by kernel_rfl) (by kernel_rfl) (by kernel_rfl) (fun _ _ _ h => h) (.inl ⟨by kernel_rfl, fun w' hC => by obtain ⟨y1, y2, y3, y4, y5⟩ := hC; go_simp⟩) HC0.out ?_
  go_frame
  refine wpAnyC_one_g 17 (fuel := 2) (by kernel_rfl) rfl (by kernel_rfl) (fun K4 hK4 => ?_)
  go_wp2_with (go_at_call 22; refine (less_any w2.drew kn kp x j).mono ?_; rintro e w9 ⟨rfl, hk9⟩)
  try rw [hlt]
  refine ⟨fun _ => HC.out _ ((stilDrew w2).tr hk9), ?_⟩
  refine wpAnyC_take (i := 18) (fuel := 1) (v := .bool false) rfl (by kernel_rfl) (by kernel_rfl) (by kernel_rfl) (by kernel_rfl) (fun _ _ _ h => h) (.inl ⟨by kernel_rfl, fun w' hC => by obtain ⟨y1, y2, y3, y4, y5⟩ := hC; go_simp⟩) (HC.out _ ((stilDrew w2).tr hk9)) ?_
  go_frame
  refine wpAnyC_one 19 (fuel := 0) (by kernel_rfl) rfl rfl (fun K7 hK7 => ?_)
  go_wp2
  refine ⟨fun _ => (HC.out _ ((stilDrew w2).tr hk9)), ?_⟩
  refine wpAnyC_done (by kernel_rfl) ?_
  show Exit.then _ _ Exit.normal _ _
  have HKz : Hid (Stil w2 w9) := hidMk ((stilDrew w2).tr hk9)
  have HE1 : Hid (prM s i { s.pr i with num := mv } = numS s i x) := by show _ = _; unfold numS; rw [HV.out, HMv.out]
  clear HC0 HC
  clear hk9
  generalize w9 = wz at *
  have Mz := HM4.out.still HKz.out
  have HSz := hidMk (HS4.out.trans (MStp.of_still mb h HKz.out))
  have HPt := hidMk (put_any (x := 0) Mz hi hj hn hc (show (s.ways i j).length ≤ 1000 from hlen2))
  have y1 := HKz.out.cell z1
  clear Mz z0 z1
  go_wp2_with (go_at_call 19; refine (HPt.out).mono ?_; rintro e w3 ⟨rfl, h3, M3, S3, _⟩)
  go_end0
  refine ⟨rfl, h3, ?_, (HSz.out.trans S3).mono (by omega)⟩
  rw [HAn.out, ← HE1.out]
  exact M3

set_option maxRecDepth 100000 in
set_option maxHeartbeats 8000000 in
theorem answer_yes0 (m : Mmov W mb n s h) {i j x kn kp : Nat} (hi : i < n) (hj : j < n) (hn : n ≤ 6) (hc : h.c < 100000) (hlen : (s.ways i j).length ≤ 1000) (hwl : (s.pr i).wait.length ≤ 1000) (hnum : (s.pr i).num ≤ 100000) (hx : x ≤ 100000) (hst : (s.pr i).st = 0) (hkn : (s.pr i).kn = kn) (hkp : (s.pr i).kp = kp) (hB : holdB (s.pr i) x j = false) :
    Calls Try.prog 21 #[.pointer (some ⟨mb, 0, none⟩), .int .i64 (i : Int), .agg #[.int .i64 (x : Int), .int .i64 (j : Int)]] W fun e W2 => e = .returned (.tuple #[]) ∧ ∃ h2, Mmov W2 mb n (answerM s i x j) h2 ∧ MStp mb W h W2 h2 1 := by
  have m1 := m.alloc (.cells #[.int .i64 (x : Int), .int .i64 (j : Int)] 59)
  have HS1 := hidMk (MStp.of_still mb h (Stil.new W (.cells #[.int .i64 (x : Int), .int .i64 (j : Int)] 59)))
  obtain ⟨c0, c1, c2, cf⟩ := m1.cells
  obtain ⟨p0, p1, p2, p3, p4, p5, pf⟩ := m1.proc hi
  have b0 : (W.alloc (.cells #[.int .i64 (x : Int), .int .i64 (j : Int)] 59)).cell? ⟨W.heap.size, 0, none⟩ = some (.int .i64 (x : Int)) := by go_simp
  have b1 : (W.alloc (.cells #[.int .i64 (x : Int), .int .i64 (j : Int)] 59)).cell? ⟨W.heap.size, 1, none⟩ = some (.int .i64 (j : Int)) := by go_simp
  have hfr : ¬ h.own mb W.heap.size := m.fresh (Nat.le_refl _)
  have hi' : (i : Int) < (n : Int) := by omega
  have HM1 := hidMk m1
  have HFr := hidMk hfr
  have f0 := pf (i * 6)
  rw [hst] at p1
  rw [hkn] at p2
  rw [hkp] at p3
  generalize hv : (s.pr i).num = v at *
  have HV := hidMk hv
  have HAn := hidMk (show answerM s i x j = putM (numS s i x) i j 0 from by unfold answerM; rw [if_neg (by rw [hB]; simp)])
  have hlen2 : (s.ways i j).length ≤ 1000 := hlen
  clear m m1 hv hfr
  go_enter Try.func21, Try.ntmps21
  go_wp2_with (fail)
  generalize W.alloc (.cells #[.int .i64 (x : Int), .int .i64 (j : Int)] 59) = w0 at *
  generalize W.heap.size = bk at *
  refine wp_region_tail rfl (by kernel_rfl) (by kernel_rfl) (by kernel_rfl) (by kernel_rfl) (by kernel_rfl) rfl ?_
  simp only [List.dropLast]
  repeat (go_big_quiet_step (fail))
  refine wpQuiet_nil ?_
  rintro _ ⟨q, rfl⟩
  have hmx : (if v < x then (x : Int) else (v : Int)) = ((max v x : Nat) : Int) := by
    split <;> omega
  rw [hmx]
  clear hmx
  have m3 := HM1.out.drewN q
  obtain ⟨M4, S4⟩ := m3.setNum hi (max v x)
  have HS4 := hidMk ((HS1.out.trans (MStp.of_still mb h (Stil.drewN w0 q))).trans S4)
  have b0' : (w0.drewN q).cell? ⟨bk, 0, none⟩ = some (.int .i64 (x : Int)) := b0
  have b1' : (w0.drewN q).cell? ⟨bk, 1, none⟩ = some (.int .i64 (j : Int)) := b1
  have z0 := S4.free HFr.out b0'
  have z1 := S4.free HFr.out b1'
  obtain ⟨e0, e1, e2, e3, e4, e5, ef⟩ := M4.proc hi
  simp only [prM, upd1_same] at e0 e1 e2 e3 e4 e5
  rw [hst] at e1
  rw [hkn] at e2
  rw [hkp] at e3
  have HM4 := hidMk M4
  have f0' : (w0.drewN q).frozen? ⟨h.P, i * 6, none⟩ = false := f0
  have p0' : (w0.drewN q).cell? ⟨h.P, i * 6, none⟩ = some (.int .i64 (v : Int)) := p0
  clear m3 M4 S4 b0 b1 b0' b1' c0 c1 c2 cf p0 p1 p2 p3 p4 p5 pf HM1 HS1 f0
  generalize hmv : max v x = mv at *
  have HMv := hidMk hmv
  clear hmv
  generalize w0.drewN q = w1 at *
  go_wp2_with (fail)
  clear f0' p0'
  generalize w1.setCell ⟨h.P, i * 6, none⟩ (.int .i64 (mv : Int)) = w2 at *
  have HC : Hid (∀ w9 : World, Stil w2 w9 → w9.cell? ⟨h.P, i * 6 + 1, none⟩ = some (.int .i64 0) ∧ w9.cell? ⟨h.P, i * 6 + 2, none⟩ = some (.int .i64 (kn : Int)) ∧ w9.cell? ⟨h.P, i * 6 + 3, none⟩ = some (.int .i64 (kp : Int)) ∧ w9.cell? ⟨bk, 0, none⟩ = some (.int .i64 (x : Int)) ∧ w9.cell? ⟨bk, 1, none⟩ = some (.int .i64 (j : Int))) := fun w9 h9 => ⟨h9.cell e1, h9.cell e2, h9.cell e3, h9.cell z0, h9.cell z1⟩
  have HC0 := hidMk (HC.out w2.drew (stilDrew w2))
  clear e0 e1 e2 e3 e4 e5 ef
  refine wp_region_class (fun w' => w'.cell? ⟨h.P, i * 6 + 1, none⟩ = some (.int .i64 0) ∧ w'.cell? ⟨h.P, i * 6 + 2, none⟩ = some (.int .i64 (kn : Int)) ∧ w'.cell? ⟨h.P, i * 6 + 3, none⟩ = some (.int .i64 (kp : Int)) ∧ w'.cell? ⟨bk, 0, none⟩ = some (.int .i64 (x : Int)) ∧ w'.cell? ⟨bk, 1, none⟩ = some (.int .i64 (j : Int))) 20 (by kernel_rfl) ?_
  refine wpAnyC_take (i := 0) (fuel := 19) (v := .pointer (some ⟨h.P, i * 6, none⟩)) rfl (by kernel_rfl) (by kernel_rfl) (by kernel_rfl) (by kernel_rfl) (fun _ _ _ h => h) (.inl ⟨by kernel_rfl, fun w' hC => by obtain ⟨y1, y2, y3, y4, y5⟩ := hC; go_simp⟩) HC0.out ?_
  go_frame
  refine wpAnyC_take (i := 1) (fuel := 18) (v := .pointer (some ⟨h.P, i * 6, none⟩)) rfl (by kernel_rfl) (by kernel_rfl) (by kernel_rfl) (by kernel_rfl) (fun _ _ _ h => h) (.inl ⟨by kernel_rfl, fun w' hC => by obtain ⟨y1, y2, y3, y4, y5⟩ := hC; go_simp⟩) HC0.out ?_
  go_frame
  refine wpAnyC_take (i := 2) (fuel := 17) (v := .pointer (some ⟨h.P, i * 6 + 1, none⟩)) rfl (by kernel_rfl) (by kernel_rfl) (by kernel_rfl) (by kernel_rfl) (fun _ _ _ h => h) (.inl ⟨by kernel_rfl, fun w' hC => by obtain ⟨y1, y2, y3, y4, y5⟩ := hC; go_simp⟩) HC0.out ?_
  go_frame
  refine wpAnyC_take (i := 3) (fuel := 16) (v := .int .i64 0) rfl (by kernel_rfl) (by kernel_rfl) (by kernel_rfl) (by kernel_rfl) (fun _ _ _ h => h) (.inl ⟨by kernel_rfl, fun w' hC => by obtain ⟨y1, y2, y3, y4, y5⟩ := hC; go_simp⟩) HC0.out ?_
  go_frame
  refine wpAnyC_take (i := 4) (fuel := 15) (v := .bool false) rfl (by kernel_rfl) (by kernel_rfl) (by kernel_rfl) (by kernel_rfl) (fun _ _ _ h => h) (.inl ⟨by kernel_rfl, fun w' hC => by obtain ⟨y1, y2, y3, y4, y5⟩ := hC; go_simp⟩) HC0.out ?_
  go_frame
  refine wpAnyC_take (i := 5) (fuel := 14) (v := .bool false) rfl (by kernel_rfl) (by kernel_rfl) (by kernel_rfl) (by kernel_rfl) (fun _ _ _ h => h) (.inl ⟨by kernel_rfl, fun w' hC => by obtain ⟨y1, y2, y3, y4, y5⟩ := hC; go_simp⟩) HC0.out ?_
  go_frame
  refine wpAnyC_take (i := 6) (fuel := 13) (v := .pointer (some ⟨h.P, i * 6, none⟩)) rfl (by kernel_rfl) (by kernel_rfl) (by kernel_rfl) (by kernel_rfl) (fun _ _ _ h => h) (.inl ⟨by kernel_rfl, fun w' hC => by obtain ⟨y1, y2, y3, y4, y5⟩ := hC; go_simp⟩) HC0.out ?_
  go_frame
  refine wpAnyC_take (i := 7) (fuel := 12) (v := .pointer (some ⟨h.P, i * 6, none⟩)) rfl (by kernel_rfl) (by kernel_rfl) (by kernel_rfl) (by kernel_rfl) (fun _ _ _ h => h) (.inl ⟨by kernel_rfl, fun w' hC => by obtain ⟨y1, y2, y3, y4, y5⟩ := hC; go_simp⟩) HC0.out ?_
  go_frame
  refine wpAnyC_take (i := 8) (fuel := 11) (v := .pointer (some ⟨h.P, i * 6 + 1, none⟩)) rfl (by kernel_rfl) (by kernel_rfl) (by kernel_rfl) (by kernel_rfl) (fun _ _ _ h => h) (.inl ⟨by kernel_rfl, fun w' hC => by obtain ⟨y1, y2, y3, y4, y5⟩ := hC; go_simp⟩) HC0.out ?_
  go_frame
  refine wpAnyC_take (i := 9) (fuel := 10) (v := .int .i64 0) rfl (by kernel_rfl) (by kernel_rfl) (by kernel_rfl) (by kernel_rfl) (fun _ _ _ h => h) (.inl ⟨by kernel_rfl, fun w' hC => by obtain ⟨y1, y2, y3, y4, y5⟩ := hC; go_simp⟩) HC0.out ?_
  go_frame
  refine wpAnyC_take (i := 10) (fuel := 9) (v := .bool false) rfl (by kernel_rfl) (by kernel_rfl) (by kernel_rfl) (by kernel_rfl) (fun _ _ _ h => h) (.inl ⟨by kernel_rfl, fun w' hC => by obtain ⟨y1, y2, y3, y4, y5⟩ := hC; go_simp⟩) HC0.out ?_
  go_frame
  refine wpAnyC_take (i := 11) (fuel := 8) (v := .bool false) rfl (by kernel_rfl) (by kernel_rfl) (by kernel_rfl) (by kernel_rfl) (fun _ _ _ h => h) (.inl ⟨by kernel_rfl, fun w' hC => by obtain ⟨y1, y2, y3, y4, y5⟩ := hC; go_simp⟩) HC0.out ?_
  go_frame
  refine wpAnyC_take (i := 12) (fuel := 7) (v := undef) rfl (by kernel_rfl) (by kernel_rfl) (by kernel_rfl) (by kernel_rfl) (fun _ _ _ h => h) (.inr ⟨by kernel_rfl, rfl⟩) HC0.out ?_
  go_frame
  refine wpAnyC_take (i := 13) (fuel := 6) (v := undef) rfl (by kernel_rfl) (by kernel_rfl) (by kernel_rfl) (by kernel_rfl) (fun _ _ _ h => h) (.inr ⟨by kernel_rfl, rfl⟩) HC0.out ?_
  go_frame
  refine wpAnyC_take (i := 14) (fuel := 5) (v := undef) rfl (by kernel_rfl) (by kernel_rfl) (by kernel_rfl) (by kernel_rfl) (fun _ _ _ h => h) (.inr ⟨by kernel_rfl, rfl⟩) HC0.out ?_
  go_frame
  refine wpAnyC_take (i := 15) (fuel := 4) (v := undef) rfl (by kernel_rfl) (by kernel_rfl) (by kernel_rfl) (by kernel_rfl) (fun _ _ _ h => h) (.inr ⟨by kernel_rfl, rfl⟩) HC0.out ?_
  go_frame
  refine wpAnyC_take (i := 16) (fuel := 3) (v := undef) rfl (by kernel_rfl) (by kernel_rfl) (by kernel_rfl) (by kernel_rfl) (fun _ _ _ h => h) (.inr ⟨by kernel_rfl, rfl⟩) HC0.out ?_
  go_frame
  refine wpAnyC_take (i := 17) (fuel := 2) (v := undef) rfl (by kernel_rfl) (by kernel_rfl) (by kernel_rfl) (by kernel_rfl) (fun _ _ _ h => h) (.inr ⟨by kernel_rfl, rfl⟩) HC0.out ?_
  go_frame
  refine wpAnyC_take (i := 18) (fuel := 1) (v := .bool false) rfl (by kernel_rfl) (by kernel_rfl) (by kernel_rfl) (by kernel_rfl) (fun _ _ _ h => h) (.inl ⟨by kernel_rfl, fun w' hC => by obtain ⟨y1, y2, y3, y4, y5⟩ := hC; go_simp⟩) HC0.out ?_
  go_frame
  refine wpAnyC_one 19 (fuel := 0) (by kernel_rfl) rfl rfl (fun K7 hK7 => ?_)
  go_wp2
  refine ⟨fun _ => HC0.out, ?_⟩
  refine wpAnyC_done (by kernel_rfl) ?_
  show Exit.then _ _ Exit.normal _ _
  have HKz : Hid (Stil w2 w2.drew) := hidMk (stilDrew w2)
  have HE1 : Hid (prM s i { s.pr i with num := mv } = numS s i x) := by show _ = _; unfold numS; rw [HV.out, HMv.out]
  clear HC0 HC
  generalize w2.drew = wz at *
  have Mz := HM4.out.still HKz.out
  have HSz := hidMk (HS4.out.trans (MStp.of_still mb h HKz.out))
  have HPt := hidMk (put_any (x := 0) Mz hi hj hn hc (show (s.ways i j).length ≤ 1000 from hlen2))
  have y1 := HKz.out.cell z1
  clear Mz z0 z1
  go_wp2_with (go_at_call 19; refine (HPt.out).mono ?_; rintro e w3 ⟨rfl, h3, M3, S3, _⟩)
  go_end0
  refine ⟨rfl, h3, ?_, (HSz.out.trans S3).mono (by omega)⟩
  rw [HAn.out, ← HE1.out]
  exact M3

theorem answer_any (m : Mmov W mb n s h) {i j x : Nat} (hi : i < n) (hj : j < n) (hn : n ≤ 6) (hc : h.c < 100000) (hlen : (s.ways i j).length ≤ 1000) (hwl : (s.pr i).wait.length ≤ 1000) (hnum : (s.pr i).num ≤ 100000) (hx : x ≤ 100000) (hst : (s.pr i).st ≤ 2) :
    Calls Try.prog 21 #[.pointer (some ⟨mb, 0, none⟩), .int .i64 (i : Int), .agg #[.int .i64 (x : Int), .int .i64 (j : Int)]] W fun e W2 => e = .returned (.tuple #[]) ∧ ∃ h2, Mmov W2 mb n (answerM s i x j) h2 ∧ MStp mb W h W2 h2 1 := by
  obtain e | e | e : (s.pr i).st = 0 ∨ (s.pr i).st = 1 ∨ (s.pr i).st = 2 := by omega
  · exact answer_yes0 m hi hj hn hc hlen hwl hnum hx e rfl rfl (by unfold holdB; rw [e]; simp)
  · cases hb : mlt (s.pr i).kn (s.pr i).kp x j with
    | true => exact answer_wait m hi hj hn hc hlen hwl hnum hx e rfl rfl hb (by unfold holdB; rw [e, hb]; simp)
    | false => exact answer_yes1 m hi hj hn hc hlen hwl hnum hx e rfl rfl hb (by unfold holdB; rw [e, hb]; simp)
  · exact answer_in m hi hj hn hc hlen hwl hnum hx e rfl rfl (by unfold holdB; rw [e]; simp)
end Go.Proofs.Ytaojmbebkggafaa
