/- The bakery's moves: yield. -/
import Derived.Test.YtgnigjfgddhgiaaBa3
namespace Go.Proofs.Ytgnigjfgddhgiaa
open Go.RowKit
set_option linter.unusedVariables false

variable {W W2 : World} {mb n t : Nat} {s : BS} {h h2 : BSh}
set_option maxRecDepth 100000 in
set_option maxHeartbeats 1600000 in
theorem yield_any (m : Bmov W mb n s h) (hv : BInv n t s) (ht : t ≤ 1000) {i : Nat} (hi : i < n) (hp4 : (s.pr i).pl = 4) (hn : n ≤ 4) :
    Calls Try.prog 24 #[.pointer (some ⟨mb, 0, none⟩), .int .i64 (i : Int)] W fun e W2 => e = .returned (.tuple #[]) ∧ ∃ h2, Bmov W2 mb n (yieldB s i) h2 ∧ BStp mb W h W2 h2 := by
  obtain ⟨o1, o2, o3, o4, o5, o6, o7, o8⟩ := hv.own i hi
  have hk := o8 hp4
  have hk' : ((s.pr i).k : Int) < (n : Int) := by omega
  have hi' : (i : Int) < (n : Int) := by omega
  have HM := hidMk m
  have hw1 : IntKind.i64.wrap (((s.pr i).k : Int) + 1) = (((s.pr i).k + 1 : Nat) : Int) := by rw [wrap_of ⟨by omega, by omega⟩]; omega
  obtain ⟨c0, c1, cf⟩ := m.cells
  obtain ⟨p0, p1, p2, p3, p4, pf⟩ := m.proc hi
  have r1 := (m.proc hk).2.1
  have f0 := pf (i * 5)
  have f3 := pf (i * 5 + 3)
  have HS : Hid (∀ w', Stil W w' → Bmov ((w'.setCell ⟨h.P, i * 5 + 3, none⟩ (.int .i64 (((s.pr i).k + 1 : Nat) : Int))).setCell ⟨h.P, i * 5, none⟩ (.int .i64 3)) mb n (setB s i ⟨3, (s.pr i).tk, (s.pr i).ch, (s.pr i).k + 1, (s.pr i).m⟩) h ∧ BStp mb W h ((w'.setCell ⟨h.P, i * 5 + 3, none⟩ (.int .i64 (((s.pr i).k + 1 : Nat) : Int))).setCell ⟨h.P, i * 5, none⟩ (.int .i64 3)) h) := fun w' hw => by
    obtain ⟨M1, S1⟩ := (m.still hw).setK hi ((s.pr i).k + 1)
    obtain ⟨M2, S2⟩ := M1.setPl hi 3
    simp only [setB_setB, setB_at] at M2
    exact ⟨M2, ((BStp.of_still mb h hw).trans S1).trans S2⟩
  have HT1 : Hid (barB s i = true → yieldB s i = s) := fun e => by unfold yieldB; rw [if_pos e]
  have HT2 : Hid (barB s i = false → yieldB s i = setB s i ⟨3, (s.pr i).tk, (s.pr i).ch, (s.pr i).k + 1, (s.pr i).m⟩) := fun e => by unfold yieldB; rw [if_neg (by rw [e]; simp)]
  have HB : Hid (barB s i = (decide ((s.pr (s.pr i).k).tk ≠ 0) && blt (s.pr (s.pr i).k).tk (s.pr i).k (s.pr i).tk i)) := rfl
  clear m o5 o6 o7 o8 hv pf
  generalize (s.pr i).k = kv at *
  generalize (s.pr kv).tk = tv at *
  generalize hti : (s.pr i).tk = ti at *
  by_cases e0 : tv = 0
  · have HB2 : Hid (barB s i = false) := by show _ = _; rw [HB.out, e0]; simp
    have e1 : ((tv : Int) != 0) = false := by rw [e0]; rfl
    clear e0 HB
    go_enter Try.func24, Try.ntmps24
    go_wp2_with (fail)
    go_quiet (fail)
    go_wp2
    go_end0
    exact ⟨rfl, h, by rw [HT2.out HB2.out]; exact (HS.out _ (Stil.drewN W _)).1, (HS.out _ (Stil.drewN W _)).2⟩
  · have e1 : ((tv : Int) != 0) = true := by simp; omega
    have HKy := hidMk (fun (w' : World) (hw : Stil W w') => key_any (W := w') hk hn (hw.cell c0) (hw.cell r1))
    have HKi := hidMk (fun (w' : World) (hw : Stil W w') => key_any (W := w') hi hn (hw.cell c0) (hw.cell p1))
    have HC : Hid (∀ w' : World, Stil W w' → w'.cell? ⟨mb, 0, none⟩ = some (.slice (some ⟨h.P, 0, none⟩) n n) ∧ w'.cell? ⟨h.P, i * 5 + 3, none⟩ = some (.int .i64 (kv : Int)) ∧ w'.cell? ⟨h.P, kv * 5 + 1, none⟩ = some (.int .i64 (tv : Int)) ∧ w'.cell? ⟨h.P, i * 5 + 1, none⟩ = some (.int .i64 (ti : Int))) := fun w' hw => ⟨hw.cell c0, hw.cell p3, hw.cell r1, hw.cell p1⟩
    have HC0 := hidMk (HC.out _ (stilDrew W))
    have HB2 : Hid (barB s i = blt tv kv ti i) := by
      show _ = _
      rw [HB.out, decide_eq_true e0, Bool.true_and]
    have HF : Hid (∀ w', Stil W w' → w'.cell? ⟨h.P, i * 5 + 3, none⟩ = some (.int .i64 (kv : Int)) ∧ w'.frozen? ⟨h.P, i * 5, none⟩ = false ∧ w'.frozen? ⟨h.P, i * 5 + 3, none⟩ = false ∧ w'.cell? ⟨h.P, i * 5, none⟩ = some (.int .i64 ((s.pr i).pl : Int))) := fun w' hw => by
      obtain ⟨z0, z1, z2, z3, z4, zf⟩ := (HM.out.still hw).proc hi
      exact ⟨hw.cell p3, zf _, zf _, z0⟩
    clear e0 HB
    go_enter Try.func24, Try.ntmps24
    go_wp2_with (fail)
    clear c0 c1 cf p0 p1 p2 p3 p4 r1 f0 f3
    refine wp_region_class (fun w' => w'.cell? ⟨mb, 0, none⟩ = some (.slice (some ⟨h.P, 0, none⟩) n n) ∧ w'.cell? ⟨h.P, i * 5 + 3, none⟩ = some (.int .i64 (kv : Int)) ∧ w'.cell? ⟨h.P, kv * 5 + 1, none⟩ = some (.int .i64 (tv : Int)) ∧ w'.cell? ⟨h.P, i * 5 + 1, none⟩ = some (.int .i64 (ti : Int))) 24 (by kernel_rfl) ?_
    refine wpAnyC_take (i := 0) (fuel := 23) (v := .pointer (some ⟨mb, 0, none⟩)) rfl (by kernel_rfl) (by kernel_rfl) (by kernel_rfl) (by kernel_rfl) (fun _ _ _ h => h) (.inl ⟨by kernel_rfl, fun w' hC => by obtain ⟨y1, y2, y3, y4⟩ := hC; go_simp⟩) HC0.out ?_
    go_frame
    refine wpAnyC_take (i := 1) (fuel := 22) (v := .pointer (some ⟨mb, 0, none⟩)) rfl (by kernel_rfl) (by kernel_rfl) (by kernel_rfl) (by kernel_rfl) (fun _ _ _ h => h) (.inl ⟨by kernel_rfl, fun w' hC => by obtain ⟨y1, y2, y3, y4⟩ := hC; go_simp⟩) HC0.out ?_
    go_frame
    refine wpAnyC_take (i := 2) (fuel := 21) (v := .pointer (some ⟨mb, 0, none⟩)) rfl (by kernel_rfl) (by kernel_rfl) (by kernel_rfl) (by kernel_rfl) (fun _ _ _ h => h) (.inl ⟨by kernel_rfl, fun w' hC => by obtain ⟨y1, y2, y3, y4⟩ := hC; go_simp⟩) HC0.out ?_
    go_frame
    refine wpAnyC_take (i := 3) (fuel := 20) (v := .slice (some ⟨h.P, 0, none⟩) n n) rfl (by kernel_rfl) (by kernel_rfl) (by kernel_rfl) (by kernel_rfl) (fun _ _ _ h => h) (.inl ⟨by kernel_rfl, fun w' hC => by obtain ⟨y1, y2, y3, y4⟩ := hC; go_simp⟩) HC0.out ?_
    go_frame
    refine wpAnyC_take (i := 4) (fuel := 19) (v := .pointer (some ⟨h.P, i * 5, none⟩)) rfl (by kernel_rfl) (by kernel_rfl) (by kernel_rfl) (by kernel_rfl) (fun _ _ _ h => h) (.inl ⟨by kernel_rfl, fun w' hC => by obtain ⟨y1, y2, y3, y4⟩ := hC; go_simp⟩) HC0.out ?_
    go_frame
    refine wpAnyC_take (i := 5) (fuel := 18) (v := .pointer (some ⟨h.P, i * 5, none⟩)) rfl (by kernel_rfl) (by kernel_rfl) (by kernel_rfl) (by kernel_rfl) (fun _ _ _ h => h) (.inl ⟨by kernel_rfl, fun w' hC => by obtain ⟨y1, y2, y3, y4⟩ := hC; go_simp⟩) HC0.out ?_
    go_frame
    refine wpAnyC_take (i := 6) (fuel := 17) (v := .pointer (some ⟨h.P, i * 5 + 3, none⟩)) rfl (by kernel_rfl) (by kernel_rfl) (by kernel_rfl) (by kernel_rfl) (fun _ _ _ h => h) (.inl ⟨by kernel_rfl, fun w' hC => by obtain ⟨y1, y2, y3, y4⟩ := hC; go_simp⟩) HC0.out ?_
    go_frame
    refine wpAnyC_take (i := 7) (fuel := 16) (v := .int .i64 (kv : Int)) rfl (by kernel_rfl) (by kernel_rfl) (by kernel_rfl) (by kernel_rfl) (fun _ _ _ h => h) (.inl ⟨by kernel_rfl, fun w' hC => by obtain ⟨y1, y2, y3, y4⟩ := hC; go_simp⟩) HC0.out ?_
    go_frame
    refine wpAnyC_take (i := 8) (fuel := 15) (v := .pointer (some ⟨h.P, kv * 5, none⟩)) rfl (by kernel_rfl) (by kernel_rfl) (by kernel_rfl) (by kernel_rfl) (fun _ _ _ h => h) (.inl ⟨by kernel_rfl, fun w' hC => by obtain ⟨y1, y2, y3, y4⟩ := hC; go_simp⟩) HC0.out ?_
    go_frame
    refine wpAnyC_take (i := 9) (fuel := 14) (v := .pointer (some ⟨h.P, kv * 5 + 1, none⟩)) rfl (by kernel_rfl) (by kernel_rfl) (by kernel_rfl) (by kernel_rfl) (fun _ _ _ h => h) (.inl ⟨by kernel_rfl, fun w' hC => by obtain ⟨y1, y2, y3, y4⟩ := hC; go_simp⟩) HC0.out ?_
    go_frame
    refine wpAnyC_take (i := 10) (fuel := 13) (v := .int .i64 (tv : Int)) rfl (by kernel_rfl) (by kernel_rfl) (by kernel_rfl) (by kernel_rfl) (fun _ _ _ h => h) (.inl ⟨by kernel_rfl, fun w' hC => by obtain ⟨y1, y2, y3, y4⟩ := hC; go_simp⟩) HC0.out ?_
    go_frame
    refine wpAnyC_take (i := 11) (fuel := 12) (v := .bool true) rfl (by kernel_rfl) (by kernel_rfl) (by kernel_rfl) (by kernel_rfl) (fun _ _ _ h => h) (.inl ⟨by kernel_rfl, fun w' hC => by obtain ⟨y1, y2, y3, y4⟩ := hC; go_simp⟩) HC0.out ?_
    go_frame
    refine wpAnyC_take (i := 12) (fuel := 11) (v := .bool true) rfl (by kernel_rfl) (by kernel_rfl) (by kernel_rfl) (by kernel_rfl) (fun _ _ _ h => h) (.inl ⟨by kernel_rfl, fun w' hC => by obtain ⟨y1, y2, y3, y4⟩ := hC; go_simp⟩) HC0.out ?_
    go_frame
    refine wpAnyC_take (i := 13) (fuel := 10) (v := .pointer (some ⟨mb, 0, none⟩)) rfl (by kernel_rfl) (by kernel_rfl) (by kernel_rfl) (by kernel_rfl) (fun _ _ _ h => h) (.inl ⟨by kernel_rfl, fun w' hC => by obtain ⟨y1, y2, y3, y4⟩ := hC; go_simp⟩) HC0.out ?_
    go_frame
    refine wpAnyC_take (i := 14) (fuel := 9) (v := .pointer (some ⟨h.P, i * 5, none⟩)) rfl (by kernel_rfl) (by kernel_rfl) (by kernel_rfl) (by kernel_rfl) (fun _ _ _ h => h) (.inl ⟨by kernel_rfl, fun w' hC => by obtain ⟨y1, y2, y3, y4⟩ := hC; go_simp⟩) HC0.out ?_
    go_frame
    refine wpAnyC_take (i := 15) (fuel := 8) (v := .pointer (some ⟨h.P, i * 5, none⟩)) rfl (by kernel_rfl) (by kernel_rfl) (by kernel_rfl) (by kernel_rfl) (fun _ _ _ h => h) (.inl ⟨by kernel_rfl, fun w' hC => by obtain ⟨y1, y2, y3, y4⟩ := hC; go_simp⟩) HC0.out ?_
    go_frame
    refine wpAnyC_take (i := 16) (fuel := 7) (v := .pointer (some ⟨h.P, i * 5 + 3, none⟩)) rfl (by kernel_rfl) (by kernel_rfl) (by kernel_rfl) (by kernel_rfl) (fun _ _ _ h => h) (.inl ⟨by kernel_rfl, fun w' hC => by obtain ⟨y1, y2, y3, y4⟩ := hC; go_simp⟩) HC0.out ?_
    go_frame
    refine wpAnyC_take (i := 17) (fuel := 6) (v := .int .i64 (kv : Int)) rfl (by kernel_rfl) (by kernel_rfl) (by kernel_rfl) (by kernel_rfl) (fun _ _ _ h => h) (.inl ⟨by kernel_rfl, fun w' hC => by obtain ⟨y1, y2, y3, y4⟩ := hC; go_simp⟩) HC0.out ?_
    go_frame
    refine wpAnyC_take (i := 19) (fuel := 5) (v := .pointer (some ⟨mb, 0, none⟩)) rfl (by kernel_rfl) (by kernel_rfl) (by kernel_rfl) (by kernel_rfl) (fun _ _ _ h => h) (.inl ⟨by kernel_rfl, fun w' hC => by obtain ⟨y1, y2, y3, y4⟩ := hC; go_simp⟩) HC0.out ?_
    go_frame
    refine wpAnyC_take (i := 20) (fuel := 4) (v := .int .i64 (i : Int)) rfl (by kernel_rfl) (by kernel_rfl) (by kernel_rfl) (by kernel_rfl) (fun _ _ _ h => h) (.inl ⟨by kernel_rfl, fun w' hC => by obtain ⟨y1, y2, y3, y4⟩ := hC; go_simp⟩) HC0.out ?_
    go_frame
    refine wpAnyC_one_g 18 (fuel := 3) (by kernel_rfl) rfl (by kernel_rfl) (fun K4 hK4 => ?_)
    go_wp2_with (go_at_call 26; refine (HKy.out _ (stilDrew W)).mono ?_; rintro e w1 ⟨rfl, hk1⟩)
    have HK1 := hidMk (Stil.tr (stilDrew W) hk1)
    clear hk1
    refine ⟨fun _ => HC.out _ HK1.out, ?_⟩
    have HC0 := hidMk (HC.out _ HK1.out)
    try go_frame
    refine wpAnyC_one_g 21 (fuel := 2) (by kernel_rfl) rfl (by kernel_rfl) (fun K5 hK5 => ?_)
    go_wp2_with (go_at_call 26; refine (HKi.out _ HK1.out).mono ?_; rintro e w2 ⟨rfl, hk2⟩)
    have HK2 := hidMk (Stil.tr HK1.out hk2)
    clear hk2
    refine ⟨fun _ => HC.out _ HK2.out, ?_⟩
    try go_frame
    refine wpAnyC_one_g 22 (fuel := 1) (by kernel_rfl) rfl (by kernel_rfl) (fun K6 hK6 => ?_)
    go_wp2_with (go_at_call 27; refine (less_any w2 tv kv ti i).mono ?_; rintro e w3 ⟨rfl, hk3⟩)
    have HK3 := hidMk (Stil.tr HK2.out hk3)
    clear hk3
    refine ⟨fun _ => HC.out _ HK3.out, ?_⟩
    try go_frame
    refine wpAnyC_one 23 (fuel := 0) (by kernel_rfl) rfl rfl (fun K7 hK7 => ?_)
    go_wp2
    refine ⟨fun _ => HC.out _ HK3.out, ?_⟩
    refine wpAnyC_done (by kernel_rfl) ?_
    show Exit.then _ _ Exit.normal _ _
    clear HK1 HK2 HC0 HC HKy HKi
    by_cases eb : blt tv kv ti i = true
    · have HB3 : Hid (barB s i = true) := by show _ = _; rw [HB2.out, eb]
      try rw [eb]
      go_wp2
      refine bodyPost_ret (results_none rfl _ _ _) rfl ?_
      exact ⟨rfl, h, by rw [HT1.out HB3.out]; exact HM.out.still HK3.out, BStp.of_still mb h HK3.out⟩
    · have eb2 : blt tv kv ti i = false := by simpa using eb
      have HB3 : Hid (barB s i = false) := by show _ = _; rw [HB2.out, eb2]
      obtain ⟨z0, z1, z2, z3⟩ := HF.out _ HK3.out
      try rw [eb2]
      clear eb
      go_wp2
      go_end0
      exact ⟨rfl, h, by rw [HT2.out HB3.out]; exact (HS.out _ HK3.out).1, (HS.out _ HK3.out).2⟩
end Go.Proofs.Ytgnigjfgddhgiaa
