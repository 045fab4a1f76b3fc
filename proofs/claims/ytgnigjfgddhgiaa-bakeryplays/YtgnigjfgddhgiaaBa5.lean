/- The bakery: a step. -/
import Derived.Test.YtgnigjfgddhgiaaBa4
import Derived.Laws.EntriesVeiled
namespace Go.Proofs.Ytgnigjfgddhgiaa
open Go.RowKit
set_option linter.unusedVariables false

variable {W W2 : World} {mb n t : Nat} {s : BS} {h h2 : BSh}
set_option maxRecDepth 100000 in
set_option maxHeartbeats 1600000 in
theorem step_bad (m : Bmov W mb n s h) (hn : n ≤ 4) {z : Int} (hz : inP n z = false) :
    Calls Try.prog 15 #[.pointer (some ⟨mb, 0, none⟩), .int .i64 z] W fun e W2 => e = .returned (.int .i64 2) ∧ W2 = W := by
  obtain ⟨c0, c1, cf⟩ := m.cells
  by_cases h0 : z < 0
  · have q1 : decide (z < 0) = true := decide_eq_true h0
    clear m
    go_enter Try.func15, Try.ntmps15
    go_wp2
    go_ret
    exact ⟨rfl, rfl⟩
  · have q1 : decide (z < 0) = false := decide_eq_false h0
    have q2 : decide ((n : Int) ≤ z) = true := by
      unfold inP at hz
      simp at hz
      exact decide_eq_true (hz (by omega))
    clear m hz
    go_enter Try.func15, Try.ntmps15
    go_wp2
    go_ret
    exact ⟨rfl, rfl⟩

set_option maxRecDepth 100000 in
set_option maxHeartbeats 4000000 in
theorem step_ok (m : Bmov W mb n s h) (hv : BInv n t s) (ht : t ≤ 1000) {i : Nat} (hi : i < n) (hn : n ≤ 4) :
    Calls Try.prog 15 #[.pointer (some ⟨mb, 0, none⟩), .int .i64 (i : Int)] W fun e W2 => e = .returned (.int .i64 0) ∧ ∃ h2, Bmov W2 mb n (actB n s i) h2 ∧ BStp mb W h W2 h2 := by
  obtain ⟨o1, o2, o3, o4, o5, o6, o7, o8⟩ := hv.own i hi
  have hi' : (i : Int) < (n : Int) := by omega
  have q1 : decide ((i : Int) < 0) = false := decide_eq_false (by omega)
  have q2 : decide ((n : Int) ≤ (i : Int)) = false := decide_eq_false (by omega)
  have m1 := m.alloc (.cells #[.func (.func 20) #[] #[], .func (.func 21) #[] #[], .func (.func 22) #[] #[], .func (.func 23) #[] #[], .func (.func 24) #[] #[], .func (.func 25) #[] #[]] 52)
  have hS := BStp.of_still mb h (Stil.new W (.cells #[.func (.func 20) #[] #[], .func (.func 21) #[] #[], .func (.func 22) #[] #[], .func (.func 23) #[] #[], .func (.func 24) #[] #[], .func (.func 25) #[] #[]] 52))
  obtain ⟨c0, c1, cf⟩ := m.cells
  have p0 := (m.proc hi).1
  have c0' := m1.cells.1
  have p0' := (m1.proc hi).1
  have HM := hidMk m1
  have HV := hidMk hv
  have HS := hidMk hS
  clear m m1 hv hS o2 o3 o4 o5 o6 o7 o8
  by_cases e0 : (s.pr i).pl = 0
  · have hT : actB n s i = chooseB s i := by unfold actB; rw [if_pos e0]
    rw [hT]
    have HD := hidMk (choose_any HM.out hi hn)
    rw [e0] at p0 p0'
    clear hT HM HV e0
    go_enter Try.func15, Try.ntmps15
    go_wp2_with (fail)
    go_at_call 20
    refine (HD.out).mono ?_
    rintro e w2 ⟨rfl, h2, M2, S2⟩
    have HM2 := hidMk M2
    have HS2 := hidMk (HS.out.trans S2)
    clear M2 S2 HD
    go_wp2
    go_ret
    exact ⟨rfl, h2, HM2.out, HS2.out⟩
  by_cases e1 : (s.pr i).pl = 1
  · have hT : actB n s i = drawB n s i := by unfold actB; rw [if_neg e0, if_pos e1]
    rw [hT]
    have HD := hidMk (draw_any HM.out HV.out ht hi hn)
    rw [e1] at p0 p0'
    clear hT HM HV e0 e1
    go_enter Try.func15, Try.ntmps15
    go_wp2_with (fail)
    go_at_call 21
    refine (HD.out).mono ?_
    rintro e w2 ⟨rfl, h2, M2, S2⟩
    have HM2 := hidMk M2
    have HS2 := hidMk (HS.out.trans S2)
    clear M2 S2 HD
    go_wp2
    go_ret
    exact ⟨rfl, h2, HM2.out, HS2.out⟩
  by_cases e2 : (s.pr i).pl = 2
  · have hT : actB n s i = showB s i := by unfold actB; rw [if_neg e0, if_neg e1, if_pos e2]
    rw [hT]
    have HD := hidMk (show_any HM.out hi hn)
    rw [e2] at p0 p0'
    clear hT HM HV e0 e1 e2
    go_enter Try.func15, Try.ntmps15
    go_wp2_with (fail)
    go_at_call 22
    refine (HD.out).mono ?_
    rintro e w2 ⟨rfl, h2, M2, S2⟩
    have HM2 := hidMk M2
    have HS2 := hidMk (HS.out.trans S2)
    clear M2 S2 HD
    go_wp2
    go_ret
    exact ⟨rfl, h2, HM2.out, HS2.out⟩
  by_cases e3 : (s.pr i).pl = 3
  · have hT : actB n s i = meetB n s i := by unfold actB; rw [if_neg e0, if_neg e1, if_neg e2, if_pos e3]
    rw [hT]
    have HD := hidMk (meet_any HM.out HV.out ht hi hn)
    rw [e3] at p0 p0'
    clear hT HM HV e0 e1 e2 e3
    go_enter Try.func15, Try.ntmps15
    go_wp2_with (fail)
    go_at_call 23
    refine (HD.out).mono ?_
    rintro e w2 ⟨rfl, h2, M2, S2⟩
    have HM2 := hidMk M2
    have HS2 := hidMk (HS.out.trans S2)
    clear M2 S2 HD
    go_wp2
    go_ret
    exact ⟨rfl, h2, HM2.out, HS2.out⟩
  by_cases e4 : (s.pr i).pl = 4
  · have hT : actB n s i = yieldB s i := by unfold actB; rw [if_neg e0, if_neg e1, if_neg e2, if_neg e3, if_pos e4]
    rw [hT]
    have HD := hidMk (yield_any HM.out HV.out ht hi e4 hn)
    rw [e4] at p0 p0'
    clear hT HM HV e0 e1 e2 e3 e4
    go_enter Try.func15, Try.ntmps15
    go_wp2_with (fail)
    go_at_call 24
    refine (HD.out).mono ?_
    rintro e w2 ⟨rfl, h2, M2, S2⟩
    have HM2 := hidMk M2
    have HS2 := hidMk (HS.out.trans S2)
    clear M2 S2 HD
    go_wp2
    go_ret
    exact ⟨rfl, h2, HM2.out, HS2.out⟩
  · have e5 : (s.pr i).pl = 5 := by omega
    have hT : actB n s i = leaveB s i := by unfold actB; rw [if_neg e0, if_neg e1, if_neg e2, if_neg e3, if_neg e4]
    rw [hT]
    have HD := hidMk (leave_any HM.out hi hn)
    rw [e5] at p0 p0'
    clear hT HM HV e0 e1 e2 e3 e4 e5
    go_enter Try.func15, Try.ntmps15
    go_wp2_with (fail)
    go_at_call 25
    refine (HD.out).mono ?_
    rintro e w2 ⟨rfl, h2, M2, S2⟩
    have HM2 := hidMk M2
    have HS2 := hidMk (HS.out.trans S2)
    clear M2 S2 HD
    go_wp2
    go_ret
    exact ⟨rfl, h2, HM2.out, HS2.out⟩

theorem step_any (m : Bmov W mb n s h) (hv : BInv n t s) (ht : t ≤ 1000) (z : Int) (hn : n ≤ 4) :
    Calls Try.prog 15 #[.pointer (some ⟨mb, 0, none⟩), .int .i64 z] W fun e W2 => e = .returned (.int .i64 (codeB n z)) ∧ ∃ h2, Bmov W2 mb n (stepB n s z) h2 ∧ BStp mb W h W2 h2 := by
  by_cases hz : inP n z = true
  · obtain ⟨e, hl⟩ := inP_nat hz
    have h1 := step_ok m hv ht hl hn
    rw [← e] at h1
    unfold codeB stepB
    rw [if_pos hz, if_pos hz]
    exact h1
  · unfold codeB stepB
    rw [if_neg hz, if_neg hz]
    refine (step_bad m hn (by simpa using hz)).mono ?_
    rintro e W2 ⟨rfl, rfl⟩
    exact ⟨rfl, h, m, BStp.refl _ _ _⟩
end Go.Proofs.Ytgnigjfgddhgiaa
