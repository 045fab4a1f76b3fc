/- The bakery's moves: choose, draw, show, leave. -/
import Derived.Test.YtgnigjfgddhgiaaBa1
import Derived.BigRegion
import Derived.BigQuiet
namespace Go.Proofs.Ytgnigjfgddhgiaa
open Go.RowKit
set_option linter.unusedVariables false

variable {W W2 : World} {mb n t : Nat} {s : BS} {h h2 : BSh}
theorem wrap_of {z : Int} (h : I64 z) : IntKind.i64.wrap z = z := by
  obtain ⟨h0, h1⟩ := h
  simp [IntKind.wrap, IntKind.bits, IntKind.signed]
  split <;> omega
theorem stilDrew (A : World) : Stil A A.drew := (Keep.refl _ A).drew

set_option maxRecDepth 100000 in
set_option maxHeartbeats 4000000 in
theorem choose_any (m : Bmov W mb n s h) {i : Nat} (hi : i < n) (hn : n ≤ 4) :
    Calls Try.prog 20 #[.pointer (some ⟨mb, 0, none⟩), .int .i64 (i : Int)] W fun e W2 => e = .returned (.tuple #[]) ∧ ∃ h2, Bmov W2 mb n (chooseB s i) h2 ∧ BStp mb W h W2 h2 := by
  obtain ⟨c0, c1, cf⟩ := m.cells
  obtain ⟨p0, p1, p2, p3, p4, pf⟩ := m.proc hi
  have hi' : (i : Int) < (n : Int) := by omega
  have f0 := pf (i * 5)
  have f2 := pf (i * 5 + 2)
  have f3 := pf (i * 5 + 3)
  have f4 := pf (i * 5 + 4)
  obtain ⟨M1, S1⟩ := m.setCh hi true
  obtain ⟨M2, S2⟩ := M1.setK hi 0
  obtain ⟨M3, S3⟩ := M2.setM hi 0
  obtain ⟨M4, S4⟩ := M3.setPl hi 1
  have HM4 := hidMk M4
  have HS4 := hidMk (((S1.trans S2).trans S3).trans S4)
  clear m M1 M2 M3 M4 S1 S2 S3 S4 cf pf
  go_enter Try.func20, Try.ntmps20
  go_wp2
  go_end0
  refine ⟨rfl, h, ?_, HS4.out⟩
  have := HM4.out
  simp only [setB_setB, setB_at] at this
  exact this

set_option maxRecDepth 100000 in
set_option maxHeartbeats 4000000 in
theorem show_any (m : Bmov W mb n s h) {i : Nat} (hi : i < n) (hn : n ≤ 4) :
    Calls Try.prog 22 #[.pointer (some ⟨mb, 0, none⟩), .int .i64 (i : Int)] W fun e W2 => e = .returned (.tuple #[]) ∧ ∃ h2, Bmov W2 mb n (showB s i) h2 ∧ BStp mb W h W2 h2 := by
  obtain ⟨c0, c1, cf⟩ := m.cells
  obtain ⟨p0, p1, p2, p3, p4, pf⟩ := m.proc hi
  have hi' : (i : Int) < (n : Int) := by omega
  have f0 := pf (i * 5)
  have f2 := pf (i * 5 + 2)
  have f3 := pf (i * 5 + 3)
  obtain ⟨M1, S1⟩ := m.setCh hi false
  obtain ⟨M2, S2⟩ := M1.setK hi 0
  obtain ⟨M4, S4⟩ := M2.setPl hi 3
  have HM4 := hidMk M4
  have HS4 := hidMk ((S1.trans S2).trans S4)
  clear m M1 M2 M4 S1 S2 S4 cf pf
  go_enter Try.func22, Try.ntmps22
  go_wp2
  go_end0
  refine ⟨rfl, h, ?_, HS4.out⟩
  have := HM4.out
  simp only [setB_setB, setB_at] at this
  exact this

set_option maxRecDepth 100000 in
set_option maxHeartbeats 4000000 in
theorem leave_any (m : Bmov W mb n s h) {i : Nat} (hi : i < n) (hn : n ≤ 4) :
    Calls Try.prog 25 #[.pointer (some ⟨mb, 0, none⟩), .int .i64 (i : Int)] W fun e W2 => e = .returned (.tuple #[]) ∧ ∃ h2, Bmov W2 mb n (leaveB s i) h2 ∧ BStp mb W h W2 h2 := by
  obtain ⟨c0, c1, cf⟩ := m.cells
  obtain ⟨p0, p1, p2, p3, p4, pf⟩ := m.proc hi
  have hi' : (i : Int) < (n : Int) := by omega
  have f0 := pf (i * 5)
  have f1 := pf (i * 5 + 1)
  obtain ⟨M1, S1⟩ := m.setTk hi 0
  obtain ⟨M4, S4⟩ := M1.setPl hi 0
  have HM4 := hidMk M4
  have HS4 := hidMk (S1.trans S4)
  clear m M1 M4 S1 S4 cf pf
  go_enter Try.func25, Try.ntmps25
  go_wp2
  go_end0
  refine ⟨rfl, h, ?_, HS4.out⟩
  have := HM4.out
  simp only [setB_setB, setB_at] at this
  exact this

set_option maxRecDepth 100000 in
set_option maxHeartbeats 8000000 in
theorem draw_any (m : Bmov W mb n s h) (hv : BInv n t s) (ht : t ≤ 1000) {i : Nat} (hi : i < n) (hn : n ≤ 4) :
    Calls Try.prog 21 #[.pointer (some ⟨mb, 0, none⟩), .int .i64 (i : Int)] W fun e W2 => e = .returned (.tuple #[]) ∧ ∃ h2, Bmov W2 mb n (drawB n s i) h2 ∧ BStp mb W h W2 h2 := by
  obtain ⟨o1, o2, o3, o4, o5, o6, o7, o8⟩ := hv.own i hi
  have hi' : (i : Int) < (n : Int) := by omega
  by_cases ek : (s.pr i).k = n
  · have q1 : (((s.pr i).k : Int) == (n : Int)) = true := by rw [beq_iff_eq]; omega
    have hT : drawB n s i = setB s i ⟨2, (s.pr i).m + 1, (s.pr i).ch, (s.pr i).k, (s.pr i).m⟩ := by unfold drawB; rw [if_pos ek]
    rw [hT]
    have hw1 : IntKind.i64.wrap (((s.pr i).m : Int) + 1) = (((s.pr i).m + 1 : Nat) : Int) := by rw [wrap_of ⟨by omega, by omega⟩]; omega
    have HM := hidMk m
    obtain ⟨c0, c1, cf⟩ := m.cells
    obtain ⟨p0, p1, p2, p3, p4, pf⟩ := m.proc hi
    clear hT ek m o5 o6 o7 o8 hv
    go_enter Try.func21, Try.ntmps21
    go_wp2_with (fail)
    go_quiet (fail)
    obtain ⟨M1, S1⟩ := (HM.out.drewN nq).setTk hi ((s.pr i).m + 1)
    obtain ⟨M4, S4⟩ := M1.setPl hi 2
    have HM4 := hidMk M4
    have HS4 := hidMk (((BStp.of_still mb h (Stil.drewN W nq)).trans S1).trans S4)
    have f0 := pf (i * 5)
    have f1 := pf (i * 5 + 1)
    clear M1 M4 S1 S4 cf pf
    go_wp2
    refine bodyPost_ret (results_none rfl _ _ _) rfl ?_
    refine ⟨rfl, h, ?_, HS4.out⟩
    have := HM4.out
    simp only [setB_setB, setB_at] at this
    exact this
  · have hk : (s.pr i).k < n := by omega
    have q1 : (((s.pr i).k : Int) == (n : Int)) = false := by rw [beq_eq_false_iff_ne]; omega
    have hT : drawB n s i = setB s i ⟨(s.pr i).pl, (s.pr i).tk, (s.pr i).ch, (s.pr i).k + 1, max (s.pr i).m (s.pr (s.pr i).k).tk⟩ := by unfold drawB; rw [if_neg ek]
    rw [hT]
    obtain ⟨_, _, k3, _, _, _, _, _⟩ := hv.own _ hk
    have hw1 : IntKind.i64.wrap (((s.pr i).k : Int) + 1) = (((s.pr i).k + 1 : Nat) : Int) := by rw [wrap_of ⟨by omega, by omega⟩]; omega
    have HM := hidMk m
    obtain ⟨c0, c1, cf⟩ := m.cells
    obtain ⟨p0, p1, p2, p3, p4, pf⟩ := m.proc hi
    obtain ⟨r0, r1, r2, r3, r4, _⟩ := m.proc hk
    have hk' : ((s.pr i).k : Int) < (n : Int) := by omega
    clear hT ek m o5 o6 o7 o8 hv r0 r2 r3 r4
    generalize hkv : (s.pr i).k = kv at *
    generalize htv : (s.pr kv).tk = tv at *
    generalize hmv : (s.pr i).m = mv at *
    have hmax : (max (mv : Int) (tv : Int)) = ((max mv tv : Nat) : Int) := by omega
    go_enter Try.func21, Try.ntmps21
    go_wp2_with (fail)
    go_quiet (fail)
    go_wp2_with (fail)
    have HK0 := hidMk (Stil.drewN W nq)
    have M0 := HM.out.drewN nq
    clear c0 c1 cf p0 p1 p2 p3 p4 pf r1 HM
    generalize hw0 : W.drewN nq = w0 at *
    obtain ⟨c0, c1, cf⟩ := M0.cells
    obtain ⟨p0, p1, p2, p3, p4, pf⟩ := M0.proc hi
    rw [hkv] at p3
    rw [hmv] at p4
    have r1 := (M0.proc hk).2.1
    rw [htv] at r1
    have HQ : Hid (∀ q, Bmov (((w0.drewN q).setCell ⟨h.P, i * 5 + 4, none⟩ (.int .i64 ((max mv tv : Nat) : Int))).setCell ⟨h.P, i * 5 + 3, none⟩ (.int .i64 ((kv + 1 : Nat) : Int))) mb n (setB s i ⟨(s.pr i).pl, (s.pr i).tk, (s.pr i).ch, kv + 1, max mv tv⟩) h ∧
        BStp mb W h (((w0.drewN q).setCell ⟨h.P, i * 5 + 4, none⟩ (.int .i64 ((max mv tv : Nat) : Int))).setCell ⟨h.P, i * 5 + 3, none⟩ (.int .i64 ((kv + 1 : Nat) : Int))) h) := fun q => by
      obtain ⟨M1, S1⟩ := (M0.drewN q).setM hi (max mv tv)
      obtain ⟨M4, S4⟩ := M1.setK hi (kv + 1)
      refine ⟨?_, (((BStp.of_still mb h HK0.out).trans (BStp.of_still mb h (Stil.drewN w0 q))).trans S1).trans S4⟩
      simp only [setB_setB, setB_at] at M4
      exact M4
    have f3 := pf (i * 5 + 3)
    have f4 := pf (i * 5 + 4)
    clear M0 cf pf
    refine wp_region_tail rfl (by kernel_rfl) (by kernel_rfl) (by kernel_rfl) (by kernel_rfl) (by kernel_rfl) rfl ?_
    simp only [List.dropLast]
    repeat (go_big_quiet_step (fail))
    refine wpQuiet_nil ?_
    rintro _ ⟨q, rfl⟩
    go_wp2
    all_goals
      go_end0
      have hq := HQ.out q
      first
        | (have e : max mv tv = tv := by omega
           rw [e] at hq ⊢
           exact ⟨rfl, _, hq.1, hq.2⟩)
        | (have e : max mv tv = mv := by omega
           rw [e] at hq ⊢
           exact ⟨rfl, _, hq.1, hq.2⟩)
end Go.Proofs.Ytgnigjfgddhgiaa
