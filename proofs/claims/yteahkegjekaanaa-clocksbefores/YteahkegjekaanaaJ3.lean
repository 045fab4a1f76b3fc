/- folkmootlaw.ClocksBefores, walked. -/
import Derived.Test.YteahkegjekaanaaJ2
namespace Go.Proofs.Yteahkegjekaanaa
open Go.RowKit Go.Shelf
set_option linter.unusedVariables false

theorem befA_err {N : Int} {es : List Ev} {i j : Int} (hz : evsCode N es ≠ 0) : befA N es i j = false := by unfold befA; rw [if_pos hz]
theorem befE_err {N : Int} {es : List Ev} {i j : Int} (hz : evsCode N es ≠ 0) : befE N es i j = evsCode N es := by unfold befE; rw [if_pos hz]
theorem befA_out {N : Int} {es : List Ev} {i j : Int} (hz : evsCode N es = 0) (h : ¬ ((0 ≤ i ∧ i < es.length) ∧ (0 ≤ j ∧ j < es.length))) : befA N es i j = false := by
  unfold befA; rw [if_neg (by simp [hz]), if_neg h]

set_option maxHeartbeats 2000000 in
theorem clocksBefores_walk (N i j : Int) (a : Option Addr) (len cap : Nat) (es : List Ev) (w : World) (h : CameEv w a len cap es) (wi : I64 i) (wj : I64 j) :
    Calls Try.prog 4 #[.int .i64 N, .slice a len cap, .int .i64 i, .int .i64 j] w fun e w2 => e = .returned (.bool true) ∧ Below w.heap.size w w2 := by
  have HF : Hid (Calls Try.prog 11 #[.int .i64 N, .slice a len cap, .int .i64 i, .int .i64 j] w fun e w2 => e = .returned (.tuple #[.bool (befA N es i j), .int .i64 (befE N es i j)]) ∧ Below w.heap.size w w2) := before_from N i j a len cap es w w h (Below.refl _ _)
  have HC : Hid (∀ w1, Below w.heap.size w w1 → Calls Try.prog 10 #[.int .i64 N, .slice a len cap] w1 fun e w2 => e = .returned (.int .i64 (evsCode N es)) ∧ Below w.heap.size w w2) := fun w1 hb => refEvents_from N a len cap es w w1 h hb
  have hl := h.1
  have hmx := h.2.2.1
  unfold maxLen at hmx
  unfold I64 at wi wj
  by_cases hz : evsCode N es = 0
  · rw [hz] at HC
    by_cases hin : (0 ≤ i ∧ i < (es.length : Int)) ∧ (0 ≤ j ∧ j < (es.length : Int))
    · obtain ⟨i0, rfl⟩ : ∃ x : Nat, i = x := ⟨i.toNat, by omega⟩
      obtain ⟨j0, rfl⟩ : ∃ x : Nat, j = x := ⟨j.toNat, by omega⟩
      have hv := valid_of hz
      have a1 := befA_in hz (i := i0) (j := j0) (by omega) (by omega)
      have e1 := befE_zero hz (i := (i0 : Int)) (j := (j0 : Int)) (by omega) (by omega)
      rw [a1, e1] at HF
      rcases h.2.2.2 with h0 | ⟨b, off, rfl, hr⟩
      · omega
      have HR : Hid (∀ w1, Below w.heap.size w w1 → Calls Try.prog 12 #[.slice (some ⟨b, off, none⟩) len cap] w1 fun e w2 => (∃ g, e = .returned (.slice (some ⟨g, 0, none⟩) (len * len) (len * len)) ∧ Tab w2 w1.heap.size g len (befB es)) ∧ Below w1.heap.size w1 w2) := fun w1 hb => refBefore_row len b off cap es w1 N hl hv (hr.below hr.1 hb)
      have hi0 : i0 < len := by omega
      have hj0 : j0 < len := by omega
      have hi' : (i0 : Int) < (len : Int) := by omega
      have hj' : (j0 : Int) < (len : Int) := by omega
      have h60 : len ≤ 60 := by have := hv.2.2.1; omega
      have h60' : (len : Int) ≤ 60 := by omega
      have hn1 : i0 * len ≤ 3540 := Nat.le_trans (Nat.mul_le_mul (show i0 ≤ 59 by omega) h60) (by decide)
      have hc1 : ((i0 * len : Nat) : Int) = (i0 : Int) * (len : Int) := by simp
      have hc3 : ((len * len : Nat) : Int) = (len : Int) * (len : Int) := by simp
      have q0 : 0 ≤ (i0 : Int) * (len : Int) := by rw [← hc1]; omega
      have q1 : (i0 : Int) * (len : Int) ≤ 3540 := by rw [← hc1]; omega
      have q6 : (i0 : Int) * (len : Int) + (j0 : Int) < (len : Int) * (len : Int) := by have := at_lt hi0 hj0; rw [← hc1, ← hc3]; omega
      have r3 : ((i0 : Int) * (len : Int) + (j0 : Int)).toNat = i0 * len + j0 := by rw [← hc1]; omega
      clear hz hv hr h hin hc1 hc3 hn1 a1 e1 hl
      generalize hb1 : befB es i0 j0 = b1 at HF
      have HB1 := hidMk hb1
      clear hb1
      go_enter Try.func4, Try.ntmps4
      go_wp2_with (first | (go_at_call 12; refine (HR.out _ hB2).mono ?_; rintro e w3 ⟨⟨g, rfl, hT⟩, hB3⟩; have d3 := hT.cell hi0 hj0; rw [HB1.out] at d3) | (go_at_call 10; refine (HC.out _ hB1).mono ?_; rintro e w2 ⟨rfl, hB2⟩) | (go_at_call 11; refine (HF.out).mono ?_; rintro e w1 ⟨rfl, hB1⟩))
      go_ret
      exact ⟨rfl, below_from hB2 hB3⟩
    · have e1 := befE_two (N := N) (es := es) hz hin
      have a1 := befA_out (N := N) (es := es) hz hin
      rw [a1, e1] at HF
      rw [hl] at hin
      have hcs : i < 0 ∨ (0 ≤ i ∧ j < 0) ∨ (0 ≤ i ∧ 0 ≤ j ∧ (len : Int) ≤ i) ∨ (0 ≤ i ∧ 0 ≤ j ∧ i < (len : Int) ∧ (len : Int) ≤ j) := by omega
      clear hz h hin a1 e1
      rcases hcs with h1 | ⟨h1, h2⟩ | ⟨h1, h2, h3⟩ | ⟨h1, h2, h3, h4⟩
      all_goals go_enter Try.func4, Try.ntmps4
      all_goals go_wp2_with (first | (go_at_call 10; refine (HC.out _ hB1).mono ?_; rintro e w2 ⟨rfl, hB2⟩) | (go_at_call 11; refine (HF.out).mono ?_; rintro e w1 ⟨rfl, hB1⟩))
      all_goals go_ret
      all_goals exact ⟨rfl, hB2⟩
  · have e1 := befE_err (i := i) (j := j) hz
    have a1 := befA_err (i := i) (j := j) hz
    rw [a1, e1] at HF
    have hzn : (evsCode N es != 0) = true := by simpa using hz
    have hze : (evsCode N es == 0) = false := by simpa using hz
    generalize evsCode N es = c at HF HC hzn hze
    clear h hz e1 a1
    go_enter Try.func4, Try.ntmps4
    go_wp2_with (first | (go_at_call 10; refine (HC.out _ hB1).mono ?_; rintro e w2 ⟨rfl, hB2⟩) | (go_at_call 11; refine (HF.out).mono ?_; rintro e w1 ⟨rfl, hB1⟩))
    go_ret
    exact ⟨by simp, hB2⟩
end Go.Proofs.Yteahkegjekaanaa
