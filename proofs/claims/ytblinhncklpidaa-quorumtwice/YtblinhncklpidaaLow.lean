/- The lowest member of a set, as numbers have it: plain facts, no program is named here. -/
import Derived.Test.YtblinhncklpidaaSize
namespace Go.Proofs.Ytblinhncklpidaa
open Go.RowKit

theorem low_form (r : Nat) (h : 0 < r) : ∃ k m, r = 2 ^ k * (2 * m + 1) := by
  induction r using Nat.strongRecOn with
  | _ r ih =>
    by_cases h2 : r % 2 = 1
    · exact ⟨0, r / 2, by omega⟩
    · obtain ⟨k, m, e⟩ := ih (r / 2) (by omega) (by omega)
      exact ⟨k + 1, m, by rw [Nat.pow_succ, Nat.mul_comm (2 ^ k) 2, Nat.mul_assoc, ← e]; omega⟩

theorem odd_bit (m j : Nat) : (2 * m + 1).testBit j = (decide (j = 0) || (2 * m).testBit j) := by
  cases j with
  | zero => simp [Nat.testBit_zero]
  | succ j =>
    rw [Nat.testBit_succ, Nat.testBit_succ, show (2 * m + 1) / 2 = m by omega, show 2 * m / 2 = m by omega]; simp

/-- The lowest member of r, and r without it. -/
theorem low_spec (r : Nat) (h0 : 0 < r) (h1 : r < 4294967296) :
    ∃ k, k < 32 ∧ r.testBit k = true ∧ r &&& (4294967296 - r) = 2 ^ k ∧ r &&& (r - 1) = r &&& (4294967295 - 2 ^ k) ∧ r &&& (r - 1) < r := by
  obtain ⟨k, m, e⟩ := low_form r h0
  have hp : 0 < 2 ^ k := Nat.two_pow_pos k
  have hr : ∀ i, r.testBit i = (decide (k ≤ i) && (decide (i = k) || (2 * m).testBit (i - k))) := by
    intro i
    rw [e, Nat.testBit_two_pow_mul, odd_bit]
    by_cases hik : k ≤ i
    · have : decide (i - k = 0) = decide (i = k) := by rw [Bool.eq_iff_iff]; simp; omega
      rw [this]
    · simp [hik]
  have e1 : r - 1 = 2 ^ k * (2 * m) + (2 ^ k - 1) := by rw [e, Nat.mul_add]; omega
  have hr1 : ∀ i, (r - 1).testBit i = (decide (i < k) || (decide (k ≤ i) && (2 * m).testBit (i - k))) := by
    intro i
    rw [e1, Nat.testBit_two_pow_mul_add _ (by omega)]
    by_cases hik : i < k
    · rw [if_pos hik, Nat.testBit_two_pow_sub_one]; simp [hik]
    · rw [if_neg hik]
      have h2 : k ≤ i := by omega
      simp [hik, h2]
  have hk : r.testBit k = true := by rw [hr]; simp
  have hk32 : k < 32 := bit_high h1 hk
  have h232 : (2 : Nat) ^ 32 = 4294967296 := by decide
  have hneg : ∀ i, (4294967296 - r).testBit i = (decide (i < 32) && !(r - 1).testBit i) := by
    intro i
    have ee : 4294967296 - r = 2 ^ 32 - ((r - 1) + 1) := by omega
    rw [ee, Nat.testBit_two_pow_sub_succ (by omega)]
  have hclear : ∀ i, (r &&& (r - 1)).testBit i = (r.testBit i && !decide (i = k)) := by
    intro i
    rw [Nat.testBit_and, hr1, hr]
    by_cases hik : i < k
    · have h2 : ¬ k ≤ i := by omega
      simp [h2]
    · have h2 : k ≤ i := by omega
      by_cases he : i = k
      · subst he; simp
      · simp [hik, h2, he]
  have hp32 := two_pow_lt k hk32
  refine ⟨k, hk32, hk, ?_, ?_, ?_⟩
  · apply Nat.eq_of_testBit_eq
    intro i
    rw [Nat.testBit_and, hneg, hr1, hr, Nat.testBit_two_pow]
    by_cases hik : i < k
    · have h2 : ¬ k ≤ i := by omega
      have h3 : ¬ k = i := by omega
      simp [h2, h3]
    · have h2 : k ≤ i := by omega
      by_cases he : i = k
      · subst he; simp [hk32]
      · have h3 : ¬ k = i := by omega
        simp [hik, h2, he, h3]
        intro h _; exact h
  · apply Nat.eq_of_testBit_eq
    intro i
    rw [hclear, Nat.testBit_and, bit_not _ i hp32, Nat.testBit_two_pow]
    cases hb : r.testBit i
    · simp
    · have := bit_high h1 hb
      have e3 : decide (i = k) = decide (k = i) := by rw [Bool.eq_iff_iff]; simp; omega
      simp [this, e3]
  · have hle : r &&& (r - 1) ≤ r - 1 := Nat.and_le_right
    omega

/-- The set s without its member i. -/
def wo (s i : Nat) : Nat := s &&& (4294967295 - 2 ^ i)
theorem wo_bit (s i j : Nat) (hi : i < 32) (hs : s < 4294967296) : (wo s i).testBit j = (s.testBit j && !decide (i = j)) := by
  unfold wo
  rw [Nat.testBit_and, bit_not _ j (two_pow_lt i hi), Nat.testBit_two_pow]
  cases hb : s.testBit j
  · simp
  · have := bit_high hs hb
    simp [this]
theorem wo_lt (s i : Nat) (hs : s < 4294967296) : wo s i < 4294967296 := Nat.lt_of_le_of_lt Nat.and_le_left hs
end Go.Proofs.Ytblinhncklpidaa
