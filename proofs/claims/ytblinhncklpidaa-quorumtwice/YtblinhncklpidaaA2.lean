/- Contracts of folkmootref.FamilyCheck and SystemCheck: the code that each returns; the world stays as it was. -/
import Derived.Test.YtblinhncklpidaaA1
namespace Go.Proofs.Ytblinhncklpidaa
open Go.RowKit

set_option maxHeartbeats 400000 in
theorem refFamily_large (n : Int) (a : Option Addr) (len cap : Nat) (hlen : len ≤ maxLen) (w : World) (h : n < 1 ∨ 12 < n ∨ 64 < len) :
    Calls Try.prog 18 #[.int .i64 n, .slice a len cap] w fun e w' => e = .returned (.int .i64 1) ∧ w' = w := by
  unfold maxLen at hlen
  by_cases h1 : n < 1
  · go_enter Try.func18, Try.ntmps18
    go_wp2
    go_ret
    exact ⟨rfl, rfl⟩
  · by_cases h2 : 12 < n
    · go_enter Try.func18, Try.ntmps18
      go_wp2
      go_ret
      exact ⟨rfl, rfl⟩
    · have h3 : (64 : Int) < (len : Int) := by omega
      clear h
      go_enter Try.func18, Try.ntmps18
      go_wp2
      go_ret
      exact ⟨rfl, rfl⟩

set_option maxHeartbeats 400000 in
theorem refFamily_none (n : Int) (a : Option Addr) (cap : Nat) (w : World) (h1 : 1 ≤ n) (h2 : n ≤ 12) :
    Calls Try.prog 18 #[.int .i64 n, .slice a 0 cap] w fun e w' => e = .returned (.int .i64 5) ∧ w' = w := by
  go_enter Try.func18, Try.ntmps18
  go_wp2
  go_ret
  exact ⟨rfl, rfl⟩

set_option maxHeartbeats 800000 in
theorem refFamily_row (n : Nat) (b off len cap : Nat) (qs : List Nat) (w : World) (h1 : 1 ≤ n) (h2 : n ≤ 12) (hl : qs.length = len) (hl1 : 1 ≤ len) (hl2 : len ≤ 64) (hq : Row w b off qs) :
    Calls Try.prog 18 #[.int .i64 n, .slice (some ⟨b, off, none⟩) len cap] w fun e w' => e = .returned (.int .i64 (famCode n qs)) ∧ w' = w := by
  have hne : ((len : Int) == 0) = false := by simp; omega
  have HL : Hid (qs.length = len) := hl
  clear hl
  have h1' : (1 : Int) ≤ (n : Int) := by omega
  have h2' : (n : Int) ≤ 12 := by omega
  have hl2' : (len : Int) ≤ 64 := by omega
  go_enter Try.func18, Try.ntmps18
  go_wp2
  go_loop [23] (fun i => ∃ k : Nat, k ≤ len ∧ i = .int .i64 k ∧ Hid ((qs.take k).any (badB n) = false)) (fun i => len - (intOf i).toNat)
  case atStart => exact ⟨0, Nat.zero_le _, rfl, by simp [Hid]⟩
  case round =>
    obtain ⟨k, hk, rfl, hall⟩ := hrel
    by_cases hlt : k < len
    · obtain ⟨x, hx, hmem, hxb, hc⟩ := hq.at (k := k) (by rw [HL.out]; exact hlt)
      have HX : Hid (qs[k]? = some x) := hx
      clear hx
      by_cases h0 : x = 0
      · subst h0
        go_wp2
        go_ret
        exact ⟨ret_int (famCode_bad (any_of_at _ _ HX.out (by simp [badB]))).symm, rfl⟩
      · have h0' : ((x : Int) == 0) = false := by simp; omega
        cases hb : decide (2 ^ n ≤ x)
        · have HB : Hid (decide (2 ^ n ≤ x) = false) := hb
          go_wp2_with (go_at_call 31; refine (outside_any x n hxb (by omega) _).mono ?_; rintro e w' ⟨rfl, rfl⟩)
          go_round
          case rel => exact ⟨k + 1, by omega, by go_num, by
            show (qs.take (k + 1)).any (badB n) = false
            rw [any_take_succ _ _ HX.out, hall.out]
            simp [badB, h0]
            simpa using HB.out⟩
          case measure => simp [intOf]; omega
        · have HB : Hid (decide (2 ^ n ≤ x) = true) := hb
          go_wp2_with (go_at_call 31; refine (outside_any x n hxb (by omega) _).mono ?_; rintro e w' ⟨rfl, rfl⟩)
          go_ret
          exact ⟨ret_int (famCode_bad (any_of_at _ _ HX.out (by simp [badB]; right; simpa using HB.out))).symm, rfl⟩
    · obtain rfl : k = len := by omega
      go_wp2
      go_ret
      have e := hall.out
      rw [List.take_of_length_le (by rw [HL.out]; exact Nat.le_refl _)] at e
      exact ⟨ret_int (famCode_ok e).symm, rfl⟩

end Go.Proofs.Ytblinhncklpidaa
