/- Contracts of folkmootref.SystemCheck: the code that it returns; the world stays as it was. -/
import Derived.Test.YtblinhncklpidaaA2
namespace Go.Proofs.Ytblinhncklpidaa
open Go.RowKit

set_option maxHeartbeats 400000 in
theorem refSystem_err (n c : Int) (a : Option Addr) (len cap : Nat) (w : World) (hc : (c != 0) = true)
    (hF : Calls Try.prog 18 #[.int .i64 n, .slice a len cap] w fun e w' => e = .returned (.int .i64 c) ∧ w' = w) :
    Calls Try.prog 10 #[.int .i64 n, .slice a len cap] w fun e w' => e = .returned (.int .i64 c) ∧ w' = w := by
  have HF : Hid (Calls Try.prog 18 #[.int .i64 n, .slice a len cap] w fun e w' => e = .returned (.int .i64 c) ∧ w' = w) := hF
  clear hF
  go_enter Try.func10, Try.ntmps10
  go_wp2_with (go_at_call 18; refine (HF.out).mono ?_; rintro e w' ⟨rfl, rfl⟩)
  go_ret
  exact ⟨rfl, rfl⟩

theorem apart_mem {qs : List Nat} {a b : Nat} {j : Nat} (hb : qs[j]? = some b) (h : a &&& b = 0) : apartB qs a = true :=
  any_of_at _ _ hb (by simp [h])
theorem apart_take_succ {qs : List Nat} {a b : Nat} {j : Nat} (hb : qs[j]? = some b) (h0 : ((qs.take j).any fun b => a &&& b == 0) = false) (h : a &&& b ≠ 0) :
    ((qs.take (j + 1)).any fun b => a &&& b == 0) = false := by
  rw [any_take_succ _ _ hb, h0]; simpa using h

theorem and_zero (a b : Nat) (ha : a < 4294967296) (hb : b < 4294967296) : (bits BinOp.and IntKind.u32 (a : Int) (b : Int) == 0) = (a &&& b == 0) := by
  rw [u32_and_nat a b ha hb, Bool.eq_iff_iff]
  simp

set_option maxHeartbeats 1000000 in
theorem refSystem_row (n : Nat) (b off len cap : Nat) (qs : List Nat) (w : World) (hl : qs.length = len) (hl2 : len ≤ 64) (hq : Row w b off qs)
    (hF : Calls Try.prog 18 #[.int .i64 n, .slice (some ⟨b, off, none⟩) len cap] w fun e w' => e = .returned (.int .i64 0) ∧ w' = w) :
    Calls Try.prog 10 #[.int .i64 n, .slice (some ⟨b, off, none⟩) len cap] w fun e w' => e = .returned (.int .i64 (sysCode qs)) ∧ w' = w := by
  have HF : Hid (Calls Try.prog 18 #[.int .i64 n, .slice (some ⟨b, off, none⟩) len cap] w fun e w' => e = .returned (.int .i64 0) ∧ w' = w) := hF
  clear hF
  have HL : Hid (qs.length = len) := hl
  clear hl
  have hl2' : (len : Int) ≤ 64 := by omega
  go_enter Try.func10, Try.ntmps10
  go_wp2_with (go_at_call 18; refine (HF.out).mono ?_; rintro e w' ⟨rfl, rfl⟩)
  clear HF
  go_loop [18] (fun i => ∃ k : Nat, k ≤ len ∧ i = .int .i64 k ∧ Hid ((qs.take k).any (apartB qs) = false)) (fun i => len - (intOf i).toNat)
  case atStart => exact ⟨0, Nat.zero_le _, rfl, by simp [Hid]⟩
  case round =>
    obtain ⟨k, hk, rfl, hall⟩ := hrel
    by_cases hlt : k < len
    · obtain ⟨x, hx, hmem, hxb, hc⟩ := hq.at (k := k) (by rw [HL.out]; exact hlt)
      have HX : Hid (qs[k]? = some x) := hx
      clear hx
      go_wp2
      go_loop [24] (fun i => ∃ j : Nat, j ≤ len ∧ i = .int .i64 j ∧ Hid (((qs.take j).any fun b => x &&& b == 0) = false)) (fun i => len - (intOf i).toNat)
      case atStart => exact ⟨0, Nat.zero_le _, rfl, by simp [Hid]⟩
      case round =>
        obtain ⟨j, hj, rfl, hall2⟩ := hrel
        by_cases hlt2 : j < len
        · obtain ⟨y, hy, hmem2, hyb, hc2⟩ := hq.at (k := j) (by rw [HL.out]; exact hlt2)
          have HY : Hid (qs[j]? = some y) := hy
          clear hy
          have hz := and_zero x y hxb hyb
          cases h0 : (x &&& y == 0)
          · have H0 : Hid ((x &&& y == 0) = false) := h0
            rw [h0] at hz
            clear h0
            go_wp2
            go_round
            case rel => exact ⟨j + 1, by omega, by go_num, apart_take_succ HY.out hall2.out (by simpa using H0.out)⟩
            case measure => simp [intOf]; omega
          · have H0 : Hid ((x &&& y == 0) = true) := h0
            rw [h0] at hz
            clear h0
            go_wp2
            go_ret
            exact ⟨ret_int (sysCode_bad (any_of_at _ _ HX.out (apart_mem HY.out (by simpa using H0.out)))).symm, rfl⟩
        · obtain rfl : j = len := by omega
          go_wp2
          go_round
          case rel =>
            refine ⟨k + 1, by omega, by go_num, ?_⟩
            have e := hall2.out
            rw [List.take_of_length_le (by rw [HL.out]; exact Nat.le_refl _)] at e
            show (qs.take (k + 1)).any (apartB qs) = false
            rw [any_take_succ _ _ HX.out, hall.out]
            exact e
          case measure => simp [intOf]; omega
    · obtain rfl : k = len := by omega
      go_wp2
      go_ret
      have e := hall.out
      rw [List.take_of_length_le (by rw [HL.out]; exact Nat.le_refl _)] at e
      exact ⟨ret_int (sysCode_ok e).symm, rfl⟩

end Go.Proofs.Ytblinhncklpidaa
