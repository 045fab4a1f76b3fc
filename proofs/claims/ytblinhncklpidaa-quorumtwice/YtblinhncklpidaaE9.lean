/- Contract of folkmootkeep.holds, and the statements QuorumTwice and QuorumFull. -/
import Derived.Test.YtblinhncklpidaaE8
namespace Go.Proofs.Ytblinhncklpidaa
open Go.RowKit

theorem or_in (a w : Nat) (ha : a < 4294967296) (hw : w < 4294967296) : (bits BinOp.or IntKind.u32 (a : Int) (w : Int) == (w : Int)) = inB a w := by
  rw [u32_or_nat a w ha hw]
  unfold inB
  rw [Bool.eq_iff_iff]; simp; omega

set_option maxHeartbeats 400000 in
theorem holds_row (s b off len cap : Nat) (qs : List Nat) (w : World) (hs : s < 4294967296) (hl : qs.length = len) (hl2 : len ≤ 4096) (hq : Row w b off qs) :
    Calls Try.prog 21 #[.slice (some ⟨b, off, none⟩) len cap, .int .u32 (s : Int)] w fun e w' => e = .returned (.bool (holdsB qs s)) ∧ w' = w := by
  have HL := hidMk hl
  clear hl
  have hl2' : (len : Int) ≤ 4096 := by omega
  go_enter Try.func21, Try.ntmps21
  go_wp2
  go_loop [9] (fun i => ∃ k : Nat, k ≤ len ∧ i = .int .i64 k ∧ Hid (((qs.take k).any fun a => inB a s) = false)) (fun i => len - (intOf i).toNat)
  case atStart => exact ⟨0, Nat.zero_le _, rfl, by simp [Hid]⟩
  case round =>
    obtain ⟨k, hk, rfl, hall⟩ := hrel
    by_cases hlt : k < len
    · obtain ⟨y, hy, hmem, hyb, hc⟩ := hq.at (k := k) (by rw [HL.out]; exact hlt)
      have HY := hidMk hy
      clear hy
      have hz := or_in y s hyb hs
      cases h0 : inB y s
      · have H0 := hidMk h0
        rw [h0] at hz
        clear h0
        go_wp2
        go_round
        case rel => exact ⟨k + 1, by omega, by go_num, by
          show ((qs.take (k + 1)).any fun a => inB a s) = false
          rw [any_take_succ _ _ HY.out, hall.out, H0.out]; rfl⟩
        case measure => simp [intOf]; omega
      · have H0 := hidMk h0
        rw [h0] at hz
        clear h0
        go_wp2
        go_ret
        exact ⟨ret_bool (any_of_at (fun a => inB a s) _ HY.out H0.out).symm, rfl⟩
    · obtain rfl : k = len := by omega
      go_wp2
      go_ret
      have e := hall.out
      rw [List.take_of_length_le (by rw [HL.out]; exact Nat.le_refl _)] at e
      exact ⟨ret_bool (by unfold holdsB; rw [e]), rfl⟩
end Go.Proofs.Ytblinhncklpidaa
