/- Contracts of folkmootref.Bit, Outside, FamilyCheck, SystemCheck: what each returns; the world stays as it was. -/
import Derived.Test.YtblinhncklpidaaProg
import Derived.Test.YtblinhncklpidaaPlain
import Derived.WalkKit
import Derived.WalkSpells
import Derived.WalkLawsBesides
import Derived.Outline
namespace Go.Proofs.Ytblinhncklpidaa
open Go.RowKit

set_option maxHeartbeats 400000 in
theorem bit_any (x : Nat) (i : Nat) (hx : x < 4294967296) (hi : i < 32) (w : World) :
    Calls Try.prog 28 #[.int .u32 x, .int .i64 i] w fun e w' => e = .returned (.bool (x.testBit i)) ∧ w' = w := by
  go_enter Try.func28, Try.ntmps28
  go_wp2
  go_ret
  exact ⟨ret_bool (bit_and x i hx hi), rfl⟩

set_option maxHeartbeats 400000 in
theorem outside_any (x n : Nat) (hx : x < 4294967296) (hn : n ≤ 32) (w : World) :
    Calls Try.prog 31 #[.int .u32 x, .int .i64 n] w fun e w' => e = .returned (.bool (decide (2 ^ n ≤ x))) ∧ w' = w := by
  go_enter Try.func31, Try.ntmps31
  go_wp2
  go_loop [5] (fun i => ∃ k : Nat, n ≤ k ∧ k ≤ 32 ∧ i = .int .i64 k ∧ ∀ j, n ≤ j → j < k → x.testBit j = false) (fun i => 32 - (intOf i).toNat)
  case atStart => exact ⟨n, Nat.le_refl _, hn, rfl, fun j h1 h2 => by omega⟩
  case round =>
    obtain ⟨k, hnk, hk, rfl, hall⟩ := hrel
    have HA : Hid (∀ j, n ≤ j → j < k → x.testBit j = false) := hall
    clear hall
    by_cases hlt : k < 32
    · cases hb : x.testBit k
      · go_wp2_with (go_at_call 28; refine (bit_any x k hx hlt _).mono ?_; rintro e w' ⟨rfl, rfl⟩)
        go_round
        case rel =>
          exact ⟨k + 1, by omega, by omega, by go_num, fun j h1 h2 => by
            by_cases hj : j = k
            · rw [hj]; exact hb
            · exact HA.out j h1 (by omega)⟩
        case measure => simp [intOf]; omega
      · go_wp2_with (go_at_call 28; refine (bit_any x k hx hlt _).mono ?_; rintro e w' ⟨rfl, rfl⟩)
        go_ret
        exact ⟨ret_bool (by simpa using le_of_bit hnk hb), rfl⟩
    · go_wp2
      go_ret
      have := lt_of_bits hx (fun j h1 h2 => HA.out j h1 (by omega))
      exact ⟨ret_bool (by simpa using this), rfl⟩
end Go.Proofs.Ytblinhncklpidaa
