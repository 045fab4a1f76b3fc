/- Generals: the document's Outside and Size; what Play tells. -/
import Derived.Test.YtllbfaldhlfjeaaGe4
namespace Go.Proofs.Ytllbfaldhlfjeaa
open Go.RowKit
set_option linter.unusedVariables false

theorem lt_of_bitsG {x n : Nat} (hx : x < 4294967296) (h : ∀ j, n ≤ j → j < 32 → x.testBit j = false) : x < 2 ^ n := by
  apply Nat.lt_pow_two_of_testBit
  intro i hi
  by_cases h32 : i < 32
  · exact h i hi h32
  · exact Nat.testBit_lt_two_pow (Nat.lt_of_lt_of_le hx (Nat.le_trans (by decide : 4294967296 ≤ 2 ^ 32) (Nat.pow_le_pow_right (by omega) (by omega))))
theorem le_of_bitG {x n i : Nat} (hi : n ≤ i) (h : x.testBit i = true) : 2 ^ n ≤ x :=
  Nat.le_trans (Nat.pow_le_pow_right (by omega) hi) (Nat.ge_two_pow_of_testBit h)
set_option maxHeartbeats 400000 in
theorem outsideG_any (x n : Nat) (hx : x < 4294967296) (hn : n ≤ 32) (w : World) :
    Calls Try.prog 10 #[.int .u32 x, .int .i64 n] w fun e w' => e = .returned (.bool (decide (2 ^ n ≤ x))) ∧ w' = w := by
  go_enter Try.func10, Try.ntmps10
  go_wp2
  go_loop [5] (fun i => ∃ k : Nat, n ≤ k ∧ k ≤ 32 ∧ i = .int .i64 k ∧ Hid (∀ j, n ≤ j → j < k → x.testBit j = false)) (fun i => 32 - (intOf i).toNat)
  case atStart => exact ⟨n, Nat.le_refl _, hn, rfl, fun j h1 h2 => by omega⟩
  case round =>
    obtain ⟨k, hnk, hk, rfl, HA⟩ := hrel
    by_cases hlt : k < 32
    · cases hb : x.testBit k
      · go_wp2_with (go_at_call 12; refine (bitG_any x k hx hlt _).mono ?_; rintro e w' ⟨rfl, rfl⟩)
        go_round
        case rel =>
          exact ⟨k + 1, by omega, by omega, by go_num, fun j h1 h2 => by
            by_cases hj : j = k
            · rw [hj]; exact hb
            · exact HA.out j h1 (by omega)⟩
        case measure => simp [intOf]; omega
      · go_wp2_with (go_at_call 12; refine (bitG_any x k hx hlt _).mono ?_; rintro e w' ⟨rfl, rfl⟩)
        go_ret
        exact ⟨gret_bool (by simpa using le_of_bitG hnk hb), rfl⟩
    · go_wp2
      go_ret
      have := lt_of_bitsG hx (fun j h1 h2 => HA.out j h1 (by omega))
      exact ⟨gret_bool (by simpa using this), rfl⟩
/-- How many bits below k are set. -/
def szG (x k : Nat) : Nat := (List.range k).countP x.testBit
theorem szG_succ (x k : Nat) : szG x (k + 1) = szG x k + if x.testBit k = true then 1 else 0 := by
  unfold szG
  rw [List.range_succ, List.countP_append]
  simp [List.countP_cons]
theorem szG_le (x k : Nat) : szG x k ≤ k := by
  unfold szG
  exact Nat.le_trans List.countP_le_length (by simp)
theorem szG_mono (x : Nat) (k : Nat) : ∀ d, szG x k ≤ szG x (k + d)
  | 0 => Nat.le_refl _
  | d + 1 => by
    have := szG_mono x k d
    have e := szG_succ x (k + d)
    rw [show k + (d + 1) = k + d + 1 by omega]
    omega
theorem szG_all (x m : Nat) : (if x.testBit 0 = true then 1 else 0) + (allG m).countP x.testBit = szG x (m + 1) := by
  induction m with
  | zero => rw [szG_succ]; simp [allG, szG]
  | succ m ih =>
    rw [szG_succ, ← ih, allG_succ, List.countP_append]
    simp [List.countP_cons]
    omega
set_option maxRecDepth 100000 in
set_option maxHeartbeats 4000000 in
theorem sizeG_any (x : Nat) (hx : x < 4294967296) (w : World) :
    Calls Try.prog 13 #[.int .u32 x] w fun e w' => e = .returned (.int .i64 (szG x 32 : Int)) ∧ w' = w := by
  go_enter Try.func13, Try.ntmps13
  go_wp2
  go_loopw [3, 4] (fun v u wr => ∃ k : Nat, k ≤ 32 ∧ u = .int .i64 (k : Int) ∧ v = .int .i64 (szG x k : Int) ∧ wr = w) (fun _ u _ => 32 - (intOf u).toNat)
  case atStart => exact ⟨0, by omega, rfl, rfl, rfl⟩
  case round =>
    obtain ⟨k, hk, rfl, rfl, hwr⟩ := hrel
    subst hwr
    have hle := szG_le x k
    have HE := hidMk (szG_succ x k)
    generalize hc : szG x k = c at *
    have HCc := hidMk hc
    clear hc
    by_cases hlt : k < 32
    · cases hb : x.testBit k
      · rw [hb] at HE
        go_wp2_with (go_at_call 12; refine (bitG_any x k hx hlt _).mono ?_; rintro e w' ⟨rfl, rfl⟩)
        go_roundw
        case rel => exact ⟨k + 1, by omega, by go_num, by rw [HE.out]; simp, by trivial⟩
        case measure => simp [intOf]; omega
      · rw [hb] at HE
        go_wp2_with (go_at_call 12; refine (bitG_any x k hx hlt _).mono ?_; rintro e w' ⟨rfl, rfl⟩)
        go_roundw
        case rel => exact ⟨k + 1, by omega, by go_num, by rw [HE.out]; simp, by trivial⟩
        case measure => simp [intOf]; omega
    · have hk32 : k = 32 := by omega
      have HK := hidMk hk32
      clear hk32
      go_wp2
      go_ret
      have h9 := HCc.out
      rw [HK.out] at h9
      exact ⟨by rw [h9]; rfl, by trivial⟩
end Go.Proofs.Ytllbfaldhlfjeaa
