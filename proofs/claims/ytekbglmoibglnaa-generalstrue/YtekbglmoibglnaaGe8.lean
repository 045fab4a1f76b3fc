/- Generals: GeneralsTrue, walked, from what Play tells. -/
import Derived.Test.YtekbglmoibglnaaGe7
namespace Go.Proofs.Ytekbglmoibglnaa
open Go.RowKit
set_option linter.unusedVariables false

set_option maxRecDepth 100000 in
set_option maxHeartbeats 4000000 in
theorem gtrue_large (hP : PlayAt) {W : World} (n m : Int) (L : Nat) (x : Bool) (hL : L < 18446744073709551616) (hc : genC n m 0 = 1) :
    Calls Try.prog 5 #[.int .i64 n, .int .i64 m, .bool x, .int .u64 (L : Int)] W fun e W2 => e = .returned (.bool true) ∧ Below W.heap.size W W2 := by
  have HPl : Hid (Calls Try.prog 6 #[.int .i64 n, .int .i64 m, .int .u32 0, .bool x, .int .u64 (L : Int)] W fun e w2 => Stil W w2 ∧ e = .returned (.tuple #[.slice none 0 0, .int .i64 1])) := by
    refine (hP W n m 0 L x (by decide) hL).mono ?_
    rintro e w2 ⟨h1, h2, _⟩
    have h3 := h2 (by rw [hc]; decide)
    rw [hc] at h3
    exact ⟨h1, h3⟩
  have h : n < 2 ∨ 7 < n ∨ m < 0 ∨ 2 < m := by
    unfold genC at hc
    split at hc
    · assumption
    · split at hc <;> simp at hc
  clear hc
  by_cases h1 : n < 2
  · clear h
    go_enter Try.func5, Try.ntmps5
    go_wp2_with (go_at_call 6; refine (HPl.out).mono ?_; rintro e w1 ⟨hk1, rfl⟩)
    go_ret
    exact ⟨rfl, Stil.below hk1⟩
  · have h1' : 2 ≤ n := by omega
    by_cases h2 : 7 < n
    · clear h
      go_enter Try.func5, Try.ntmps5
      go_wp2_with (go_at_call 6; refine (HPl.out).mono ?_; rintro e w1 ⟨hk1, rfl⟩)
      go_ret
      exact ⟨rfl, Stil.below hk1⟩
    · have h2' : n ≤ 7 := by omega
      by_cases h3 : m < 0
      · clear h
        go_enter Try.func5, Try.ntmps5
        go_wp2_with (go_at_call 6; refine (HPl.out).mono ?_; rintro e w1 ⟨hk1, rfl⟩)
        go_ret
        exact ⟨rfl, Stil.below hk1⟩
      · have h3' : 0 ≤ m := by omega
        have h4 : 2 < m := by omega
        clear h
        go_enter Try.func5, Try.ntmps5
        go_wp2_with (go_at_call 6; refine (HPl.out).mono ?_; rintro e w1 ⟨hk1, rfl⟩)
        go_ret
        exact ⟨rfl, Stil.below hk1⟩
set_option maxRecDepth 100000 in
set_option maxHeartbeats 4000000 in
theorem gtrue_ok (hP : PlayAt) {W : World} {n d L : Nat} (x : Bool) (hL : L < 18446744073709551616) (h2 : 2 ≤ n) (h7 : n ≤ 7) (hd : d ≤ 2) :
    Calls Try.prog 5 #[.int .i64 (n : Int), .int .i64 (d : Int), .bool x, .int .u64 (L : Int)] W fun e W2 => e = .returned (.bool true) ∧ Below W.heap.size W W2 := by
  have HPl : Hid (Calls Try.prog 6 #[.int .i64 (n : Int), .int .i64 (d : Int), .int .u32 0, .bool x, .int .u64 (L : Int)] W fun e w2 => Stil W w2 ∧ ∃ a c, e = .returned (.tuple #[.slice a (n - 1) c, .int .i64 0]) ∧ RowO w2 a (n - 1) c (heldG 0 L d n x (n - 1))) :=
    hidMk (play_good hP (W := W) (T := 0) x (by decide) hL h2 h7 hd (by have := Nat.two_pow_pos n; omega))
  have q1 : (2 : Int) ≤ (n : Int) := by omega
  have q2 : (n : Int) ≤ 7 := by omega
  have q3 : (0 : Int) ≤ (d : Int) := by omega
  have q4 : (d : Int) ≤ 2 := by omega
  obtain ⟨kk, hkk⟩ : ∃ kk, n - 1 = kk := ⟨_, rfl⟩
  have hw1 : IntKind.i64.wrap ((n : Int) - 1) = (kk : Int) := by
    rw [show (n : Int) - 1 = (kk : Int) by omega]
    have : kk ≤ 6 := by omega
    obtain rfl | rfl | rfl | rfl | rfl | rfl | rfl : kk = 0 ∨ kk = 1 ∨ kk = 2 ∨ kk = 3 ∨ kk = 4 ∨ kk = 5 ∨ kk = 6 := by omega
    all_goals decide
  have g1 : ((kk : Int) != (kk : Int)) = false := by simp
  have g2 : (x != x) = false := by simp
  have hk6 : (kk : Int) ≤ 6 := by omega
  rw [hkk] at HPl
  have HV : Hid (∀ p, p < kk → holdsG (0 : Nat).testBit L.testBit d [0] (allG (n - 1)) (p + 1) x = x) := hidMk (fun p hp => by
    rw [hkk]
    exact true_holds (fun j => Nat.zero_testBit j) d [0] (allG kk) (p + 1) x (List.mem_of_getElem? (allG_at hp)))
  have hk0 : ¬ kk = 0 := by omega
  clear hkk
  go_enter Try.func5, Try.ntmps5
  go_wp2_with (go_at_call 6; refine (HPl.out).mono ?_; rintro e w1 ⟨hk1, a1, c1, rfl, hr1⟩; have HR1 := hidMk hr1; have HK1 := hidMk hk1; clear hr1 hk1)
  obtain ⟨r1, r2, _, r4⟩ := HR1.out
  rcases r4 with r4 | ⟨bb, off, rfl, hbb, hcb⟩
  · omega
  have HCb : Hid (∀ p, p < kk → w1.cell? ⟨bb, off + p, none⟩ = some (.bool x)) := hidMk (fun p hp => by
    have := hcb p _ (show (heldG 0 L d n x kk)[p]? = some (holdsG (0 : Nat).testBit L.testBit d [0] (allG (n - 1)) (p + 1) x) by simp [heldG, hp])
    rw [HV.out p hp] at this
    exact this)
  clear r1 hbb hcb HR1 HPl HV
  go_loopw [48] (fun u wr => ∃ k : Nat, k ≤ kk ∧ u = .int .i64 (k : Int) ∧ wr = w1) (fun u _ => kk - (intOf u).toNat)
  case atStart => exact ⟨0, Nat.zero_le _, rfl, rfl⟩
  case round =>
    obtain ⟨k, hk, rfl, hwr⟩ := hrel
    subst hwr
    by_cases hlt : k < kk
    · have l1 : (k : Int) < (kk : Int) := by omega
      have d0 := HCb.out k hlt
      go_wp2
      go_roundw
      case rel => exact ⟨k + 1, by omega, by go_num, by trivial⟩
      case measure => simp [intOf]; omega
    · obtain rfl : k = kk := by omega
      go_wp2
      go_ret
      exact ⟨rfl, Stil.below HK1.out⟩
theorem gtrue_walk (hP : PlayAt) {W : World} (n m : Int) (L : Nat) (x : Bool) (hL : L < 18446744073709551616) :
    Calls Try.prog 5 #[.int .i64 n, .int .i64 m, .bool x, .int .u64 (L : Int)] W fun e W2 => e = .returned (.bool true) ∧ Below W.heap.size W W2 := by
  by_cases h1 : genC n m 0 = 1
  · exact gtrue_large hP n m L x hL h1
  · obtain ⟨nn, d, rfl, rfl, g1, g2, g3, _⟩ := gen_ok h1
    exact gtrue_ok hP x hL g1 g2 g3
end Go.Proofs.Ytekbglmoibglnaa
