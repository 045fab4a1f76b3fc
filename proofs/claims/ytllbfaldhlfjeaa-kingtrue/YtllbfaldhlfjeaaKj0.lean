/- King: KingTrue, walked, from what Play tells. -/
import Derived.Test.YtllbfaldhlfjeaaKi9
namespace Go.Proofs.Ytllbfaldhlfjeaa
open Go.RowKit
set_option linter.unusedVariables false

theorem szG_small {V n : Nat} (h : V < 2 ^ n) : ∀ d, szG V (n + d) = szG V n
  | 0 => rfl
  | d + 1 => by
    rw [show n + (d + 1) = n + d + 1 by omega, szG_succ, szG_small h d, if_neg]
    · omega
    · rw [Nat.testBit_lt_two_pow (Nat.lt_of_lt_of_le h (Nat.pow_le_pow_right (by decide) (Nat.le_add_right n d)))]
      decide
set_option maxRecDepth 100000 in
set_option maxHeartbeats 4000000 in
theorem ktrue_bad (hP : KPlayAt) {W : World} (n t : Int) (V : Nat) {la : Option Addr} {ll lc : Nat} {ls : List Nat} (hV : V < 4294967296) (hq : RowQ W la ll lc ls) (hc : kingC n t 0 V ≠ 0) :
    Calls Try.prog 5 #[.int .i64 n, .int .i64 t, .int .u32 (V : Int), .slice la ll lc] W fun e W2 => e = .returned (.bool true) ∧ Below W.heap.size W W2 := by
  by_cases hc1 : kingC n t 0 V = 1
  · have HPl : Hid (Calls Try.prog 6 #[.int .i64 n, .int .i64 t, .int .u32 0, .int .u32 (V : Int), .slice la ll lc] W fun e w2 => Stil W w2 ∧ e = .returned (.tuple #[.slice none 0 0, .int .i64 1])) := hidMk (kplay_bad hP (W := W) (T := 0) (by decide) hV hq hc1 (by decide))
    have h := kingC_one hc1
    clear hc hc1 hq
    by_cases h1 : n < 1
    · clear h
      go_enter Try.func5, Try.ntmps5
      go_wp2_with (go_at_call 6; refine (HPl.out).mono ?_; rintro e w1 ⟨hk1, rfl⟩)
      go_ret
      exact ⟨rfl, Stil.below hk1⟩
    · have h1' : 1 ≤ n := by omega
      by_cases h2 : 9 < n
      · clear h
        go_enter Try.func5, Try.ntmps5
        go_wp2_with (go_at_call 6; refine (HPl.out).mono ?_; rintro e w1 ⟨hk1, rfl⟩)
        go_ret
        exact ⟨rfl, Stil.below hk1⟩
      · have h2' : n ≤ 9 := by omega
        have hw : IntKind.i64.wrap (n - 1) = n - 1 := wrapG ⟨by omega, by omega⟩
        by_cases h3 : t < 0
        · clear h
          go_enter Try.func5, Try.ntmps5
          go_wp2_with (go_at_call 6; refine (HPl.out).mono ?_; rintro e w1 ⟨hk1, rfl⟩)
          go_ret
          exact ⟨rfl, Stil.below hk1⟩
        · have h3' : 0 ≤ t := by omega
          have h4 : n - 1 < t := by omega
          clear h
          go_enter Try.func5, Try.ntmps5
          go_wp2_with (go_at_call 6; refine (HPl.out).mono ?_; rintro e w1 ⟨hk1, rfl⟩)
          go_ret
          exact ⟨rfl, Stil.below hk1⟩
  · obtain ⟨n, t, rfl, rfl, g1, g2, g3, g4⟩ := kingC_ok hc1
    have o2 : 2 ^ n ≤ V := by
      apply Classical.byContradiction
      intro h
      rw [if_neg (by have := Nat.two_pow_pos n; omega)] at g4
      exact hc g4
    rw [if_pos (.inr o2)] at g4
    have HPl : Hid (Calls Try.prog 6 #[.int .i64 (n : Int), .int .i64 (t : Int), .int .u32 0, .int .u32 (V : Int), .slice la ll lc] W fun e w2 => Stil W w2 ∧ e = .returned (.tuple #[.slice none 0 0, .int .i64 2])) := hidMk (kplay_bad hP (W := W) (T := 0) (by decide) hV hq g4 (by decide))
    clear hc hc1 g4 hq
    have q1 : (1 : Int) ≤ (n : Int) := by omega
    have q2 : (n : Int) ≤ 9 := by omega
    have q3 : (0 : Int) ≤ (t : Int) := by omega
    have q4 : (t : Int) ≤ (n : Int) - 1 := by omega
    have hw : IntKind.i64.wrap ((n : Int) - 1) = (n : Int) - 1 := wrapG ⟨by omega, by omega⟩
    have HOv := hidMk (fun w => outsideG_any V n hV (by omega) w)
    rw [decide_eq_true o2] at HOv
    clear o2
    go_enter Try.func5, Try.ntmps5
    go_wp2_with (first | (go_at_call 6; refine (HPl.out).mono ?_; rintro e w1 ⟨hk1, rfl⟩) | (go_at_call 10; refine (HOv.out _).mono ?_; rintro e w4 ⟨rfl, hw⟩; obtain rfl := hw.symm))
    go_ret
    exact ⟨rfl, Stil.below hk1⟩
set_option maxRecDepth 100000 in
set_option maxHeartbeats 4000000 in
theorem ktrue_ok (hP : KPlayAt) {W : World} {n t V : Nat} {la : Option Addr} {ll lc : Nat} {ls : List Nat} (hV : V < 4294967296) (hq : RowQ W la ll lc ls) (g1 : 1 ≤ n) (g2 : n ≤ 9) (g3 : t < n) (ho2 : ¬ 2 ^ n ≤ V) :
    Calls Try.prog 5 #[.int .i64 (n : Int), .int .i64 (t : Int), .int .u32 (V : Int), .slice la ll lc] W fun e W2 => e = .returned (.bool true) ∧ Below W.heap.size W W2 := by
  have q1 : (1 : Int) ≤ (n : Int) := by omega
  have q2 : (n : Int) ≤ 9 := by omega
  have q3 : (0 : Int) ≤ (t : Int) := by omega
  have q4 : (t : Int) ≤ (n : Int) - 1 := by omega
  have hw : IntKind.i64.wrap ((n : Int) - 1) = (n : Int) - 1 := wrapG ⟨by omega, by omega⟩
  have HOv := hidMk (fun w => outsideG_any V n hV (by omega) w)
  rw [decide_eq_false ho2] at HOv
  have HPl : Hid (Calls Try.prog 6 #[.int .i64 (n : Int), .int .i64 (t : Int), .int .u32 0, .int .u32 (V : Int), .slice la ll lc] W fun e w2 => Stil W w2 ∧ ∃ a c, e = .returned (.tuple #[.slice a n c, .int .i64 0]) ∧ RowO w2 a n c (rowV n (kingAt (0 : Nat).testBit (lieK ls) n t V.testBit (t + 1)))) := hidMk (kplay_good hP (W := W) (T := 0) (by decide) hV hq g1 g2 g3 (by have := Nat.two_pow_pos n; omega) ho2)
  have HS := hidMk (fun w => sizeG_any V hV w)
  have hs : szG V 32 = (List.range n).countP V.testBit := by
    have := szG_small (V := V) (n := n) (by omega) (32 - n)
    rw [show n + (32 - n) = 32 by omega] at this
    exact this
  have HFi : Hid (∀ p, kingAt (0 : Nat).testBit (lieK ls) n t V.testBit (t + 1) p = decide (n < 2 * szG V 32)) := hidMk (fun p => by rw [hs]; exact king_half (fun j => Nat.zero_testBit j) n t V.testBit t p)
  have hsl := szG_le V 32
  clear hs ho2 hq
  generalize kingAt (0 : Nat).testBit (lieK ls) n t V.testBit (t + 1) = fin at *
  generalize szG V 32 = s at *
  have hw2 : IntKind.i64.wrap (2 * (s : Int)) = 2 * (s : Int) := wrapG ⟨by omega, by omega⟩
  have z0 : ((n : Int) != (n : Int)) = false := by simp
  go_enter Try.func5, Try.ntmps5
  go_wp2_with (first | (go_at_call 6; refine (HPl.out).mono ?_; rintro e w1 ⟨hk1, a1, c1, rfl, hr1⟩; have HR1 := hidMk hr1; have HK1 := hidMk hk1; clear hr1 hk1) | (go_at_call 10; refine (HOv.out _).mono ?_; rintro e w4 ⟨rfl, hw⟩; obtain rfl := hw.symm))
  obtain ⟨r1, r2, _, r4⟩ := HR1.out
  rcases r4 with r4 | ⟨bb, off, rfl, hbb, hcb⟩
  · omega
  have HCb : Hid (∀ p, p < n → w1.cell? ⟨bb, off + p, none⟩ = some (.bool (decide (n < 2 * s)))) := hidMk (fun p hp => by rw [← HFi.out p]; exact hcb p _ (rowV_at hp))
  clear r1 hbb hcb HR1 HPl HOv HFi
  go_loopw [54] (fun u wr => ∃ i : Nat, i ≤ n ∧ u = .int .i64 (i : Int) ∧ wr = w1) (fun u _ => n - (intOf u).toNat)
  case atStart => exact ⟨0, Nat.zero_le _, rfl, rfl⟩
  case round =>
    obtain ⟨i, hi, rfl, hwr⟩ := hrel
    subst hwr
    by_cases hlt : i < n
    · have l1 : (i : Int) < (n : Int) := by omega
      have l2 : (i : Int) ≤ 9 := by omega
      have d0 := HCb.out i hlt
      by_cases hx : n < 2 * s
      · have y1 : (n : Int) < 2 * (s : Int) := by omega
        rw [decide_eq_true hx] at d0
        clear hx
        go_wp2_with (go_at_call 13; refine (HS.out _).mono ?_; rintro e w2 ⟨rfl, hw⟩; obtain rfl := hw.symm)
        go_roundw
        case rel => exact ⟨i + 1, by omega, by go_num, by trivial⟩
        case measure => simp [intOf]; omega
      · have y1 : 2 * (s : Int) ≤ (n : Int) := by omega
        rw [decide_eq_false hx] at d0
        clear hx
        go_wp2_with (go_at_call 13; refine (HS.out _).mono ?_; rintro e w2 ⟨rfl, hw⟩; obtain rfl := hw.symm)
        go_roundw
        case rel => exact ⟨i + 1, by omega, by go_num, by trivial⟩
        case measure => simp [intOf]; omega
    · obtain rfl : i = n := by omega
      have l1 : (i : Int) ≤ (i : Int) := by omega
      go_wp2
      go_ret
      exact ⟨rfl, Stil.below HK1.out⟩
theorem ktrue_walk (hP : KPlayAt) {W : World} (n t : Int) (V : Nat) {la : Option Addr} {ll lc : Nat} {ls : List Nat} (hV : V < 4294967296) (hq : RowQ W la ll lc ls) :
    Calls Try.prog 5 #[.int .i64 n, .int .i64 t, .int .u32 (V : Int), .slice la ll lc] W fun e W2 => e = .returned (.bool true) ∧ Below W.heap.size W W2 := by
  by_cases hc : kingC n t 0 V = 0
  · obtain ⟨n, t, rfl, rfl, g1, g2, g3, g4⟩ := kingC_ok (by rw [hc]; decide)
    have ho : ¬ (2 ^ n ≤ 0 ∨ 2 ^ n ≤ V) := by
      intro h
      rw [hc, if_pos h] at g4
      exact absurd g4 (by decide)
    exact ktrue_ok hP hV hq g1 g2 g3 (by omega)
  · exact ktrue_bad hP n t V hV hq hc
end Go.Proofs.Ytllbfaldhlfjeaa
