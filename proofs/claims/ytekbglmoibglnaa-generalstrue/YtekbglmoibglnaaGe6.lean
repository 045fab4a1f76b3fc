/- Generals: GeneralsPlays, walked, from what Play tells. -/
import Derived.Test.YtekbglmoibglnaaGe5
namespace Go.Proofs.Ytekbglmoibglnaa
open Go.RowKit
set_option linter.unusedVariables false

theorem gen_ok {n m : Int} {T : Nat} (h : genC n m T ≠ 1) : ∃ nn d : Nat, n = (nn : Int) ∧ m = (d : Int) ∧ 2 ≤ nn ∧ nn ≤ 7 ∧ d ≤ 2 ∧ genC n m T = if 2 ^ nn ≤ T then 2 else 0 := by
  unfold genC at *
  split at h
  · simp at h
  · rename_i h2
    refine ⟨n.toNat, m.toNat, by omega, by omega, by omega, by omega, by omega, ?_⟩
    rw [if_neg h2]
/-- What Play tells where nothing is wrong. -/
theorem play_good (hP : PlayAt) {W : World} {n d T L : Nat} (x : Bool) (hT : T < 4294967296) (hL : L < 18446744073709551616) (h2 : 2 ≤ n) (h7 : n ≤ 7) (hd : d ≤ 2) (ho : ¬ 2 ^ n ≤ T) :
    Calls Try.prog 6 #[.int .i64 (n : Int), .int .i64 (d : Int), .int .u32 (T : Int), .bool x, .int .u64 (L : Int)] W fun e w2 => Stil W w2 ∧ ∃ a c, e = .returned (.tuple #[.slice a (n - 1) c, .int .i64 0]) ∧ RowO w2 a (n - 1) c (heldG T L d n x (n - 1)) := by
  have hc : genC (n : Int) (d : Int) T = 0 := by
    unfold genC
    rw [if_neg (by omega), Int.toNat_natCast, if_neg ho]
  refine (hP W n d T L x hT hL).mono ?_
  rintro e w2 ⟨h1, _, h3⟩
  have h4 := h3 hc
  rw [Int.toNat_natCast, Int.toNat_natCast] at h4
  exact ⟨h1, h4⟩
set_option maxRecDepth 100000 in
set_option maxHeartbeats 4000000 in
theorem gplays_large (hP : PlayAt) {W : World} (n m : Int) (T L : Nat) (x : Bool) (hT : T < 4294967296) (hL : L < 18446744073709551616) (hc : genC n m T = 1) :
    Calls Try.prog 3 #[.int .i64 n, .int .i64 m, .int .u32 (T : Int), .bool x, .int .u64 (L : Int)] W fun e W2 => e = .returned (.bool true) ∧ Below W.heap.size W W2 := by
  have HPl : Hid (Calls Try.prog 6 #[.int .i64 n, .int .i64 m, .int .u32 (T : Int), .bool x, .int .u64 (L : Int)] W fun e w2 => Stil W w2 ∧ e = .returned (.tuple #[.slice none 0 0, .int .i64 1])) := by
    refine (hP W n m T L x hT hL).mono ?_
    rintro e w2 ⟨h1, h2, _⟩
    have h3 := h2 (by rw [hc]; decide)
    rw [hc] at h3
    exact ⟨h1, h3⟩
  have h : n < 2 ∨ 7 < n ∨ m < 0 ∨ 2 < m := by
    unfold genC at hc
    split at hc
    · assumption
    · split at hc <;> simp at hc
  clear hc
  by_cases h1 : n < 2
  · clear h
    go_enter Try.func3, Try.ntmps3
    go_wp2_with (go_at_call 6; refine (HPl.out).mono ?_; rintro e w1 ⟨hk1, rfl⟩)
    go_ret
    exact ⟨rfl, Stil.below hk1⟩
  · have h1' : 2 ≤ n := by omega
    by_cases h2 : 7 < n
    · clear h
      go_enter Try.func3, Try.ntmps3
      go_wp2_with (go_at_call 6; refine (HPl.out).mono ?_; rintro e w1 ⟨hk1, rfl⟩)
      go_ret
      exact ⟨rfl, Stil.below hk1⟩
    · have h2' : n ≤ 7 := by omega
      by_cases h3 : m < 0
      · clear h
        go_enter Try.func3, Try.ntmps3
        go_wp2_with (go_at_call 6; refine (HPl.out).mono ?_; rintro e w1 ⟨hk1, rfl⟩)
        go_ret
        exact ⟨rfl, Stil.below hk1⟩
      · have h3' : 0 ≤ m := by omega
        have h4 : 2 < m := by omega
        clear h
        go_enter Try.func3, Try.ntmps3
        go_wp2_with (go_at_call 6; refine (HPl.out).mono ?_; rintro e w1 ⟨hk1, rfl⟩)
        go_ret
        exact ⟨rfl, Stil.below hk1⟩
set_option maxRecDepth 100000 in
set_option maxHeartbeats 4000000 in
theorem gplays_out (hP : PlayAt) {W : World} {n d T L : Nat} (x : Bool) (hT : T < 4294967296) (hL : L < 18446744073709551616) (h2 : 2 ≤ n) (h7 : n ≤ 7) (hd : d ≤ 2) (hc : genC n d T = 2) (ho : 2 ^ n ≤ T) :
    Calls Try.prog 3 #[.int .i64 (n : Int), .int .i64 (d : Int), .int .u32 (T : Int), .bool x, .int .u64 (L : Int)] W fun e W2 => e = .returned (.bool true) ∧ Below W.heap.size W W2 := by
  have HPl : Hid (Calls Try.prog 6 #[.int .i64 (n : Int), .int .i64 (d : Int), .int .u32 (T : Int), .bool x, .int .u64 (L : Int)] W fun e w2 => Stil W w2 ∧ e = .returned (.tuple #[.slice none 0 0, .int .i64 2])) := by
    refine (hP W n d T L x hT hL).mono ?_
    rintro e w2 ⟨h1, h2, _⟩
    have h3 := h2 (by rw [hc]; decide)
    rw [hc] at h3
    exact ⟨h1, h3⟩
  have HO := hidMk (fun w => outsideG_any T n hT (by omega) w)
  rw [decide_eq_true ho] at HO
  have q1 : (2 : Int) ≤ (n : Int) := by omega
  have q2 : (n : Int) ≤ 7 := by omega
  have q3 : (0 : Int) ≤ (d : Int) := by omega
  have q4 : (d : Int) ≤ 2 := by omega
  clear hc ho
  go_enter Try.func3, Try.ntmps3
  go_wp2_with (first | (go_at_call 6; refine (HPl.out).mono ?_; rintro e w1 ⟨hk1, rfl⟩) | (go_at_call 7; refine (HO.out _).mono ?_; rintro e w2 ⟨rfl, hw⟩; obtain rfl := hw.symm))
  go_ret
  exact ⟨rfl, Stil.below hk1⟩
set_option maxRecDepth 100000 in
set_option maxHeartbeats 4000000 in
theorem gplays_ok (hP : PlayAt) {W : World} {n d T L : Nat} (x : Bool) (hT : T < 4294967296) (hL : L < 18446744073709551616) (h2 : 2 ≤ n) (h7 : n ≤ 7) (hd : d ≤ 2) (ho : ¬ 2 ^ n ≤ T) :
    Calls Try.prog 3 #[.int .i64 (n : Int), .int .i64 (d : Int), .int .u32 (T : Int), .bool x, .int .u64 (L : Int)] W fun e W2 => e = .returned (.bool true) ∧ Below W.heap.size W W2 := by
  have HPl := hidMk (play_good hP (W := W) x hT hL h2 h7 hd ho)
  have HO := hidMk (fun w => outsideG_any T n hT (by omega) w)
  rw [decide_eq_false ho] at HO
  have HG := hidMk (fun w => generals_any (W := w) (d := d) (n := n) x hT hL hd h2 h7)
  have q1 : (2 : Int) ≤ (n : Int) := by omega
  have q2 : (n : Int) ≤ 7 := by omega
  have q3 : (0 : Int) ≤ (d : Int) := by omega
  have q4 : (d : Int) ≤ 2 := by omega
  have q5 : n - 1 ≤ 1000 := by omega
  clear ho
  generalize n - 1 = k at *
  go_enter Try.func3, Try.ntmps3
  go_wp2_with (first | (go_at_call 6; refine (HPl.out).mono ?_; rintro e w1 ⟨hk1, a1, c1, rfl, hr1⟩; have HR1 := hidMk hr1; have HK1 := hidMk hk1; clear hr1 hk1) | (go_at_call 7; refine (HO.out _).mono ?_; rintro e w2 ⟨rfl, hw⟩; obtain rfl := hw.symm) | (go_at_call 9; refine (HG.out _).mono ?_; rintro e w3 ⟨a3, c3, rfl, hr3, hk3⟩; have HR3 := hidMk hr3; have HK3 := hidMk hk3; clear hr3 hk3) | (go_at_call 8; refine (bools_same (HR1.out.still HK3.out) HR3.out q5).mono ?_; rintro e w4 ⟨rfl, q, hw4⟩; have HW4 := hidMk hw4; clear hw4))
  go_ret
  refine ⟨rfl, Stil.below ?_⟩
  rw [HW4.out]
  exact Keep.drewN (HK1.out.tr HK3.out) q
theorem gplays_walk (hP : PlayAt) {W : World} (n m : Int) (T L : Nat) (x : Bool) (hT : T < 4294967296) (hL : L < 18446744073709551616) :
    Calls Try.prog 3 #[.int .i64 n, .int .i64 m, .int .u32 (T : Int), .bool x, .int .u64 (L : Int)] W fun e W2 => e = .returned (.bool true) ∧ Below W.heap.size W W2 := by
  by_cases h1 : genC n m T = 1
  · exact gplays_large hP n m T L x hT hL h1
  · obtain ⟨nn, d, rfl, rfl, g1, g2, g3, g4⟩ := gen_ok h1
    by_cases ho : 2 ^ nn ≤ T
    · rw [if_pos ho] at g4
      exact gplays_out hP x hT hL g1 g2 g3 g4 ho
    · exact gplays_ok hP x hT hL g1 g2 g3 ho
end Go.Proofs.Ytekbglmoibglnaa
