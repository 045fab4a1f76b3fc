/- King: KingPlays, walked, from what Play tells. -/
import Derived.Test.YtllbfaldhlfjeaaKi7
namespace Go.Proofs.Ytllbfaldhlfjeaa
open Go.RowKit
set_option linter.unusedVariables false

/-- What is wrong with what is asked. -/
def kingC (n t : Int) (T V : Nat) : Int := if n < 1 ∨ 9 < n ∨ t < 0 ∨ n - 1 < t then 1 else if 2 ^ n.toNat ≤ T ∨ 2 ^ n.toNat ≤ V then 2 else 0
/-- What Play tells. -/
def KPlayAt : Prop := ∀ (W : World) (n t : Int) (T V : Nat) (la : Option Addr) (ll lc : Nat) (ls : List Nat), T < 4294967296 → V < 4294967296 → RowQ W la ll lc ls →
  Calls Try.prog 6 #[.int .i64 n, .int .i64 t, .int .u32 (T : Int), .int .u32 (V : Int), .slice la ll lc] W fun e W2 => Stil W W2 ∧
    (kingC n t T V ≠ 0 → e = .returned (.tuple #[.slice none 0 0, .int .i64 (kingC n t T V)])) ∧
    (kingC n t T V = 0 → ∃ a c, e = .returned (.tuple #[.slice a n.toNat c, .int .i64 0]) ∧ RowO W2 a n.toNat c (rowV n.toNat (kingAt T.testBit (lieK ls) n.toNat t.toNat V.testBit (t.toNat + 1))))
theorem kingC_ok {n t : Int} {T V : Nat} (h : kingC n t T V ≠ 1) : ∃ nn tt : Nat, n = (nn : Int) ∧ t = (tt : Int) ∧ 1 ≤ nn ∧ nn ≤ 9 ∧ tt < nn ∧ kingC n t T V = if 2 ^ nn ≤ T ∨ 2 ^ nn ≤ V then 2 else 0 := by
  unfold kingC at *
  split at h
  · simp at h
  · rename_i h2
    refine ⟨n.toNat, t.toNat, by omega, by omega, by omega, by omega, by omega, ?_⟩
    rw [if_neg h2]
theorem kingC_one {n t : Int} {T V : Nat} (h : kingC n t T V = 1) : n < 1 ∨ 9 < n ∨ t < 0 ∨ n - 1 < t := by
  unfold kingC at h
  split at h
  · assumption
  · split at h <;> simp at h
theorem kplay_good (hP : KPlayAt) {W : World} {n t T V : Nat} {la : Option Addr} {ll lc : Nat} {ls : List Nat} (hT : T < 4294967296) (hV : V < 4294967296) (hq : RowQ W la ll lc ls) (h1 : 1 ≤ n) (h9 : n ≤ 9) (ht : t < n) (ho1 : ¬ 2 ^ n ≤ T) (ho2 : ¬ 2 ^ n ≤ V) :
    Calls Try.prog 6 #[.int .i64 (n : Int), .int .i64 (t : Int), .int .u32 (T : Int), .int .u32 (V : Int), .slice la ll lc] W fun e w2 => Stil W w2 ∧ ∃ a c, e = .returned (.tuple #[.slice a n c, .int .i64 0]) ∧ RowO w2 a n c (rowV n (kingAt T.testBit (lieK ls) n t V.testBit (t + 1))) := by
  have hc : kingC (n : Int) (t : Int) T V = 0 := by
    unfold kingC
    rw [if_neg (by omega), Int.toNat_natCast, if_neg (by omega)]
  refine (hP W n t T V la ll lc ls hT hV hq).mono ?_
  rintro e w2 ⟨h1, _, h3⟩
  have h4 := h3 hc
  rw [Int.toNat_natCast, Int.toNat_natCast] at h4
  exact ⟨h1, h4⟩
theorem kplay_bad (hP : KPlayAt) {W : World} {n t : Int} {T V : Nat} {la : Option Addr} {ll lc : Nat} {ls : List Nat} (hT : T < 4294967296) (hV : V < 4294967296) (hq : RowQ W la ll lc ls) {rc : Int} (hc : kingC n t T V = rc) (h0 : rc ≠ 0) :
    Calls Try.prog 6 #[.int .i64 n, .int .i64 t, .int .u32 (T : Int), .int .u32 (V : Int), .slice la ll lc] W fun e w2 => Stil W w2 ∧ e = .returned (.tuple #[.slice none 0 0, .int .i64 rc]) := by
  refine (hP W n t T V la ll lc ls hT hV hq).mono ?_
  rintro e w2 ⟨h1, h2, _⟩
  have h3 := h2 (by rw [hc]; exact h0)
  rw [hc] at h3
  exact ⟨h1, h3⟩
set_option maxRecDepth 100000 in
set_option maxHeartbeats 4000000 in
theorem fewK_any (T n d : Nat) (hT : T < 4294967296) (hn : n ≤ 32) (ho : ¬ 2 ^ n ≤ T) (w : World) :
    Calls Try.prog 11 #[.int .u32 (T : Int), .int .i64 (n : Int), .int .i64 (d : Int)] w fun e w' => e = .returned (.bool (decide (szG T 32 ≤ d))) ∧ w' = w := by
  have HO := hidMk (fun w => outsideG_any T n hT hn w)
  rw [decide_eq_false ho] at HO
  have HS := hidMk (fun w => sizeG_any T hT w)
  have hl := szG_le T 32
  generalize szG T 32 = s at *
  clear ho
  go_enter Try.func11, Try.ntmps11
  go_wp2_with (first | (go_at_call 10; refine (HO.out _).mono ?_; rintro e w2 ⟨rfl, hw⟩; obtain rfl := hw.symm) | (go_at_call 13; refine (HS.out _).mono ?_; rintro e w2 ⟨rfl, hw⟩; obtain rfl := hw.symm))
  go_ret
  exact ⟨gret_bool (by simp), rfl⟩
set_option maxRecDepth 100000 in
set_option maxHeartbeats 4000000 in
theorem kcheck_any {W : World} (n t : Int) (T V : Nat) (hT : T < 4294967296) (hV : V < 4294967296) :
    Calls Try.prog 7 #[.int .i64 n, .int .i64 t, .int .u32 (T : Int), .int .u32 (V : Int)] W fun e w2 => e = .returned (.int .i64 (kingC n t T V)) ∧ w2 = W := by
  by_cases hc : kingC n t T V = 1
  · have h := kingC_one hc
    rw [hc]
    clear hc
    by_cases h1 : n < 1
    · clear h
      go_enter Try.func7, Try.ntmps7
      go_wp2
      go_ret
      exact ⟨rfl, rfl⟩
    · have h1' : 1 ≤ n := by omega
      by_cases h2 : 9 < n
      · clear h
        go_enter Try.func7, Try.ntmps7
        go_wp2
        go_ret
        exact ⟨rfl, rfl⟩
      · have h2' : n ≤ 9 := by omega
        have hw : IntKind.i64.wrap (n - 1) = n - 1 := wrapG ⟨by omega, by omega⟩
        by_cases h3 : t < 0
        · clear h
          go_enter Try.func7, Try.ntmps7
          go_wp2
          go_ret
          exact ⟨rfl, rfl⟩
        · have h3' : 0 ≤ t := by omega
          have h4 : n - 1 < t := by omega
          clear h
          go_enter Try.func7, Try.ntmps7
          go_wp2
          go_ret
          exact ⟨rfl, rfl⟩
  · obtain ⟨n, t, rfl, rfl, g1, g2, g3, g4⟩ := kingC_ok hc
    rw [g4]
    clear hc g4
    have q1 : (1 : Int) ≤ (n : Int) := by omega
    have q2 : (n : Int) ≤ 9 := by omega
    have q3 : (0 : Int) ≤ (t : Int) := by omega
    have q4 : (t : Int) ≤ (n : Int) - 1 := by omega
    have hw : IntKind.i64.wrap ((n : Int) - 1) = (n : Int) - 1 := wrapG ⟨by omega, by omega⟩
    have HOt := hidMk (fun w => outsideG_any T n hT (by omega) w)
    have HOv := hidMk (fun w => outsideG_any V n hV (by omega) w)
    by_cases o1 : 2 ^ n ≤ T
    · rw [if_pos (.inl o1)]
      rw [decide_eq_true o1] at HOt
      clear o1
      go_enter Try.func7, Try.ntmps7
      go_wp2_with (first | (go_at_call 10; refine (HOz.out _).mono ?_; rintro e w4 ⟨rfl, hw⟩; obtain rfl := hw.symm) | (go_at_call 10; refine (HOt.out _).mono ?_; rintro e w4 ⟨rfl, hw⟩; obtain rfl := hw.symm; have HOz := HOv))
      go_ret
      exact ⟨rfl, rfl⟩
    · rw [decide_eq_false o1] at HOt
      by_cases o2 : 2 ^ n ≤ V
      · rw [if_pos (.inr o2)]
        rw [decide_eq_true o2] at HOv
        clear o1 o2
        go_enter Try.func7, Try.ntmps7
        go_wp2_with (first | (go_at_call 10; refine (HOz.out _).mono ?_; rintro e w4 ⟨rfl, hw⟩; obtain rfl := hw.symm) | (go_at_call 10; refine (HOt.out _).mono ?_; rintro e w4 ⟨rfl, hw⟩; obtain rfl := hw.symm; have HOz := HOv))
        go_ret
        exact ⟨rfl, rfl⟩
      · rw [if_neg (by omega)]
        rw [decide_eq_false o2] at HOv
        clear o1 o2
        go_enter Try.func7, Try.ntmps7
        go_wp2_with (first | (go_at_call 10; refine (HOz.out _).mono ?_; rintro e w4 ⟨rfl, hw⟩; obtain rfl := hw.symm) | (go_at_call 10; refine (HOt.out _).mono ?_; rintro e w4 ⟨rfl, hw⟩; obtain rfl := hw.symm; have HOz := HOv))
        go_ret
        exact ⟨rfl, rfl⟩
set_option maxRecDepth 100000 in
set_option maxHeartbeats 4000000 in
theorem kplays_walk (hP : KPlayAt) {W : World} (n t : Int) (T V : Nat) {la : Option Addr} {ll lc : Nat} {ls : List Nat} (hT : T < 4294967296) (hV : V < 4294967296) (hq : RowQ W la ll lc ls) :
    Calls Try.prog 3 #[.int .i64 n, .int .i64 t, .int .u32 (T : Int), .int .u32 (V : Int), .slice la ll lc] W fun e W2 => e = .returned (.bool true) ∧ Below W.heap.size W W2 := by
  by_cases hc : kingC n t T V = 0
  · obtain ⟨n, t, rfl, rfl, g1, g2, g3, g4⟩ := kingC_ok (by rw [hc]; decide)
    have ho : ¬ (2 ^ n ≤ T ∨ 2 ^ n ≤ V) := by
      intro h
      rw [hc, if_pos h] at g4
      exact absurd g4 (by decide)
    have HPl := hidMk (kplay_good hP (W := W) hT hV hq g1 g2 g3 (by omega) (by omega))
    have HC := hidMk (fun w => kcheck_any (W := w) (n : Int) (t : Int) T V hT hV)
    rw [hc] at HC
    have HK := hidMk (fun (w : World) (h : Stil W w) => king_any (W := w) hT hV g1 g2 g3 (hq.still h))
    have q5 : n ≤ 1000 := by omega
    clear ho hc g4 hq
    go_enter Try.func3, Try.ntmps3
    go_wp2_with (first | (go_at_call 6; refine (HPl.out).mono ?_; rintro e w1 ⟨hk1, a1, c1, rfl, hr1⟩; have HR1 := hidMk hr1; have HK1 := hidMk hk1; clear hr1 hk1) | (go_at_call 7; refine (HC.out _).mono ?_; rintro e w2 ⟨rfl, hw⟩; obtain rfl := hw.symm) | (go_at_call 9; refine (HK.out _ HK1.out).mono ?_; rintro e w3 ⟨a3, c3, rfl, hr3, hk3⟩; have HR3 := hidMk hr3; have HK3 := hidMk hk3; clear hr3 hk3) | (go_at_call 8; refine (bools_same (HR1.out.still HK3.out) HR3.out q5).mono ?_; rintro e w4 ⟨rfl, q, hw4⟩; have HW4 := hidMk hw4; clear hw4))
    go_ret
    refine ⟨rfl, Stil.below ?_⟩
    rw [HW4.out]
    exact Keep.drewN (HK1.out.tr HK3.out) q
  · have HPl := hidMk (kplay_bad hP (W := W) hT hV hq (n := n) (t := t) rfl hc)
    have HC := hidMk (fun w => kcheck_any (W := w) n t T V hT hV)
    generalize kingC n t T V = rc at *
    have q1 : (rc != 0) = true := by simpa using hc
    have q2 : (rc == rc) = true := by simp
    clear hc hq
    go_enter Try.func3, Try.ntmps3
    go_wp2_with (first | (go_at_call 6; refine (HPl.out).mono ?_; rintro e w1 ⟨hk1, rfl⟩) | (go_at_call 7; refine (HC.out _).mono ?_; rintro e w2 ⟨rfl, hw⟩; obtain rfl := hw.symm))
    go_ret
    exact ⟨rfl, Stil.below hk1⟩
end Go.Proofs.Ytllbfaldhlfjeaa
