/- Generals: GeneralsAgree, walked, from what Play tells. -/
import Derived.Test.YtekbglmoibglnaaGe6
namespace Go.Proofs.Ytekbglmoibglnaa
open Go.RowKit
set_option linter.unusedVariables false

set_option maxRecDepth 100000 in
set_option maxHeartbeats 4000000 in
theorem fewG_any (T n d : Nat) (hT : T < 4294967296) (hn : n ≤ 32) (ho : ¬ 2 ^ n ≤ T) (w : World) :
    Calls Try.prog 10 #[.int .u32 (T : Int), .int .i64 (n : Int), .int .i64 (d : Int)] w fun e w' => e = .returned (.bool (decide (szG T 32 ≤ d))) ∧ w' = w := by
  have HO := hidMk (fun w => outsideG_any T n hT hn w)
  rw [decide_eq_false ho] at HO
  have HS := hidMk (fun w => sizeG_any T hT w)
  have hl := szG_le T 32
  generalize szG T 32 = s at *
  clear ho
  go_enter Try.func10, Try.ntmps10
  go_wp2_with (first | (go_at_call 7; refine (HO.out _).mono ?_; rintro e w2 ⟨rfl, hw⟩; obtain rfl := hw.symm) | (go_at_call 17; refine (HS.out _).mono ?_; rintro e w2 ⟨rfl, hw⟩; obtain rfl := hw.symm))
  go_ret
  exact ⟨gret_bool (by simp), rfl⟩
set_option maxRecDepth 100000 in
set_option maxHeartbeats 4000000 in
theorem gagree_large (hP : PlayAt) {W : World} (n m : Int) (T L : Nat) (x : Bool) (hT : T < 4294967296) (hL : L < 18446744073709551616) (hc : genC n m T = 1) :
    Calls Try.prog 4 #[.int .i64 n, .int .i64 m, .int .u32 (T : Int), .bool x, .int .u64 (L : Int)] W fun e W2 => e = .returned (.bool true) ∧ Below W.heap.size W W2 := by
  have HPl : Hid (Calls Try.prog 6 #[.int .i64 n, .int .i64 m, .int .u32 (T : Int), .bool x, .int .u64 (L : Int)] W fun e w2 => Stil W w2 ∧ e = .returned (.tuple #[.slice none 0 0, .int .i64 1])) := by
    refine (hP W n m T L x hT hL).mono ?_
    rintro e w2 ⟨h1, h2, _⟩
    have h3 := h2 (by rw [hc]; decide)
    rw [hc] at h3
    exact ⟨h1, h3⟩
  have h : n < 2 ∨ 7 < n ∨ m < 0 ∨ 2 < m := by
    unfold genC at hc
    split at hc
    · assumption
    · split at hc <;> simp at hc
  clear hc
  by_cases h1 : n < 2
  · clear h
    go_enter Try.func4, Try.ntmps4
    go_wp2_with (go_at_call 6; refine (HPl.out).mono ?_; rintro e w1 ⟨hk1, rfl⟩)
    go_ret
    exact ⟨rfl, Stil.below hk1⟩
  · have h1' : 2 ≤ n := by omega
    by_cases h2 : 7 < n
    · clear h
      go_enter Try.func4, Try.ntmps4
      go_wp2_with (go_at_call 6; refine (HPl.out).mono ?_; rintro e w1 ⟨hk1, rfl⟩)
      go_ret
      exact ⟨rfl, Stil.below hk1⟩
    · have h2' : n ≤ 7 := by omega
      by_cases h3 : m < 0
      · clear h
        go_enter Try.func4, Try.ntmps4
        go_wp2_with (go_at_call 6; refine (HPl.out).mono ?_; rintro e w1 ⟨hk1, rfl⟩)
        go_ret
        exact ⟨rfl, Stil.below hk1⟩
      · have h3' : 0 ≤ m := by omega
        have h4 : 2 < m := by omega
        clear h
        go_enter Try.func4, Try.ntmps4
        go_wp2_with (go_at_call 6; refine (HPl.out).mono ?_; rintro e w1 ⟨hk1, rfl⟩)
        go_ret
        exact ⟨rfl, Stil.below hk1⟩
set_option maxRecDepth 100000 in
set_option maxHeartbeats 4000000 in
theorem gagree_out (hP : PlayAt) {W : World} {n d T L : Nat} (x : Bool) (hT : T < 4294967296) (hL : L < 18446744073709551616) (h2 : 2 ≤ n) (h7 : n ≤ 7) (hd : d ≤ 2) (hc : genC n d T = 2) (ho : 2 ^ n ≤ T) :
    Calls Try.prog 4 #[.int .i64 (n : Int), .int .i64 (d : Int), .int .u32 (T : Int), .bool x, .int .u64 (L : Int)] W fun e W2 => e = .returned (.bool true) ∧ Below W.heap.size W W2 := by
  have HPl : Hid (Calls Try.prog 6 #[.int .i64 (n : Int), .int .i64 (d : Int), .int .u32 (T : Int), .bool x, .int .u64 (L : Int)] W fun e w2 => Stil W w2 ∧ e = .returned (.tuple #[.slice none 0 0, .int .i64 2])) := by
    refine (hP W n d T L x hT hL).mono ?_
    rintro e w2 ⟨h1, h2, _⟩
    have h3 := h2 (by rw [hc]; decide)
    rw [hc] at h3
    exact ⟨h1, h3⟩
  have HO := hidMk (fun w => outsideG_any T n hT (by omega) w)
  rw [decide_eq_true ho] at HO
  have q1 : (2 : Int) ≤ (n : Int) := by omega
  have q2 : (n : Int) ≤ 7 := by omega
  have q3 : (0 : Int) ≤ (d : Int) := by omega
  have q4 : (d : Int) ≤ 2 := by omega
  clear hc ho
  go_enter Try.func4, Try.ntmps4
  go_wp2_with (first | (go_at_call 6; refine (HPl.out).mono ?_; rintro e w1 ⟨hk1, rfl⟩) | (go_at_call 7; refine (HO.out _).mono ?_; rintro e w2 ⟨rfl, hw⟩; obtain rfl := hw.symm))
  go_ret
  exact ⟨rfl, Stil.below hk1⟩
set_option maxRecDepth 100000 in
set_option maxHeartbeats 4000000 in
theorem gagree_many (hP : PlayAt) {W : World} {n d T L : Nat} (x : Bool) (hT : T < 4294967296) (hL : L < 18446744073709551616) (h2 : 2 ≤ n) (h7 : n ≤ 7) (hd : d ≤ 2) (ho : ¬ 2 ^ n ≤ T) (hm : n ≤ 3 * d ∨ d < szG T 32) :
    Calls Try.prog 4 #[.int .i64 (n : Int), .int .i64 (d : Int), .int .u32 (T : Int), .bool x, .int .u64 (L : Int)] W fun e W2 => e = .returned (.bool true) ∧ Below W.heap.size W W2 := by
  have HPl := hidMk (play_good hP (W := W) x hT hL h2 h7 hd ho)
  have HO := hidMk (fun w => outsideG_any T n hT (by omega) w)
  rw [decide_eq_false ho] at HO
  have HFw := hidMk (fun w => fewG_any T n d hT (by omega) ho w)
  have q1 : (2 : Int) ≤ (n : Int) := by omega
  have q2 : (n : Int) ≤ 7 := by omega
  have q3 : (0 : Int) ≤ (d : Int) := by omega
  have q4 : (d : Int) ≤ 2 := by omega
  obtain ⟨kk, hkk⟩ : ∃ kk, n - 1 = kk := ⟨_, rfl⟩
  have HNk : Hid (n = kk + 1) := by show n = kk + 1; omega
  have hw1 : IntKind.i64.wrap ((n : Int) - 1) = (kk : Int) := by
    rw [show (n : Int) - 1 = (kk : Int) by omega]
    have : kk ≤ 6 := by omega
    obtain rfl | rfl | rfl | rfl | rfl | rfl | rfl : kk = 0 ∨ kk = 1 ∨ kk = 2 ∨ kk = 3 ∨ kk = 4 ∨ kk = 5 ∨ kk = 6 := by omega
    all_goals decide
  have g1 : ((kk : Int) != (kk : Int)) = false := by simp
  have hw2 : IntKind.i64.wrap (3 * (d : Int)) = 3 * (d : Int) := by
    obtain rfl | rfl | rfl : d = 0 ∨ d = 1 ∨ d = 2 := by omega
    all_goals decide
  rw [hkk] at HPl
  by_cases hn3 : n ≤ 3 * d
  · have z1 : (n : Int) ≤ 3 * (d : Int) := by omega
    clear ho hm hkk
    go_enter Try.func4, Try.ntmps4
    go_wp2_with (first | (go_at_call 6; refine (HPl.out).mono ?_; rintro e w1 ⟨hk1, a1, c1, rfl, hr1⟩; have HR1 := hidMk hr1; have HK1 := hidMk hk1; clear hr1 hk1) | (go_at_call 7; refine (HO.out _).mono ?_; rintro e w2 ⟨rfl, hw⟩; obtain rfl := hw.symm) | (go_at_call 10; refine (HFw.out _).mono ?_; rintro e w3 ⟨rfl, hw⟩; obtain rfl := hw.symm))
    go_ret
    exact ⟨rfl, Stil.below HK1.out⟩
  · have z1 : 3 * (d : Int) < (n : Int) := by omega
    have z2 : decide (szG T 32 ≤ d) = false := decide_eq_false (by omega)
    rw [z2] at HFw
    clear ho hm z2 hn3 hkk
    go_enter Try.func4, Try.ntmps4
    go_wp2_with (first | (go_at_call 6; refine (HPl.out).mono ?_; rintro e w1 ⟨hk1, a1, c1, rfl, hr1⟩; have HR1 := hidMk hr1; have HK1 := hidMk hk1; clear hr1 hk1) | (go_at_call 7; refine (HO.out _).mono ?_; rintro e w2 ⟨rfl, hw⟩; obtain rfl := hw.symm) | (go_at_call 10; refine (HFw.out _).mono ?_; rintro e w3 ⟨rfl, hw⟩; obtain rfl := hw.symm))
    go_ret
    exact ⟨rfl, Stil.below HK1.out⟩
set_option maxRecDepth 100000 in
set_option maxHeartbeats 8000000 in
theorem gagree_ok (hP : PlayAt) {W : World} {n d T L : Nat} (x : Bool) (hT : T < 4294967296) (hL : L < 18446744073709551616) (h2 : 2 ≤ n) (h7 : n ≤ 7) (hd : d ≤ 2) (ho : ¬ 2 ^ n ≤ T) (hn3 : 3 * d < n) (hf : szG T 32 ≤ d) :
    Calls Try.prog 4 #[.int .i64 (n : Int), .int .i64 (d : Int), .int .u32 (T : Int), .bool x, .int .u64 (L : Int)] W fun e W2 => e = .returned (.bool true) ∧ Below W.heap.size W W2 := by
  have HPl := hidMk (play_good hP (W := W) x hT hL h2 h7 hd ho)
  have HO := hidMk (fun w => outsideG_any T n hT (by omega) w)
  rw [decide_eq_false ho] at HO
  have HFw := hidMk (fun w => fewG_any T n d hT (by omega) ho w)
  have q1 : (2 : Int) ≤ (n : Int) := by omega
  have q2 : (n : Int) ≤ 7 := by omega
  have q3 : (0 : Int) ≤ (d : Int) := by omega
  have q4 : (d : Int) ≤ 2 := by omega
  obtain ⟨kk, hkk⟩ : ∃ kk, n - 1 = kk := ⟨_, rfl⟩
  have HNk : Hid (n = kk + 1) := by show n = kk + 1; omega
  have hw1 : IntKind.i64.wrap ((n : Int) - 1) = (kk : Int) := by
    rw [show (n : Int) - 1 = (kk : Int) by omega]
    have : kk ≤ 6 := by omega
    obtain rfl | rfl | rfl | rfl | rfl | rfl | rfl : kk = 0 ∨ kk = 1 ∨ kk = 2 ∨ kk = 3 ∨ kk = 4 ∨ kk = 5 ∨ kk = 6 := by omega
    all_goals decide
  have g1 : ((kk : Int) != (kk : Int)) = false := by simp
  have hw2 : IntKind.i64.wrap (3 * (d : Int)) = 3 * (d : Int) := by
    obtain rfl | rfl | rfl : d = 0 ∨ d = 1 ∨ d = 2 := by omega
    all_goals decide
  rw [hkk] at HPl
  have z1 : 3 * (d : Int) < (n : Int) := by omega
  rw [decide_eq_true hf] at HFw
  have hcount : (if T.testBit 0 = true then 1 else 0) + (allG kk).countP T.testBit ≤ d := by
    rw [szG_all]
    have := szG_mono T (kk + 1) (32 - (kk + 1))
    rw [show kk + 1 + (32 - (kk + 1)) = 32 by omega] at this
    omega
  have HAg : Hid (∀ p q, p < kk → q < kk → T.testBit (p + 1) = false → T.testBit (q + 1) = false → holdsG T.testBit L.testBit d [0] (allG kk) (p + 1) x = holdsG T.testBit L.testBit d [0] (allG kk) (q + 1) x) := hidMk (fun p q hp hq tp tq =>
    agree_holds d [0] (allG kk) (p + 1) (q + 1) x (allG_nodup kk) hcount (by rw [allG_len]; omega) (List.mem_of_getElem? (allG_at hp)) (List.mem_of_getElem? (allG_at hq)) tp tq)
  have HLo : Hid (T.testBit 0 = false → ∀ p, p < kk → T.testBit (p + 1) = false → holdsG T.testBit L.testBit d [0] (allG kk) (p + 1) x = x) := hidMk (fun t0 p hp tp =>
    loyal_holds d [0] (allG kk) (p + 1) x d (allG_nodup kk) t0 (by omega) (by rw [allG_len]; omega) (List.mem_of_getElem? (allG_at hp)) tp)
  clear ho hf hcount
  go_enter Try.func4, Try.ntmps4
  go_wp2_with (first | (go_at_call 6; refine (HPl.out).mono ?_; rintro e w1 ⟨hk1, a1, c1, rfl, hr1⟩; have HR1 := hidMk hr1; have HK1 := hidMk hk1; clear hr1 hk1) | (go_at_call 7; refine (HO.out _).mono ?_; rintro e w2 ⟨rfl, hw⟩; obtain rfl := hw.symm) | (go_at_call 10; refine (HFw.out _).mono ?_; rintro e w3 ⟨rfl, hw⟩; obtain rfl := hw.symm))
  obtain ⟨r1, r2, _, r4⟩ := HR1.out
  rcases r4 with r4 | ⟨bb, off, rfl, hbb, hcb⟩
  · omega
  have HCb : Hid (∀ p, p < kk → w1.cell? ⟨bb, off + p, none⟩ = some (.bool (holdsG T.testBit L.testBit d [0] (allG kk) (p + 1) x))) := hidMk (fun p hp => hcb p _ (by simp [heldG, hp, hkk]))
  clear r1 hbb hcb HR1 HPl HO HFw hkk
  generalize hT0 : T.testBit 0 = t0 at *
  have HB0 : Hid (∀ w, Calls Try.prog 11 #[.int .u32 (T : Int), .int .i64 0] w fun e w' => e = .returned (.bool t0) ∧ w' = w) := hidMk (fun w => by have := bitG_any T 0 hT (by omega) w; rw [hT0] at this; exact this)
  clear hT0
  go_loopw [13, 14, 15] (fun v13 v14 u wr => ∃ (k q : Nat) (sm hd : Bool), q ≤ kk ∧ u = .int .i64 (k : Int) ∧ v13 = .bool sm ∧ v14 = .bool hd ∧ Hid (k = q + 1) ∧ Hid (sm = true → ∃ p, p < kk ∧ T.testBit (p + 1) = false ∧ hd = holdsG T.testBit L.testBit d [0] (allG kk) (p + 1) x) ∧ wr = w1) (fun _ _ u _ => kk + 1 - (intOf u).toNat)
  case atStart => exact ⟨1, 0, false, false, Nat.zero_le _, rfl, rfl, rfl, rfl, hidMk (fun e => by cases e), rfl⟩
  case round =>
    obtain ⟨k, q, sm, hd, hq, rfl, rfl, rfl, HKq, HSm, hwr⟩ := hrel
    subst hwr
    have hkq := HKq.out
    have hnk := HNk.out
    by_cases hlt : q < kk
    · have l1 : (k : Int) < (n : Int) := by omega
      have l2 : IntKind.i64.wrap ((k : Int) - 1) = (q : Int) := by
        rw [show (k : Int) - 1 = (q : Int) by omega]
        obtain rfl | rfl | rfl | rfl | rfl | rfl : q = 0 ∨ q = 1 ∨ q = 2 ∨ q = 3 ∨ q = 4 ∨ q = 5 := by omega
        all_goals decide
      have l3 : (q : Int) < (kk : Int) := by omega
      have l4 : (k : Int) ≤ 7 := by omega
      have d0 := HCb.out q hlt
      have HBk0 := hidMk (fun w => bitG_any T k hT (by omega) w)
      have HQk : Hid (q < kk) := hlt
      rw [HKq.out] at HBk0
      have HBk : Hid (∀ w, Calls Try.prog 11 #[.int .u32 (T : Int), .int .i64 (k : Int)] w fun e w' => e = .returned (.bool (T.testBit (q + 1))) ∧ w' = w) := hidMk (fun w => by rw [HKq.out]; exact HBk0.out w)
      clear HBk0 hkq hnk
      cases ht : T.testBit (q + 1)
      · rw [ht] at HBk
        have HLy := hidMk ht
        have HLo2 : Hid (t0 = false → holdsG T.testBit L.testBit d [0] (allG kk) (q + 1) x = x) := hidMk (fun e => HLo.out e q HQk.out HLy.out)
        have HSm2 : Hid (sm = true → hd = holdsG T.testBit L.testBit d [0] (allG kk) (q + 1) x) := hidMk (fun e => by
          obtain ⟨p, p1, p2, p3⟩ := HSm.out e
          rw [p3]
          exact HAg.out p q p1 HQk.out p2 HLy.out)
        obtain ⟨y, hy⟩ : ∃ y, y = holdsG T.testBit L.testBit d [0] (allG kk) (q + 1) x := ⟨_, rfl⟩
        rw [← hy] at d0 HLo2 HSm2
        have HVq := hidMk hy
        clear hy ht HSm
        have z3 : (y != y) = false := by simp
        cases sm with
        | true =>
          obtain rfl : hd = y := HSm2.out rfl
          cases t0 with
          | true =>
            go_wp2_with (first | (go_at_call 11; refine (HBz.out _).mono ?_; rintro e w4 ⟨rfl, hw⟩; obtain rfl := hw.symm) | (go_at_call 11; refine (HBk.out _).mono ?_; rintro e w4 ⟨rfl, hw⟩; obtain rfl := hw.symm; have HBz := HB0))
            go_roundw
            case rel => exact ⟨k + 1, q + 1, true, _, by omega, by go_num, rfl, rfl, hidMk (by rw [HKq.out]), hidMk (fun _ => ⟨q, HQk.out, HLy.out, HVq.out⟩), by trivial⟩
            case measure => simp [intOf]; have := HKq.out; omega
          | false =>
            obtain rfl : hd = x := HLo2.out rfl
            go_wp2_with (first | (go_at_call 11; refine (HBz.out _).mono ?_; rintro e w4 ⟨rfl, hw⟩; obtain rfl := hw.symm) | (go_at_call 11; refine (HBk.out _).mono ?_; rintro e w4 ⟨rfl, hw⟩; obtain rfl := hw.symm; have HBz := HB0))
            go_roundw
            case rel => exact ⟨k + 1, q + 1, true, _, by omega, by go_num, rfl, rfl, hidMk (by rw [HKq.out]), hidMk (fun _ => ⟨q, HQk.out, HLy.out, HVq.out⟩), by trivial⟩
            case measure => simp [intOf]; have := HKq.out; omega
        | false =>
          cases t0 with
          | true =>
            go_wp2_with (first | (go_at_call 11; refine (HBz.out _).mono ?_; rintro e w4 ⟨rfl, hw⟩; obtain rfl := hw.symm) | (go_at_call 11; refine (HBk.out _).mono ?_; rintro e w4 ⟨rfl, hw⟩; obtain rfl := hw.symm; have HBz := HB0))
            go_roundw
            case rel => exact ⟨k + 1, q + 1, true, _, by omega, by go_num, rfl, rfl, hidMk (by rw [HKq.out]), hidMk (fun _ => ⟨q, HQk.out, HLy.out, HVq.out⟩), by trivial⟩
            case measure => simp [intOf]; have := HKq.out; omega
          | false =>
            obtain rfl : y = x := HLo2.out rfl
            go_wp2_with (first | (go_at_call 11; refine (HBz.out _).mono ?_; rintro e w4 ⟨rfl, hw⟩; obtain rfl := hw.symm) | (go_at_call 11; refine (HBk.out _).mono ?_; rintro e w4 ⟨rfl, hw⟩; obtain rfl := hw.symm; have HBz := HB0))
            go_roundw
            case rel => exact ⟨k + 1, q + 1, true, _, by omega, by go_num, rfl, rfl, hidMk (by rw [HKq.out]), hidMk (fun _ => ⟨q, HQk.out, HLy.out, HVq.out⟩), by trivial⟩
            case measure => simp [intOf]; have := HKq.out; omega
      · rw [ht] at HBk
        clear ht
        go_wp2_with (go_at_call 11; refine (HBk.out _).mono ?_; rintro e w4 ⟨rfl, hw⟩; obtain rfl := hw.symm)
        go_roundw
        case rel => exact ⟨k + 1, q + 1, sm, hd, by omega, by go_num, rfl, rfl, hidMk (by rw [HKq.out]), HSm, by trivial⟩
        case measure => simp [intOf]; have := HKq.out; omega
    · have l1 : (n : Int) ≤ (k : Int) := by omega
      clear hkq hnk
      go_wp2
      go_ret
      exact ⟨rfl, Stil.below HK1.out⟩
theorem gagree_walk (hP : PlayAt) {W : World} (n m : Int) (T L : Nat) (x : Bool) (hT : T < 4294967296) (hL : L < 18446744073709551616) :
    Calls Try.prog 4 #[.int .i64 n, .int .i64 m, .int .u32 (T : Int), .bool x, .int .u64 (L : Int)] W fun e W2 => e = .returned (.bool true) ∧ Below W.heap.size W W2 := by
  by_cases h1 : genC n m T = 1
  · exact gagree_large hP n m T L x hT hL h1
  · obtain ⟨nn, d, rfl, rfl, g1, g2, g3, g4⟩ := gen_ok h1
    by_cases ho : 2 ^ nn ≤ T
    · rw [if_pos ho] at g4
      exact gagree_out hP x hT hL g1 g2 g3 g4 ho
    · by_cases hm : nn ≤ 3 * d ∨ d < szG T 32
      · exact gagree_many hP x hT hL g1 g2 g3 ho hm
      · exact gagree_ok hP x hT hL g1 g2 g3 ho (by omega) (by omega)
end Go.Proofs.Ytekbglmoibglnaa
