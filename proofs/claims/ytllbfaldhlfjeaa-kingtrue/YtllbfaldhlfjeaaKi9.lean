/- King: KingAgrees, walked, from what Play tells. -/
import Derived.Test.YtllbfaldhlfjeaaKi8
namespace Go.Proofs.Ytllbfaldhlfjeaa
open Go.RowKit
set_option linter.unusedVariables false

set_option maxRecDepth 100000 in
set_option maxHeartbeats 4000000 in
theorem kagree_bad (hP : KPlayAt) {W : World} (n t : Int) (T V : Nat) {la : Option Addr} {ll lc : Nat} {ls : List Nat} (hT : T < 4294967296) (hV : V < 4294967296) (hq : RowQ W la ll lc ls) (hc : kingC n t T V ≠ 0) :
    Calls Try.prog 4 #[.int .i64 n, .int .i64 t, .int .u32 (T : Int), .int .u32 (V : Int), .slice la ll lc] W fun e W2 => e = .returned (.bool true) ∧ Below W.heap.size W W2 := by
  by_cases hc1 : kingC n t T V = 1
  · have HPl := hidMk (kplay_bad hP (W := W) hT hV hq hc1 (by decide))
    have h := kingC_one hc1
    clear hc hc1 hq
    by_cases h1 : n < 1
    · clear h
      go_enter Try.func4, Try.ntmps4
      go_wp2_with (go_at_call 6; refine (HPl.out).mono ?_; rintro e w1 ⟨hk1, rfl⟩)
      go_ret
      exact ⟨rfl, Stil.below hk1⟩
    · have h1' : 1 ≤ n := by omega
      by_cases h2 : 9 < n
      · clear h
        go_enter Try.func4, Try.ntmps4
        go_wp2_with (go_at_call 6; refine (HPl.out).mono ?_; rintro e w1 ⟨hk1, rfl⟩)
        go_ret
        exact ⟨rfl, Stil.below hk1⟩
      · have h2' : n ≤ 9 := by omega
        have hw : IntKind.i64.wrap (n - 1) = n - 1 := wrapG ⟨by omega, by omega⟩
        by_cases h3 : t < 0
        · clear h
          go_enter Try.func4, Try.ntmps4
          go_wp2_with (go_at_call 6; refine (HPl.out).mono ?_; rintro e w1 ⟨hk1, rfl⟩)
          go_ret
          exact ⟨rfl, Stil.below hk1⟩
        · have h3' : 0 ≤ t := by omega
          have h4 : n - 1 < t := by omega
          clear h
          go_enter Try.func4, Try.ntmps4
          go_wp2_with (go_at_call 6; refine (HPl.out).mono ?_; rintro e w1 ⟨hk1, rfl⟩)
          go_ret
          exact ⟨rfl, Stil.below hk1⟩
  · obtain ⟨n, t, rfl, rfl, g1, g2, g3, g4⟩ := kingC_ok hc1
    have ho : 2 ^ n ≤ T ∨ 2 ^ n ≤ V := by
      apply Classical.byContradiction
      intro h
      rw [if_neg h] at g4
      exact hc g4
    rw [if_pos ho] at g4
    have HPl := hidMk (kplay_bad hP (W := W) hT hV hq g4 (by decide))
    clear hc hc1 g4 hq
    have q1 : (1 : Int) ≤ (n : Int) := by omega
    have q2 : (n : Int) ≤ 9 := by omega
    have q3 : (0 : Int) ≤ (t : Int) := by omega
    have q4 : (t : Int) ≤ (n : Int) - 1 := by omega
    have hw : IntKind.i64.wrap ((n : Int) - 1) = (n : Int) - 1 := wrapG ⟨by omega, by omega⟩
    have HOt := hidMk (fun w => outsideG_any T n hT (by omega) w)
    have HOv := hidMk (fun w => outsideG_any V n hV (by omega) w)
    by_cases o1 : 2 ^ n ≤ T
    · rw [decide_eq_true o1] at HOt
      clear o1 ho
      go_enter Try.func4, Try.ntmps4
      go_wp2_with (first | (go_at_call 6; refine (HPl.out).mono ?_; rintro e w1 ⟨hk1, rfl⟩) | (go_at_call 10; refine (HOz.out _).mono ?_; rintro e w4 ⟨rfl, hw⟩; obtain rfl := hw.symm) | (go_at_call 10; refine (HOt.out _).mono ?_; rintro e w4 ⟨rfl, hw⟩; obtain rfl := hw.symm; have HOz := HOv))
      go_ret
      exact ⟨rfl, Stil.below hk1⟩
    · rw [decide_eq_false o1] at HOt
      have o2 : 2 ^ n ≤ V := by omega
      rw [decide_eq_true o2] at HOv
      clear o1 o2 ho
      go_enter Try.func4, Try.ntmps4
      go_wp2_with (first | (go_at_call 6; refine (HPl.out).mono ?_; rintro e w1 ⟨hk1, rfl⟩) | (go_at_call 10; refine (HOz.out _).mono ?_; rintro e w4 ⟨rfl, hw⟩; obtain rfl := hw.symm) | (go_at_call 10; refine (HOt.out _).mono ?_; rintro e w4 ⟨rfl, hw⟩; obtain rfl := hw.symm; have HOz := HOv))
      go_ret
      exact ⟨rfl, Stil.below hk1⟩
set_option maxRecDepth 100000 in
set_option maxHeartbeats 4000000 in
theorem kagree_many (hP : KPlayAt) {W : World} {n t T V : Nat} {la : Option Addr} {ll lc : Nat} {ls : List Nat} (hT : T < 4294967296) (hV : V < 4294967296) (hq : RowQ W la ll lc ls) (g1 : 1 ≤ n) (g2 : n ≤ 9) (g3 : t < n) (ho1 : ¬ 2 ^ n ≤ T) (ho2 : ¬ 2 ^ n ≤ V) (hm : n ≤ 4 * t ∨ t < szG T 32) :
    Calls Try.prog 4 #[.int .i64 (n : Int), .int .i64 (t : Int), .int .u32 (T : Int), .int .u32 (V : Int), .slice la ll lc] W fun e W2 => e = .returned (.bool true) ∧ Below W.heap.size W W2 := by
  have q1 : (1 : Int) ≤ (n : Int) := by omega
  have q2 : (n : Int) ≤ 9 := by omega
  have q3 : (0 : Int) ≤ (t : Int) := by omega
  have q4 : (t : Int) ≤ (n : Int) - 1 := by omega
  have hw : IntKind.i64.wrap ((n : Int) - 1) = (n : Int) - 1 := wrapG ⟨by omega, by omega⟩
  have HOt := hidMk (fun w => outsideG_any T n hT (by omega) w)
  have HOv := hidMk (fun w => outsideG_any V n hV (by omega) w)
  rw [decide_eq_false ho1] at HOt
  rw [decide_eq_false ho2] at HOv
  have HPl := hidMk (kplay_good hP (W := W) hT hV hq g1 g2 g3 ho1 ho2)
  have HFw := hidMk (fun w => fewK_any T n t hT (by omega) ho1 w)
  have hw2 : IntKind.i64.wrap (4 * (t : Int)) = 4 * (t : Int) := wrapG ⟨by omega, by omega⟩
  have z0 : ((n : Int) != (n : Int)) = false := by simp
  by_cases hn4 : n ≤ 4 * t
  · have z1 : (n : Int) ≤ 4 * (t : Int) := by omega
    clear ho1 ho2 hm hq
    go_enter Try.func4, Try.ntmps4
    go_wp2_with (first | (go_at_call 6; refine (HPl.out).mono ?_; rintro e w1 ⟨hk1, a1, c1, rfl, hr1⟩; have HR1 := hidMk hr1; have HK1 := hidMk hk1; clear hr1 hk1) | (go_at_call 10; refine (HOz.out _).mono ?_; rintro e w4 ⟨rfl, hw⟩; obtain rfl := hw.symm) | (go_at_call 10; refine (HOt.out _).mono ?_; rintro e w4 ⟨rfl, hw⟩; obtain rfl := hw.symm; have HOz := HOv) | (go_at_call 11; refine (HFw.out _).mono ?_; rintro e w3 ⟨rfl, hw⟩; obtain rfl := hw.symm))
    go_ret
    exact ⟨rfl, Stil.below HK1.out⟩
  · have z1 : 4 * (t : Int) < (n : Int) := by omega
    rw [decide_eq_false (show ¬ szG T 32 ≤ t by omega)] at HFw
    clear ho1 ho2 hm hq
    go_enter Try.func4, Try.ntmps4
    go_wp2_with (first | (go_at_call 6; refine (HPl.out).mono ?_; rintro e w1 ⟨hk1, a1, c1, rfl, hr1⟩; have HR1 := hidMk hr1; have HK1 := hidMk hk1; clear hr1 hk1) | (go_at_call 10; refine (HOz.out _).mono ?_; rintro e w4 ⟨rfl, hw⟩; obtain rfl := hw.symm) | (go_at_call 10; refine (HOt.out _).mono ?_; rintro e w4 ⟨rfl, hw⟩; obtain rfl := hw.symm; have HOz := HOv) | (go_at_call 11; refine (HFw.out _).mono ?_; rintro e w3 ⟨rfl, hw⟩; obtain rfl := hw.symm))
    go_ret
    exact ⟨rfl, Stil.below HK1.out⟩
set_option maxRecDepth 100000 in
set_option maxHeartbeats 8000000 in
theorem kagree_ok (hP : KPlayAt) {W : World} {n t T V : Nat} {la : Option Addr} {ll lc : Nat} {ls : List Nat} (hT : T < 4294967296) (hV : V < 4294967296) (hq : RowQ W la ll lc ls) (g1 : 1 ≤ n) (g2 : n ≤ 9) (g3 : t < n) (ho1 : ¬ 2 ^ n ≤ T) (ho2 : ¬ 2 ^ n ≤ V) (hn4 : 4 * t < n) (hf : szG T 32 ≤ t) :
    Calls Try.prog 4 #[.int .i64 (n : Int), .int .i64 (t : Int), .int .u32 (T : Int), .int .u32 (V : Int), .slice la ll lc] W fun e W2 => e = .returned (.bool true) ∧ Below W.heap.size W W2 := by
  have q1 : (1 : Int) ≤ (n : Int) := by omega
  have q2 : (n : Int) ≤ 9 := by omega
  have q3 : (0 : Int) ≤ (t : Int) := by omega
  have q4 : (t : Int) ≤ (n : Int) - 1 := by omega
  have hw : IntKind.i64.wrap ((n : Int) - 1) = (n : Int) - 1 := wrapG ⟨by omega, by omega⟩
  have HOt := hidMk (fun w => outsideG_any T n hT (by omega) w)
  have HOv := hidMk (fun w => outsideG_any V n hV (by omega) w)
  rw [decide_eq_false ho1] at HOt
  rw [decide_eq_false ho2] at HOv
  have HPl := hidMk (kplay_good hP (W := W) hT hV hq g1 g2 g3 ho1 ho2)
  have HFw := hidMk (fun w => fewK_any T n t hT (by omega) ho1 w)
  have hw2 : IntKind.i64.wrap (4 * (t : Int)) = 4 * (t : Int) := wrapG ⟨by omega, by omega⟩
  have z0 : ((n : Int) != (n : Int)) = false := by simp
  rw [decide_eq_true hf] at HFw
  have z1 : 4 * (t : Int) < (n : Int) := by omega
  have hcount : (List.range n).countP T.testBit ≤ t := by
    have := szG_mono T n (32 - n)
    rw [show n + (32 - n) = 32 by omega] at this
    exact Nat.le_trans this hf
  have HAg : Hid (∃ x, ∀ p, p < n → T.testBit p = false → kingAt T.testBit (lieK ls) n t V.testBit (t + 1) p = x) := hidMk (king_agree hn4 hcount)
  have HFr : Hid (∀ x, (∀ p, p < n → T.testBit p = false → V.testBit p = x) → ∀ p, p < n → T.testBit p = false → kingAt T.testBit (lieK ls) n t V.testBit (t + 1) p = x) := hidMk (fun x h => king_first hn4 hcount h)
  clear ho1 ho2 hf hcount hq
  generalize kingAt T.testBit (lieK ls) n t V.testBit (t + 1) = fin at *
  go_enter Try.func4, Try.ntmps4
  go_wp2_with (first | (go_at_call 6; refine (HPl.out).mono ?_; rintro e w1 ⟨hk1, a1, c1, rfl, hr1⟩; have HR1 := hidMk hr1; have HK1 := hidMk hk1; clear hr1 hk1) | (go_at_call 10; refine (HOz.out _).mono ?_; rintro e w4 ⟨rfl, hw⟩; obtain rfl := hw.symm) | (go_at_call 10; refine (HOt.out _).mono ?_; rintro e w4 ⟨rfl, hw⟩; obtain rfl := hw.symm; have HOz := HOv) | (go_at_call 11; refine (HFw.out _).mono ?_; rintro e w3 ⟨rfl, hw⟩; obtain rfl := hw.symm))
  obtain ⟨r1, r2, _, r4⟩ := HR1.out
  rcases r4 with r4 | ⟨bb, off, rfl, hbb, hcb⟩
  · omega
  have HCb : Hid (∀ p, p < n → w1.cell? ⟨bb, off + p, none⟩ = some (.bool (fin p))) := hidMk (fun p hp => hcb p _ (rowV_at hp))
  clear r1 hbb hcb HR1 HPl HOt HOv HFw
  go_loopw [13, 14, 15, 16, 17] (fun v13 v14 v15 v16 u wr => ∃ (i : Nat) (sm en same fst : Bool), i ≤ n ∧ u = .int .i64 (i : Int) ∧ v13 = .bool sm ∧ v14 = .bool en ∧ v15 = .bool same ∧ v16 = .bool fst ∧ Hid (sm = true → ∃ p, p < n ∧ T.testBit p = false ∧ en = fin p ∧ fst = V.testBit p) ∧ Hid (sm = false → ∀ p, p < i → T.testBit p = true) ∧ Hid (same = true → ∀ p, p < i → T.testBit p = false → V.testBit p = fst) ∧ wr = w1) (fun _ _ _ _ u _ => n - (intOf u).toNat)
  case atStart => exact ⟨0, false, false, true, false, Nat.zero_le _, rfl, rfl, rfl, rfl, rfl, hidMk (fun e => by cases e), hidMk (fun _ p hp => by omega), hidMk (fun _ p hp => by omega), rfl⟩
  case round =>
    obtain ⟨i, sm, en, same, fst, hi, rfl, rfl, rfl, rfl, rfl, HSm, HNo, HSa, hwr⟩ := hrel
    subst hwr
    by_cases hlt : i < n
    · have l1 : (i : Int) < (n : Int) := by omega
      have l2 : (i : Int) ≤ 9 := by omega
      have d0 := HCb.out i hlt
      have HLt : Hid (i < n) := hlt
      have HBt0 := hidMk (fun w => bitG_any T i hT (by omega) w)
      have HBv := hidMk (fun w => bitG_any V i hV (by omega) w)
      cases ht : T.testBit i
      · have HLy := hidMk ht
        have HBt : Hid (∀ w, Calls Try.prog 12 #[.int .u32 (T : Int), .int .i64 (i : Int)] w fun e w' => e = .returned (.bool false) ∧ w' = w) := hidMk (fun w => by have := HBt0.out w; rw [ht] at this; exact this)
        clear HBt0 ht
        obtain ⟨y, hy⟩ : ∃ y, y = fin i := ⟨_, rfl⟩
        rw [← hy] at d0
        have HFi := hidMk hy
        obtain ⟨v, hv⟩ : ∃ v, v = V.testBit i := ⟨_, rfl⟩
        rw [← hv] at HBv
        have HVi := hidMk hv
        clear hy hv
        cases sm with
        | true =>
          have hen : en = y := by
            obtain ⟨x, hx⟩ := HAg.out
            obtain ⟨p, p1, p2, p3, _⟩ := HSm.out rfl
            rw [p3, HFi.out, hx p p1 p2, hx i HLt.out HLy.out]
          subst hen
          have z3 : (en != en) = false := by simp
          cases same with
          | true =>
            have HSm9 : Hid ((v == fst) = true → ∀ p, p < i + 1 → T.testBit p = false → V.testBit p = v) := hidMk (fun e p hp hpt => by
              have e2 : v = fst := by simpa using e
              by_cases hpi : p = i
              · rw [hpi]; exact HVi.out.symm
              · rw [e2]; exact HSa.out rfl p (by omega) hpt)
            go_wp2_with (first | (go_at_call 12; refine (HBy.out _).mono ?_; rintro e w4 ⟨rfl, hw⟩; obtain rfl := hw.symm) | (go_at_call 12; refine (HBt.out _).mono ?_; rintro e w4 ⟨rfl, hw⟩; obtain rfl := hw.symm; have HBy := HBv))
            go_roundw
            case rel => exact ⟨i + 1, true, _, (v == fst), v, by omega, by go_num, rfl, rfl, rfl, rfl, hidMk (fun _ => ⟨i, HLt.out, HLy.out, HFi.out, HVi.out⟩), hidMk (fun e => by cases e), HSm9, by trivial⟩
            case measure => simp [intOf]; omega
          | false =>
            have HSm9 : Hid (false = true → ∀ p, p < i + 1 → T.testBit p = false → V.testBit p = v) := hidMk (fun e => by cases e)
            go_wp2_with (first | (go_at_call 12; refine (HBy.out _).mono ?_; rintro e w4 ⟨rfl, hw⟩; obtain rfl := hw.symm) | (go_at_call 12; refine (HBt.out _).mono ?_; rintro e w4 ⟨rfl, hw⟩; obtain rfl := hw.symm; have HBy := HBv))
            go_roundw
            case rel => exact ⟨i + 1, true, _, false, v, by omega, by go_num, rfl, rfl, rfl, rfl, hidMk (fun _ => ⟨i, HLt.out, HLy.out, HFi.out, HVi.out⟩), hidMk (fun e => by cases e), HSm9, by trivial⟩
            case measure => simp [intOf]; omega
        | false =>
          cases same with
          | true =>
            have HSm9 : Hid (∀ p, p < i + 1 → T.testBit p = false → V.testBit p = v) := hidMk (fun p hp hpt => by
              by_cases hpi : p = i
              · rw [hpi]; exact HVi.out.symm
              · have := HNo.out rfl p (by omega)
                rw [hpt] at this; cases this)
            go_wp2_with (first | (go_at_call 12; refine (HBy.out _).mono ?_; rintro e w4 ⟨rfl, hw⟩; obtain rfl := hw.symm) | (go_at_call 12; refine (HBt.out _).mono ?_; rintro e w4 ⟨rfl, hw⟩; obtain rfl := hw.symm; have HBy := HBv))
            go_roundw
            case rel => exact ⟨i + 1, true, _, true, v, by omega, by go_num, rfl, rfl, rfl, rfl, hidMk (fun _ => ⟨i, HLt.out, HLy.out, HFi.out, HVi.out⟩), hidMk (fun e => by cases e), hidMk (fun _ => HSm9.out), by trivial⟩
            case measure => simp [intOf]; omega
          | false =>
            have HSm9 : Hid (false = true → ∀ p, p < i + 1 → T.testBit p = false → V.testBit p = v) := hidMk (fun e => by cases e)
            go_wp2_with (first | (go_at_call 12; refine (HBy.out _).mono ?_; rintro e w4 ⟨rfl, hw⟩; obtain rfl := hw.symm) | (go_at_call 12; refine (HBt.out _).mono ?_; rintro e w4 ⟨rfl, hw⟩; obtain rfl := hw.symm; have HBy := HBv))
            go_roundw
            case rel => exact ⟨i + 1, true, _, false, v, by omega, by go_num, rfl, rfl, rfl, rfl, hidMk (fun _ => ⟨i, HLt.out, HLy.out, HFi.out, HVi.out⟩), hidMk (fun e => by cases e), HSm9, by trivial⟩
            case measure => simp [intOf]; omega
      · have HBt : Hid (∀ w, Calls Try.prog 12 #[.int .u32 (T : Int), .int .i64 (i : Int)] w fun e w' => e = .returned (.bool true) ∧ w' = w) := hidMk (fun w => by have := HBt0.out w; rw [ht] at this; exact this)
        have HTt := hidMk ht
        clear HBt0 ht
        go_wp2_with (go_at_call 12; refine (HBt.out _).mono ?_; rintro e w4 ⟨rfl, hw⟩; obtain rfl := hw.symm)
        go_roundw
        case rel => exact ⟨i + 1, sm, en, same, fst, by omega, by go_num, rfl, rfl, rfl, rfl, HSm, hidMk (fun e p hp => by
          by_cases hpi : p = i
          · rw [hpi]; exact HTt.out
          · exact HNo.out e p (by omega)), hidMk (fun e p hp hpt => by
          by_cases hpi : p = i
          · rw [hpi, HTt.out] at hpt; cases hpt
          · exact HSa.out e p (by omega) hpt), by trivial⟩
        case measure => simp [intOf]; omega
    · obtain rfl : i = n := by omega
      have l1 : (i : Int) ≤ (i : Int) := by omega
      cases same with
      | true =>
        cases sm with
        | true =>
          have hen : en = fst := by
            obtain ⟨p, p1, p2, p3, p4⟩ := HSm.out rfl
            rw [p3]
            exact HFr.out fst (fun q hq hqt => HSa.out rfl q hq hqt) p p1 p2
          subst hen
          have z3 : (en == en) = true := by simp
          go_wp2
          go_ret
          exact ⟨rfl, Stil.below HK1.out⟩
        | false =>
          go_wp2
          go_ret
          exact ⟨rfl, Stil.below HK1.out⟩
      | false =>
        go_wp2
        go_ret
        exact ⟨rfl, Stil.below HK1.out⟩
theorem kagree_walk (hP : KPlayAt) {W : World} (n t : Int) (T V : Nat) {la : Option Addr} {ll lc : Nat} {ls : List Nat} (hT : T < 4294967296) (hV : V < 4294967296) (hq : RowQ W la ll lc ls) :
    Calls Try.prog 4 #[.int .i64 n, .int .i64 t, .int .u32 (T : Int), .int .u32 (V : Int), .slice la ll lc] W fun e W2 => e = .returned (.bool true) ∧ Below W.heap.size W W2 := by
  by_cases hc : kingC n t T V = 0
  · obtain ⟨n, t, rfl, rfl, g1, g2, g3, g4⟩ := kingC_ok (by rw [hc]; decide)
    have ho : ¬ (2 ^ n ≤ T ∨ 2 ^ n ≤ V) := by
      intro h
      rw [hc, if_pos h] at g4
      exact absurd g4 (by decide)
    by_cases hm : n ≤ 4 * t ∨ t < szG T 32
    · exact kagree_many hP hT hV hq g1 g2 g3 (by omega) (by omega) hm
    · exact kagree_ok hP hT hV hq g1 g2 g3 (by omega) (by omega) (by omega) (by omega)
  · exact kagree_bad hP n t T V hT hV hq hc
end Go.Proofs.Ytllbfaldhlfjeaa
