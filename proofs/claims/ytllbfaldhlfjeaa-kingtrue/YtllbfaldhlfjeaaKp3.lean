/- King, the project's: what Play tells. -/
import Derived.Test.YtllbfaldhlfjeaaKp2
namespace Go.Proofs.Ytllbfaldhlfjeaa
open Go.RowKit
set_option linter.unusedVariables false

set_option maxHeartbeats 4000000 in
theorem kingcheck_any (n t : Int) (T V : Nat) (hT : T < 4294967296) (hV : V < 4294967296) (W : World) :
    Calls Try.prog 14 #[.int .i64 n, .int .i64 t, .int .u32 (T : Int), .int .u32 (V : Int)] W fun e w2 => e = .returned (.int .i64 (kingC n t T V)) ∧ w2 = W := by
  by_cases hc : kingC n t T V = 1
  · have h := kingC_one hc
    rw [hc]
    clear hc
    by_cases h1 : n < 1
    · clear h
      go_enter Try.func14, Try.ntmps14
      go_wp2
      go_ret
      exact ⟨rfl, rfl⟩
    · have h1' : 1 ≤ n := by omega
      by_cases h2 : 9 < n
      · clear h
        go_enter Try.func14, Try.ntmps14
        go_wp2
        go_ret
        exact ⟨rfl, rfl⟩
      · have h2' : n ≤ 9 := by omega
        have hw : IntKind.i64.wrap (n - 1) = n - 1 := wrapG ⟨by omega, by omega⟩
        by_cases h3 : t < 0
        · clear h
          go_enter Try.func14, Try.ntmps14
          go_wp2
          go_ret
          exact ⟨rfl, rfl⟩
        · have h3' : 0 ≤ t := by omega
          have h4 : n - 1 < t := by omega
          clear h
          go_enter Try.func14, Try.ntmps14
          go_wp2
          go_ret
          exact ⟨rfl, rfl⟩
  · obtain ⟨n, t, rfl, rfl, g1, g2, g3, g4⟩ := kingC_ok hc
    rw [g4]
    clear hc g4
    have q1 : (1 : Int) ≤ (n : Int) := by omega
    have q2 : (n : Int) ≤ 9 := by omega
    have q3 : (0 : Int) ≤ (t : Int) := by omega
    have q4 : (t : Int) ≤ (n : Int) - 1 := by omega
    have hw : IntKind.i64.wrap ((n : Int) - 1) = (n : Int) - 1 := wrapG ⟨by omega, by omega⟩
    by_cases o1 : 2 ^ n ≤ T
    · rw [if_pos (.inl o1)]
      have s1 := shr_neK T n o1
      clear o1
      go_enter Try.func14, Try.ntmps14
      go_wp2
      go_ret
      exact ⟨rfl, rfl⟩
    · have s1 := shr_eqK T n o1
      by_cases o2 : 2 ^ n ≤ V
      · rw [if_pos (.inr o2)]
        have s2 := shr_neK V n o2
        clear o1 o2
        go_enter Try.func14, Try.ntmps14
        go_wp2
        go_ret
        exact ⟨rfl, rfl⟩
      · rw [if_neg (by omega)]
        have s2 := shr_eqK V n o2
        clear o1 o2
        go_enter Try.func14, Try.ntmps14
        go_wp2
        go_ret
        exact ⟨rfl, rfl⟩
set_option maxHeartbeats 4000000 in
theorem kingplay_bad (W : World) (n t : Int) (T V : Nat) (la : Option Addr) (ll lc : Nat) (hT : T < 4294967296) (hV : V < 4294967296) (h : kingC n t T V ≠ 0) :
    Calls Try.prog 6 #[.int .i64 n, .int .i64 t, .int .u32 (T : Int), .int .u32 (V : Int), .slice la ll lc] W fun e W2 => e = .returned (.tuple #[.slice none 0 0, .int .i64 (kingC n t T V)]) ∧ W2 = W := by
  have HC := hidMk (kingcheck_any n t T V hT hV W)
  generalize kingC n t T V = rc at *
  have q1 : (rc != 0) = true := by simpa using h
  clear h
  go_enter Try.func6, Try.ntmps6
  go_wp2_with (go_at_call 14; refine (HC.out).mono ?_; rintro e w2 ⟨rfl, rfl⟩)
  go_ret2
  exact ⟨rfl, rfl⟩
set_option maxRecDepth 100000 in
set_option maxHeartbeats 16000000 in
theorem kingplay_good (W : World) {n t T V ll lc : Nat} {la : Option Addr} {ls : List Nat} (hT : T < 4294967296) (hV : V < 4294967296) (hq : RowQ W la ll lc ls) (h1 : 1 ≤ n) (hn : n ≤ 9) (htn : t < n) (hg : kingC (n : Int) (t : Int) T V = 0) :
    Calls Try.prog 6 #[.int .i64 (n : Int), .int .i64 (t : Int), .int .u32 (T : Int), .int .u32 (V : Int), .slice la ll lc] W fun e w2 => Stil W w2 ∧ ∃ a c, e = .returned (.tuple #[.slice a n c, .int .i64 0]) ∧ RowO w2 a n c (rowV n (kingAt T.testBit (lieK ls) n t V.testBit (t + 1))) := by
  have hck := kingcheck_any n t T V hT hV W
  rw [hg] at hck
  have HCk := hidMk hck
  have hn9 : (n : Int) ≤ 9 := by omega
  have ht9 : (t : Int) ≤ 9 := by omega
  have hmk := kMakeBools n (by omega)
  have HHa : Hid (∀ i wx, i < n → Calls Try.prog 15 #[.int .u32 (V : Int), .int .i64 (i : Int)] wx fun e w' => e = .returned (.bool (V.testBit i)) ∧ w' = wx) := fun i wx hi => khas_any V i hV (by omega) wx
  have HHo : Hid (∀ k va vc s wx, k < n → Stil W wx → RowO wx va n vc (rowV n s) → Calls Try.prog 16 #[.agg #[.int .i64 (n : Int), .int .i64 (t : Int), .int .u32 (T : Int), .slice la ll lc], .int .i64 (k : Int), .slice va n vc] wx fun e w2 => ∃ a c, e = .returned (.slice a n c) ∧ RowO w2 a n c (rowV n (nextK T.testBit (lieK ls) n t s k)) ∧ Stil wx w2) := fun k va vc s wx hk hx hv => hold_any (t := t) hT h1 hn htn hk (hq.still hx) hv
  have HAt : Hid (∀ k, kingAt T.testBit (lieK ls) n t V.testBit (k + 1) = nextK T.testBit (lieK ls) n t (kingAt T.testBit (lieK ls) n t V.testBit k) k) := fun k => rfl
  have HA0 : Hid (kingAt T.testBit (lieK ls) n t V.testBit 0 = V.testBit) := rfl
  clear hck hg hq
  generalize kingAt T.testBit (lieK ls) n t V.testBit = ka at *
  generalize V.testBit = vb at *
  go_enter Try.func6, Try.ntmps6
  go_wp2_with (go_at_call 14; refine (HCk.out).mono ?_; rintro e w1 ⟨rfl, rfl⟩)
  obtain ⟨g, hgd⟩ : ∃ g, g = w1.heap.size := ⟨_, rfl⟩
  have HB0 : Hid (BoRow (w1.alloc (.cells ((List.range n).map fun _ => Value.bool false).toArray 4)) g n (fun q => if q < 0 then vb q else false)) := by
    show BoRow _ _ _ _
    rw [hgd]
    exact (boRow_made w1 n).same (fun i _ => by rw [if_neg (by omega)])
  have HK0 : Hid (Stil w1 (w1.alloc (.cells ((List.range n).map fun _ => Value.bool false).toArray 4))) := Stil.new _ _
  have hgW : w1.heap.size ≤ g := by omega
  rw [← hgd]
  clear hgd
  generalize w1.alloc (.cells ((List.range n).map fun _ => Value.bool false).toArray 4) = wa at *
  go_loopw [29] (fun u wr => ∃ i : Nat, i ≤ n ∧ u = .int .i64 (i : Int) ∧ Hid (BoRow wr g n (fun q => if q < i then vb q else false)) ∧ Hid (Stil w1 wr)) (fun u _ => n - (intOf u).toNat)
  case atStart => exact ⟨0, Nat.zero_le _, rfl, HB0, HK0⟩
  case round =>
    clear HB0 HK0
    obtain ⟨wx, rfl⟩ : ∃ w' : World, w' = wr := ⟨_, rfl⟩
    obtain ⟨i, hi, rfl, HO, HK⟩ := hrel
    by_cases hlt : i < n
    · have hlt' : (i : Int) < (n : Int) := by omega
      have HH := hidMk (HHa.out i wx hlt)
      have HSt := hidMk (step_bo i vb)
      have c0 := HO.out.cell hlt
      have f0 := HO.out.frozen i
      have HO6 := hidMk (HO.out.set hlt (vb i))
      have HK6 := hidMk (Keep.setCell HK.out g i (.bool (vb i)) (fun h => absurd h (by omega)))
      rw [HSt.out] at HO6
      generalize vb i = x at *
      go_wp2_with (go_at_call 15; refine (HH.out).mono ?_; rintro e w5 ⟨rfl, hw⟩; obtain rfl := hw.symm)
      go_roundw
      case rel => exact ⟨i + 1, by omega, by go_num, HO6, HK6⟩
      case measure => simp [intOf]; omega
    · obtain rfl : i = n := by omega
      have l1 : (i : Int) ≤ (i : Int) := by omega
      have HR : Hid (RowO wx (some ⟨g, 0, none⟩) i i (rowV i (ka 0))) := by
        show RowO _ _ _ _ _
        rw [HA0.out]
        exact (HO.out.same (fun q hq => by rw [if_pos hq]) : BoRow wx g i vb).rowO (by omega)
      obtain ⟨y0, y1, y2, y3⟩ := box4_cells wx (.int .i64 (i : Int)) (.int .i64 (t : Int)) (.int .u32 (T : Int)) (.slice la ll lc) 37
      have HN : Hid (Stil wx (wx.alloc (.cells #[.int .i64 (i : Int), .int .i64 (t : Int), .int .u32 (T : Int), .slice la ll lc] 37))) := Stil.new _ _
      have HR2 := hidMk (HR.out.still HN.out)
      have HN2 := hidMk (HK.out.tr HN.out)
      have HY0 := hidMk y0
      have HY1 := hidMk y1
      have HY2 := hidMk y2
      have HY3 := hidMk y3
      clear HO HR y0 y1 y2 y3 HN HK
      go_wp2_with (fail)
      generalize wx.alloc (.cells #[.int .i64 (i : Int), .int .i64 (t : Int), .int .u32 (T : Int), .slice la ll lc] 37) = wb at *
      go_loopw [13, 16] (fun v u wr => ∃ (k : Nat) (xa : Option Addr) (xc : Nat), k ≤ t + 1 ∧ u = .int .i64 (k : Int) ∧ v = .slice xa i xc ∧ Hid (RowO wr xa i xc (rowV i (ka k))) ∧ Hid (Stil wb wr)) (fun _ u _ => t + 1 - (intOf u).toNat)
      case atStart => exact ⟨0, _, _, Nat.zero_le _, rfl, rfl, HR2, Keep.refl _ _⟩
      case round =>
        clear HR2
        obtain ⟨wy, rfl⟩ : ∃ w' : World, w' = wr := ⟨_, rfl⟩
        obtain ⟨k, xa, xc, hk, rfl, rfl, HR, HK⟩ := hrel
        by_cases hlt2 : k < t + 1
        · have l2 : (k : Int) ≤ (t : Int) := by omega
          have hk9 : (k : Int) ≤ 9 := by omega
          have b0 := HK.out.cell HY0.out
          have b1 := HK.out.cell HY1.out
          have b2 := HK.out.cell HY2.out
          have b3 := HK.out.cell HY3.out
          have HH := hidMk (HHo.out k xa xc (ka k) wy (by omega) (HN2.out.tr HK.out) HR.out)
          rw [← HAt.out k] at HH
          go_wp2_with (go_at_call 16; refine (HH.out).mono ?_; rintro e w5 ⟨a5, c5, rfl, hr5, hk5⟩; have HR5 := hidMk hr5; have HK5 := hidMk (HK.out.tr hk5); clear hr5 hk5)
          go_roundw
          case rel => exact ⟨k + 1, a5, c5, by omega, by go_num, rfl, HR5, HK5⟩
          case measure => simp [intOf]; omega
        · have hkt : k = t + 1 := by omega
          have l2 : (t : Int) < (k : Int) := by omega
          have HKt := hidMk hkt
          clear hkt
          go_wp2
          go_ret2
          exact ⟨HN2.out.tr HK.out, xa, xc, rfl, by rw [← HKt.out]; exact HR.out⟩
theorem kPlayAt : KPlayAt := by
  intro W n t T V la ll lc ls hT hV hq
  by_cases hc : kingC n t T V = 0
  · obtain ⟨n, t, rfl, rfl, g1, g2, g3, g4⟩ := kingC_ok (by rw [hc]; decide)
    rw [Int.toNat_natCast, Int.toNat_natCast]
    refine (kingplay_good W hT hV hq g1 g2 g3 hc).mono ?_
    rintro e w2 ⟨h1, h2⟩
    exact ⟨h1, fun h => absurd hc h, fun _ => h2⟩
  · refine (kingplay_bad W n t T V la ll lc hT hV hc).mono ?_
    rintro e w2 ⟨h1, rfl⟩
    exact ⟨Keep.refl _ _, fun _ => h1, fun h => absurd h hc⟩
end Go.Proofs.Ytllbfaldhlfjeaa
