/- King, the project's: what one hears. -/
import Derived.Test.YtllbfaldhlfjeaaKp0
namespace Go.Proofs.Ytllbfaldhlfjeaa
open Go.RowKit
set_option linter.unusedVariables false

set_option maxRecDepth 100000 in
set_option maxHeartbeats 8000000 in
theorem hear_any {W : World} {n t T k j ll lc vc : Nat} {la va : Option Addr} {ls : List Nat} {s : Nat → Bool}
    (hT : T < 4294967296) (hn : n ≤ 9) (hj : j < n) (hk : k ≤ 9) (hq : RowQ W la ll lc ls) (hv : RowO W va n vc (rowV n s)) :
    Calls Try.prog 18 #[.agg #[.int .i64 (n : Int), .int .i64 (t : Int), .int .u32 (T : Int), .slice la ll lc], .int .i64 (2 * (k : Int)), .slice va n vc, .int .i64 (j : Int)] W fun e w2 => e = .returned (.tuple #[.bool (majK T.testBit (lieK ls) n s k j), .int .i64 (cntK T.testBit (lieK ls) n s k j : Int)]) ∧ Stil W w2 := by
  have hn9 : (n : Int) ≤ 9 := by omega
  obtain ⟨v1, v2, _, v4⟩ := hv
  rcases v4 with v4 | ⟨bb, off, rfl, hbb, hcb⟩
  · omega
  have HC : Hid (∀ i, i < n → W.cell? ⟨bb, off + i, none⟩ = some (.bool (s i))) := fun i hi => hcb i _ (rowV_at hi)
  obtain ⟨F, hF⟩ : ∃ F : Nat → Bool, F = fun i => saysK T.testBit (lieK ls) n i j (2 * k) (s i) := ⟨_, rfl⟩
  have HY : Hid (yesK T.testBit (lieK ls) n s k j = (List.range n).countP F) := by show _ = _; rw [hF]; rfl
  have HMj0 : Hid (majK T.testBit (lieK ls) n s k j = decide (n - (List.range n).countP F < (List.range n).countP F)) := by show _ = _; rw [← HY.out]; rfl
  have HCt0 : Hid (cntK T.testBit (lieK ls) n s k j = if majK T.testBit (lieK ls) n s k j = true then (List.range n).countP F else n - (List.range n).countP F) := by show _ = _; rw [← HY.out]; rfl
  obtain ⟨p2, hp2⟩ : ∃ p2, p2 = 2 * k := ⟨_, rfl⟩
  rw [show 2 * (k : Int) = (p2 : Int) by omega]
  have HSy : Hid (∀ i, i < n → ∀ wx, Stil W wx → Calls Try.prog 19 #[.agg #[.int .i64 (n : Int), .int .i64 (t : Int), .int .u32 (T : Int), .slice la ll lc], .int .i64 (p2 : Int), .int .i64 (i : Int), .bool (s i), .int .i64 (j : Int)] wx fun e w2 => e = .returned (.bool (F i)) ∧ Stil wx w2) := fun i hi wx hx => by
    have := say_any (t := t) (x := s i) (hq.still hx) hT hn hi hj (show p2 ≤ 100 by omega)
    rw [hF, ← hp2]
    exact this
  have HA : Hid (Stil W (W.alloc (.cells #[.int .i64 (n : Int), .int .i64 (t : Int), .int .u32 (T : Int), .slice la ll lc] 37))) := Stil.new _ _
  obtain ⟨y0, y1, y2, y3⟩ := box4_cells W (.int .i64 (n : Int)) (.int .i64 (t : Int)) (.int .u32 (T : Int)) (.slice la ll lc) 37
  have HB0 := hidMk y0
  have HB1 := hidMk y1
  have HB2 := hidMk y2
  have HB3 := hidMk y3
  clear hF hp2 hcb v1 hbb hq HY y0 y1 y2 y3
  generalize majK T.testBit (lieK ls) n s k j = mj at *
  generalize cntK T.testBit (lieK ls) n s k j = ct at *
  go_enter Try.func18, Try.ntmps18
  go_wp2_with (fail)
  generalize W.alloc (.cells #[.int .i64 (n : Int), .int .i64 (t : Int), .int .u32 (T : Int), .slice la ll lc] 37) = w1 at *
  go_loopw [10, 16] (fun y u wr => ∃ i : Nat, i ≤ n ∧ u = .int .i64 (i : Int) ∧ y = .int .i64 ((List.range i).countP F : Int) ∧ Hid (Stil w1 wr)) (fun _ u _ => n - (intOf u).toNat)
  case atStart => exact ⟨0, Nat.zero_le _, rfl, rfl, Keep.refl _ _⟩
  case round =>
    obtain ⟨wx, rfl⟩ : ∃ w' : World, w' = wr := ⟨_, rfl⟩
    obtain ⟨i, hi, rfl, rfl, HK⟩ := hrel
    have b0 := HK.out.cell HB0.out
    have b1 := HK.out.cell HB1.out
    have b2 := HK.out.cell HB2.out
    have b3 := HK.out.cell HB3.out
    have hle := countR_le F i
    have HR := hidMk (countR F i)
    generalize hcc : (List.range i).countP F = c at *
    have HCc := hidMk hcc
    clear hcc
    by_cases hlt : i < n
    · have hlt' : (i : Int) < (n : Int) := by omega
      have d0 := HK.out.cell (HA.out.cell (HC.out i hlt))
      have HS1 := hidMk (HSy.out i hlt wx (HA.out.tr HK.out))
      generalize s i = x at *
      cases hf : F i
      · rw [hf] at HS1 HR
        clear hf
        go_wp2_with (go_at_call 19; refine (HS1.out).mono ?_; rintro e w2 ⟨rfl, hk2⟩; have HK2 := hidMk (HK.out.tr hk2); clear hk2)
        go_roundw
        case rel => exact ⟨i + 1, by omega, by go_num, by rw [HR.out]; simp, HK2⟩
        case measure => simp [intOf]; omega
      · rw [hf] at HS1 HR
        clear hf
        go_wp2_with (go_at_call 19; refine (HS1.out).mono ?_; rintro e w2 ⟨rfl, hk2⟩; have HK2 := hidMk (HK.out.tr hk2); clear hk2)
        go_roundw
        case rel => exact ⟨i + 1, by omega, by go_num, by rw [HR.out]; simp, HK2⟩
        case measure => simp [intOf]; omega
    · have hin : i = n := by omega
      have l1 : (n : Int) ≤ (i : Int) := by omega
      have hcn : (List.range n).countP F = c := by rw [← hin]; exact HCc.out
      rw [hcn] at HMj0 HCt0
      obtain ⟨no, hno⟩ : ∃ no, no = n - c := ⟨_, rfl⟩
      rw [← hno] at HMj0 HCt0
      have hw3 : IntKind.i64.wrap ((n : Int) - (c : Int)) = (no : Int) := by rw [show (n : Int) - (c : Int) = (no : Int) by omega]; exact wrapG ⟨by omega, by omega⟩
      have hn9' : (no : Int) ≤ 9 := by omega
      have hc9' : (c : Int) ≤ 9 := by omega
      have HK2 := hidMk (HA.out.tr HK.out)
      clear hno hin hcn HCc HR
      cases hm : decide (no < c)
      · have h3 := of_decide_eq_false hm
        have c1 : (c : Int) ≤ (no : Int) := by omega
        have HMj : Hid (mj = false) := by show _ = _; rw [HMj0.out, hm]
        have HCt : Hid (ct = no) := by show _ = _; rw [HCt0.out, HMj.out]; simp
        have HM := hidMk hm
        clear hm h3 HMj0 HCt0
        go_wp2
        all_goals go_ret2
        all_goals (refine ⟨?_, HK2.out⟩; first | (exfalso; omega) | (show Ending.returned (.tuple #[.bool (decide (no < c)), .int .i64 (no : Int)]) = _; rw [HM.out, HMj.out, HCt.out]) | (show Ending.returned (.tuple #[.bool false, .int .i64 (no : Int)]) = _; rw [HMj.out, HCt.out]) | (obtain rfl : c = no := (by omega); show Ending.returned (.tuple #[.bool (decide (c < c)), .int .i64 (c : Int)]) = _; rw [HM.out, HMj.out, HCt.out]))
      · have h3 := of_decide_eq_true hm
        have c1 : (no : Int) < (c : Int) := by omega
        have HMj : Hid (mj = true) := by show _ = _; rw [HMj0.out, hm]
        have HCt : Hid (ct = c) := by show _ = _; rw [HCt0.out, HMj.out]; simp
        have HM := hidMk hm
        clear hm h3 HMj0 HCt0
        go_wp2
        all_goals go_ret2
        all_goals (refine ⟨?_, HK2.out⟩; first | (exfalso; omega) | (show Ending.returned (.tuple #[.bool (decide (no < c)), .int .i64 (c : Int)]) = _; rw [HM.out, HMj.out, HCt.out]) | (show Ending.returned (.tuple #[.bool true, .int .i64 (c : Int)]) = _; rw [HMj.out, HCt.out]) | (obtain rfl : c = no := (by omega); show Ending.returned (.tuple #[.bool (decide (c < c)), .int .i64 (c : Int)]) = _; rw [HM.out, HMj.out, HCt.out]))
end Go.Proofs.Ytllbfaldhlfjeaa
