/- The document's King, whole. -/
import Derived.Test.YtllbfaldhlfjeaaKi6
namespace Go.Proofs.Ytllbfaldhlfjeaa
open Go.RowKit
set_option linter.unusedVariables false

set_option maxRecDepth 1000000 in
set_option maxHeartbeats 16000000 in
theorem king_any {W : World} {n t T V ll lc : Nat} {la : Option Addr} {ls : List Nat} (hT : T < 4294967296) (hV : V < 4294967296) (h1 : 1 ≤ n) (hn : n ≤ 9) (htn : t < n) (hq : RowQ W la ll lc ls) :
    Calls Try.prog 9 #[.int .i64 (n : Int), .int .i64 (t : Int), .int .u32 (T : Int), .int .u32 (V : Int), .slice la ll lc] W fun e w2 => ∃ a c, e = .returned (.slice a n c) ∧ RowO w2 a n c (rowV n (kingAt T.testBit (lieK ls) n t V.testBit (t + 1))) ∧ Stil W w2 := by
  obtain ⟨b0, bit, bz0, bz1, bz2⟩ := info_parts bInfo
  have hn9 : (n : Int) ≤ 9 := by omega
  have ht9 : (t : Int) ≤ 9 := by omega
  have Hq := hidMk hq
  clear hq
  go_enter Try.func9, Try.ntmps9
  go_wp2_with (fail)
  go_loopw [11, 12] (fun v u wr => ∃ (i : Nat) (va : Option Addr) (vc : Nat), i ≤ n ∧ u = .int .i64 (i : Int) ∧ v = .slice va i vc ∧ Hid (Seg wr (fun g => W.heap.size ≤ g) 4 1 (.slice va i vc) i (boolsL (rowV i V.testBit))) ∧ Hid (Stil W wr)) (fun _ u _ => n - (intOf u).toNat)
  case atStart => exact ⟨0, none, 0, Nat.zero_le _, rfl, rfl, Seg.nil _ _ _ _, Keep.refl _ _⟩
  case round =>
    obtain ⟨i, va, vc, hi, rfl, rfl, HG, HS⟩ := hrel
    by_cases hlt : i < n
    · have hlt' : (i : Int) < (n : Int) := by omega
      have HBt := hidMk (fun w => bitG_any V i hV (by omega) w)
      have HR := hidMk (rowV_succ i V.testBit)
      generalize V.testBit i = y at *
      go_wp2_with (first | (go_at_call 12; refine (HBt.out _).mono ?_; rintro e w4 ⟨rfl, hw⟩; obtain rfl := hw.symm) | (at_builtin; refine wpList_append_seg _ rfl _ _ 24 rfl 4 b0 (.bool false) 1 1 Try.underlying24 bit bz0 bz1 bz2 rfl (by decide) _ _ _ rfl (segAlloc HG.out _) ⟨_, 0, none⟩ 1 1 [.bool y] rfl rfl (cCell1 _ _ _ _ (by simp)) (bOne _) (by unfold maxLen; omega) (by omega) ?_))
      intro v9 w9 hs9 hg9
      obtain ⟨q1, q2⟩ := app_bool HR.out HS.out (Stil.new wr _) HG.out (hs9.mono (fun g _ h => by rcases h with h | h; exact .inl h; exact .inr (by rw [h]; simp))) hg9
      have HG9 := hidMk q1
      have HS9 := hidMk q2
      obtain ⟨sa3, sc3, hv3⟩ := segForm hs9
      subst hv3
      clear hs9 hg9 HG HS q1 q2
      go_wp2
      go_roundw
      case rel => exact ⟨i + 1, sa3, sc3, by omega, by go_num, rfl, HG9, HS9⟩
      case measure => simp [intOf]; omega
    · obtain rfl : i = n := by omega
      have HR := hidMk (seg_rowO HG.out)
      clear HG
      go_wp2_with (fail)
      obtain ⟨w2, rfl⟩ : ∃ w' : World, w' = wr := ⟨_, rfl⟩
      go_loopw [11, 13] (fun v u wr => ∃ (k : Nat) (xa : Option Addr) (xc : Nat), k ≤ t + 1 ∧ u = .int .i64 (k : Int) ∧ v = .slice xa i xc ∧ Hid (RowO wr xa i xc (rowV i (kingAt T.testBit (lieK ls) i t V.testBit k))) ∧ Hid (Stil w2 wr)) (fun _ u _ => t + 1 - (intOf u).toNat)
      case atStart => exact ⟨0, va, vc, Nat.zero_le _, rfl, rfl, HR, Keep.refl _ _⟩
      case round =>
        obtain ⟨wx, rfl⟩ : ∃ w' : World, w' = wr := ⟨_, rfl⟩
        obtain ⟨k, xa, xc, hk, rfl, rfl, HX, HS2⟩ := hrel
        by_cases hlt2 : k < t + 1
        · have l1 : (k : Int) ≤ (t : Int) := by omega
          have hqx : Hid (RowQ wx la ll lc ls) := (Hq.out.still HS.out).still HS2.out
          have hk9 : (k : Int) ≤ 9 := by omega
          go_upto_block 3 with fail
          refine wp_block ?_
          refine phase_walk hT hn (by omega) (by omega) hqx.out HX.out ?_
          intro z14 z15 z16 z17 z18 z19 z20 z21 z38 z39 z40 z41 z42 z43 z44 z45 z46 z47 z48 z49 z50 z51 z52 z53 z54 z55 z56 z57 z58 z59 z60 z61 z62 z63 z64 z65 z66 z67 z68 z69 z70 z71 z72 z73 z74 z75 z76 z77 z78 z79 z80 z81 z82 z83 z84 z85 z86 z87 z88 z89 z90 z91 z92 z93 z94 z95 z96 z97 z98 z99 z100 z101 z102 z103 z104 z105 z106 z107 z108 z109 z110 z111 z112 z113 z114 z115 z116 z117 z118 z119 w3 na nc g1 g2
          have G1 := hidMk g1
          have G2 := hidMk (HS2.out.tr g2)
          clear g1 g2
          go_wp2
          go_roundw
          case rel => exact ⟨k + 1, na, nc, by omega, by go_num, rfl, G1, G2⟩
          case measure => simp [intOf]; omega
        · have hkt : k = t + 1 := by omega
          have l1 : (t : Int) < (k : Int) := by omega
          have HKt := hidMk hkt
          clear hkt
          go_wp2
          go_ret
          exact ⟨xa, xc, rfl, by rw [← HKt.out]; exact HX.out, HS.out.tr HS2.out⟩
end Go.Proofs.Ytllbfaldhlfjeaa
