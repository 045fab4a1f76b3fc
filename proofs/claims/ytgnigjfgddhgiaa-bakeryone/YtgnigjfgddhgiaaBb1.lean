/- folkmootkeep.BakeryOne, walked. -/
import Derived.Test.YtgnigjfgddhgiaaBb0
namespace Go.Proofs.Ytgnigjfgddhgiaa
open Go.RowKit
set_option linter.unusedVariables false

set_option maxRecDepth 100000 in
set_option maxHeartbeats 4000000 in
theorem bone_ok {W : World} {pa : Option Addr} {n pl pc : Nat} {zs : List Int} (hp : RowI W pa pl pc zs) (h0 : 0 < n) (h4 : n ≤ 4) (hpl : pl ≤ 120) :
    Calls Try.prog 4 #[.int .i64 (n : Int), .slice pa pl pc] W fun e W2 => e = .returned (.bool true) ∧ Below W.heap.size W W2 := by
  have HP := hidMk (play_seenB hp h0 h4 hpl)
  have HC := hidMk (fun k hk => cntB_one (binv_at n zs pl) k hk)
  have hn4 : (n : Int) ≤ 4 := by omega
  generalize bsAt n zs pl = S at *
  clear hp
  go_enter Try.func4, Try.ntmps4
  go_wp2_with (fail)
  go_at_call 8
  refine (HP.out).mono ?_
  rintro e w1 ⟨⟨C1, a1, c1, a2, c2, a3, c3, va, vc, rfl, hS1⟩, hk1⟩
  generalize S.ins.length = il at *
  have HK1 := hidMk (hk1.alloc (.cells #[.slice (some ⟨C1, 0, none⟩) pl pl, .slice a1 n c1, .slice a2 n c2, .slice a3 n c3, .slice va il vc] 26))
  have HAt := hidMk (hS1.at.still (Stil.new w1 (.cells #[.slice (some ⟨C1, 0, none⟩) pl pl, .slice a1 n c1, .slice a2 n c2, .slice a3 n c3, .slice va il vc] 26)))
  have l0 : (w1.alloc (.cells #[.slice (some ⟨C1, 0, none⟩) pl pl, .slice a1 n c1, .slice a2 n c2, .slice a3 n c3, .slice va il vc] 26)).cell? ⟨w1.heap.size, 0, none⟩ = some (.slice (some ⟨C1, 0, none⟩) pl pl) := by rw [cell_of_row _ _ _ _ _ _ (al_new _ _)]; rfl
  have l1 : (w1.alloc (.cells #[.slice (some ⟨C1, 0, none⟩) pl pl, .slice a1 n c1, .slice a2 n c2, .slice a3 n c3, .slice va il vc] 26)).cell? ⟨w1.heap.size, 1, none⟩ = some (.slice a1 n c1) := by rw [cell_of_row _ _ _ _ _ _ (al_new _ _)]; rfl
  clear hS1 hk1 HP
  obtain ⟨rl, rc, _, rr⟩ := HAt.out
  rcases rr with rr | ⟨gb, off, rfl, _, hcell⟩
  · omega
  have HCell := hidMk hcell
  clear hcell HAt rl rc
  go_wp2
  generalize w1.alloc (.cells #[.slice (some ⟨C1, 0, none⟩) pl pl, .slice (some ⟨gb, off, none⟩) n c1, .slice a2 n c2, .slice a3 n c3, .slice va il vc] 26) = w2 at *
  generalize w1.heap.size = La at *
  go_loop [7, 25] (fun v u => ∃ k : Nat, k ≤ n ∧ u = .int .i64 (k : Int) ∧ v = .int .i64 (cntB S k : Int)) (fun _ u => n - (intOf u).toNat)
  case atStart => exact ⟨0, Nat.zero_le _, rfl, rfl⟩
  case round =>
    obtain ⟨k, hk, rfl, rfl⟩ := hrel
    by_cases hlt : k < n
    · have hlt' : (k : Int) < (n : Int) := by omega
      have hcl := cntB_le S k
      have d1 := HCell.out k ((S.pr k).pl : Int) (natsI_at (by simp [plL, hlt]))
      have HE : Hid (cntB S (k + 1) = if (S.pr k).pl = 5 then cntB S k + 1 else cntB S k) := rfl
      generalize (S.pr k).pl = v1 at *
      by_cases e5 : v1 = 5
      · subst e5
        have HE2 : Hid (cntB S (k + 1) = cntB S k + 1) := by show _ = _; rw [HE.out, if_pos rfl]
        clear HE
        go_wp2
        go_round
        case rel => exact ⟨k + 1, by omega, by go_num, by rw [HE2.out]; go_num⟩
        case measure => simp [intOf]; omega
      · have q1 : ((v1 : Int) == 5) = false := by rw [beq_eq_false_iff_ne]; omega
        have HE2 : Hid (cntB S (k + 1) = cntB S k) := by show _ = _; rw [HE.out, if_neg e5]
        clear HE e5
        go_wp2
        go_round
        case rel => exact ⟨k + 1, by omega, by go_num, by rw [HE2.out]⟩
        case measure => simp [intOf]; omega
    · obtain rfl : k = n := by omega
      have hc1 := HC.out k (Nat.le_refl _)
      have hc2 : (cntB S k : Int) ≤ 1 := by omega
      go_wp2
      go_ret
      exact ⟨by first | rfl | simp | (simp; omega), Stil.below HK1.out⟩

set_option maxRecDepth 100000 in
set_option maxHeartbeats 4000000 in
theorem bone_bad {W : World} {pa : Option Addr} {z : Int} {pl pc : Nat} {zs : List Int} (hp : RowI W pa pl pc zs) (hz : bakCode z pl ≠ 0) :
    Calls Try.prog 4 #[.int .i64 z, .slice pa pl pc] W fun e W2 => e = .returned (.bool true) ∧ Below W.heap.size W W2 := by
  have HP := hidMk (play_badB (W := W) (pa := pa) (pc := pc) hz hp.2.2.1)
  clear hz hp
  go_enter Try.func4, Try.ntmps4
  go_wp2_with (fail)
  go_at_call 8
  refine (HP.out).mono ?_
  rintro e w1 ⟨rfl, hk1⟩
  have HK1 := hidMk (hk1.alloc (.cells #[.slice none 0 0, .slice none 0 0, .slice none 0 0, .slice none 0 0, .slice none 0 0] 26))
  clear hk1 HP
  go_wp2
  go_ret
  exact ⟨rfl, Stil.below HK1.out⟩

theorem bone_walk {W : World} {z : Int} {pa : Option Addr} {pl pc : Nat} {zs : List Int} (hp : CameI W pa pl pc zs) :
    Calls Try.prog 4 #[.int .i64 z, .slice pa pl pc] W fun e W2 => e = .returned (.bool true) ∧ Below W.heap.size W W2 := by
  by_cases hz : bakCode z pl = 0
  · obtain ⟨n, rfl, h0, h6, h120⟩ := bakCode_zero hz
    exact bone_ok hp h0 h6 h120
  · exact bone_bad hp hz
end Go.Proofs.Ytgnigjfgddhgiaa
