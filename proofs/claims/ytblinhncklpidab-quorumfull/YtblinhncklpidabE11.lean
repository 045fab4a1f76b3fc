/- The statement QuorumFull, walked: whatever came in, it answers true and keeps what lay there. -/
import Derived.Test.YtblinhncklpidabE9
namespace Go.Proofs.Ytblinhncklpidab
open Go.RowKit

set_option maxHeartbeats 400000 in
theorem quorumFull_err (n c : Int) (a : Option Addr) (len cap : Nat) (w : World) (hc : (c != 0) = true)
    (hF : Calls Try.prog 11 #[.int .i64 n, .slice a len cap] w fun e w' => e = .returned (.tuple #[.bool false, .int .i64 c]) ∧ Below w.heap.size w w')
    (hR : ∀ w1, Below w.heap.size w w1 → Calls Try.prog 12 #[.int .i64 n, .slice a len cap] w1 fun e w' => e = .returned (.bool (c == 0)) ∧ w' = w1) :
    Calls Try.prog 4 #[.int .i64 n, .slice a len cap] w fun e w' => e = .returned (.bool true) ∧ Below w.heap.size w w' := by
  rw [wrong_zero hc] at hR
  have HF := hidMk hF
  have HR := hidMk hR
  clear hF hR
  go_enter Try.func4, Try.ntmps4
  go_wp2_with (first | (go_at_call 11; refine (HF.out).mono ?_; rintro e w1 ⟨rfl, hB⟩) | (go_at_call 12; refine (HR.out _ hB).mono ?_; rintro e w2 ⟨rfl, hw⟩; obtain rfl := hw.symm))
  go_ret
  exact ⟨rfl, hB⟩

/-- Of the first k sets of members and all others: has one a set of the family in it, each time? -/
def eachTo (qs : List Nat) (n k : Nat) : Bool := (List.range k).all fun w => holdsB qs w || holdsB qs (co n w)
theorem eachTo_succ (qs : List Nat) (n k : Nat) : eachTo qs n (k + 1) = (eachTo qs n k && (holdsB qs k || holdsB qs (co n k))) := by
  unfold eachTo; rw [List.range_succ, List.all_append]; simp

theorem co_int (n M k : Nat) (hM : 2 ^ n = M + 1) (hm : M < 4294967296) (hk : k < 4294967296) : bits .andNot .u32 (M : Int) (k : Int) = ((co n k : Nat) : Int) := by
  rw [u32_andNot_nat _ _ hm hk]
  unfold co
  rw [hM, Nat.add_sub_cancel]

set_option maxHeartbeats 2000000 in
theorem quorumFull_ok (n b off len cap : Nat) (qs : List Nat) (w : World) (hn : n ≤ 12) (hl : qs.length = len) (hl2 : len ≤ 64) (hq : Row w b off qs)
    (hF : Calls Try.prog 11 #[.int .i64 n, .slice (some ⟨b, off, none⟩) len cap] w fun e w' => e = .returned (.tuple #[.bool (eachTo qs n (2 ^ n)), .int .i64 0]) ∧ Below w.heap.size w w')
    (hR : ∀ w1, Below w.heap.size w w1 → Calls Try.prog 12 #[.int .i64 n, .slice (some ⟨b, off, none⟩) len cap] w1 fun e w' => e = .returned (.bool true) ∧ w' = w1) :
    Calls Try.prog 4 #[.int .i64 n, .slice (some ⟨b, off, none⟩) len cap] w fun e w' => e = .returned (.bool true) ∧ Below w.heap.size w w' := by
  have HF := hidMk hF
  have HR := hidMk hR
  have HL := hidMk hl
  clear hF hR hl
  have hp : 0 < 2 ^ n := Nat.two_pow_pos n
  have hp2 : 2 ^ n ≤ 4096 := Nat.le_trans (Nat.pow_le_pow_right (by omega) hn) (by decide)
  have hpw := pow_mod n (by omega)
  obtain ⟨M, hM⟩ : ∃ M, 2 ^ n = M + 1 := ⟨2 ^ n - 1, by omega⟩
  rw [hM] at hp2 hpw HF
  have hpw' : (2 : Int) ^ n % 4294967296 = (M : Int) + 1 := by rw [hpw]; omega
  have hM' : (M : Int) ≤ 4095 := by omega
  have HM := hidMk hM
  clear hM hp hpw
  have hn' : (n : Int) ≤ 12 := by omega
  generalize hE : eachTo qs n (M + 1) = E at HF
  have HE := hidMk hE
  clear hE
  go_enter Try.func4, Try.ntmps4
  go_wp2_with (first | (go_at_call 11; refine (HF.out).mono ?_; rintro e w1 ⟨rfl, hB⟩) | (go_at_call 12; refine (HR.out _ hB).mono ?_; rintro e w2 ⟨rfl, hw⟩; obtain rfl := hw.symm))
  have hq1 := hq.below rfl hB
  go_loop [7, 8] (fun v i => ∃ k : Nat, k ≤ M + 1 ∧ i = .int .u32 (k : Int) ∧ v = .bool (eachTo qs n k)) (fun _ i => M + 1 - (intOf i).toNat)
  case atStart => exact ⟨0, Nat.zero_le _, rfl, rfl⟩
  case round =>
    obtain ⟨k, hk, rfl, rfl⟩ := hrel
    by_cases hlt : k < M + 1
    · have hlt' : (k : Int) < (M : Int) + 1 := by omega
      have hk' : (k : Int) ≤ 4095 := by omega
      have hk32 : k < 4294967296 := by omega
      have HH1 := hidMk (holds_row k b off len cap qs w1 hk32 HL.out (by omega) hq1)
      have HH2 := hidMk (holds_row (co n k) b off len cap qs w1 (Nat.lt_trans (co_lt n k) (two_pow_lt n (by omega))) HL.out (by omega) hq1)
      rw [← co_int n M k HM.out (by omega) hk32] at HH2
      have hs := eachTo_succ qs n k
      generalize eachTo qs n k = c at *
      cases h1 : holdsB qs k
      · rw [h1] at HH1 hs
        cases h2 : holdsB qs (co n k)
        · rw [h2] at HH2 hs
          have HS := hidMk hs
          clear hs h1 h2
          go_wp2_with (first | (go_at_call 13; refine (HH1.out).mono ?_; rintro e w2 ⟨rfl, hw⟩; obtain rfl := hw.symm; clear HH1) | (go_at_call 13; refine (HH2.out).mono ?_; rintro e w2 ⟨rfl, hw⟩; obtain rfl := hw.symm))
          go_round
          case rel => exact ⟨k + 1, by omega, by go_num, by rw [HS.out]; simp⟩
          case measure => simp [intOf]; omega
        · rw [h2] at HH2 hs
          have HS := hidMk hs
          clear hs h1 h2
          go_wp2_with (first | (go_at_call 13; refine (HH1.out).mono ?_; rintro e w2 ⟨rfl, hw⟩; obtain rfl := hw.symm; clear HH1) | (go_at_call 13; refine (HH2.out).mono ?_; rintro e w2 ⟨rfl, hw⟩; obtain rfl := hw.symm))
          go_round
          case rel => exact ⟨k + 1, by omega, by go_num, by rw [HS.out]; simp⟩
          case measure => simp [intOf]; omega
      · rw [h1] at HH1 hs
        have HS := hidMk hs
        clear hs h1
        go_wp2_with (go_at_call 13; refine (HH1.out).mono ?_; rintro e w2 ⟨rfl, hw⟩; obtain rfl := hw.symm; clear HH1)
        go_round
        case rel => exact ⟨k + 1, by omega, by go_num, by rw [HS.out]; simp⟩
        case measure => simp [intOf]; omega
    · obtain rfl : k = M + 1 := by omega
      rw [HE.out]
      go_wp2
      go_ret
      exact ⟨by simp, hB⟩

theorem quorumFull_walk (n : Int) (a : Option Addr) (len cap : Nat) (qs : List Nat) (w : World) (h : Came32 w a len cap qs) :
    Calls Try.prog 4 #[.int .i64 n, .slice a len cap] w fun e w' => e = .returned (.bool true) ∧ Below w.heap.size w w' := by
  have hF := check_any n a len cap qs w h
  have hR : ∀ w1, Below w.heap.size w w1 → _ := fun w1 hb => system_any n _ a len cap w1 (refSystem_any n a len cap qs w1 (h.below hb))
  by_cases hc : sysCodeOf n qs = 0
  · have hM := full_any n a len cap qs w h hc
    simp only [hc] at hR
    obtain ⟨y1, y2⟩ := sysCodeOf_zero hc
    obtain ⟨z1, z2, z3, z4, z5⟩ := famCodeOf_zero y1
    obtain ⟨h1, h2, h3, h4⟩ := h
    obtain ⟨b, off, rfl, hq⟩ := h4.resolve_left (by omega)
    obtain ⟨k, rfl⟩ := Int.eq_ofNat_of_zero_le (by omega : 0 ≤ n)
    rw [Int.toNat_natCast] at z5 hM
    rw [full_iff (by omega) (fun x hx => (good_lt z5 hx).2) y2] at hM
    exact quorumFull_ok k b off len cap qs w (by omega) h1 (by omega) hq hM hR
  · have hc' : (sysCodeOf n qs != 0) = true := by simpa using hc
    exact quorumFull_err n _ a len cap w hc' (full_err n _ a len cap w hc' hF) hR
end Go.Proofs.Ytblinhncklpidab
