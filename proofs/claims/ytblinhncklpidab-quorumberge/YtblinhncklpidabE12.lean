/- The statement QuorumBerge, walked: whatever came in, it answers true and keeps what lay there. -/
import Derived.Test.YtblinhncklpidabE8
namespace Go.Proofs.Ytblinhncklpidab
open Go.RowKit

set_option maxHeartbeats 400000 in
theorem quorumBerge_err (n c : Int) (a : Option Addr) (len cap : Nat) (w : World) (hc : (c != 0) = true)
    (hF : Calls Try.prog 7 #[.int .i64 n, .slice a len cap] w fun e w' => e = .returned (.tuple #[.slice none 0 0, .int .i64 c]) ∧ Below w.heap.size w w')
    (hR : ∀ w1, Below w.heap.size w w1 → Calls Try.prog 8 #[.int .i64 n, .slice a len cap] w1 fun e w' => e = .returned (.bool (c == 0)) ∧ w' = w1) :
    Calls Try.prog 3 #[.int .i64 n, .slice a len cap] w fun e w' => e = .returned (.bool true) ∧ Below w.heap.size w w' := by
  rw [wrong_zero hc] at hR
  have HF := hidMk hF
  have HR := hidMk hR
  clear hF hR
  go_enter Try.func3, Try.ntmps3
  go_wp2_with (first | (go_at_call 7; refine (HF.out).mono ?_; rintro e w1 ⟨rfl, hB⟩) | (go_at_call 8; refine (HR.out _ hB).mono ?_; rintro e w2 ⟨rfl, hw⟩; obtain rfl := hw.symm))
  go_ret
  exact ⟨rfl, hB⟩

set_option maxHeartbeats 2000000 in
theorem quorumBerge_ok (n : Int) (b off len cap : Nat) (qs L B : List Nat) (w : World) (hl : qs.length = len) (hl2 : len ≤ 64) (hq : Row w b off qs) (hB1 : 1 ≤ B.length) (hB2 : B.length ≤ 4096) (hL2 : L.length ≤ 4096)
    (hLx : ∀ x ∈ L, x < 4294967296) (hBx : ∀ x ∈ B, x < 4294967296) (hm : ∀ x ∈ B, ∀ a ∈ qs, x &&& a ≠ 0)
    (hF : Calls Try.prog 7 #[.int .i64 n, .slice (some ⟨b, off, none⟩) len cap] w fun e w' => ∃ v, e = .returned (.tuple #[v, .int .i64 0]) ∧ Made w' w.heap.size v B ∧ Below w.heap.size w w')
    (hR : ∀ w1, Below w.heap.size w w1 → Calls Try.prog 8 #[.int .i64 n, .slice (some ⟨b, off, none⟩) len cap] w1 fun e w' => e = .returned (.bool true) ∧ w' = w1)
    (hA : ∀ w1, Below w.heap.size w w1 → Calls Try.prog 9 #[.int .i64 n, .slice (some ⟨b, off, none⟩) len cap] w1 fun e w' => ∃ v, e = .returned (.tuple #[v, .int .i64 0]) ∧ Made w' w1.heap.size v L ∧ Below w1.heap.size w1 w')
    (hC : B.length ≤ 64 → ∀ a1 c1 w1, Came32 w1 a1 B.length c1 B → Calls Try.prog 7 #[.int .i64 n, .slice a1 B.length c1] w1 fun e w' => ∃ v, e = .returned (.tuple #[v, .int .i64 0]) ∧ Made w' w1.heap.size v L ∧ Below w1.heap.size w1 w')
    (hD : 64 < B.length → ∀ a1 c1 w1, Came32 w1 a1 B.length c1 B → Calls Try.prog 7 #[.int .i64 n, .slice a1 B.length c1] w1 fun e w' => e = .returned (.tuple #[.slice none 0 0, .int .i64 1]) ∧ Below w1.heap.size w1 w') :
    Calls Try.prog 3 #[.int .i64 n, .slice (some ⟨b, off, none⟩) len cap] w fun e w' => e = .returned (.bool true) ∧ Below w.heap.size w w' := by
  have HF := hidMk hF
  have HR := hidMk hR
  have HA := hidMk hA
  have HC := hidMk hC
  have HD := hidMk hD
  have HLx := hidMk hLx
  have HBx := hidMk hBx
  have HMM := hidMk hm
  have HL := hidMk hl
  clear hF hR hA hC hD hLx hBx hm hl
  have hb1 : (0 : Int) < (B.length : Int) := by omega
  have hb2 : (B.length : Int) ≤ 4096 := by omega
  have hl2' : (len : Int) ≤ 64 := by omega
  have hbz : ((B.length : Int) == 0) = false := by rw [beq_eq_false_iff_ne]; omega
  go_enter Try.func3, Try.ntmps3
  go_wp2_with (first
    | (go_at_call 7; refine (HF.out).mono ?_; rintro e w1 ⟨v, rfl, hM, hB⟩; obtain ⟨a1, c1, rfl, hC1, _⟩ := came_owned hM HBx.out; have HC1 := hidMk hC1; obtain ⟨b1, o1, rfl, hq1⟩ := hC1.2.2.2.resolve_left (by omega); clear hC1 hM HF)
    | (go_at_call 8; refine (HR.out _ hB).mono ?_; rintro e w2 ⟨rfl, hw⟩; obtain rfl := hw.symm)
    | (go_at_call 9; refine (HA.out _ hB).mono ?_; rintro e w2 ⟨v, rfl, hM2, hBb⟩; obtain ⟨a2, c2, rfl, hC2, _⟩ := came_owned hM2 HLx.out; have HC2 := hidMk hC2; clear hC2 hM2))
  have hq2 := (hq.below rfl hB).below rfl hBb
  have hqb := hq1.below rfl hBb
  go_loop [45] (fun i => ∃ k : Nat, k ≤ B.length ∧ i = .int .i64 (k : Int)) (fun i => B.length - (intOf i).toNat)
  case atStart => exact ⟨0, Nat.zero_le _, rfl⟩
  case round =>
    obtain ⟨k, hk, rfl⟩ := hrel
    by_cases hlt : k < B.length
    · have hlt' : (k : Int) < (B.length : Int) := by omega
      obtain ⟨x, hx, hxm, hxb, hxc⟩ := hqb.at (k := k) hlt
      clear hx
      go_wp2
      go_loop [51] (fun i => ∃ j : Nat, j ≤ len ∧ i = .int .i64 (j : Int)) (fun i => len - (intOf i).toNat)
      case atStart => exact ⟨0, Nat.zero_le _, rfl⟩
      case round =>
        obtain ⟨j, hj, rfl⟩ := hrel
        by_cases hlt2 : j < len
        · have hj' : (j : Int) < (len : Int) := by omega
          obtain ⟨y, hy, hym, hyb, hyc⟩ := hq2.at (k := j) (by rw [HL.out]; exact hlt2)
          clear hy
          have hz := and_zero x y hxb hyb
          rw [show (x &&& y == 0) = false from beq_eq_false_iff_ne.2 (HMM.out x hxm y hym)] at hz
          go_wp2
          go_round
          case rel => exact ⟨j + 1, by omega, by go_num⟩
          case measure => simp [intOf]; omega
        · obtain rfl : j = len := by omega
          go_wp2
          go_round
          case rel => exact ⟨k + 1, by omega, by go_num⟩
          case measure => simp [intOf]; omega
    · obtain rfl : k = B.length := by omega
      have hA2 := hB.trans (hBb.mono hB.size)
      by_cases h64 : B.length ≤ 64
      · have HCC := hidMk (HC.out h64)
        clear HC HD
        go_wp2_with (first
          | (go_at_call 7; refine (HCC.out _ _ _ (HC1.out.below hBb)).mono ?_; rintro e w3 ⟨v, rfl, hM3, hBc⟩; obtain ⟨a3, c3, rfl, hC3, _⟩ := came_owned hM3 HLx.out; have HC3 := hidMk hC3; clear hC3 hM3)
          | (go_at_call 10; refine (words_any a3 a2 _ _ c3 c2 L L _ hL2 hL2 HC3.out (HC2.out.below hBc)).mono ?_; rintro e w4 ⟨rfl, hBd⟩))
        go_ret
        have h2 := hA2.trans (hBc.mono hA2.size)
        exact ⟨by simp, h2.trans (hBd.mono h2.size)⟩
      · have HDD := hidMk (HD.out (by omega))
        have h64' : (64 : Int) < (B.length : Int) := by omega
        clear HC HD
        go_wp2_with (go_at_call 7; refine (HDD.out _ _ _ (HC1.out.below hBb)).mono ?_; rintro e w3 ⟨rfl, hBc⟩)
        go_ret
        exact ⟨by first | rfl | simp, hA2.trans (hBc.mono hA2.size)⟩

theorem quorumBerge_walk (n : Int) (a : Option Addr) (len cap : Nat) (qs : List Nat) (w : World) (h : Came32 w a len cap qs) :
    Calls Try.prog 3 #[.int .i64 n, .slice a len cap] w fun e w' => e = .returned (.bool true) ∧ Below w.heap.size w w' := by
  have hR : ∀ w1, Below w.heap.size w w1 → _ := fun w1 hb => keepFamily_any n _ a len cap w1 (refFamily_any n a len cap qs w1 (h.below hb))
  by_cases hc : famCodeOf n qs = 0
  · obtain ⟨z1, z2, z3, z4, z5⟩ := famCodeOf_zero hc
    have hx : ∀ x ∈ qs, x < 2 ^ n.toNat := fun x hx => (good_lt z5 hx).2
    have hn : n.toNat ≤ 12 := by omega
    simp only [hc] at hR
    have hF := blocks_any n a len cap qs w h hc
    have hA : ∀ w1, Below w.heap.size w w1 → _ := fun w1 hb => least_any n a len cap qs w1 (h.below hb) hc
    obtain ⟨h1, h2, h3, h4⟩ := h
    obtain ⟨b, off, rfl, hq⟩ := h4.resolve_left (by omega)
    have hbx : ∀ x ∈ blocksTo qs (2 ^ n.toNat), 0 < x ∧ x < 2 ^ n.toNat := by
      intro x hxb
      obtain ⟨hlt, hbb⟩ := blocksTo_iff.1 hxb
      refine ⟨?_, hlt⟩
      obtain ⟨i, h5, _⟩ := meets_iff.1 (block_iff.1 hbb).1 qs[0] (List.getElem_mem (by omega))
      have := Nat.ge_two_pow_of_testBit h5
      have := Nat.two_pow_pos i
      omega
    refine quorumBerge_ok n b off len cap qs (leastsTo qs (2 ^ n.toNat)) (blocksTo qs (2 ^ n.toNat)) w h1 (by omega) hq (blocks_pos hn (fun x hx => good_lt z5 hx)) (blocksTo_len' qs hn) (leastsTo_len' qs hn)
      (fun x hx => leastsTo_32 hn hx) (fun x hx => blocksTo_32 hn hx) (fun x hxb a ha => and_ne_iff.2 (meets_iff.1 (block_iff.1 (blocksTo_iff.1 hxb).2).1 a ha)) hF hR hA ?_ ?_
    · intro h64 a1 c1 w1 hC1
      have := blocks_any n a1 _ c1 _ w1 hC1 (family_ok z1 z2 (blocks_pos hn (fun x hx => good_lt z5 hx)) h64 hbx)
      rw [berge hn hx] at this
      exact this
    · intro h64 a1 c1 w1 hC1
      have hf := family_any n a1 _ c1 _ w1 hC1
      have e : famCodeOf n (blocksTo qs (2 ^ n.toNat)) = 1 := by
        unfold famCodeOf
        rw [if_pos (by omega)]
      rw [e] at hf
      exact blocks_err n 1 a1 _ c1 w1 rfl hf
  · have hc' : (famCodeOf n qs != 0) = true := by simpa using hc
    exact quorumBerge_err n _ a len cap w hc' (blocks_err n _ a len cap w hc' (family_any n a len cap qs w h)) hR
end Go.Proofs.Ytblinhncklpidab
