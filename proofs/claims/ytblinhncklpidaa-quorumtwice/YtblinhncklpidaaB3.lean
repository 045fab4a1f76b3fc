/- The statement QuorumMasked, walked: whatever came in, it answers true and keeps what lay there. -/
import Derived.Test.YtblinhncklpidaaD2
import Derived.Test.YtblinhncklpidaaB1
namespace Go.Proofs.Ytblinhncklpidaa
open Go.RowKit

theorem sysCodeOf_zero {n : Int} {qs : List Nat} (h : sysCodeOf n qs = 0) : famCodeOf n qs = 0 ∧ sysB qs = false := by
  unfold sysCodeOf at h
  by_cases hc : famCodeOf n qs ≠ 0
  · rw [if_pos hc] at h; exact absurd h hc
  · rw [if_neg hc] at h
    refine ⟨by simpa using hc, ?_⟩
    cases hs : sysB qs
    · rfl
    · rw [sysCode_bad hs] at h; exact absurd h (by decide)

theorem good_lt {n : Nat} {qs : List Nat} (h : qs.any (badB n) = false) {x : Nat} (hx : x ∈ qs) : 0 < x ∧ x < 2 ^ n := by
  have := List.any_eq_false.1 h x hx
  unfold badB at this
  simp at this
  omega

set_option maxHeartbeats 400000 in
theorem quorumMasked_err (n c m : Int) (a : Option Addr) (len cap : Nat) (w : World) (hc : (c == 0) = false)
    (hF : Calls Try.prog 15 #[.int .i64 n, .slice a len cap, .int .i64 m] w fun e w' => e = .returned (.tuple #[.bool false, .int .i64 c]) ∧ Below w.heap.size w w')
    (hR : ∀ w1, Below w.heap.size w w1 → Calls Try.prog 10 #[.int .i64 n, .slice a len cap] w1 fun e w' => e = .returned (.int .i64 c) ∧ w' = w1) :
    Calls Try.prog 5 #[.int .i64 n, .slice a len cap, .int .i64 m] w fun e w' => e = .returned (.bool true) ∧ Below w.heap.size w w' := by
  have HF := hidMk hF
  have HR := hidMk hR
  clear hF hR
  have hc2 : (c != 0) = true := by simpa using hc
  go_enter Try.func5, Try.ntmps5
  go_wp2_with (first | (go_at_call 15; refine (HF.out).mono ?_; rintro e w1 ⟨rfl, hB⟩) | (go_at_call 10; refine (HR.out _ hB).mono ?_; rintro e w2 ⟨rfl, hw⟩; obtain rfl := hw.symm))
  go_ret
  exact ⟨by simp, hB⟩

set_option maxHeartbeats 400000 in
theorem quorumMasked_arg (n m : Int) (a : Option Addr) (len cap : Nat) (w : World) (hm : m < 0 ∨ n < m)
    (hF : Calls Try.prog 15 #[.int .i64 n, .slice a len cap, .int .i64 m] w fun e w' => e = .returned (.tuple #[.bool false, .int .i64 2]) ∧ Below w.heap.size w w')
    (hR : ∀ w1, Below w.heap.size w w1 → Calls Try.prog 10 #[.int .i64 n, .slice a len cap] w1 fun e w' => e = .returned (.int .i64 0) ∧ w' = w1) :
    Calls Try.prog 5 #[.int .i64 n, .slice a len cap, .int .i64 m] w fun e w' => e = .returned (.bool true) ∧ Below w.heap.size w w' := by
  have HF := hidMk hF
  have HR := hidMk hR
  clear hF hR
  by_cases h1 : m < 0
  · clear hm
    go_enter Try.func5, Try.ntmps5
    go_wp2_with (first | (go_at_call 15; refine (HF.out).mono ?_; rintro e w1 ⟨rfl, hB⟩) | (go_at_call 10; refine (HR.out _ hB).mono ?_; rintro e w2 ⟨rfl, hw⟩; obtain rfl := hw.symm))
    go_ret
    exact ⟨rfl, hB⟩
  · have h2 : n < m := by omega
    clear hm
    go_enter Try.func5, Try.ntmps5
    go_wp2_with (first | (go_at_call 15; refine (HF.out).mono ?_; rintro e w1 ⟨rfl, hB⟩) | (go_at_call 10; refine (HR.out _ hB).mono ?_; rintro e w2 ⟨rfl, hw⟩; obtain rfl := hw.symm))
    go_ret
    exact ⟨rfl, hB⟩

set_option maxHeartbeats 400000 in
theorem quorumMasked_ok (n m : Int) (r : Bool) (a : Option Addr) (len cap : Nat) (w : World) (hm0 : 0 ≤ m) (hm1 : m ≤ n)
    (hF : Calls Try.prog 15 #[.int .i64 n, .slice a len cap, .int .i64 m] w fun e w' => e = .returned (.tuple #[.bool r, .int .i64 0]) ∧ Below w.heap.size w w')
    (hR : ∀ w1, Below w.heap.size w w1 → Calls Try.prog 10 #[.int .i64 n, .slice a len cap] w1 fun e w' => e = .returned (.int .i64 0) ∧ w' = w1)
    (hS : ∀ w1, Below w.heap.size w w1 → Calls Try.prog 16 #[.int .i64 n, .slice a len cap, .int .i64 m] w1 fun e w' => e = .returned (.bool r) ∧ w' = w1) :
    Calls Try.prog 5 #[.int .i64 n, .slice a len cap, .int .i64 m] w fun e w' => e = .returned (.bool true) ∧ Below w.heap.size w w' := by
  have HF := hidMk hF
  have HR := hidMk hR
  have HS := hidMk hS
  clear hF hR hS
  go_enter Try.func5, Try.ntmps5
  go_wp2_with (first | (go_at_call 15; refine (HF.out).mono ?_; rintro e w1 ⟨rfl, hB⟩) | (go_at_call 10; refine (HR.out _ hB).mono ?_; rintro e w2 ⟨rfl, hw⟩; obtain rfl := hw.symm) | (go_at_call 16; refine (HS.out _ hB).mono ?_; rintro e w2 ⟨rfl, hw⟩; obtain rfl := hw.symm))
  go_ret
  exact ⟨by simp, hB⟩

theorem masks_any (n m : Int) (a : Option Addr) (len cap : Nat) (qs : List Nat) (w : World) (h : Came32 w a len cap qs) (hc : sysCodeOf n qs = 0) (hm0 : 0 ≤ m) (hm1 : m ≤ n) :
    Calls Try.prog 15 #[.int .i64 n, .slice a len cap, .int .i64 m] w fun e w' => e = .returned (.tuple #[.bool (masksB n.toNat qs m), .int .i64 0]) ∧ Below w.heap.size w w' := by
  have hF := check_any n a len cap qs w h
  rw [hc] at hF
  obtain ⟨z1, z2, z3, z4, z5⟩ := famCodeOf_zero (sysCodeOf_zero hc).1
  obtain ⟨h1, h2, h3, h4⟩ := h
  obtain ⟨b, off, rfl, hq⟩ := h4.resolve_left (by omega)
  obtain ⟨k, rfl⟩ := Int.eq_ofNat_of_zero_le (by omega : 0 ≤ n)
  rw [Int.toNat_natCast] at z5 ⊢
  exact masks_row k b off len cap m qs w (by omega) h1 (by omega) (by omega) h2 hq
    (fun x hx => Nat.lt_of_lt_of_le (good_lt z5 hx).2 (Nat.pow_le_pow_right (by omega) (by omega))) hm0 hm1 hF

theorem quorumMasked_walk (n m : Int) (a : Option Addr) (len cap : Nat) (qs : List Nat) (w : World) (h : Came32 w a len cap qs) :
    Calls Try.prog 5 #[.int .i64 n, .slice a len cap, .int .i64 m] w fun e w' => e = .returned (.bool true) ∧ Below w.heap.size w w' := by
  have hF := check_any n a len cap qs w h
  have hR : ∀ w1, Below w.heap.size w w1 → _ := fun w1 hb => refSystem_any n a len cap qs w1 (h.below hb)
  by_cases hc : sysCodeOf n qs = 0
  · have hc' := hc
    rw [hc] at hF
    simp only [hc] at hR
    by_cases hm : m < 0 ∨ n < m
    · exact quorumMasked_arg n m a len cap w hm (masks_arg n m a len cap w hm hF) hR
    · have hM := masks_any n m a len cap qs w h hc (by omega) (by omega)
      obtain ⟨z1, z2, z3, z4, z5⟩ := famCodeOf_zero (sysCodeOf_zero hc).1
      have hS : ∀ w1, Below w.heap.size w w1 → Calls Try.prog 16 #[.int .i64 n, .slice a len cap, .int .i64 m] w1 fun e w' => e = .returned (.bool (masksB n.toNat qs m)) ∧ w' = w1 := by
        intro w1 hb
        obtain ⟨h1, h2, h3, h4⟩ := h.below hb
        obtain ⟨b, off, rfl, hq⟩ := h4.resolve_left (by omega)
        obtain ⟨k, rfl⟩ := Int.eq_ofNat_of_zero_le (by omega : 0 ≤ n)
        rw [Int.toNat_natCast]
        exact refMasks_row k b off len cap m qs w1 (by omega) h1 (by omega) hq (by omega) (by omega)
      exact quorumMasked_ok n m _ a len cap w (by omega) (by omega) hM hR hS
  · have hc' : (sysCodeOf n qs != 0) = true := by simpa using hc
    have hc2 : (sysCodeOf n qs == 0) = false := by simpa using hc
    exact quorumMasked_err n _ m a len cap w hc2 (masks_err n _ m a len cap w hc' hF) hR
end Go.Proofs.Ytblinhncklpidaa
