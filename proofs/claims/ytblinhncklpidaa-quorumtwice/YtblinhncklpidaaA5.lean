/- Contracts of quorum.allMembers, memberOutside and its closure, and checkFamily. -/
import Derived.Test.YtblinhncklpidaaA4
import Derived.RangeFuncBox
namespace Go.Proofs.Ytblinhncklpidaa
open Go.RowKit

theorem shl_sub (n : Nat) (hn : n ≤ 12) : ((2 : Int) ^ n % 4294967296 - 1) % 4294967296 = ((2 ^ n - 1 : Nat) : Int) := by
  rw [pow_mod n (by omega)]
  have h := two_pow_lt n (by omega)
  have hp : 0 < 2 ^ n := Nat.two_pow_pos n
  rw [Int.ofNat_sub hp]
  exact Int.emod_eq_of_lt (by omega) (by omega)

set_option maxHeartbeats 400000 in
theorem allMembers_any (n : Nat) (hn : n ≤ 12) (w : World) :
    Calls Try.prog 35 #[.int .i64 n] w fun e w' => e = .returned (.int .u32 ((2 ^ n - 1 : Nat) : Int)) ∧ w' = w := by
  go_enter Try.func35, Try.ntmps35
  go_wp2
  go_ret
  refine ⟨?_, rfl⟩
  exact ret_int (shl_sub n hn)

set_option maxHeartbeats 400000 in
theorem memberOutside_any (s : Int) (w : World) :
    Calls Try.prog 34 #[.int .u32 s] w fun e w' => e = .returned (.func (.func 46) #[] #[.pointer (some ⟨w.heap.size, 0, none⟩)]) ∧ w' = w.alloc (.cells #[.int .u32 s] 34) := by
  go_enter Try.func34, Try.ntmps34
  go_wp2
  go_ret
  exact ⟨rfl, rfl⟩

theorem andNot_ne (t s : Nat) (ht : t < 4294967296) (hs : s < 4294967296) : (bits BinOp.andNot IntKind.u32 (t : Int) (s : Int) != 0) = (t &&& (4294967295 - s) != 0) := by
  rw [u32_andNot_nat t s ht hs, Bool.eq_iff_iff]
  simp

set_option maxHeartbeats 400000 in
theorem outsideFn_any (t s B : Nat) (ht : t < 4294967296) (hs : s < 4294967296) (w : World) (hc : w.cell? ⟨B, 0, none⟩ = some (.int .u32 (s : Int))) :
    Calls Try.prog 46 #[.int .u32 (t : Int), .pointer (some ⟨B, 0, none⟩)] w fun e w' => e = .returned (.bool (t &&& (4294967295 - s) != 0)) ∧ w' = w := by
  go_enter Try.func46, Try.ntmps46
  go_wp2
  go_ret
  exact ⟨ret_bool (andNot_ne t s ht hs), rfl⟩

theorem enters_outside : ∀ args w, (callFunc 46 args).run Try.prog w = .ok (.enter 46 args) w :=
  Go.Proofs.enters_of Try.func46 (by kernel_rfl) rfl

theorem asks_outside (w : World) (s B : Nat) (hs : s < 4294967296) (hB : B < w.heap.size) (hc : w.cell? ⟨B, 0, none⟩ = some (.int .u32 (s : Int))) :
    Asks w 46 (.pointer (some ⟨B, 0, none⟩)) (fun t => t &&& (4294967295 - s) != 0) := by
  intro x w1 hx hb
  refine (outsideFn_any x s B hx hs w1 ((hb.cell (p := ⟨B, 0, none⟩) hB).trans hc)).mono ?_
  rintro e w' ⟨rfl, rfl⟩
  exact ⟨rfl, Below.refl _ _⟩

set_option maxHeartbeats 400000 in
theorem family_large (n : Int) (a : Option Addr) (len cap : Nat) (hlen : len ≤ maxLen) (w : World) (h : n < 1 ∨ 12 < n ∨ 64 < len) :
    Calls Try.prog 22 #[.int .i64 n, .slice a len cap] w fun e w' => e = .returned (.int .i64 1) ∧ w' = w := by
  unfold maxLen at hlen
  by_cases h1 : n < 1
  · go_enter Try.func22, Try.ntmps22
    go_wp2
    go_ret
    exact ⟨rfl, rfl⟩
  · by_cases h2 : 12 < n
    · go_enter Try.func22, Try.ntmps22
      go_wp2
      go_ret
      exact ⟨rfl, rfl⟩
    · have h3 : (64 : Int) < (len : Int) := by omega
      clear h
      go_enter Try.func22, Try.ntmps22
      go_wp2
      go_ret
      exact ⟨rfl, rfl⟩

set_option maxHeartbeats 400000 in
theorem family_none (n : Int) (a : Option Addr) (cap : Nat) (w : World) (h1 : 1 ≤ n) (h2 : n ≤ 12) :
    Calls Try.prog 22 #[.int .i64 n, .slice a 0 cap] w fun e w' => e = .returned (.int .i64 5) ∧ w' = w := by
  go_enter Try.func22, Try.ntmps22
  go_wp2
  go_ret
  exact ⟨rfl, rfl⟩

set_option maxHeartbeats 800000 in
theorem family_row (n : Nat) (b off len cap : Nat) (qs : List Nat) (w : World) (h1 : 1 ≤ n) (h2 : n ≤ 12) (hl : qs.length = len) (hl1 : 1 ≤ len) (hl2 : len ≤ 64) (hq : Row w b off qs) :
    Calls Try.prog 22 #[.int .i64 n, .slice (some ⟨b, off, none⟩) len cap] w fun e w' => e = .returned (.int .i64 (famCode n qs)) ∧ Below w.heap.size w w' := by
  have HS := bad_split n h2 qs hq.2.1
  have hne : ((len : Int) == 0) = false := by simp; omega
  have HL : Hid (qs.length = len) := hl
  clear hl
  have h1' : (1 : Int) ≤ (n : Int) := by omega
  have h2' : (n : Int) ≤ 12 := by omega
  have hl2' : (len : Int) ≤ 64 := by omega
  have hpow := two_pow_lt n (by omega)
  have HC := contains_row 0 b off len cap qs w HL.out (by omega) hq
  have hB0 : Below w.heap.size w (w.alloc (.cells #[.int .u32 ((2 ^ n - 1 : Nat) : Int)] 34)) := (Below.refl _ w).alloc (Nat.le_refl _) _
  have HF := containsFunc_row 46 (.pointer (some ⟨w.heap.size, 0, none⟩)) (fun t => t &&& (4294967295 - (2 ^ n - 1)) != 0) b off len cap qs _ enters_outside HL.out (by omega) (hq.below rfl hB0)
    (asks_outside (w.alloc (.cells #[.int .u32 ((2 ^ n - 1 : Nat) : Int)] 34)) (2 ^ n - 1) w.heap.size (by omega) (by simp) (Boxed.new w 34 _).cell)
  cases hz : (qs.any fun x => 0 == x)
  · rw [hz, Bool.false_or] at HS
    rw [hz] at HC
    have HC' : Hid (Calls Try.prog 32 #[.slice (some ⟨b, off, none⟩) len cap, .int .u32 0] w fun e w' => e = .returned (.bool false) ∧ w' = w) := HC
    cases hy : (qs.any fun t => t &&& (4294967295 - (2 ^ n - 1)) != 0)
    · rw [hy] at HS HF
      have HS' : Hid (qs.any (badB n) = false) := HS
      have HF' := hidMk HF
      clear HS hz hy HC HF hB0
      go_enter Try.func22, Try.ntmps22
      go_wp2_with (first | (go_at_call 32; refine (HC'.out).mono ?_; rintro e w' ⟨rfl, rfl⟩) | (go_at_call 35; refine (allMembers_any n h2 _).mono ?_; rintro e w' ⟨rfl, rfl⟩) | (go_at_call 34; refine (memberOutside_any _ _).mono ?_; rintro e w' ⟨rfl, rfl⟩) | (go_at_call 33; refine (HF'.out).mono ?_; rintro e w' ⟨rfl, hB⟩))
      go_ret
      exact ⟨ret_int (famCode_ok HS'.out).symm, ((Below.refl _ _).alloc (Nat.le_refl _) _).trans (hB.mono (by simp))⟩
    · rw [hy] at HS HF
      have HS' : Hid (qs.any (badB n) = true) := HS
      have HF' := hidMk HF
      clear HS hz hy HC HF hB0
      go_enter Try.func22, Try.ntmps22
      go_wp2_with (first | (go_at_call 32; refine (HC'.out).mono ?_; rintro e w' ⟨rfl, rfl⟩) | (go_at_call 35; refine (allMembers_any n h2 _).mono ?_; rintro e w' ⟨rfl, rfl⟩) | (go_at_call 34; refine (memberOutside_any _ _).mono ?_; rintro e w' ⟨rfl, rfl⟩) | (go_at_call 33; refine (HF'.out).mono ?_; rintro e w' ⟨rfl, hB⟩))
      go_ret
      exact ⟨ret_int (famCode_bad HS'.out).symm, ((Below.refl _ _).alloc (Nat.le_refl _) _).trans (hB.mono (by simp))⟩
  · rw [hz, Bool.true_or] at HS
    rw [hz] at HC
    have HC' : Hid (Calls Try.prog 32 #[.slice (some ⟨b, off, none⟩) len cap, .int .u32 0] w fun e w' => e = .returned (.bool true) ∧ w' = w) := HC
    have HS' : Hid (qs.any (badB n) = true) := HS
    clear HS hz HC HF hB0
    go_enter Try.func22, Try.ntmps22
    go_wp2_with (first | (go_at_call 32; refine (HC'.out).mono ?_; rintro e w' ⟨rfl, rfl⟩))
    go_ret
    exact ⟨ret_int (famCode_bad HS'.out).symm, Below.refl _ _⟩
end Go.Proofs.Ytblinhncklpidaa
