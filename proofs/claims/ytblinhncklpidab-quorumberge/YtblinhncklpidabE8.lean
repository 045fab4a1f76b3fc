/- Contracts of folkmootkeep.family and of quorum.Least and Blocks of whatever came in; the statement QuorumSame. -/
import Derived.Test.YtblinhncklpidabE7
namespace Go.Proofs.Ytblinhncklpidab
open Go.RowKit

set_option maxHeartbeats 400000 in
theorem keepFamily_any (n c : Int) (a : Option Addr) (len cap : Nat) (w : World)
    (hR : Calls Try.prog 19 #[.int .i64 n, .slice a len cap] w fun e w' => e = .returned (.int .i64 c) ∧ w' = w) :
    Calls Try.prog 8 #[.int .i64 n, .slice a len cap] w fun e w' => e = .returned (.bool (c == 0)) ∧ w' = w := by
  have HR := hidMk hR
  clear hR
  go_enter Try.func8, Try.ntmps8
  go_wp2_with (go_at_call 19; refine (HR.out).mono ?_; rintro e w' ⟨rfl, hw⟩; obtain rfl := hw.symm)
  go_ret
  exact ⟨rfl, rfl⟩

theorem least_any (n : Int) (a : Option Addr) (len cap : Nat) (qs : List Nat) (w : World) (h : Came32 w a len cap qs) (hc : famCodeOf n qs = 0) :
    Calls Try.prog 9 #[.int .i64 n, .slice a len cap] w fun e w' => ∃ v, e = .returned (.tuple #[v, .int .i64 0]) ∧ Made w' w.heap.size v (leastsTo qs (2 ^ n.toNat)) ∧ Below w.heap.size w w' := by
  have hF := family_any n a len cap qs w h
  rw [hc] at hF
  obtain ⟨z1, z2, z3, z4, z5⟩ := famCodeOf_zero hc
  obtain ⟨h1, h2, h3, h4⟩ := h
  obtain ⟨b, off, rfl, hq⟩ := h4.resolve_left (by omega)
  obtain ⟨k, rfl⟩ := Int.eq_ofNat_of_zero_le (by omega : 0 ≤ n)
  rw [Int.toNat_natCast] at z5 ⊢
  exact least_row k b off len cap qs w h1 (by omega) (by omega) (fun x hx => (good_lt z5 hx).2) hq hF

theorem blocks_any (n : Int) (a : Option Addr) (len cap : Nat) (qs : List Nat) (w : World) (h : Came32 w a len cap qs) (hc : famCodeOf n qs = 0) :
    Calls Try.prog 7 #[.int .i64 n, .slice a len cap] w fun e w' => ∃ v, e = .returned (.tuple #[v, .int .i64 0]) ∧ Made w' w.heap.size v (blocksTo qs (2 ^ n.toNat)) ∧ Below w.heap.size w w' := by
  have hF := family_any n a len cap qs w h
  rw [hc] at hF
  obtain ⟨z1, z2, z3, z4, z5⟩ := famCodeOf_zero hc
  obtain ⟨h1, h2, h3, h4⟩ := h
  obtain ⟨b, off, rfl, hq⟩ := h4.resolve_left (by omega)
  obtain ⟨k, rfl⟩ := Int.eq_ofNat_of_zero_le (by omega : 0 ≤ n)
  rw [Int.toNat_natCast] at z5 ⊢
  exact blocks_row k b off len cap qs w (by omega) h1 (by omega) hq hF

theorem wrong_zero {c : Int} (hc : (c != 0) = true) : (c == 0) = false := by simpa using hc

set_option maxHeartbeats 400000 in
theorem quorumSame_err (n c : Int) (a : Option Addr) (len cap : Nat) (w : World) (hc : (c != 0) = true)
    (hF : Calls Try.prog 9 #[.int .i64 n, .slice a len cap] w fun e w' => e = .returned (.tuple #[.slice none 0 0, .int .i64 c]) ∧ Below w.heap.size w w')
    (hR : ∀ w1, Below w.heap.size w w1 → Calls Try.prog 8 #[.int .i64 n, .slice a len cap] w1 fun e w' => e = .returned (.bool (c == 0)) ∧ w' = w1) :
    Calls Try.prog 6 #[.int .i64 n, .slice a len cap] w fun e w' => e = .returned (.bool true) ∧ Below w.heap.size w w' := by
  rw [wrong_zero hc] at hR
  have HF := hidMk hF
  have HR := hidMk hR
  clear hF hR
  go_enter Try.func6, Try.ntmps6
  go_wp2_with (first | (go_at_call 9; refine (HF.out).mono ?_; rintro e w1 ⟨rfl, hB⟩) | (go_at_call 8; refine (HR.out _ hB).mono ?_; rintro e w2 ⟨rfl, hw⟩; obtain rfl := hw.symm))
  go_ret
  exact ⟨rfl, hB⟩

set_option maxHeartbeats 800000 in
theorem quorumSame_ok (n : Int) (L B : List Nat) (a : Option Addr) (len cap : Nat) (w : World) (hB1 : 1 ≤ B.length) (hB2 : B.length ≤ 4096) (hLx : ∀ x ∈ L, x < 4294967296) (hBx : ∀ x ∈ B, x < 4294967296)
    (hF : Calls Try.prog 9 #[.int .i64 n, .slice a len cap] w fun e w' => ∃ v, e = .returned (.tuple #[v, .int .i64 0]) ∧ Made w' w.heap.size v L ∧ Below w.heap.size w w')
    (hR : ∀ w1, Below w.heap.size w w1 → Calls Try.prog 8 #[.int .i64 n, .slice a len cap] w1 fun e w' => e = .returned (.bool true) ∧ w' = w1)
    (hA : ∀ w1, Below w.heap.size w w1 → Calls Try.prog 7 #[.int .i64 n, .slice a len cap] w1 fun e w' => ∃ v, e = .returned (.tuple #[v, .int .i64 0]) ∧ Made w' w1.heap.size v B ∧ Below w1.heap.size w1 w')
    (hC : ∀ a1 c1 w1, Came32 w1 a1 L.length c1 L → Calls Try.prog 7 #[.int .i64 n, .slice a1 L.length c1] w1 fun e w' => ∃ v, e = .returned (.tuple #[v, .int .i64 0]) ∧ Made w' w1.heap.size v B ∧ Below w1.heap.size w1 w') :
    Calls Try.prog 6 #[.int .i64 n, .slice a len cap] w fun e w' => e = .returned (.bool true) ∧ Below w.heap.size w w' := by
  have HF := hidMk hF
  have HR := hidMk hR
  have HA := hidMk hA
  have HC := hidMk hC
  have HLx := hidMk hLx
  have HBx := hidMk hBx
  clear hF hR hA hC hLx hBx
  have hb1 : (0 : Int) < (B.length : Int) := by omega
  have hb2 : (B.length : Int) ≤ 4096 := by omega
  go_enter Try.func6, Try.ntmps6
  go_wp2_with (first
    | (go_at_call 9; refine (HF.out).mono ?_; rintro e w1 ⟨v, rfl, hM, hB⟩; obtain ⟨a1, c1, rfl, hC1, _⟩ := came_owned hM HLx.out; have HC1 := hidMk hC1; clear hC1 hM)
    | (go_at_call 8; refine (HR.out _ hB).mono ?_; rintro e w2 ⟨rfl, hw⟩; obtain rfl := hw.symm)
    | (go_at_call 7; refine (HC.out _ _ _ (HC1.out.below hBb)).mono ?_; rintro e w3 ⟨v, rfl, hM3, hBc⟩; obtain ⟨a3, c3, rfl, hC3, _⟩ := came_owned hM3 HBx.out; have HC3 := hidMk hC3; clear hC3 hM3)
    | (go_at_call 7; refine (HA.out _ hB).mono ?_; rintro e w2 ⟨v, rfl, hM2, hBb⟩; obtain ⟨a2, c2, rfl, hC2, _⟩ := came_owned hM2 HBx.out; have HC2 := hidMk hC2; clear hC2 hM2)
    | (go_at_call 10; refine (words_any a2 a3 _ _ c2 c3 B B _ hB2 hB2 (HC2.out.below hBc) HC3.out).mono ?_; rintro e w4 ⟨rfl, hBd⟩))
  go_ret
  have h1 := hB.trans (hBb.mono hB.size)
  have h2 := h1.trans (hBc.mono h1.size)
  exact ⟨by simp, h2.trans (hBd.mono h2.size)⟩

theorem quorumSame_walk (n : Int) (a : Option Addr) (len cap : Nat) (qs : List Nat) (w : World) (h : Came32 w a len cap qs) :
    Calls Try.prog 6 #[.int .i64 n, .slice a len cap] w fun e w' => e = .returned (.bool true) ∧ Below w.heap.size w w' := by
  have hR : ∀ w1, Below w.heap.size w w1 → _ := fun w1 hb => keepFamily_any n _ a len cap w1 (refFamily_any n a len cap qs w1 (h.below hb))
  by_cases hc : famCodeOf n qs = 0
  · obtain ⟨z1, z2, z3, z4, z5⟩ := famCodeOf_zero hc
    have hx : ∀ x ∈ qs, x < 2 ^ n.toNat := fun x hx => (good_lt z5 hx).2
    have hn : n.toNat ≤ 12 := by omega
    simp only [hc] at hR
    refine quorumSame_ok n (leastsTo qs (2 ^ n.toNat)) (blocksTo qs (2 ^ n.toNat)) a len cap w (blocks_pos hn (fun x hx => good_lt z5 hx)) (blocksTo_len' qs hn) (fun x hx => leastsTo_32 hn hx) (fun x hx => blocksTo_32 hn hx)
      (least_any n a len cap qs w h hc) hR (fun w1 hb => blocks_any n a len cap qs w1 (h.below hb) hc) ?_
    intro a1 c1 w1 h1
    have := blocks_any n a1 _ c1 _ w1 h1 (leasts_family hc)
    rw [blocks_same hx] at this
    exact this
  · have hc' : (famCodeOf n qs != 0) = true := by simpa using hc
    exact quorumSame_err n _ a len cap w hc' (least_err n _ a len cap w hc' (family_any n a len cap qs w h)) hR
end Go.Proofs.Ytblinhncklpidab
