/- The statement QuorumBlocks, walked: whatever came in, it answers true and keeps what lay there. -/
import Derived.Test.YtblinhncklpidaaC5
import Derived.Test.YtblinhncklpidaaB1
namespace Go.Proofs.Ytblinhncklpidaa
open Go.RowKit

theorem blocksTo_32 {qs : List Nat} {n x : Nat} (hn : n ≤ 12) (h : x ∈ blocksTo qs (2 ^ n)) : x < 4294967296 :=
  Nat.lt_trans (blocksTo_lt h) (two_pow_lt n (by omega))
theorem blocksTo_len' (qs : List Nat) {n : Nat} (hn : n ≤ 12) : (blocksTo qs (2 ^ n)).length ≤ 4096 :=
  Nat.le_trans (blocksTo_len qs _) (Nat.le_trans (Nat.pow_le_pow_right (by omega) hn) (by decide))

set_option maxHeartbeats 400000 in
theorem quorumBlocks_err (n c : Int) (a : Option Addr) (len cap : Nat) (w : World) (hc : (c != 0) = true)
    (hF : Calls Try.prog 19 #[.int .i64 n, .slice a len cap] w fun e w' => e = .returned (.tuple #[.slice none 0 0, .int .i64 c]) ∧ Below w.heap.size w w')
    (hR : ∀ w1, Below w.heap.size w w1 → Calls Try.prog 18 #[.int .i64 n, .slice a len cap] w1 fun e w' => e = .returned (.int .i64 c) ∧ w' = w1) :
    Calls Try.prog 7 #[.int .i64 n, .slice a len cap] w fun e w' => e = .returned (.bool true) ∧ Below w.heap.size w w' := by
  have HF := hidMk hF
  have HR := hidMk hR
  clear hF hR
  go_enter Try.func7, Try.ntmps7
  go_wp2_with (first | (go_at_call 19; refine (HF.out).mono ?_; rintro e w1 ⟨rfl, hB⟩) | (go_at_call 18; refine (HR.out _ hB).mono ?_; rintro e w2 ⟨rfl, hw⟩; obtain rfl := hw.symm))
  go_ret
  exact ⟨by simp, hB⟩

set_option maxHeartbeats 800000 in
theorem quorumBlocks_ok (n b off len cap : Nat) (qs : List Nat) (w : World) (hn : n ≤ 12) (hl : qs.length = len) (hl1 : 1 ≤ len) (hl2 : len ≤ 4096) (hq : Row w b off qs)
    (hF : Calls Try.prog 19 #[.int .i64 n, .slice (some ⟨b, off, none⟩) len cap] w fun e w' => ∃ v, e = .returned (.tuple #[v, .int .i64 0]) ∧ Made w' w.heap.size v (blocksTo qs (2 ^ n)) ∧ Below w.heap.size w w')
    (hR : ∀ w1, Below w.heap.size w w1 → Calls Try.prog 18 #[.int .i64 n, .slice (some ⟨b, off, none⟩) len cap] w1 fun e w' => e = .returned (.int .i64 0) ∧ w' = w1) :
    Calls Try.prog 7 #[.int .i64 n, .slice (some ⟨b, off, none⟩) len cap] w fun e w' => e = .returned (.bool true) ∧ Below w.heap.size w w' := by
  have HF := hidMk hF
  have HR := hidMk hR
  have HB : Hid (∀ w1, Below w.heap.size w w1 → Calls Try.prog 14 #[.int .i64 n, .slice (some ⟨b, off, none⟩) len cap] w1 fun e w' => ∃ v, e = .returned v ∧ Made w' w1.heap.size v (blocksTo qs (2 ^ n)) ∧ Below w1.heap.size w1 w') :=
    fun w1 hb => refBlocks_row n b off len cap qs w1 hn hl hl1 hl2 (hq.below rfl hb)
  have HX : Hid (∀ x ∈ blocksTo qs (2 ^ n), x < 4294967296) := fun x hx => blocksTo_32 hn hx
  have hLl := blocksTo_len' qs hn
  generalize blocksTo qs (2 ^ n) = L at *
  clear hF hR hl
  have hLl' : ((L.length : Nat) : Int) ≤ 4096 := by omega
  go_enter Try.func7, Try.ntmps7
  go_wp2_with (first
    | (go_at_call 19; refine (HF.out).mono ?_; rintro e w1 ⟨v, rfl, hM, hB⟩; obtain ⟨a1, c1, rfl, hC1, _⟩ := came_owned hM HX.out)
    | (go_at_call 18; refine (HR.out _ hB).mono ?_; rintro e w2 ⟨rfl, hw⟩; obtain rfl := hw.symm)
    | (go_at_call 14; refine (HB.out _ hB).mono ?_; rintro e w2 ⟨v, rfl, hM2, hB2⟩; obtain ⟨a2, c2, rfl, hC2, _⟩ := came_owned hM2 HX.out)
    | (go_at_call 12; refine (words_any a1 a2 _ _ c1 c2 L L _ hLl hLl (hC1.below hB2) hC2).mono ?_; rintro e w3 ⟨rfl, hB3⟩))
  go_ret
  exact ⟨by simp, (hB.trans (hB2.mono hB.size)).trans (hB3.mono (Nat.le_trans hB.size hB2.size))⟩

theorem quorumBlocks_walk (n : Int) (a : Option Addr) (len cap : Nat) (qs : List Nat) (w : World) (h : Came32 w a len cap qs) :
    Calls Try.prog 7 #[.int .i64 n, .slice a len cap] w fun e w' => e = .returned (.bool true) ∧ Below w.heap.size w w' := by
  have hF := family_any n a len cap qs w h
  have hR : ∀ w1, Below w.heap.size w w1 → _ := fun w1 hb => refFamily_any n a len cap qs w1 (h.below hb)
  by_cases hc : famCodeOf n qs = 0
  · rw [hc] at hF
    simp only [hc] at hR
    obtain ⟨z1, z2, z3, z4, z5⟩ := famCodeOf_zero hc
    obtain ⟨h1, h2, h3, h4⟩ := h
    obtain ⟨b, off, rfl, hq⟩ := h4.resolve_left (by omega)
    obtain ⟨k, rfl⟩ := Int.eq_ofNat_of_zero_le (by omega : 0 ≤ n)
    exact quorumBlocks_ok k b off len cap qs w (by omega) h1 (by omega) (by omega) hq (blocks_row k b off len cap qs w (by omega) h1 (by omega) hq hF) hR
  · have hc' : (famCodeOf n qs != 0) = true := by simpa using hc
    exact quorumBlocks_err n _ a len cap w hc' (blocks_err n _ a len cap w hc' hF) hR
end Go.Proofs.Ytblinhncklpidaa
