/- Contract of quorum.Full, and the statement QuorumFulls. -/
import Derived.Test.YtblinhncklpidaaE5
import Derived.Test.YtblinhncklpidaaB2
namespace Go.Proofs.Ytblinhncklpidaa
open Go.RowKit


/-- Are the least sets, and the least sets that meet each, the same? -/
def fullB (n : Nat) (qs : List Nat) : Bool := leastsTo qs (2 ^ n) == blocksTo qs (2 ^ n)

set_option maxHeartbeats 400000 in
theorem full_err (n c : Int) (a : Option Addr) (len cap : Nat) (w : World) (hc : (c != 0) = true)
    (hF : Calls Try.prog 9 #[.int .i64 n, .slice a len cap] w fun e w' => e = .returned (.int .i64 c) ∧ Below w.heap.size w w') :
    Calls Try.prog 11 #[.int .i64 n, .slice a len cap] w fun e w' => e = .returned (.tuple #[.bool false, .int .i64 c]) ∧ Below w.heap.size w w' := by
  have HF := hidMk hF
  clear hF
  go_enter Try.func11, Try.ntmps11
  go_wp2_with (go_at_call 9; refine (HF.out).mono ?_; rintro e w' ⟨rfl, hB⟩)
  go_ret2
  exact ⟨rfl, hB⟩

set_option maxHeartbeats 800000 in
theorem full_row (n b off len cap : Nat) (qs : List Nat) (w : World) (hn : n ≤ 12) (hl : qs.length = len) (hl1 : 1 ≤ len) (hl2 : len ≤ 64) (hx : ∀ x ∈ qs, x < 2 ^ n) (hq : Row w b off qs)
    (hF : Calls Try.prog 9 #[.int .i64 n, .slice (some ⟨b, off, none⟩) len cap] w fun e w' => e = .returned (.int .i64 0) ∧ Below w.heap.size w w') :
    Calls Try.prog 11 #[.int .i64 n, .slice (some ⟨b, off, none⟩) len cap] w fun e w' => e = .returned (.tuple #[.bool (fullB n qs), .int .i64 0]) ∧ Below w.heap.size w w' := by
  have HF := hidMk hF
  clear hF
  unfold fullB
  have HB1 : Hid (∀ w1, Below w.heap.size w w1 → Calls Try.prog 25 #[.slice (some ⟨b, off, none⟩) len cap] w1 fun e w' => ∃ v, e = .returned v ∧ Made w' w1.heap.size v (leastsTo qs (2 ^ n)) ∧ Below w1.heap.size w1 w') :=
    fun w1 hb => leastSets_row n b off len cap qs w1 hl hl1 hl2 hx (hq.below rfl hb)
  have HB2 : Hid (∀ w1, Below w.heap.size w w1 → Calls Try.prog 26 #[.int .i64 n, .slice (some ⟨b, off, none⟩) len cap] w1 fun e w' => ∃ v, e = .returned v ∧ Made w' w1.heap.size v (blocksTo qs (2 ^ n)) ∧ Below w1.heap.size w1 w') :=
    fun w1 hb => leastBlocks_row n b off len cap qs w1 hn hl (by omega) (hq.below rfl hb)
  have HX1 : Hid (∀ x ∈ leastsTo qs (2 ^ n), x < 4294967296) := fun x hx => leastsTo_32 hn hx
  have HX2 : Hid (∀ x ∈ blocksTo qs (2 ^ n), x < 4294967296) := fun x hx => blocksTo_32 hn hx
  have hL1 := leastsTo_len' qs hn
  have hL2 := blocksTo_len' qs hn
  generalize leastsTo qs (2 ^ n) = L1 at *
  generalize blocksTo qs (2 ^ n) = L2 at *
  clear hl hx
  go_enter Try.func11, Try.ntmps11
  go_wp2_with (first
    | (go_at_call 9; refine (HF.out).mono ?_; rintro e w1 ⟨rfl, hB⟩)
    | (go_at_call 25; refine (HB1.out _ hB).mono ?_; rintro e w2 ⟨v, rfl, hM, hB2⟩; obtain ⟨a1, c1, rfl, hC1, _⟩ := came_owned hM HX1.out)
    | (go_at_call 26; refine (HB2.out _ (hB.trans (hB2.mono hB.size))).mono ?_; rintro e w3 ⟨v, rfl, hM3, hB3⟩; obtain ⟨a2, c2, rfl, hC2, _⟩ := came_owned hM3 HX2.out)
    | (go_at_call 24; refine (equal_any a1 a2 _ _ c1 c2 L1 L2 _ hL1 hL2 (hC1.below hB3) hC2).mono ?_; rintro e w4 ⟨rfl, hB4⟩))
  go_ret2
  have hA := hB.trans (hB2.mono hB.size)
  have hA3 := hA.trans (hB3.mono hA.size)
  exact ⟨rfl, hA3.trans (hB4.mono hA3.size)⟩

theorem full_any (n : Int) (a : Option Addr) (len cap : Nat) (qs : List Nat) (w : World) (h : Came32 w a len cap qs) (hc : sysCodeOf n qs = 0) :
    Calls Try.prog 11 #[.int .i64 n, .slice a len cap] w fun e w' => e = .returned (.tuple #[.bool (fullB n.toNat qs), .int .i64 0]) ∧ Below w.heap.size w w' := by
  have hF := check_any n a len cap qs w h
  rw [hc] at hF
  obtain ⟨z1, z2, z3, z4, z5⟩ := famCodeOf_zero (sysCodeOf_zero hc).1
  obtain ⟨h1, h2, h3, h4⟩ := h
  obtain ⟨b, off, rfl, hq⟩ := h4.resolve_left (by omega)
  obtain ⟨k, rfl⟩ := Int.eq_ofNat_of_zero_le (by omega : 0 ≤ n)
  rw [Int.toNat_natCast] at z5 ⊢
  exact full_row k b off len cap qs w (by omega) h1 (by omega) (by omega) (fun x hx => (good_lt z5 hx).2) hq hF

set_option maxHeartbeats 400000 in
theorem quorumFulls_err (n c : Int) (a : Option Addr) (len cap : Nat) (w : World) (hc : (c != 0) = true)
    (hF : Calls Try.prog 11 #[.int .i64 n, .slice a len cap] w fun e w' => e = .returned (.tuple #[.bool false, .int .i64 c]) ∧ Below w.heap.size w w')
    (hR : ∀ w1, Below w.heap.size w w1 → Calls Try.prog 10 #[.int .i64 n, .slice a len cap] w1 fun e w' => e = .returned (.int .i64 c) ∧ w' = w1) :
    Calls Try.prog 4 #[.int .i64 n, .slice a len cap] w fun e w' => e = .returned (.bool true) ∧ Below w.heap.size w w' := by
  have HF := hidMk hF
  have HR := hidMk hR
  clear hF hR
  go_enter Try.func4, Try.ntmps4
  go_wp2_with (first | (go_at_call 11; refine (HF.out).mono ?_; rintro e w1 ⟨rfl, hB⟩) | (go_at_call 10; refine (HR.out _ hB).mono ?_; rintro e w2 ⟨rfl, hw⟩; obtain rfl := hw.symm))
  go_ret
  exact ⟨by simp, hB⟩

set_option maxHeartbeats 800000 in
theorem quorumFulls_ok (n b off len cap : Nat) (qs : List Nat) (w : World) (hn : n ≤ 12) (hl : qs.length = len) (hl1 : 1 ≤ len) (hl2 : len ≤ 64) (hx0 : ∀ x ∈ qs, 0 < x) (hq : Row w b off qs)
    (hF : Calls Try.prog 11 #[.int .i64 n, .slice (some ⟨b, off, none⟩) len cap] w fun e w' => e = .returned (.tuple #[.bool (fullB n qs), .int .i64 0]) ∧ Below w.heap.size w w')
    (hR : ∀ w1, Below w.heap.size w w1 → Calls Try.prog 10 #[.int .i64 n, .slice (some ⟨b, off, none⟩) len cap] w1 fun e w' => e = .returned (.int .i64 0) ∧ w' = w1) :
    Calls Try.prog 4 #[.int .i64 n, .slice (some ⟨b, off, none⟩) len cap] w fun e w' => e = .returned (.bool true) ∧ Below w.heap.size w w' := by
  unfold fullB at hF
  have HF := hidMk hF
  have HR := hidMk hR
  have HB1 : Hid (∀ w1, Below w.heap.size w w1 → Calls Try.prog 13 #[.int .i64 n, .slice (some ⟨b, off, none⟩) len cap] w1 fun e w' => ∃ v, e = .returned v ∧ Made w' w1.heap.size v (leastsTo qs (2 ^ n)) ∧ Below w1.heap.size w1 w') :=
    fun w1 hb => refLeast_row n b off len cap qs w1 hn hl hl2 hx0 (hq.below rfl hb)
  have HB2 : Hid (∀ w1, Below w.heap.size w w1 → Calls Try.prog 14 #[.int .i64 n, .slice (some ⟨b, off, none⟩) len cap] w1 fun e w' => ∃ v, e = .returned v ∧ Made w' w1.heap.size v (blocksTo qs (2 ^ n)) ∧ Below w1.heap.size w1 w') :=
    fun w1 hb => refBlocks_row n b off len cap qs w1 hn hl hl1 (by omega) (hq.below rfl hb)
  have HX1 : Hid (∀ x ∈ leastsTo qs (2 ^ n), x < 4294967296) := fun x hx => leastsTo_32 hn hx
  have HX2 : Hid (∀ x ∈ blocksTo qs (2 ^ n), x < 4294967296) := fun x hx => blocksTo_32 hn hx
  have hL1 := leastsTo_len' qs hn
  have hL2 := blocksTo_len' qs hn
  generalize leastsTo qs (2 ^ n) = L1 at *
  generalize blocksTo qs (2 ^ n) = L2 at *
  clear hF hR hl hx0
  go_enter Try.func4, Try.ntmps4
  go_wp2_with (first
    | (go_at_call 11; refine (HF.out).mono ?_; rintro e w1 ⟨rfl, hB⟩)
    | (go_at_call 10; refine (HR.out _ hB).mono ?_; rintro e w2 ⟨rfl, hw⟩; obtain rfl := hw.symm)
    | (go_at_call 13; refine (HB1.out _ hB).mono ?_; rintro e w2 ⟨v, rfl, hM, hB2⟩; obtain ⟨a1, c1, rfl, hC1, _⟩ := came_owned hM HX1.out)
    | (go_at_call 14; refine (HB2.out _ (hB.trans (hB2.mono hB.size))).mono ?_; rintro e w3 ⟨v, rfl, hM3, hB3⟩; obtain ⟨a2, c2, rfl, hC2, _⟩ := came_owned hM3 HX2.out)
    | (go_at_call 12; refine (words_any a1 a2 _ _ c1 c2 L1 L2 _ hL1 hL2 (hC1.below hB3) hC2).mono ?_; rintro e w4 ⟨rfl, hB4⟩))
  go_ret
  have hA := hB.trans (hB2.mono hB.size)
  have hA3 := hA.trans (hB3.mono hA.size)
  exact ⟨by simp, hA3.trans (hB4.mono hA3.size)⟩

theorem quorumFulls_walk (n : Int) (a : Option Addr) (len cap : Nat) (qs : List Nat) (w : World) (h : Came32 w a len cap qs) :
    Calls Try.prog 4 #[.int .i64 n, .slice a len cap] w fun e w' => e = .returned (.bool true) ∧ Below w.heap.size w w' := by
  have hF := check_any n a len cap qs w h
  have hR : ∀ w1, Below w.heap.size w w1 → _ := fun w1 hb => refSystem_any n a len cap qs w1 (h.below hb)
  by_cases hc : sysCodeOf n qs = 0
  · have hM := full_any n a len cap qs w h hc
    simp only [hc] at hR
    obtain ⟨z1, z2, z3, z4, z5⟩ := famCodeOf_zero (sysCodeOf_zero hc).1
    obtain ⟨h1, h2, h3, h4⟩ := h
    obtain ⟨b, off, rfl, hq⟩ := h4.resolve_left (by omega)
    obtain ⟨k, rfl⟩ := Int.eq_ofNat_of_zero_le (by omega : 0 ≤ n)
    rw [Int.toNat_natCast] at z5 hM
    exact quorumFulls_ok k b off len cap qs w (by omega) h1 (by omega) (by omega) (fun x hx => (good_lt z5 hx).1) hq hM hR
  · have hc' : (sysCodeOf n qs != 0) = true := by simpa using hc
    exact quorumFulls_err n _ a len cap w hc' (full_err n _ a len cap w hc' hF) hR
end Go.Proofs.Ytblinhncklpidaa
