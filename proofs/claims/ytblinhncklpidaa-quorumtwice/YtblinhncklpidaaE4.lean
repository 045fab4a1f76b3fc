/- Contracts of quorum.Least and of slices.Equal at rows of 32 bits. -/
import Derived.Test.YtblinhncklpidaaE3
import Derived.Test.YtblinhncklpidaaB1
namespace Go.Proofs.Ytblinhncklpidaa
open Go.RowKit

set_option maxHeartbeats 400000 in
theorem least_err (n c : Int) (a : Option Addr) (len cap : Nat) (w : World) (hc : (c != 0) = true)
    (hF : Calls Try.prog 22 #[.int .i64 n, .slice a len cap] w fun e w' => e = .returned (.int .i64 c) ∧ Below w.heap.size w w') :
    Calls Try.prog 17 #[.int .i64 n, .slice a len cap] w fun e w' => e = .returned (.tuple #[.slice none 0 0, .int .i64 c]) ∧ Below w.heap.size w w' := by
  have HF := hidMk hF
  clear hF
  go_enter Try.func17, Try.ntmps17
  go_wp2_with (go_at_call 22; refine (HF.out).mono ?_; rintro e w' ⟨rfl, hB⟩)
  go_ret2
  exact ⟨rfl, hB⟩

set_option maxHeartbeats 400000 in
theorem least_row (n b off len cap : Nat) (qs : List Nat) (w : World) (hl : qs.length = len) (hl1 : 1 ≤ len) (hl2 : len ≤ 64) (hx : ∀ x ∈ qs, x < 2 ^ n) (hq : Row w b off qs)
    (hF : Calls Try.prog 22 #[.int .i64 n, .slice (some ⟨b, off, none⟩) len cap] w fun e w' => e = .returned (.int .i64 0) ∧ Below w.heap.size w w') :
    Calls Try.prog 17 #[.int .i64 n, .slice (some ⟨b, off, none⟩) len cap] w fun e w' => ∃ v, e = .returned (.tuple #[v, .int .i64 0]) ∧ Made w' w.heap.size v (leastsTo qs (2 ^ n)) ∧ Below w.heap.size w w' := by
  have HF := hidMk hF
  clear hF
  have HB : Hid (∀ w1, Below w.heap.size w w1 → Calls Try.prog 25 #[.slice (some ⟨b, off, none⟩) len cap] w1 fun e w' => ∃ v, e = .returned v ∧ Made w' w1.heap.size v (leastsTo qs (2 ^ n)) ∧ Below w1.heap.size w1 w') :=
    fun w1 hb => leastSets_row n b off len cap qs w1 hl hl1 hl2 hx (hq.below rfl hb)
  generalize leastsTo qs (2 ^ n) = L at *
  clear hl hx
  go_enter Try.func17, Try.ntmps17
  go_wp2_with (first | (go_at_call 22; refine (HF.out).mono ?_; rintro e w1 ⟨rfl, hB⟩) | (go_at_call 25; refine (HB.out _ hB).mono ?_; rintro e w2 ⟨v, rfl, hM, hB2⟩))
  go_ret2
  exact ⟨v, rfl, made_mono hM hB.size, hB.trans (hB2.mono hB.size)⟩

theorem leastsTo_32 {qs : List Nat} {n x : Nat} (hn : n ≤ 12) (h : x ∈ leastsTo qs (2 ^ n)) : x < 4294967296 :=
  Nat.lt_trans (leastsTo_lt h) (two_pow_lt n (by omega))
theorem leastsTo_len' (qs : List Nat) {n : Nat} (hn : n ≤ 12) : (leastsTo qs (2 ^ n)).length ≤ 4096 :=
  Nat.le_trans (leastsTo_len qs _) (Nat.le_trans (Nat.pow_le_pow_right (by omega) hn) (by decide))

set_option maxHeartbeats 1000000 in
theorem equal_same (a1 a2 : Option Addr) (n c1 c2 : Nat) (xs ys : List Nat) (w : World) (hn : n ≤ 4096) (h1 : Came32 w a1 n c1 xs) (h2 : Came32 w a2 n c2 ys) :
    Calls Try.prog 24 #[.slice a1 n c1, .slice a2 n c2] w fun e w' => e = .returned (.bool (xs == ys)) ∧ Below w.heap.size w w' := by
  have hn' : (n : Int) ≤ 4096 := by omega
  by_cases h0 : n = 0
  · subst h0
    have e1 : xs = [] := List.length_eq_zero_iff.1 h1.1
    have e2 : ys = [] := List.length_eq_zero_iff.1 h2.1
    subst e1 e2
    clear h1 h2
    go_enter Try.func24, Try.ntmps24
    go_wp2
    go_loop [13] (fun i => i = .int .i64 0) (fun _ => 0)
    case atStart => rfl
    case round =>
      obtain rfl := hrel
      go_wp2
      go_ret
      exact ⟨rfl, Below.refl _ _⟩
  · obtain ⟨b1, o1, rfl, q1⟩ := h1.2.2.2.resolve_left h0
    obtain ⟨b2, o2, rfl, q2⟩ := h2.2.2.2.resolve_left h0
    have HL1 := hidMk h1.1
    have HL2 := hidMk h2.1
    clear h1 h2
    go_enter Try.func24, Try.ntmps24
    go_wp2
    go_loopw [13] (fun i wr => ∃ k : Nat, k ≤ n ∧ i = .int .i64 (k : Int) ∧ Below w.heap.size w wr ∧ Hid (xs.take k = ys.take k)) (fun i _ => n - (intOf i).toNat)
    case atStart => exact ⟨0, Nat.zero_le _, rfl, Below.refl _ _, by simp [Hid]⟩
    case round =>
      obtain ⟨k, hk, rfl, hB, hT⟩ := hrel
      by_cases hlt : k < n
      · obtain ⟨x, hx, _, hxb, hcx⟩ := (q1.below rfl hB).at (k := k) (by rw [HL1.out]; exact hlt)
        obtain ⟨y, hy, _, hyb, hcy⟩ := (q2.below rfl hB).at (k := k) (by rw [HL2.out]; exact hlt)
        have HX := hidMk hx
        have HY := hidMk hy
        clear hx hy
        have hlt' : (k : Int) < (n : Int) := by omega
        by_cases he : x = y
        · have hne : ((x : Int) != (y : Int)) = false := by simp; omega
          have HE := hidMk he
          clear he
          go_wp2
          go_quiet (fail)
          go_wp2
          go_roundw
          case rel => exact ⟨k + 1, by omega, by go_num, below_drewN hB _, words_take HX.out HY.out hT.out HE.out⟩
          case measure => simp [intOf]; omega
        · have hne : ((x : Int) != (y : Int)) = true := by simp; omega
          have HE := hidMk he
          clear he
          go_wp2
          go_quiet (fail)
          go_wp2
          go_ret
          refine ⟨ret_bool ?_, below_drewN hB _⟩
          refine (beq_eq_false_iff_ne.2 fun e => ?_).symm
          have h3 := HX.out
          rw [e, HY.out] at h3
          exact HE.out (Option.some.inj h3).symm
      · obtain rfl : k = n := by omega
        go_wp2
        go_ret
        refine ⟨ret_bool ?_, hB⟩
        have e := hT.out
        rw [List.take_of_length_le (by rw [HL1.out]; exact Nat.le_refl _), List.take_of_length_le (by rw [HL2.out]; exact Nat.le_refl _)] at e
        rw [e]; simp

set_option maxHeartbeats 400000 in
theorem equal_lens (a1 a2 : Option Addr) (n1 n2 c1 c2 : Nat) (w : World) (h1 : n1 ≤ 4096) (h2 : n2 ≤ 4096) (hne : n1 ≠ n2) :
    Calls Try.prog 24 #[.slice a1 n1 c1, .slice a2 n2 c2] w fun e w' => e = .returned (.bool false) ∧ w' = w := by
  have h1' : (n1 : Int) ≤ 4096 := by omega
  have h2' : (n2 : Int) ≤ 4096 := by omega
  have hb : ((n1 : Int) != (n2 : Int)) = true := by simp; omega
  go_enter Try.func24, Try.ntmps24
  go_wp2
  go_ret
  exact ⟨rfl, rfl⟩

theorem equal_any (a1 a2 : Option Addr) (n1 n2 c1 c2 : Nat) (xs ys : List Nat) (w : World) (hn1 : n1 ≤ 4096) (hn2 : n2 ≤ 4096) (h1 : Came32 w a1 n1 c1 xs) (h2 : Came32 w a2 n2 c2 ys) :
    Calls Try.prog 24 #[.slice a1 n1 c1, .slice a2 n2 c2] w fun e w' => e = .returned (.bool (xs == ys)) ∧ Below w.heap.size w w' := by
  by_cases hne : n1 = n2
  · subst hne; exact equal_same a1 a2 n1 c1 c2 xs ys w hn1 h1 h2
  · have hf : (xs == ys) = false := beq_eq_false_iff_ne.2 fun e => hne (by rw [← h1.1, ← h2.1, e])
    rw [hf]
    exact (equal_lens a1 a2 n1 n2 c1 c2 w hn1 hn2 hne).mono fun e w' ⟨he, hw⟩ => ⟨he, hw ▸ Below.refl _ _⟩
end Go.Proofs.Ytblinhncklpidaa
