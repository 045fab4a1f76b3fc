/- The statement QuorumMasked, walked: whatever came in, it answers true and keeps what lay there. -/
import Derived.Test.YtblinhncklpidabD2
import Derived.Test.YtblinhncklpidabB1
namespace Go.Proofs.Ytblinhncklpidab
open Go.RowKit

theorem sysCodeOf_zero {n : Int} {qs : List Nat} (h : sysCodeOf n qs = 0) : famCodeOf n qs = 0 ∧ sysB qs = false := by
  unfold sysCodeOf at h
  by_cases hc : famCodeOf n qs ≠ 0
  · rw [if_pos hc] at h; exact absurd h hc
  · rw [if_neg hc] at h
    refine ⟨by simpa using hc, ?_⟩
    cases hs : sysB qs
    · rfl
    · rw [sysCode_bad hs] at h; exact absurd h (by decide)

theorem good_lt {n : Nat} {qs : List Nat} (h : qs.any (badB n) = false) {x : Nat} (hx : x ∈ qs) : 0 < x ∧ x < 2 ^ n := by
  have := List.any_eq_false.1 h x hx
  unfold badB at this
  simp at this
  omega

theorem masks_any (n m : Int) (a : Option Addr) (len cap : Nat) (qs : List Nat) (w : World) (h : Came32 w a len cap qs) (hc : sysCodeOf n qs = 0) (hm0 : 0 ≤ m) (hm1 : m ≤ n) :
    Calls Try.prog 14 #[.int .i64 n, .slice a len cap, .int .i64 m] w fun e w' => e = .returned (.tuple #[.bool (masksB n.toNat qs m), .int .i64 0]) ∧ Below w.heap.size w w' := by
  have hF := check_any n a len cap qs w h
  rw [hc] at hF
  obtain ⟨z1, z2, z3, z4, z5⟩ := famCodeOf_zero (sysCodeOf_zero hc).1
  obtain ⟨h1, h2, h3, h4⟩ := h
  obtain ⟨b, off, rfl, hq⟩ := h4.resolve_left (by omega)
  obtain ⟨k, rfl⟩ := Int.eq_ofNat_of_zero_le (by omega : 0 ≤ n)
  rw [Int.toNat_natCast] at z5 ⊢
  exact masks_row k b off len cap m qs w (by omega) h1 (by omega) (by omega) h2 hq
    (fun x hx => Nat.lt_of_lt_of_le (good_lt z5 hx).2 (Nat.pow_le_pow_right (by omega) (by omega))) hm0 hm1 hF

end Go.Proofs.Ytblinhncklpidab
