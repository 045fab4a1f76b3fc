/- Contracts of folkmootkeep.family and of quorum.Least and Blocks of whatever came in; the statement QuorumSame. -/
import Derived.Test.YtblinhncklpidaaE7
namespace Go.Proofs.Ytblinhncklpidaa
open Go.RowKit

set_option maxHeartbeats 400000 in
theorem keepFamily_any (n c : Int) (a : Option Addr) (len cap : Nat) (w : World)
    (hR : Calls Try.prog 18 #[.int .i64 n, .slice a len cap] w fun e w' => e = .returned (.int .i64 c) ∧ w' = w) :
    Calls Try.prog 20 #[.int .i64 n, .slice a len cap] w fun e w' => e = .returned (.bool (c == 0)) ∧ w' = w := by
  have HR := hidMk hR
  clear hR
  go_enter Try.func20, Try.ntmps20
  go_wp2_with (go_at_call 18; refine (HR.out).mono ?_; rintro e w' ⟨rfl, hw⟩; obtain rfl := hw.symm)
  go_ret
  exact ⟨rfl, rfl⟩

theorem least_any (n : Int) (a : Option Addr) (len cap : Nat) (qs : List Nat) (w : World) (h : Came32 w a len cap qs) (hc : famCodeOf n qs = 0) :
    Calls Try.prog 17 #[.int .i64 n, .slice a len cap] w fun e w' => ∃ v, e = .returned (.tuple #[v, .int .i64 0]) ∧ Made w' w.heap.size v (leastsTo qs (2 ^ n.toNat)) ∧ Below w.heap.size w w' := by
  have hF := family_any n a len cap qs w h
  rw [hc] at hF
  obtain ⟨z1, z2, z3, z4, z5⟩ := famCodeOf_zero hc
  obtain ⟨h1, h2, h3, h4⟩ := h
  obtain ⟨b, off, rfl, hq⟩ := h4.resolve_left (by omega)
  obtain ⟨k, rfl⟩ := Int.eq_ofNat_of_zero_le (by omega : 0 ≤ n)
  rw [Int.toNat_natCast] at z5 ⊢
  exact least_row k b off len cap qs w h1 (by omega) (by omega) (fun x hx => (good_lt z5 hx).2) hq hF

theorem blocks_any (n : Int) (a : Option Addr) (len cap : Nat) (qs : List Nat) (w : World) (h : Came32 w a len cap qs) (hc : famCodeOf n qs = 0) :
    Calls Try.prog 19 #[.int .i64 n, .slice a len cap] w fun e w' => ∃ v, e = .returned (.tuple #[v, .int .i64 0]) ∧ Made w' w.heap.size v (blocksTo qs (2 ^ n.toNat)) ∧ Below w.heap.size w w' := by
  have hF := family_any n a len cap qs w h
  rw [hc] at hF
  obtain ⟨z1, z2, z3, z4, z5⟩ := famCodeOf_zero hc
  obtain ⟨h1, h2, h3, h4⟩ := h
  obtain ⟨b, off, rfl, hq⟩ := h4.resolve_left (by omega)
  obtain ⟨k, rfl⟩ := Int.eq_ofNat_of_zero_le (by omega : 0 ≤ n)
  rw [Int.toNat_natCast] at z5 ⊢
  exact blocks_row k b off len cap qs w (by omega) h1 (by omega) hq hF

theorem wrong_zero {c : Int} (hc : (c != 0) = true) : (c == 0) = false := by simpa using hc

end Go.Proofs.Ytblinhncklpidaa
