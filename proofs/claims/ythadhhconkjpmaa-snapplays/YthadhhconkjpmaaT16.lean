/- slices.Contains; told. -/
import Derived.Test.YthadhhconkjpmaaT14
namespace Go.Proofs.Ythadhhconkjpmaa
open Go.RowKit Go.WideMaps
set_option linter.unusedVariables false

set_option maxRecDepth 100000 in
set_option maxHeartbeats 4000000 in
theorem index_any {W : World} {g off n cap : Nat} {f : Nat → Int} (x : Int) (hn : n ≤ 100) (hc : ∀ i, i < n → W.cell? ⟨g, off + i, none⟩ = some (.int .i64 (f i))) :
    Calls Try.prog 27 #[.slice (some ⟨g, off, none⟩) n cap, .int .i64 x] W fun e W2 => (∃ z, e = .returned (.int .i64 z) ∧ decide (0 ≤ z) = (List.range n).any (fun i => f i == x)) ∧ W2 = W := by
  have HC := hidMk hc
  clear hc
  go_enter Try.func27, Try.ntmps27
  go_wp2
  go_loopw [8] (fun u wr => ∃ k : Nat, k ≤ n ∧ u = .int .i64 (k : Int) ∧ wr = W ∧ Hid (∀ i, i < k → f i ≠ x)) (fun u _ => n - (intOf u).toNat)
  case atStart => exact ⟨0, Nat.zero_le _, rfl, rfl, fun i hi => by omega⟩
  case round =>
    obtain ⟨k, hk, rfl, hwr, HA⟩ := hrel
    subst hwr
    by_cases hlt : k < n
    · have hlt' : (k : Int) < (n : Int) := by omega
      have hck := HC.out k hlt
      by_cases hx : f k = x
      · have hx' : (x == f k) = true := by simp [hx]
        have HX := hidMk hx
        clear hx
        go_wp2
        go_ret
        refine ⟨⟨(k : Int), rfl, ?_⟩, rfl⟩
        have : (List.range n).any (fun i => f i == x) = true := List.any_eq_true.2 ⟨k, List.mem_range.2 hlt, by simp [HX.out]⟩
        rw [this]
        simp
      · have hx' : (x == f k) = false := by simp; exact fun e => hx e.symm
        have HX := hidMk hx
        clear hx
        go_wp2
        go_roundw
        case rel =>
          refine ⟨k + 1, by omega, by go_num, by trivial, fun i hi => ?_⟩
          by_cases e : i = k
          · subst e; exact HX.out
          · exact HA.out i (by omega)
        case measure => simp [intOf]; omega
    · obtain rfl : k = n := by omega
      go_wp2
      go_ret
      refine ⟨⟨-1, rfl, ?_⟩, rfl⟩
      symm
      rw [List.any_eq_false.2 (fun i hi => by simpa using HA.out i (List.mem_range.1 hi))]
      rfl

set_option maxRecDepth 100000 in
set_option maxHeartbeats 4000000 in
theorem contains_any {W : World} {g off n cap : Nat} {f : Nat → Int} (x : Int) (hn : n ≤ 100) (hc : ∀ i, i < n → W.cell? ⟨g, off + i, none⟩ = some (.int .i64 (f i))) :
    Calls Try.prog 23 #[.slice (some ⟨g, off, none⟩) n cap, .int .i64 x] W fun e W2 => e = .returned (.bool ((List.range n).any (fun i => f i == x))) ∧ W2 = W := by
  have HI := hidMk (index_any (cap := cap) x hn hc)
  clear hc
  go_enter Try.func23, Try.ntmps23
  go_wp2_with (go_at_call 27; refine (HI.out).mono ?_; rintro e w1 ⟨⟨z, rfl, hz⟩, hw⟩; obtain rfl := hw.symm)
  go_ret
  exact ⟨by rw [← hz]; rfl, rfl⟩
end Go.Proofs.Ythadhhconkjpmaa
