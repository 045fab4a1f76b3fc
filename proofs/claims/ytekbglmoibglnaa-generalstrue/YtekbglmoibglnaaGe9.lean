/- Generals: numbers as they come in. -/
import Derived.Test.YtekbglmoibglnaaGe8
namespace Go.Proofs.Ytekbglmoibglnaa
open Go.RowKit
set_option linter.unusedVariables false

theorem u32_inG {z : Int} (hz : (Lit.int .u32 z).wf = true) : ∃ t : Nat, z = (t : Int) ∧ t < 4294967296 := by
  have h2 : IntKind.u32.min ≤ z ∧ z ≤ IntKind.u32.max := by simpa [Lit.wf] using hz
  have e1 : IntKind.u32.min = 0 := by decide
  have e2 : IntKind.u32.max = 4294967295 := by decide
  exact ⟨z.toNat, by omega, by omega⟩
theorem u64_inG {z : Int} (hz : (Lit.int .u64 z).wf = true) : ∃ t : Nat, z = (t : Int) ∧ t < 18446744073709551616 := by
  have h2 : IntKind.u64.min ≤ z ∧ z ≤ IntKind.u64.max := by simpa [Lit.wf] using hz
  have e1 : IntKind.u64.min = 0 := by decide
  have e2 : IntKind.u64.max = 18446744073709551615 := by decide
  exact ⟨z.toNat, by omega, by omega⟩
theorem gplays_in (hP : PlayAt) {W : World} {n m zt zl : Int} {x : Bool} (ht : (Lit.int .u32 zt).wf = true) (hl : (Lit.int .u64 zl).wf = true) :
    Calls Try.prog 3 #[.int .i64 n, .int .i64 m, .int .u32 zt, .bool x, .int .u64 zl] W fun e W2 => e = .returned (.bool true) ∧ Below W.heap.size W W2 := by
  obtain ⟨T, rfl, hT⟩ := u32_inG ht
  obtain ⟨L, rfl, hL⟩ := u64_inG hl
  exact gplays_walk hP n m T L x hT hL
theorem gagree_in (hP : PlayAt) {W : World} {n m zt zl : Int} {x : Bool} (ht : (Lit.int .u32 zt).wf = true) (hl : (Lit.int .u64 zl).wf = true) :
    Calls Try.prog 4 #[.int .i64 n, .int .i64 m, .int .u32 zt, .bool x, .int .u64 zl] W fun e W2 => e = .returned (.bool true) ∧ Below W.heap.size W W2 := by
  obtain ⟨T, rfl, hT⟩ := u32_inG ht
  obtain ⟨L, rfl, hL⟩ := u64_inG hl
  exact gagree_walk hP n m T L x hT hL
theorem gtrue_in (hP : PlayAt) {W : World} {n m zl : Int} {x : Bool} (hl : (Lit.int .u64 zl).wf = true) :
    Calls Try.prog 5 #[.int .i64 n, .int .i64 m, .bool x, .int .u64 zl] W fun e W2 => e = .returned (.bool true) ∧ Below W.heap.size W W2 := by
  obtain ⟨L, rfl, hL⟩ := u64_inG hl
  exact gtrue_walk hP n m L x hL
end Go.Proofs.Ytekbglmoibglnaa
