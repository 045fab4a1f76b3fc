/- folkmootkeep.ClocksOrder and ClocksLamport, walked. -/
import Derived.Test.YteahkegjekaanabI1
import Derived.Test.YteahkegjekaanabG4
namespace Go.Proofs.Yteahkegjekaanab
open Go.RowKit Go.Shelf
set_option linter.unusedVariables false

theorem cells_lit (w : World) (t : TypeId) (zs : List Int) : ∀ (j : Nat) (z : Int), zs[j]? = some z → (w.alloc (.cells (zs.map (Value.int .i64)).toArray t)).cell? ⟨w.heap.size, j, none⟩ = some (.int .i64 z) := by
  intro j z hz
  rw [World.cell?_alloc_at _ _ _ _ rfl]
  simp [hz]

theorem befE_zero {N : Int} {es : List Ev} {i j : Int} (hz : evsCode N es = 0) (hi : 0 ≤ i ∧ i < es.length) (hj : 0 ≤ j ∧ j < es.length) : befE N es i j = 0 := by
  unfold befE; rw [if_neg (by simp [hz]), if_pos ⟨hi, hj⟩]
theorem befE_two {N : Int} {es : List Ev} {i j : Int} (hz : evsCode N es = 0) (h : ¬ ((0 ≤ i ∧ i < es.length) ∧ (0 ≤ j ∧ j < es.length))) : befE N es i j = 2 := by
  unfold befE; rw [if_neg (by simp [hz]), if_neg h]
theorem befA_in {N : Int} {es : List Ev} {i j : Nat} (hz : evsCode N es = 0) (hi : i < es.length) (hj : j < es.length) : befA N es (i : Int) (j : Int) = befB es i j := by
  unfold befA; rw [if_neg (by simp [hz]), if_pos (by omega)]; simp

end Go.Proofs.Yteahkegjekaanab
