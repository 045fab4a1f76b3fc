/- folkmootkeep.ClocksOrder and ClocksLamport, walked. -/
import Derived.Test.YtjglbjiekndpeabI1
import Derived.Test.YtjglbjiekndpeabG4
namespace Go.Proofs.Ytjglbjiekndpeab
open Go.RowKit Go.Shelf
set_option linter.unusedVariables false

theorem cells_lit (w : World) (t : TypeId) (zs : List Int) : ∀ (j : Nat) (z : Int), zs[j]? = some z → (w.alloc (.cells (zs.map (Value.int .i64)).toArray t)).cell? ⟨w.heap.size, j, none⟩ = some (.int .i64 z) := by
  intro j z hz
  rw [World.cell?_alloc_at _ _ _ _ rfl]
  simp [hz]


end Go.Proofs.Ytjglbjiekndpeab
