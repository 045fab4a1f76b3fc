/- folkmootlaw.ClocksScalars, walked. -/
import Derived.Test.YtjglbjiekndpeaaJ4
import Derived.Test.YtjglbjiekndpeaaJ5
namespace Go.Proofs.Ytjglbjiekndpeaa
open Go.RowKit Go.Shelf
set_option linter.unusedVariables false

set_option maxRecDepth 100000 in
set_option maxHeartbeats 2000000 in
theorem refBefore_none (a : Option Addr) (cap : Nat) (w : World) :
    Calls Try.prog 29 #[.slice a 0 cap] w fun e w2 => (∃ g, e = .returned (.slice (some ⟨g, 0, none⟩) 0 0)) ∧ Below w.heap.size w w2 := by
  have hmk := make_bools 0 (by omega)
  simp only [Int.natCast_zero] at hmk
  go_enter Try.func29, Try.ntmps29
  go_wp2
  refine wp_loop_rounds 1 ?_
  rw [rounds_succ]
  go_wp2
  refine wp_loop_rounds 1 ?_
  rw [rounds_succ]
  go_wp2
  go_ret
  exact ⟨⟨_, rfl⟩, (Below.refl _ _).alloc (Nat.le_refl _) _⟩


theorem drewN_zero_below {w w2 : World} {m : Nat} (h : w2 = w.drewN m) : Below w.heap.size w w2 := by rw [h]; exact below_drewN (Below.refl _ _) m

end Go.Proofs.Ytjglbjiekndpeaa
