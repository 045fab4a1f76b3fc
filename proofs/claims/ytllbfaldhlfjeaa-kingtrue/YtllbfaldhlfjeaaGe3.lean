/- Generals: the document's holds. -/
import Derived.Test.YtllbfaldhlfjeaaGe2
import Derived.Test.YtllbfaldhlfjeaaR4
import Derived.Deep.Cut
import Derived.Deep.CutRange
import Derived.Deep.CutBlock
import Derived.RegionTactic
namespace Go.Proofs.Ytllbfaldhlfjeaa
open Go.RowKit
set_option linter.unusedVariables false

theorem stilDrewG (A : World) : Stil A A.drew := (Keep.refl _ A).drew
def fG (tr lie : Nat → Bool) (d : Nat) (way l : List Nat) (i : Nat) (x : Bool) (j : Nat) : Bool := if j = i then sentG tr lie way i x else holdsG tr lie d (way ++ [j]) (l.filter (fun k => k != j)) i (sentG tr lie way j x)
theorem holdsG_succ (tr lie : Nat → Bool) (d : Nat) (way l : List Nat) (i : Nat) (x : Bool) : holdsG tr lie (d + 1) way l i x = decide (l.countP (fun j => !fG tr lie d way l i x j) < l.countP (fG tr lie d way l i x)) := rfl
theorem count_take (f : Nat → Bool) {l : List Nat} {k j : Nat} (h : l[k]? = some j) : (l.take (k + 1)).countP f = (l.take k).countP f + if f j = true then 1 else 0 := by
  rw [List.take_add_one, h, List.countP_append]
  simp [List.countP_cons]
theorem filt_take {l : List Nat} {k j b : Nat} (h : l[k]? = some b) : (l.take (k + 1)).filter (fun k => k != j) = (l.take k).filter (fun k => k != j) ++ (if b = j then [] else [b]) := by
  rw [List.take_add_one, h, List.filter_append]
  by_cases e : b = j
  · simp [e]
  · simp [e]
theorem countP_take_le (f : Nat → Bool) (l : List Nat) (k : Nat) : (l.take k).countP f ≤ k := Nat.le_trans List.countP_le_length (by rw [List.length_take]; omega)

end Go.Proofs.Ytllbfaldhlfjeaa
