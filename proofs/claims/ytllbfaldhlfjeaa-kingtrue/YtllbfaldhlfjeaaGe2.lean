/- Generals: the document's longer. -/
import Derived.Test.YtllbfaldhlfjeaaGe1
namespace Go.Proofs.Ytllbfaldhlfjeaa
open Go.RowKit
set_option linter.unusedVariables false

/-- One number more, behind an append to a slice of the call's own. -/
theorem app_nat {w wr w9 : World} {v v9 : Value} {t : Nat} {xs : List Nat} {j : Nat} {o : Obj} (HS : Stil w wr) (HG : Seg wr (fun g => w.heap.size ≤ g) 3 1 v t (natsL xs))
    (hs9 : Seg w9 (fun g => (v.ownBlock = some g ∧ w.heap.size ≤ g) ∨ g = wr.heap.size + 1) 3 1 v9 (t + 1) (natsL xs ++ [.int .i64 (j : Int)])) (hg9 : (wr.alloc o).grownBy w9 v.ownBlock) :
    Seg w9 (fun g => w.heap.size ≤ g) 3 1 v9 (t + 1) (natsL (xs ++ [j])) ∧ Stil w w9 := by
  refine ⟨?_, ?_⟩
  · have e : natsL (xs ++ [j]) = natsL xs ++ [.int .i64 (j : Int)] := by simp [natsL]
    rw [e]
    refine hs9.mono (fun g _ h => ?_)
    rcases h with ⟨_, h⟩ | h
    · exact h
    · have h9 := HS.size; rw [h]; omega
  · exact (HS.alloc _).grown hg9 (fun g e hg => by
      have := (HG.block e).1
      omega)
theorem natsL_len (l : List Nat) : (natsL l).length = l.length := by simp [natsL]

end Go.Proofs.Ytllbfaldhlfjeaa
