/- A region that draws its order, taken step by step: one operation that alone may come; and a rest that only reads. -/
import Derived.Orders
import Derived.Deep.Quiet
import Derived.Deep.QuietTactic
import Derived.BigQuiet
namespace Go.Proofs.Ythadhhconkjpmaa
open Go Go.RowKit

variable {P : Program} {md : Region.Mode} {Q : Exit → Act → World → Prop}

/-- One operation alone may come. -/
theorem wpAny_one {ops : Array Oper} {fuel : Nat} {listed : Array Bool} {a : Act} {w : World} (i : Nat) {o : Oper} (hr : Region.ready md ops listed = [i]) (ho : ops[i]? = some o) (hg : o.guard = none)
    (h : ∀ K : Act → World → Prop, (∀ a w, wpAny P md ops Q fuel (listed.setIfInBounds i true) a w → K a w) → o.wp P a w K Q) : wpAny P md ops Q (fuel + 1) listed a w := by
  refine wpAny_all hr (by simp) fun j hj => ?_
  obtain rfl : j = i := by simpa using hj
  unfold wpOp
  simp only [ho]
  rw [if_pos (by simp [Region.wanted, hg])]
  exact .inl (h _ (fun _ _ h => h))
/-- The rest only reads: one walk in the order of the text. -/
theorem wpAny_rest {ol : List Oper} {listed : Array Bool} {a : Act} {w : World} (k : Nat) {n : Nat} (hn : (ol.drop k).length = n) (hs : Region.noSelect ol.toArray = true) (hB : Region.lexFrom md ol.toArray n k listed = true)
    (h : wpQuiet P ol.toArray (fun w2 => ∃ m, w2 = w.drewN m) (fun a2 => ∀ w2, (∃ m, w2 = w.drewN m) → Q .normal a2 w2) (ol.drop k) a) : wpAny P md ol.toArray Q n listed a w := by
  subst hn
  exact wpAny_of_quiet (C := fun w2 => ∃ m, w2 = w.drewN m) (fun a w hw h => h w hw) _ _ _ _ ⟨0, rfl⟩ (wpAnyQ_lex hs (ol.drop k) k listed a (by simp) hB h)
end Go.Proofs.Ythadhhconkjpmaa
