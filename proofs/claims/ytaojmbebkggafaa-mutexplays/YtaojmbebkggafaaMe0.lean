/- Who asks, by the steps that were done. -/
import Derived.Test.YtaojmbebkggafaaMd0
namespace Go.Proofs.Ytaojmbebkggafaa
open Go.RowKit
set_option linter.unusedVariables false

def intsV (xs : List Int) : List Value := xs.map fun z => .int .i64 z
theorem intsV_app (a b : List Int) : intsV (a ++ b) = intsV a ++ intsV b := by simp [intsV]
theorem seg_rowI {W : World} {ok : Nat → Prop} {e : TypeId} {a : Option Addr} {n c : Nat} {l : List Int} (h : Seg W ok e 1 (.slice a n c) n (intsV l)) : RowI W a n c l := by
  obtain ⟨h1, ⟨h2, h3⟩ | ⟨g, off, cap, cur, h2, h3, h4, h5, h6, h7, h8⟩⟩ := h
  · subst h3
    cases h2
    exact ⟨by simpa [intsV] using h1, Nat.le_refl _, Nat.zero_le _, .inl rfl⟩
  · cases h2
    refine ⟨by simpa [intsV] using h1, h5, by omega, .inr ⟨g, off, rfl, (Array.getElem?_eq_some_iff.1 h4).1, fun j x hx => ?_⟩⟩
    rw [cell_of_row W _ _ _ _ _ h4]
    exact h8 j _ (by simp [intsV, hx])
def notW (w x : Int) : Bool := x != w
/-- Who asks, or is inside, behind the first k steps. -/
def askTo (ps : List Cst) (cd : Nat → Int) : Nat → List Int
  | 0 => []
  | k + 1 => if cd k ≠ 0 ∨ (ps.getD k ⟨0, 0, 0⟩).kind = 2 then askTo ps cd k
    else if (ps.getD k ⟨0, 0, 0⟩).kind = 1 then (askTo ps cd k).filter (notW (ps.getD k ⟨0, 0, 0⟩).who) ++ [(ps.getD k ⟨0, 0, 0⟩).who]
    else (askTo ps cd k).filter (notW (ps.getD k ⟨0, 0, 0⟩).who)
theorem askTo_len (ps : List Cst) (cd : Nat → Int) : ∀ k, (askTo ps cd k).length ≤ k
  | 0 => Nat.le_refl _
  | k + 1 => by
    have := askTo_len ps cd k
    have h2 := List.length_filter_le (notW (ps.getD k ⟨0, 0, 0⟩).who) (askTo ps cd k)
    unfold askTo
    split
    · omega
    · split
      · rw [List.length_append, List.length_singleton]; omega
      · omega

end Go.Proofs.Ytaojmbebkggafaa
