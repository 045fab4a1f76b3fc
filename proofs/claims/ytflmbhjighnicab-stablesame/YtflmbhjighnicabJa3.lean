/- Machines in a ring: what a move makes. -/
import Derived.Test.YtflmbhjighnicabJa2
namespace Go.Proofs.Ytflmbhjighnicab
open Go.RowKit
set_option linter.unusedVariables false

def intsJ (l : List Int) : List Value := l.map fun z => .int .i64 z
theorem intsJ_len (l : List Int) : (intsJ l).length = l.length := by simp [intsJ]
theorem intsJ_at {l : List Int} {j : Nat} {u : Value} (h : (intsJ l)[j]? = some u) : ∃ z, l[j]? = some z ∧ u = .int .i64 z := by
  simp only [intsJ, List.getElem?_map, Option.map_eq_some_iff] at h
  obtain ⟨z, h1, h2⟩ := h
  exact ⟨z, h1, h2.symm⟩
theorem intsJ_one (l : List Int) : ∀ u ∈ intsJ l, u.oneCell' = true := by
  intro u hu
  simp only [intsJ, List.mem_map] at hu
  obtain ⟨z, _, rfl⟩ := hu
  rfl
theorem seg_rowJ {W : World} {ok : Nat → Prop} {e : TypeId} {a : Option Addr} {n c : Nat} {l : List Int} (h : Seg W ok e 1 (.slice a n c) n (intsJ l)) : RowI W a n c l := by
  obtain ⟨h1, ⟨h2, h3⟩ | ⟨g, off, cap, cur, h2, h3, h4, h5, h6, h7, h8⟩⟩ := h
  · subst h3
    cases h2
    exact ⟨by simpa [intsJ] using h1, Nat.le_refl _, Nat.zero_le _, .inl rfl⟩
  · cases h2
    refine ⟨by simpa [intsJ] using h1, h5, by omega, .inr ⟨g, off, rfl, (Array.getElem?_eq_some_iff.1 h4).1, fun j x hx => ?_⟩⟩
    rw [cell_of_row W _ _ _ _ _ h4]
    exact h8 j _ (by simp [intsJ, hx])
theorem rwJ_set (k : Int) (n : Nat) (s : Nat → Int) {i : Nat} (hi : i < n) : intsJ (rwJ n (mvJ k s i)) = (intsJ (rwJ n s)).set i (.int .i64 (mvJ k s i i)) := by
  apply List.ext_getElem?
  intro j
  rw [List.getElem?_set]
  by_cases e : i = j
  · subst e
    rw [if_pos rfl, if_pos (by rw [intsJ_len, rwJ_len]; exact hi)]
    simp [intsJ, rwJ, hi]
  · rw [if_neg e]
    have e2 : mvJ k s i j = s j := by unfold mvJ; rw [if_neg (fun h => e h.symm)]
    by_cases hj : j < n
    · simp [intsJ, rwJ, hj, e2]
    · simp [intsJ, rwJ, hj]
theorem wrapJ {z : Int} (h : I64 z) : IntKind.i64.wrap z = z := by
  obtain ⟨h0, h1⟩ := h
  simp [IntKind.wrap, IntKind.bits, IntKind.signed]
  split <;> omega
theorem own_ltJ {p : Prop} {g n c k : Nat} (e : (Value.slice (some ⟨g, 0, none⟩) n c).ownBlock = some k) (hk : k < g) : p := by
  simp [Value.ownBlock] at e
  omega

end Go.Proofs.Ytflmbhjighnicab
