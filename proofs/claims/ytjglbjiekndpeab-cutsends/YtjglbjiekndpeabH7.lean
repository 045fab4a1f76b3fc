/- Contract of clocks.Scalars. -/
import Derived.Test.YtjglbjiekndpeabH6
import Derived.Test.YtjglbjiekndpeabR1
namespace Go.Proofs.Ytjglbjiekndpeab
open Go.RowKit Go.Shelf
set_option linter.unusedVariables false

attribute [local go_sem] Oper.semAt_some

/-- A row of numbers that a call made. -/
abbrev RowI (W : World) (base g n : Nat) (f : Nat → Nat) : Prop := W.ownsRow base 3 1 (.slice (some ⟨g, 0, none⟩) n n) n ((rowN n f).map encN)

/-- The cells of what is near. -/
theorem near_cells {W : World} {n₁ : Nat} {v : Value} {ns : List Nat} (h : W.ownsRow n₁ 3 1 v ns.length (ns.map encN)) :
    ∃ av cv, v = .slice av ns.length cv ∧ Hid (ns.length = 0 ∨ ∃ g, av = some ⟨g, 0, none⟩ ∧ n₁ ≤ g ∧ g < W.heap.size ∧ ∀ (m z : Nat), ns[m]? = some z → W.cell? ⟨g, m, none⟩ = some (.int .i64 (z : Int))) := by
  have hlt := h.lt
  obtain ⟨h1, ⟨h2, h3⟩ | ⟨g, cap, cur, h2, h3, h4⟩⟩ := id h
  · exact ⟨none, 0, by rw [h2, h3], .inl h3⟩
  · subst h2
    refine ⟨_, _, rfl, .inr ⟨g, rfl, h3, (hlt g rfl).2, fun m z hm => ?_⟩⟩
    have hml : m < ns.length := (List.getElem?_eq_some_iff.1 hm).1
    rw [h.cellAt m (by omega), List.getElem?_map, hm]
    rfl

theorem map_set (l : List Nat) (k z : Nat) : (l.set k z).map encN = (l.map encN).set k (encN z) := List.map_set
/-- The numbers so far. -/
def scTo (es : List Ev) (k : Nat) (j : Nat) : Nat := if j < k then sc es j else 0
/-- And of the event at k the greatest of the first m that are before it. -/
def scAt (es : List Ev) (k m : Nat) (j : Nat) : Nat := if j = k then topOf (sc es) (nearOf es k) m else scTo es k j
def SI (es : List Ev) (w : World) (len : Nat) (pre : List (Nat × Value)) (W : World) : Prop :=
  (Boxed W (w.heap.size + 1) 23 (.slice (some ⟨w.heap.size, 0, none⟩) len len) ∧ RowI W w.heap.size w.heap.size len (scTo es pre.length)) ∧ Below w.heap.size w W

theorem si_own (es : List Ev) (w : World) (len B : Nat) (hB : w.heap.size ≤ B) : OwnFrom B (SI es w len) := by
  refine OwnFrom.and (OwnFrom.and (Own.from (boxed_own _ _ _) _) ?_) (ownFrom_below (Nat.le_refl _) hB)
  exact owns_own (β := List (Nat × Value)) B _ _ _ (fun _ => _) (fun _ => _) (fun pre => (rowN len (scTo es pre.length)).map encN)

theorem scAt_zero (es : List Ev) (k : Nat) : scAt es k 0 = scTo es k := by
  funext j
  unfold scAt
  by_cases h : j = k
  · subst h; simp [topOf_zero, scTo]
  · rw [if_neg h]
theorem scAt_set {es : List Ev} {k m z : Nat} (h : (nearOf es k)[m]? = some z) (n : Nat) : (rowN n (scAt es k m)).set k (max (topOf (sc es) (nearOf es k) m) (sc es z)) = rowN n (scAt es k (m + 1)) := by
  rw [rowN_set]
  apply rowN_congr
  intro j _
  unfold scAt
  by_cases hj : j = k
  · rw [if_pos hj, if_pos hj, topOf_succ _ _ h]
  · rw [if_neg hj, if_neg hj, if_neg hj]
theorem scAt_done {n : Int} {es : List Ev} (hv : Valid n es) (k len : Nat) : (rowN len (scAt es k (nearOf es k).length)).set k (topOf (sc es) (nearOf es k) (nearOf es k).length + 1) = rowN len (scTo es (k + 1)) := by
  rw [rowN_set]
  apply rowN_congr
  intro j _
  unfold scAt scTo
  by_cases hj : j = k
  · subst hj; rw [if_pos rfl, if_pos (Nat.lt_succ_self _), sc_top hv]
  · rw [if_neg hj, if_neg hj]
    by_cases h2 : j < k
    · rw [if_pos h2, if_pos (by omega)]
    · rw [if_neg h2, if_neg (by omega)]

end Go.Proofs.Ytjglbjiekndpeab
