/- The document's Snap: what it tells of a way, thing by thing. -/
import Derived.Test.YthadhhconkjpmaaX13
namespace Go.Proofs.Ythadhhconkjpmaa
open Go.RowKit Go.WideMaps
set_option linter.unusedVariables false

theorem hasM_append (l : List Int) (x : Int) : hasM (l ++ [x]) = (hasM l || decide (x < 0)) := by simp [hasM]
theorem preR_all : ∀ {l : List Int}, hasM l = false → preR l = l
  | [], _ => rfl
  | x :: l, h => by
    have h' : decide (x < 0) = false ∧ hasM l = false := by simpa [hasM] using h
    have hx : ¬ x < 0 := by simpa using h'.1
    show (if x < 0 then [] else x :: preR l) = _
    rw [if_neg hx, preR_all h'.2]
theorem preR_append_marked : ∀ {l : List Int} (x : Int), hasM l = true → preR (l ++ [x]) = preR l
  | [], x, h => by simp [hasM] at h
  | y :: l, x, h => by
    show (if y < 0 then [] else y :: preR (l ++ [x])) = if y < 0 then [] else y :: preR l
    by_cases hy : y < 0
    · rw [if_pos hy, if_pos hy]
    · have h' : hasM l = true := by
        have h2 : (decide (y < 0) || hasM l) = true := by simpa [hasM] using h
        rw [decide_eq_false hy, Bool.false_or] at h2
        exact h2
      rw [if_neg hy, if_neg hy, preR_append_marked x h']
theorem preR_append_mark : ∀ {l : List Int} {x : Int}, x < 0 → preR (l ++ [x]) = preR l
  | [], x, h => by show (if x < 0 then [] else _) = []; rw [if_pos h]
  | y :: l, x, h => by
    show (if y < 0 then [] else y :: preR (l ++ [x])) = if y < 0 then [] else y :: preR l
    rw [preR_append_mark h]
/-- What is told of the first k things of a way. -/
def lkR (m0 : Bool) (own : Int) (ntd : Nat) (xs : List Int) : Nat → List Int
  | 0 => []
  | k + 1 => match xs[k]? with
    | some x => if 0 ≤ own ∧ ntd ≤ k ∧ 0 ≤ x ∧ (m0 || hasM (xs.take (k + 1))) = false then lkR m0 own ntd xs k ++ [x] else lkR m0 own ntd xs k
    | none => lkR m0 own ntd xs k
theorem lkR_len (m0 : Bool) (own : Int) (ntd : Nat) (xs : List Int) : ∀ k, (lkR m0 own ntd xs k).length ≤ k
  | 0 => Nat.le_refl _
  | k + 1 => by
    have ih := lkR_len m0 own ntd xs k
    unfold lkR
    split
    · split
      · simp; omega
      · omega
    · omega
theorem lkR_self (own : Int) (ntd : Nat) (xs : List Int) : ∀ k, lkR true own ntd xs k = []
  | 0 => rfl
  | k + 1 => by
    unfold lkR
    split
    · rw [if_neg (by simp), lkR_self own ntd xs k]
    · exact lkR_self own ntd xs k
theorem lkR_noted (own : Int) (ntd : Nat) (xs : List Int) : ∀ k, k ≤ xs.length → lkR false own ntd xs k = if 0 ≤ own then (preR (xs.take k)).drop ntd else []
  | 0, _ => by simp [lkR, preR]
  | k + 1, hk => by
    have ih := lkR_noted own ntd xs k (by omega)
    have hx : xs[k]? = some (xs[k]'(by omega)) := List.getElem?_eq_getElem (by omega)
    generalize xs[k]'(by omega) = x at hx
    have ht : xs.take (k + 1) = xs.take k ++ [x] := by rw [List.take_add_one, hx]; rfl
    unfold lkR
    simp only [hx]
    rw [ht, hasM_append]
    by_cases ho : 0 ≤ own
    · rw [if_pos ho] at ih ⊢
      by_cases hm : hasM (xs.take k) = true
      · rw [if_neg (by rw [hm]; simp), preR_append_marked x hm]
        exact ih
      · have hm' : hasM (xs.take k) = false := by simpa using hm
        by_cases hx0 : x < 0
        · rw [if_neg (by omega), preR_append_mark hx0]
          exact ih
        · have hall : hasM (xs.take k ++ [x]) = false := by rw [hasM_append, hm', decide_eq_false hx0]; rfl
          rw [preR_all hall]
          rw [preR_all hm'] at ih
          have hl : (xs.take k).length = k := by rw [List.length_take]; omega
          by_cases hn : ntd ≤ k
          · rw [if_pos ⟨ho, hn, by omega, by rw [hm', decide_eq_false hx0]; rfl⟩, ih, List.drop_append_of_le_length (by omega)]
          · rw [if_neg (by omega), ih, List.drop_eq_nil_of_le (by omega), List.drop_eq_nil_of_le (by simp; omega)]
    · rw [if_neg ho] at ih ⊢
      rw [if_neg (fun e => ho e.1)]
      exact ih
/-- Of all, what is told of a way. -/
theorem lkR_all {i j : Nat} (own : Int) (l : Ln) (hc : l.come ≤ l.sent.length) : lkR (i == j) own l.ntd l.sent l.come = if i = j then [] else notedR own l := by
  by_cases e : i = j
  · subst e
    rw [if_pos rfl, beq_self_eq_true]
    exact lkR_self own l.ntd l.sent l.come
  · rw [if_neg e, beq_eq_false_iff_ne.2 e, lkR_noted own l.ntd l.sent l.come hc]
    rfl
end Go.Proofs.Ythadhhconkjpmaa
