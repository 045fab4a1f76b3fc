/- The numbers of an event by all that are before it: plain facts; contract of folkmootref.Scalars. -/
import Derived.Test.YtjglbjiekndpeaaJ2
namespace Go.Proofs.Ytjglbjiekndpeaa
open Go.RowKit Go.Shelf
set_option linter.unusedVariables false

/-- The greatest number of those among the first i that are before j. -/
def topBef (es : List Ev) (j : Nat) : Nat → Nat
  | 0 => 0
  | i + 1 => if befB es i j = true ∧ topBef es j i < sc es i then sc es i else topBef es j i
theorem topBef_le {N : Int} {es : List Ev} (hv : Valid N es) {j : Nat} : ∀ i, topBef es j i + 1 ≤ sc es j
  | 0 => sc_pos hv j
  | i + 1 => by
    unfold topBef
    split
    · next h => exact sc_bef hv (j + 1) (by omega) h.1
    · exact topBef_le hv i
theorem topBef_ge {es : List Ev} {j k : Nat} (hb : befB es k j = true) : ∀ i, k < i → sc es k ≤ topBef es j i
  | 0, h => by omega
  | i + 1, h => by
    unfold topBef
    by_cases e : k = i
    · subst e
      split
      · exact Nat.le_refl _
      · next h2 =>
        have h3 : ¬ (topBef es j k < sc es k) := fun h4 => h2 ⟨hb, h4⟩
        omega
    · have := topBef_ge hb i (by omega)
      split
      · omega
      · exact this
theorem topBef_is {N : Int} {es : List Ev} (hv : Valid N es) (j : Nat) : topBef es j j + 1 = sc es j := by
  have h1 := topBef_le hv (j := j) j
  have h2 : sc es j ≤ topBef es j j + 1 := by
    rw [sc_eq hv j]
    have e1 := opt_max (f := sc es) (o := lastAt es j (whoAt es j)) (B := topBef es j j) (fun k hk => topBef_ge (bef_near hv (near_last hk)) j (lastAt_lt hk))
    have e2 := opt_max (f := sc es) (o := takenAt es j) (B := topBef es j j) (fun k hk => topBef_ge (bef_near hv (near_taken hk)) j (taken_lt hv hk))
    omega
  omega

theorem rowN_succ (k : Nat) (f : Nat → Nat) : (rowN (k + 1) f).map encN = (rowN k f).map encN ++ [.int .i64 ((f k : Nat) : Int)] := by
  simp [rowN, List.range_succ, encN]

end Go.Proofs.Ytjglbjiekndpeaa
