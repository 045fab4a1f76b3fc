/- The document's Causal in memory. -/
import Derived.Test.YtpdccjhabolccaaCa18
import Derived.Test.YtpdccjhabolccaaCp1
namespace Go.Proofs.Ytpdccjhabolccaa
open Go.RowKit
set_option linter.unusedVariables false

inductive RT where
  | out | cd | ol | fr | cs | cm
  | l (i : Nat)
  | ca (i : Nat)
  | c (i : Nat)
deriving DecidableEq
def intsV (xs : List Int) : List Value := xs.map fun z => .int .i64 z
/-- What each slice holds. -/
def RD (n b5 L5 L8 : Nat) (s : CS) (come : Nat → List Nat) (codes : List Int) (v : RT → Value) : RT → Option Slot
  | .out => some ⟨36, 2, .slice (some ⟨b5, 0, none⟩) 1 1, 1, [v .cd, .slice (some ⟨L5, 0, none⟩) n n]⟩
  | .cd => some ⟨28, 1, v .cd, codes.length, intsV codes⟩
  | .ol => some ⟨22, 1, .slice (some ⟨L5, 0, none⟩) n n, n, (List.range n).map fun i => v (.l i)⟩
  | .l i => if i < n then some ⟨3, 1, v (.l i), (s.ls i).length, natsL (s.ls i)⟩ else none
  | .fr => some ⟨3, 1, v .fr, s.msgs.length, natsL (s.msgs.map fun q => q.1)⟩
  | .cs => some ⟨22, 1, v .cs, s.msgs.length, (List.range s.msgs.length).map fun m => v (.ca m)⟩
  | .ca m => if m < s.msgs.length then some ⟨3, 1, v (.ca m), (causC s m).length, natsL (causC s m)⟩ else none
  | .cm => some ⟨22, 1, .slice (some ⟨L8, 0, none⟩) n n, n, (List.range n).map fun i => v (.c i)⟩
  | .c i => if i < n then some ⟨3, 1, v (.c i), (come i).length, natsL (come i)⟩ else none
variable {n b5 L5 L8 : Nat} {s : CS} {come : Nat → List Nat} {codes : List Int} {v : RT → Value} {W W2 : World} {t t2 : Nat → Option RT}
def updV (v : RT → Value) (τ : RT) (x : Value) (y : RT) : Value := if y = τ then x else v y
theorem updV_same (v : RT → Value) (τ : RT) (x : Value) : updV v τ x τ = x := if_pos rfl
theorem updV_other (v : RT → Value) {τ y : RT} (x : Value) (h : y ≠ τ) : updV v τ x y = v y := if_neg h
theorem row_set {n i : Nat} (f h : Nat → Value) (x : Value) (hi : i < n) (h1 : h i = x) (h2 : ∀ j, j ≠ i → h j = f j) : ((List.range n).map f).set i x = (List.range n).map h := by
  apply List.ext_getElem?
  intro j
  rw [List.getElem?_set]
  by_cases e : i = j
  · subst e
    simp [hi, h1]
  · rw [if_neg e]
    by_cases hj : j < n
    · simp [hj, h2 j (Ne.symm e)]
    · simp [hj]

/-- A code more. -/
theorem rd_code {e : Int} {x : Value} (P : Pool W t (updD (updD (RD n b5 L5 L8 s come codes v) .cd ⟨28, 1, x, codes.length + 1, intsV codes ++ [.int .i64 e]⟩) .out ⟨36, 2, .slice (some ⟨b5, 0, none⟩) 1 1, 1, [x, .slice (some ⟨L5, 0, none⟩) n n]⟩)) :
    Pool W t (RD n b5 L5 L8 s come (codes ++ [e]) (updV v .cd x)) := by
  refine P.congr (fun y q hy => ?_)
  cases y
  case out => rw [updD_same]; rw [← hy]; rfl
  case cd => rw [updD_other _ _ (by simp), updD_same, ← hy]; simp [RD, updV_same, intsV]
  all_goals (rw [updD_other _ _ (by simp), updD_other _ _ (by simp)]; exact hy)
/-- What has come to one more. -/
theorem rd_come {w m : Nat} {x : Value} (hw : w < n) (P : Pool W t (updD (updD (RD n b5 L5 L8 s come codes v) (.c w) ⟨3, 1, x, (come w).length + 1, natsL (come w) ++ [.int .i64 (m : Int)]⟩) .cm ⟨22, 1, .slice (some ⟨L8, 0, none⟩) n n, n, ((List.range n).map fun i => v (.c i)).set w x⟩)) :
    Pool W t (RD n b5 L5 L8 s (upd1 come w (come w ++ [m])) codes (updV v (.c w) x)) := by
  refine P.congr (fun y q hy => ?_)
  cases y with
  | cm =>
    rw [updD_same, ← hy]
    show _ = some (Slot.mk _ _ _ _ _)
    congr 2
    exact row_set _ _ _ hw (updV_same _ _ _) (fun j hj => updV_other _ _ (by simpa using hj))
  | c i =>
    rw [updD_other _ _ (by simp)]
    by_cases e : i = w
    · subst e
      rw [updD_same, ← hy]
      simp [RD, hw, updV_same, upd1_same, natsL]
    · rw [updD_other _ _ (by simpa using e), ← hy]
      simp only [RD]
      rw [updV_other _ _ (by simpa using e), upd1_other _ _ e]
  | out => rw [updD_other _ _ (by simp), updD_other _ _ (by simp)]; exact hy
  | cd => rw [updD_other _ _ (by simp), updD_other _ _ (by simp)]; exact hy
  | ol => rw [updD_other _ _ (by simp), updD_other _ _ (by simp)]; exact hy
  | fr => rw [updD_other _ _ (by simp), updD_other _ _ (by simp)]; exact hy
  | cs => rw [updD_other _ _ (by simp), updD_other _ _ (by simp)]; exact hy
  | l i => rw [updD_other _ _ (by simp), updD_other _ _ (by simp)]; exact hy
  | ca i => rw [updD_other _ _ (by simp), updD_other _ _ (by simp)]; exact hy
/-- What one has heard is another list now. -/
theorem rd_list {s2 : CS} {w : Nat} {x : Value} {L : List Nat} (hw : w < n) (hm : s2.msgs = s.msgs) (hl : s2.ls = upd1 s.ls w L) (hc : ∀ m, m < s.msgs.length → causC s2 m = causC s m)
    (P : Pool W t (updD (updD (RD n b5 L5 L8 s come codes v) (.l w) ⟨3, 1, x, L.length, natsL L⟩) .ol ⟨22, 1, .slice (some ⟨L5, 0, none⟩) n n, n, ((List.range n).map fun i => v (.l i)).set w x⟩)) :
    Pool W t (RD n b5 L5 L8 s2 come codes (updV v (.l w) x)) := by
  refine P.congr (fun y q hy => ?_)
  cases y with
  | ol =>
    rw [updD_same, ← hy]
    show _ = some (Slot.mk _ _ _ _ _)
    congr 2
    exact row_set _ _ _ hw (updV_same _ _ _) (fun j hj => updV_other _ _ (by simpa using hj))
  | l i =>
    rw [updD_other _ _ (by simp)]
    by_cases e : i = w
    · subst e
      rw [updD_same, ← hy]
      simp [RD, hw, updV_same, hl, upd1_same]
    · rw [updD_other _ _ (by simpa using e), ← hy]
      simp only [RD]
      rw [updV_other _ _ (by simpa using e), hl, upd1_other _ _ e]
  | out => rw [updD_other _ _ (by simp), updD_other _ _ (by simp)]; exact hy
  | cd => rw [updD_other _ _ (by simp), updD_other _ _ (by simp)]; exact hy
  | cm => rw [updD_other _ _ (by simp), updD_other _ _ (by simp)]; exact hy
  | fr => rw [updD_other _ _ (by simp), updD_other _ _ (by simp), ← hy]; simp only [RD]; rw [hm]; rfl
  | cs => rw [updD_other _ _ (by simp), updD_other _ _ (by simp), ← hy]; simp only [RD]; rw [hm]; rfl
  | c i => rw [updD_other _ _ (by simp), updD_other _ _ (by simp)]; exact hy
  | ca i =>
    rw [updD_other _ _ (by simp), updD_other _ _ (by simp), ← hy]
    simp only [RD]
    rw [hm]
    by_cases h : i < s.msgs.length
    · rw [if_pos h, if_pos h, hc i h]; rfl
    · rw [if_neg h, if_neg h]
end Go.Proofs.Ytpdccjhabolccaa
