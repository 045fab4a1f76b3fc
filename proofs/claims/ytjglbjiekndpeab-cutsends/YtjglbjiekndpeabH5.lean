/- What is before what, and the numbers of events: plain facts; no program is named here. -/
import Derived.Test.YtjglbjiekndpeabH0
namespace Go.Proofs.Ytjglbjiekndpeab
open Go.RowKit
set_option linter.unusedVariables false

/-- What is reckoned of an event out of what is reckoned of its process's last one and of the one that sent what it takes. -/
def climb {α : Type} (f : Nat → Option α → Option α → α) (es : List Ev) (j : Nat) : α :=
  f j (match lastAt es j (whoAt es j) with
    | some k => if h : k < j then some (climb f es k) else none
    | none => none)
    (match takenAt es j with
    | some k => if h : k < j then some (climb f es k) else none
    | none => none)
termination_by j

theorem taken_lt {n : Int} {es : List Ev} (hv : Valid n es) {k j : Nat} (h : takenAt es k = some j) : j < k :=
  nearOf_lt hv (by unfold nearOf; rw [h]; simp)
theorem climb_eq {α : Type} (f : Nat → Option α → Option α → α) {n : Int} {es : List Ev} (hv : Valid n es) (j : Nat) :
    climb f es j = f j ((lastAt es j (whoAt es j)).map (climb f es)) ((takenAt es j).map (climb f es)) := by
  rw [climb]
  congr 1
  · cases h : lastAt es j (whoAt es j) with
    | none => rfl
    | some k => simp [lastAt_lt h]
  · cases h : takenAt es j with
    | none => rfl
    | some k => simp [taken_lt hv h]

/-- The number of an event. -/
def sc (es : List Ev) : Nat → Nat := climb (fun _ a b => max (a.getD 0) (b.getD 0) + 1) es
/-- The number of an event at the place p. -/
def vc (es : List Ev) (p : Nat) : Nat → Nat := climb (fun j a b => max (a.getD 0) (b.getD 0) + if whoAt es j = (p : Int) then 1 else 0) es
/-- Is the event at i that at j, or before it? -/
def upTo (es : List Ev) (i : Nat) : Nat → Bool := climb (fun j a b => i == j || a.getD false || b.getD false) es
/-- Is it before? -/
def befB (es : List Ev) (i j : Nat) : Bool := i != j && upTo es i j

theorem sc_eq {n : Int} {es : List Ev} (hv : Valid n es) (j : Nat) : sc es j = max (((lastAt es j (whoAt es j)).map (sc es)).getD 0) (((takenAt es j).map (sc es)).getD 0) + 1 := climb_eq _ hv j
theorem vc_eq {n : Int} {es : List Ev} (hv : Valid n es) (p j : Nat) : vc es p j = max (((lastAt es j (whoAt es j)).map (vc es p)).getD 0) (((takenAt es j).map (vc es p)).getD 0) + if whoAt es j = (p : Int) then 1 else 0 := climb_eq _ hv j
theorem upTo_eq {n : Int} {es : List Ev} (hv : Valid n es) (i j : Nat) : upTo es i j = (i == j || ((lastAt es j (whoAt es j)).map (upTo es i)).getD false || ((takenAt es j).map (upTo es i)).getD false) := climb_eq _ hv j

/-- The greatest of the first m of a list. -/
def topOf (f : Nat → Nat) (l : List Nat) (m : Nat) : Nat := (l.take m).foldl (fun x k => max x (f k)) 0
theorem topOf_zero (f : Nat → Nat) (l : List Nat) : topOf f l 0 = 0 := rfl
theorem topOf_succ (f : Nat → Nat) (l : List Nat) {m k : Nat} (h : l[m]? = some k) : topOf f l (m + 1) = max (topOf f l m) (f k) := by
  unfold topOf
  have hm : m < l.length := (List.getElem?_eq_some_iff.1 h).1
  rw [List.take_succ_eq_append_getElem hm, List.foldl_append]
  have e : l[m] = k := (List.getElem?_eq_some_iff.1 h).2
  rw [e]
  rfl
theorem topOf_near (f : Nat → Nat) (es : List Ev) (j : Nat) : topOf f (nearOf es j) (nearOf es j).length = max (((lastAt es j (whoAt es j)).map f).getD 0) (((takenAt es j).map f).getD 0) := by
  unfold topOf
  rw [List.take_length]
  unfold nearOf
  cases lastAt es j (whoAt es j) <;> cases takenAt es j <;> simp
theorem sc_top {n : Int} {es : List Ev} (hv : Valid n es) (j : Nat) : sc es j = topOf (sc es) (nearOf es j) (nearOf es j).length + 1 := by rw [topOf_near]; exact sc_eq hv j
theorem vc_top {n : Int} {es : List Ev} (hv : Valid n es) (p j : Nat) : vc es p j = topOf (vc es p) (nearOf es j) (nearOf es j).length + if whoAt es j = (p : Int) then 1 else 0 := by rw [topOf_near]; exact vc_eq hv p j

theorem opt_le {f : Nat → Nat} {j B : Nat} {o : Option Nat} (h : ∀ k, o = some k → k < j) (hf : ∀ k, k < j → f k ≤ B) : (o.map f).getD 0 ≤ B := by
  cases o with
  | none => exact Nat.zero_le _
  | some k => exact hf k (h k rfl)
theorem sc_le {n : Int} {es : List Ev} (hv : Valid n es) : ∀ (m j : Nat), j < m → sc es j ≤ j + 1
  | 0, _, h => by omega
  | m + 1, j, h => by
    rw [sc_eq hv j]
    have hf : ∀ k, k < j → sc es k ≤ j := fun k hk => Nat.le_trans (sc_le hv m k (by omega)) hk
    have h1 := opt_le (f := sc es) (fun k e => lastAt_lt e) hf (o := lastAt es j (whoAt es j))
    have h2 := opt_le (f := sc es) (fun k e => taken_lt hv e) hf (o := takenAt es j)
    omega
theorem vc_le {n : Int} {es : List Ev} (hv : Valid n es) (p : Nat) : ∀ (m j : Nat), j < m → vc es p j ≤ j + 1
  | 0, _, h => by omega
  | m + 1, j, h => by
    rw [vc_eq hv p j]
    have hf : ∀ k, k < j → vc es p k ≤ j := fun k hk => Nat.le_trans (vc_le hv p m k (by omega)) hk
    have h1 := opt_le (f := vc es p) (fun k e => lastAt_lt e) hf (o := lastAt es j (whoAt es j))
    have h2 := opt_le (f := vc es p) (fun k e => taken_lt hv e) hf (o := takenAt es j)
    split <;> omega
theorem topOf_le {f : Nat → Nat} {l : List Nat} {B : Nat} (h : ∀ k ∈ l, f k ≤ B) : ∀ m, topOf f l m ≤ B
  | 0 => Nat.zero_le _
  | m + 1 => by
    cases hk : l[m]? with
    | none =>
      have : topOf f l (m + 1) = topOf f l m := by
        unfold topOf
        rw [List.take_of_length_le (by have := List.getElem?_eq_none_iff.1 hk; omega), List.take_of_length_le (by have := List.getElem?_eq_none_iff.1 hk; omega)]
      rw [this]; exact topOf_le h m
    | some k =>
      rw [topOf_succ f l hk]
      have := topOf_le h m
      have := h k (List.mem_of_getElem? hk)
      omega

/-- A row of numbers. -/
def rowN (n : Nat) (f : Nat → Nat) : List Nat := (List.range n).map f
theorem rowN_len (n : Nat) (f : Nat → Nat) : (rowN n f).length = n := by simp [rowN]
theorem rowN_at {n : Nat} {f : Nat → Nat} {k : Nat} (h : k < n) : (rowN n f)[k]? = some (f k) := by simp [rowN, h]
theorem rowN_set {n : Nat} {f : Nat → Nat} {k z : Nat} : (rowN n f).set k z = rowN n (fun p => if p = k then z else f p) := by
  apply List.ext_getElem?
  intro i
  rw [List.getElem?_set]
  by_cases hi : i < n
  · rw [rowN_at hi, rowN_at hi]
    by_cases hk : k = i
    · subst hk; simp [rowN_len, hi]
    · have hk2 : i ≠ k := fun h => hk h.symm
      simp [hk, hk2]
  · have h1 : (rowN n f)[i]? = none := List.getElem?_eq_none (by rw [rowN_len]; omega)
    have h2 : (rowN n fun p => if p = k then z else f p)[i]? = none := List.getElem?_eq_none (by rw [rowN_len]; omega)
    rw [h1, h2, rowN_len]
    by_cases hk : k = i
    · subst hk; simp [hi]
    · simp [hk]
theorem rowN_congr {n : Nat} {f g : Nat → Nat} (h : ∀ k, k < n → f k = g k) : rowN n f = rowN n g :=
  List.map_congr_left fun k hk => h k (List.mem_range.1 hk)
end Go.Proofs.Ytjglbjiekndpeab
