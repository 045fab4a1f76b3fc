/- The nearest whole cuts by the numbers of events: plain facts; no program is named here. -/
import Derived.Test.YtjglbjiekndpeabM2
namespace Go.Proofs.Ytjglbjiekndpeab
open Go.RowKit
set_option linter.unusedVariables false

variable {N : Int} {es : List Ev}

/-- The greatest number at p of those of the first m events with P. -/
def mx (es : List Ev) (P : Nat → Bool) (p : Nat) : Nat → Nat
  | 0 => 0
  | m + 1 => if P m = true then max (mx es P p m) (vc es p m) else mx es P p m
theorem mx_yes {P : Nat → Bool} {p m : Nat} (h : P m = true) : mx es P p (m + 1) = max (mx es P p m) (vc es p m) := by simp only [mx]; rw [if_pos h]
theorem mx_no {P : Nat → Bool} {p m : Nat} (h : P m = false) : mx es P p (m + 1) = mx es P p m := by simp only [mx]; rw [if_neg (by rw [h]; decide)]
theorem mx_ge {P : Nat → Bool} {p j : Nat} (h : P j = true) : ∀ {m : Nat}, j < m → vc es p j ≤ mx es P p m
  | 0, hm => by omega
  | m + 1, hm => by
    by_cases e : j = m
    · subst e; rw [mx_yes h]; omega
    · have := mx_ge (p := p) h (m := m) (by omega)
      cases hP : P m with
      | true => rw [mx_yes hP]; omega
      | false => rw [mx_no hP]; exact this
theorem mx_le {P : Nat → Bool} {p B : Nat} : ∀ {m : Nat}, (∀ j, j < m → P j = true → vc es p j ≤ B) → mx es P p m ≤ B
  | 0, _ => Nat.zero_le _
  | m + 1, h => by
    have := mx_le (p := p) (m := m) fun j hj => h j (by omega)
    cases hP : P m with
    | true => rw [mx_yes hP]; have := h m (by omega) hP; omega
    | false => rw [mx_no hP]; exact this
theorem mx_congr {P Q : Nat → Bool} {p : Nat} : ∀ {m : Nat}, (∀ j, j < m → P j = Q j) → mx es P p m = mx es Q p m
  | 0, _ => rfl
  | m + 1, h => by
    have ih := mx_congr (p := p) (m := m) fun j hj => h j (by omega)
    simp only [mx]
    rw [ih, h m (by omega)]
theorem mx_all (hv : Valid N es) (p : Nat) : ∀ {m : Nat}, m ≤ es.length → mx es (fun _ => true) p m = pc es p m
  | 0, _ => rfl
  | m + 1, hm => by
    have ih := mx_all hv p (m := m) (by omega)
    rw [mx_yes rfl, ih]
    by_cases hw : whoAt es m = (p : Int)
    · rw [vc_own hv p (m + 1) m (by omega) (by omega) hw, pc_succ_at hw]; omega
    · have h1 := vc_pc hv p (m + 1) m (by omega)
      have h2 : pc es p (m + 1) = pc es p m := by simp only [pc]; rw [if_neg hw]; rfl
      omega
theorem mx_bound (hv : Valid N es) {P : Nat → Bool} {p m : Nat} (hm : m ≤ es.length) : mx es P p m ≤ 60 := by
  refine mx_le fun j hj _ => ?_
  have := vc_le hv p (j + 1) j (by omega)
  have := hv.2.2.1
  omega
theorem mx_grown (hv : Valid N es) (c : Nat → Nat) (p : Nat) : mx es (inC es c) p es.length = grown es c p := by
  apply Nat.le_antisymm
  · refine mx_le fun j hj hP => ?_
    refine le_of_in (c := fun p => vc es p j) (past_cut hv hj p) fun i hi h => ?_
    rw [in_past hv hj hi] at h
    rw [in_grown hv c hi]
    exact gP_iff.2 ⟨j, hj, hP, h⟩
  · refine le_of_in (d := fun p => mx es (inC es c) p es.length) (grown_cut c p) fun i hi h => ?_
    rw [in_grown hv c hi] at h
    obtain ⟨j, h1, h2, h3⟩ := gP_iff.1 h
    obtain ⟨q, hq, _⟩ := who_nat hv hi
    have h4 := (up_iff hv hi hq (j + 1) (by omega) h1).1 h3
    have h5 := mx_ge (es := es) (p := q) h2 h1
    exact (inC_iff hq).2 (by omega)
theorem sP_by (hv : Valid N es) {n : Nat} (hn : N = (n : Int)) (c : Nat → Nat) {j : Nat} (hj : j < es.length) : sP es c j = true ↔ ∀ p, p < n → vc es p j ≤ c p := by
  constructor
  · intro h p _
    refine le_of_in (c := fun p => vc es p j) (past_cut hv hj p) fun i hi hu => ?_
    rw [in_past hv hj hi] at hu
    exact sP_iff.1 h i hi hu
  · intro h
    refine sP_iff.2 fun i hi hu => ?_
    refine in_of_le hv hn (c := fun p => vc es p j) h hi ?_
    rw [in_past hv hj hi]
    exact hu
theorem mx_shrunk (hv : Valid N es) (c : Nat → Nat) (p : Nat) : mx es (sP es c) p es.length = shrunk es c p := by
  apply Nat.le_antisymm
  · refine mx_le fun j hj hP => ?_
    refine le_of_in (c := fun p => vc es p j) (past_cut hv hj p) fun i hi h => ?_
    rw [in_past hv hj hi] at h
    rw [in_shrunk hv c hi]
    exact sP_down hv h hP
  · refine le_of_in (d := fun p => mx es (sP es c) p es.length) (shrunk_cut c p) fun i hi h => ?_
    rw [in_shrunk hv c hi] at h
    obtain ⟨q, hq, _⟩ := who_nat hv hi
    have h4 := vc_own hv q (i + 1) i (by omega) hi hq
    have h5 := mx_ge (es := es) (p := q) h hi
    exact (inC_iff hq).2 (by omega)

/-- Numbers as a list. -/
def rowI (n : Nat) (f : Nat → Nat) : List Int := (rowN n f).map fun x => ((x : Nat) : Int)
theorem rowI_len (n : Nat) (f : Nat → Nat) : (rowI n f).length = n := by unfold rowI; rw [List.length_map, rowN_len]
theorem rowI_at {n : Nat} {f : Nat → Nat} {p : Nat} (h : p < n) : (rowI n f)[p]? = some ((f p : Nat) : Int) := by unfold rowI; rw [List.getElem?_map, rowN_at h]; rfl
theorem rowI_congr {n : Nat} {f g : Nat → Nat} (h : ∀ p, p < n → f p = g p) : rowI n f = rowI n g := by unfold rowI; rw [rowN_congr h]
theorem rowI_inj {n : Nat} {f g : Nat → Nat} (h : rowI n f = rowI n g) {p : Nat} (hp : p < n) : f p = g p := by
  have h1 : (rowI n f)[p]? = (rowI n g)[p]? := by rw [h]
  rw [rowI_at hp, rowI_at hp] at h1
  have := Option.some.inj h1
  omega
theorem cut_rowI {n : Nat} {f : Nat → Nat} (h : ∀ p, p < n → f p ≤ pc es p es.length) : cutCode (n : Int) es (rowI n f) = 0 := cut_row h
theorem atN_rowI {n : Nat} {f : Nat → Nat} {p : Nat} (hp : p < n) : atN (rowI n f) p = f p := row_cut hp
theorem cut_is {n : Nat} {zs : List Int} (h : cutCode (n : Int) es zs = 0) : zs = rowI n (atN zs) := cut_eq h
theorem cut_le {n : Nat} {zs : List Int} (h : cutCode (n : Int) es zs = 0) {p : Nat} (hp : p < n) : atN zs p ≤ pc es p es.length := by
  obtain ⟨h1, h2⟩ := cut_of h
  exact (h2 p (by omega)).2
/-- A cut is whole just if Grow is the same. -/
theorem whole_by {n : Nat} (hv : Valid (n : Int) es) {zs : List Int} (h : cutCode (n : Int) es zs = 0) : (rowI n (grown es (atN zs)) == zs) = wholeB es (atN zs) := by
  rw [Bool.eq_iff_iff, beq_iff_eq, wholeB_iff]
  constructor
  · intro e
    rw [cut_is h] at e
    refine whole_congr hv rfl (fun p hp => ?_) (grown_whole hv (atN zs))
    have := rowI_inj e hp
    rw [← cut_is h] at this
    exact this
  · intro hw
    rw (occs := .pos [2]) [cut_is h]
    exact rowI_congr fun p hp => grown_whole_same hv rfl hw (cut_le h hp)
/-- The least number of the first k and none. -/
def wholeE (n : Int) (es : List Ev) (zs : List Int) : Int := if evsCode n es ≠ 0 then evsCode n es else cutCode n es zs
def wholeA (n : Int) (es : List Ev) (zs : List Int) : Bool := if wholeE n es zs ≠ 0 then false else wholeB es (atN zs)
theorem wholeE_zero {n : Int} {zs : List Int} : wholeE n es zs = 0 ↔ evsCode n es = 0 ∧ cutCode n es zs = 0 := by
  unfold wholeE
  by_cases h : evsCode n es = 0
  · rw [if_neg (by simpa using h)]; simp [h]
  · rw [if_pos h]; simp [h]
end Go.Proofs.Ytjglbjiekndpeab
