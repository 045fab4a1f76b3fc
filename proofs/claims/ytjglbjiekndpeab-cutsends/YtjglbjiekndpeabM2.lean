/- Numbers that come in as a slice; what is wrong with a cut; plain facts. -/
import Derived.Test.YtjglbjiekndpeabM1
import Derived.Test.YtjglbjiekndpeabG4
namespace Go.Proofs.Ytjglbjiekndpeab
open Go.RowKit
set_option linter.unusedVariables false

variable {N : Int} {es : List Ev}

/-- Numbers stand in a block of the heap. -/
def IRow (w : World) (b off : Nat) (zs : List Int) : Prop :=
  b < w.heap.size ∧ (∀ z ∈ zs, I64 z) ∧ ∀ (j : Nat) (z : Int), zs[j]? = some z → w.cell? ⟨b, off + j, none⟩ = some (.int .i64 z)
theorem IRow.below {w w' : World} {b off : Nat} {zs : List Int} (h : IRow w b off zs) {n : Nat} (hn : b < n) (hb : Below n w w') : IRow w' b off zs :=
  ⟨Nat.lt_of_lt_of_le h.1 hb.size, h.2.1, fun j z hj => (hb.cell (p := ⟨b, off + j, none⟩) hn).trans (h.2.2 j z hj)⟩
theorem IRow.at {w : World} {b off : Nat} {zs : List Int} (h : IRow w b off zs) {k : Nat} (hk : k < zs.length) : ∃ z, zs[k]? = some z ∧ I64 z ∧ w.cell? ⟨b, off + k, none⟩ = some (.int .i64 z) :=
  ⟨zs[k], List.getElem?_eq_getElem hk, h.2.1 _ (List.getElem_mem hk), h.2.2 k _ (List.getElem?_eq_getElem hk)⟩
/-- Numbers as a slice that came in. -/
def CameI (w : World) (a : Option Addr) (len cap : Nat) (zs : List Int) : Prop :=
  zs.length = len ∧ len ≤ cap ∧ len ≤ maxLen ∧ (len = 0 ∨ ∃ b off, a = some ⟨b, off, none⟩ ∧ IRow w b off zs)
theorem CameI.below {w w' : World} {a : Option Addr} {len cap : Nat} {zs : List Int} (h : CameI w a len cap zs) (hb : Below w.heap.size w w') : CameI w' a len cap zs := by
  obtain ⟨h1, h2, h3, h4⟩ := h
  refine ⟨h1, h2, h3, ?_⟩
  rcases h4 with h4 | ⟨b, off, e, hr⟩
  · exact .inl h4
  · exact .inr ⟨b, off, e, hr.below hr.1 hb⟩
theorem came_ints {w : World} {a : Option Addr} {len cap : Nat} {zs : List Int}
    (h : (a = none ∧ len = 0 ∧ cap = 0 ∧ zs = []) ∨
      ∃ x, a = some x ∧ len ≤ cap ∧ cap ≤ maxLen ∧ zs.length = cap ∧ (∀ i, i < zs.length → w.cell? (x.add i) = some (.int .i64 (zs.getD i 0))) ∧ ∀ n ∈ zs, (Lit.int .i64 n).wf = true) :
    CameI w a len cap (zs.take len) := by
  rcases h with ⟨rfl, rfl, rfl, rfl⟩ | ⟨⟨b, off, spot⟩, rfl, hl, hm, hz, hcell, hwz⟩
  · exact ⟨rfl, Nat.le_refl _, Nat.zero_le _, .inl rfl⟩
  · refine ⟨by simp; omega, hl, Nat.le_trans hl hm, ?_⟩
    by_cases h0 : len = 0
    · exact .inl h0
    · have hc := hcell 0 (by omega)
      have hspot : spot = none := by simpa [Addr.add] using World.cell?_spot hc
      subst hspot
      refine .inr ⟨b, off, rfl, ?_, ?_, ?_⟩
      · have hc' : w.cell? ⟨b, off + 0, none⟩ = some (.int .i64 (zs.getD 0 0)) := by simpa [Addr.add] using hc
        by_cases hlt : b < w.heap.size
        · exact hlt
        · simp [World.cell?, Array.getElem?_eq_none (Nat.le_of_not_lt hlt)] at hc'
      · intro x hx
        exact i64_of (hwz x (List.mem_of_mem_take hx))
      · intro j x hn
        have hjl : j < (zs.take len).length := (List.getElem?_eq_some_iff.1 hn).1
        rw [List.length_take] at hjl
        have e : zs[j]? = some x := by rw [List.getElem?_take] at hn; split at hn <;> simp_all
        have hj' := hcell j (by omega)
        rw [List.getD_eq_getElem?_getD, e, Option.getD_some] at hj'
        have ea : (Addr.add ⟨b, off, none⟩ j) = ⟨b, off + j, none⟩ := by
          by_cases h0 : j = 0
          · subst h0; simp [Addr.add]
          · simp [Addr.add, h0]
        rw [ea] at hj'; exact hj'

/-- The number at a place, of a cut that may be. -/
def atN (zs : List Int) (p : Nat) : Nat := (zs.getD p 0).toNat
/-- The number at p is none that may be. -/
def badAt (es : List Ev) (zs : List Int) (p : Nat) : Bool := decide (zs.getD p 0 < 0) || decide (((pc es p es.length : Nat) : Int) < zs.getD p 0)
/-- What is wrong with a cut of events that may be: ErrArg, or nothing. -/
def cutCode (n : Int) (es : List Ev) (zs : List Int) : Int :=
  if (zs.length : Int) ≠ n then 2 else if (List.range zs.length).any (badAt es zs) then 2 else 0
theorem cutCode_len {n : Int} {zs : List Int} (h : (zs.length : Int) ≠ n) : cutCode n es zs = 2 := by unfold cutCode; rw [if_pos h]
theorem cutCode_bad {n : Int} {zs : List Int} {p : Nat} (hl : (zs.length : Int) = n) (hp : p < zs.length) (h : badAt es zs p = true) : cutCode n es zs = 2 := by
  unfold cutCode
  rw [if_neg (by omega), if_pos]
  simp only [List.any_eq_true, List.mem_range]
  exact ⟨p, hp, h⟩
theorem cutCode_ok {n : Int} {zs : List Int} (hl : (zs.length : Int) = n) (h : ∀ p, p < zs.length → badAt es zs p = false) : cutCode n es zs = 0 := by
  unfold cutCode
  rw [if_neg (by omega), if_neg]
  simp only [List.any_eq_true, List.mem_range]
  rintro ⟨p, hp, hb⟩
  rw [h p hp] at hb
  cases hb
theorem cutCode_two (n : Int) (es : List Ev) (zs : List Int) : cutCode n es zs = 0 ∨ cutCode n es zs = 2 := by
  unfold cutCode
  split
  · exact .inr rfl
  · split
    · exact .inr rfl
    · exact .inl rfl
/-- A cut that may be. -/
theorem cut_of {n : Int} {zs : List Int} (h : cutCode n es zs = 0) : (zs.length : Int) = n ∧ ∀ p, p < zs.length → zs[p]? = some ((atN zs p : Nat) : Int) ∧ atN zs p ≤ pc es p es.length := by
  have hl : (zs.length : Int) = n := by
    by_cases e : (zs.length : Int) = n
    · exact e
    · rw [cutCode_len e] at h; omega
  refine ⟨hl, fun p hp => ?_⟩
  have hb : badAt es zs p = false := by
    cases hb : badAt es zs p with
    | false => rfl
    | true => rw [cutCode_bad hl hp hb] at h; omega
  unfold badAt at hb
  simp only [Bool.or_eq_false_iff, decide_eq_false_iff_not] at hb
  have e : zs[p]? = some zs[p] := List.getElem?_eq_getElem hp
  unfold atN
  rw [List.getD_eq_getElem?_getD, e, Option.getD_some] at hb ⊢
  refine ⟨?_, by omega⟩
  rw [Int.toNat_of_nonneg (by omega)]
/-- A row of numbers is a cut that may be, if none is above as many events as there are. -/
theorem cut_row {n : Nat} {f : Nat → Nat} (h : ∀ p, p < n → f p ≤ pc es p es.length) : cutCode (n : Int) es ((rowN n f).map fun x => ((x : Nat) : Int)) = 0 := by
  refine cutCode_ok (by simp [rowN_len]) fun p hp => ?_
  rw [List.length_map, rowN_len] at hp
  have e : ((rowN n f).map fun x => ((x : Nat) : Int))[p]? = some ((f p : Nat) : Int) := by rw [List.getElem?_map, rowN_at hp]; rfl
  unfold badAt
  rw [List.getD_eq_getElem?_getD, e, Option.getD_some]
  have := h p hp
  simp only [Bool.or_eq_false_iff, decide_eq_false_iff_not]
  omega
theorem row_cut {n : Nat} {f : Nat → Nat} {p : Nat} (hp : p < n) : atN ((rowN n f).map fun x => ((x : Nat) : Int)) p = f p := by
  have e : ((rowN n f).map fun x => ((x : Nat) : Int))[p]? = some ((f p : Nat) : Int) := by rw [List.getElem?_map, rowN_at hp]; rfl
  unfold atN
  rw [List.getD_eq_getElem?_getD, e, Option.getD_some]
  rfl
theorem cut_eq {n : Nat} {zs : List Int} (h : cutCode (n : Int) es zs = 0) : zs = (rowN n (atN zs)).map fun x => ((x : Nat) : Int) := by
  obtain ⟨hl, h2⟩ := cut_of h
  apply List.ext_getElem?
  intro i
  by_cases hi : i < zs.length
  · rw [(h2 i hi).1, List.getElem?_map, rowN_at (by omega)]; rfl
  · rw [List.getElem?_eq_none (by omega), List.getElem?_eq_none (by rw [List.length_map, rowN_len]; omega)]

/-- Whole, as it is asked event by event. -/
def wholeTo (es : List Ev) (c : Nat → Nat) (m : Nat) : Bool := (List.range m).all fun j => match takenAt es j with
  | some k => !inC es c j || inC es c k
  | none => true
theorem wholeTo_zero (c : Nat → Nat) : wholeTo es c 0 = true := rfl
theorem wholeTo_succ (c : Nat → Nat) (m : Nat) : wholeTo es c (m + 1) = (wholeTo es c m && match takenAt es m with
  | some k => !inC es c m || inC es c k
  | none => true) := by
  unfold wholeTo
  rw [List.range_succ, List.all_append]
  simp only [List.all_cons, List.all_nil, Bool.and_true]
def wholeB (es : List Ev) (c : Nat → Nat) : Bool := wholeTo es c es.length
theorem wholeB_not {c : Nat → Nat} {j k : Nat} (hj : j < es.length) (ht : takenAt es j = some k) (h1 : inC es c j = true) (h2 : inC es c k = false) : wholeB es c = false := by
  unfold wholeB wholeTo
  rw [List.all_eq_false]
  exact ⟨j, List.mem_range.2 hj, by simp only [ht, h1, h2]; simp⟩
theorem wholeB_iff {c : Nat → Nat} : wholeB es c = true ↔ WholeC es c := by
  unfold wholeB wholeTo WholeC
  simp only [List.all_eq_true, List.mem_range]
  constructor
  · intro h j k hj ht hi
    have := h j hj
    rw [ht] at this
    simpa [hi] using this
  · intro h j hj
    cases ht : takenAt es j with
    | none => rfl
    | some k =>
      cases hi : inC es c j with
      | false => simp
      | true => simp [h j k hj ht hi]
theorem whole_congr (hv : Valid N es) {n : Nat} (hn : N = (n : Int)) {c d : Nat → Nat} (h : ∀ p, p < n → c p = d p) (hc : WholeC es c) : WholeC es d := fun j k hj ht hi => by
  have hk := taken_lt hv ht
  exact in_of_le hv hn (fun p hp => Nat.le_of_eq (h p hp)) (by omega) (hc j k hj ht (in_of_le hv hn (fun p hp => Nat.le_of_eq (h p hp).symm) hj hi))

/-- The document's Grow and Shrink, event by event. -/
theorem gP_eq (hv : Valid N es) (c : Nat → Nat) {i : Nat} (hi : i < es.length) : gP es c i = (inC es c i || (List.range es.length).any fun j => inC es c j && befB es i j) := by
  rw [Bool.eq_iff_iff, gP_iff]
  simp only [Bool.or_eq_true, List.any_eq_true, List.mem_range, Bool.and_eq_true]
  constructor
  · rintro ⟨j, h1, h2, h3⟩
    by_cases e : i = j
    · subst e; exact .inl h2
    · exact .inr ⟨j, h1, h2, bef_iff.2 ⟨e, h3⟩⟩
  · rintro (h | ⟨j, h1, h2, h3⟩)
    · exact ⟨i, hi, h, up_self hv i⟩
    · exact ⟨j, h1, h2, (bef_iff.1 h3).2⟩
theorem sP_eq (hv : Valid N es) (c : Nat → Nat) {i : Nat} (hi : i < es.length) : sP es c i = (inC es c i && (List.range es.length).all fun j => inC es c j || !befB es j i) := by
  rw [Bool.eq_iff_iff, sP_iff]
  simp only [Bool.and_eq_true, List.all_eq_true, List.mem_range, Bool.or_eq_true, Bool.not_eq_true']
  constructor
  · intro h
    refine ⟨h i hi (up_self hv i), fun j hj => ?_⟩
    cases hb : befB es j i with
    | false => exact .inr rfl
    | true => exact .inl (h j hj (bef_iff.1 hb).2)
  · rintro ⟨h1, h2⟩ j hj hu
    by_cases e : j = i
    · subst e; exact h1
    · rcases h2 j hj with h3 | h3
      · exact h3
      · rw [bef_iff.2 ⟨e, hu⟩] at h3; cases h3
end Go.Proofs.Ytjglbjiekndpeab
