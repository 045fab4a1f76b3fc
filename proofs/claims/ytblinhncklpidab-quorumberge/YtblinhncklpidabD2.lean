/- Contract of folkmootref.Masks: the same answer as the program's. -/
import Derived.Test.YtblinhncklpidabD1
namespace Go.Proofs.Ytblinhncklpidab
open Go.RowKit

theorem inB_refl (s : Nat) : inB s s = true := inB_iff.2 fun _ h => h
theorem inB_trans {a b c : Nat} (h1 : inB a b = true) (h2 : inB b c = true) : inB a c = true := inB_iff.2 fun i h => inB_iff.1 h2 i (inB_iff.1 h1 i h)
theorem wo_in (s i : Nat) (hi : i < 32) (hs : s < 4294967296) : inB (wo s i) s = true := inB_iff.2 fun j h => by
  rw [wo_bit s i j hi hs] at h
  exact (Bool.and_eq_true_iff.1 h).1
theorem wo_less {s i : Nat} (hb : s.testBit i = true) (hi : i < 32) (hs : s < 4294967296) : wo s i < s := by
  have hle : wo s i ≤ s := Nat.and_le_left
  rcases Nat.lt_or_eq_of_le hle with h | h
  · exact h
  · have := wo_bit s i i hi hs
    rw [h, hb] at this
    simp at this

theorem needs_false {qs : List Nat} {s : Nat} (h : needsB qs s = false) : ∃ i, i < 32 ∧ s.testBit i = true ∧ meetsB qs (wo s i) = true := by
  unfold needsB at h
  rw [List.all_eq_false] at h
  obtain ⟨i, hi, h2⟩ := h
  have h3 : s.testBit i = true ∧ meetsB qs (wo s i) = true := by simpa using h2
  exact ⟨i, List.mem_range.1 hi, h3.1, h3.2⟩

/-- What meets each has a least set in it that does. -/
theorem shrink {qs : List Nat} (s : Nat) (hs : s < 4294967296) (hm : meetsB qs s = true) : ∃ t, t ≤ s ∧ inB t s = true ∧ blockB qs t = true := by
  induction s using Nat.strongRecOn with
  | _ s ih =>
    cases hn : needsB qs s
    · obtain ⟨i, hi, hb, h2⟩ := needs_false hn
      have hlt := wo_less hb hi hs
      obtain ⟨t, h3, h4, h5⟩ := ih (wo s i) hlt (by omega) h2
      exact ⟨t, by omega, inB_trans h4 (wo_in s i hi hs), h5⟩
    · exact ⟨s, Nat.le_refl _, inB_refl s, by unfold blockB; rw [hm, hn]; rfl⟩

/-- Some set of at most m members, of the first k, meets each. -/
def someTo (qs : List Nat) (m : Int) (k : Nat) : Bool := (List.range k).any fun s => decide ((sz s : Int) ≤ m) && meetsB qs s
theorem someTo_succ (qs : List Nat) (m : Int) (k : Nat) : someTo qs m (k + 1) = (someTo qs m k || (decide ((sz k : Int) ≤ m) && meetsB qs k)) := by
  unfold someTo; rw [List.range_succ, List.any_append]; simp

theorem someTo_out (n : Nat) (hn : n ≤ 12) (qs : List Nat) (m : Int) : (!someTo qs m (2 ^ n)) = outB n qs m := by
  unfold outB
  congr 1
  rw [Bool.eq_iff_iff]
  unfold someTo
  rw [List.any_eq_true, List.any_eq_true]
  have hp := two_pow_lt n (by omega)
  constructor
  · rintro ⟨s, hs, h⟩
    have hs' := List.mem_range.1 hs
    obtain ⟨h1, h2⟩ := Bool.and_eq_true_iff.1 h
    obtain ⟨t, h3, h4, h5⟩ := shrink s (by omega) h2
    refine ⟨t, List.mem_filter.2 ⟨List.mem_range.2 (by omega), h5⟩, ?_⟩
    have := sz_mono h4
    have := of_decide_eq_true h1
    exact decide_eq_true (by omega)
  · rintro ⟨t, ht, h⟩
    obtain ⟨h1, h2⟩ := List.mem_filter.1 ht
    refine ⟨t, h1, ?_⟩
    rw [h, (Bool.and_eq_true_iff.1 h2).1]; rfl

/-- a has so many members in common with each of the first j. -/
def rowTo (qs : List Nat) (m : Int) (a j : Nat) : Bool := (qs.take j).all fun b => decide (2 * m + 1 ≤ (sz (a &&& b) : Int))
def allTo (qs : List Nat) (m : Int) (k : Nat) : Bool := (qs.take k).all fun a => qs.all fun b => decide (2 * m + 1 ≤ (sz (a &&& b) : Int))
theorem all_take_succ {α : Type} (p : α → Bool) (qs : List α) {k : Nat} {x : α} (h : qs[k]? = some x) : (qs.take (k + 1)).all p = ((qs.take k).all p && p x) := by
  have hk : k < qs.length := (List.getElem?_eq_some_iff.1 h).1
  have e : qs[k] = x := (List.getElem?_eq_some_iff.1 h).2
  rw [List.take_succ_eq_append_getElem hk, e]
  simp

theorem common_false {qs : List Nat} {m : Int} {a b : Nat} (ha : a ∈ qs) (hb : b ∈ qs) (h : (sz (a &&& b) : Int) < 2 * m + 1) : commonB qs m = false := by
  unfold commonB
  rw [List.all_eq_false]
  refine ⟨a, ha, ?_⟩
  intro hall
  rw [List.all_eq_true] at hall
  have := of_decide_eq_true (hall b hb)
  omega

end Go.Proofs.Ytblinhncklpidab
