/- Events that may be: the last one of a process, what is before an event at first hand; plain facts. -/
import Derived.Test.YtjglbjiekndpeabG1
namespace Go.Proofs.Ytjglbjiekndpeab
open Go.RowKit

/-- The last event of process p ahead of place k. -/
def lastAt (es : List Ev) : Nat → Int → Option Nat
  | 0, _ => none
  | k + 1, p => match es[k]? with
    | some e => if e.who = p then some k else lastAt es k p
    | none => lastAt es k p
/-- Of which sending an event takes. -/
def takenAt (es : List Ev) (k : Nat) : Option Nat := match es[k]? with
  | some e => if e.kind = 3 then some e.of.toNat else none
  | none => none
def whoAt (es : List Ev) (k : Nat) : Int := match es[k]? with
  | some e => e.who
  | none => 0
/-- What is before the event at k at first hand. -/
def nearOf (es : List Ev) (k : Nat) : List Nat := (lastAt es k (whoAt es k)).toList ++ (takenAt es k).toList

/-- Events of n processes that may be. -/
def Valid (n : Int) (es : List Ev) : Prop := 1 ≤ n ∧ n ≤ 6 ∧ es.length ≤ 60 ∧ ∀ (k : Nat) (e : Ev), es[k]? = some e →
  (e.kind = 1 ∨ e.kind = 2 ∨ e.kind = 3) ∧ 0 ≤ e.who ∧ e.who < n ∧ (e.kind = 3 → ∃ j : Nat, e.of = j ∧ j < k)

theorem evCode_zero {n : Int} {es : List Ev} {k : Nat} {e : Ev} (hk : k ≤ es.length) (h : evCode n (es.take k) e = 0) : (e.kind = 1 ∨ e.kind = 2 ∨ e.kind = 3) ∧ 0 ≤ e.who ∧ e.who < n ∧ (e.kind = 3 → ∃ j : Nat, e.of = j ∧ j < k) := by
  unfold evCode at h
  by_cases h1 : e.kind ≠ 1 ∧ e.kind ≠ 2 ∧ e.kind ≠ 3
  · rw [if_pos h1] at h; omega
  · rw [if_neg h1] at h
    by_cases h2 : e.who < 0 ∨ n ≤ e.who
    · rw [if_pos h2] at h; omega
    · rw [if_neg h2] at h
      by_cases h3 : e.kind = 3 ∧ noSend (es.take k) e.of = true
      · rw [if_pos h3] at h; omega
      · refine ⟨by omega, by omega, by omega, fun h4 => ?_⟩
        have h5 : noSend (es.take k) e.of = false := by
          cases hn : noSend (es.take k) e.of
          · rfl
          · exact absurd ⟨h4, hn⟩ h3
        unfold noSend at h5
        by_cases h6 : e.of < 0
        · rw [if_pos h6] at h5; cases h5
        · rw [if_neg h6] at h5
          refine ⟨e.of.toNat, by omega, ?_⟩
          cases h7 : (es.take k)[e.of.toNat]? with
          | none => rw [h7] at h5; cases h5
          | some x =>
            have := (List.getElem?_eq_some_iff.1 h7).1
            rw [List.length_take] at this
            omega

theorem codeFrom_zero {n : Int} {es : List Ev} : ∀ (m k : Nat), k + m = es.length → codeFrom n es k m = 0 → ∀ (j : Nat) (e : Ev), k ≤ j → es[j]? = some e → evCode n (es.take j) e = 0
  | 0, k, hk, _, j, e, hj, he => by
    have := (List.getElem?_eq_some_iff.1 he).1
    omega
  | m + 1, k, hk, h, j, e, hj, he => by
    have hkl : k < es.length := by omega
    have hke : es[k]? = some es[k] := List.getElem?_eq_getElem hkl
    simp only [codeFrom, hke] at h
    by_cases h0 : evCode n (es.take k) es[k] = 0
    · rw [if_pos h0] at h
      by_cases hjk : j = k
      · subst hjk
        rw [hke] at he
        cases he
        exact h0
      · exact codeFrom_zero m (k + 1) (by omega) h j e (by omega) he
    · rw [if_neg h0] at h
      exact absurd h h0

theorem valid_of {n : Int} {es : List Ev} (h : evsCode n es = 0) : Valid n es := by
  unfold evsCode at h
  by_cases h1 : n < 1 ∨ 6 < n ∨ 60 < es.length
  · rw [if_pos h1] at h; omega
  · rw [if_neg h1] at h
    exact ⟨by omega, by omega, by omega, fun k e he => evCode_zero (Nat.le_of_lt (List.getElem?_eq_some_iff.1 he).1) (codeFrom_zero es.length 0 (by omega) h k e (Nat.zero_le _) he)⟩

theorem lastAt_lt {es : List Ev} {p : Int} : ∀ {k j : Nat}, lastAt es k p = some j → j < k
  | 0, j, h => by cases h
  | k + 1, j, h => by
    simp only [lastAt] at h
    cases he : es[k]? with
    | none => rw [he] at h; have := lastAt_lt h; omega
    | some e =>
      rw [he] at h
      dsimp only at h
      by_cases hw : e.who = p
      · rw [if_pos hw] at h; cases h; omega
      · rw [if_neg hw] at h; have := lastAt_lt h; omega
theorem lastAt_same {es : List Ev} {k : Nat} {e : Ev} (he : es[k]? = some e) : lastAt es (k + 1) e.who = some k := by
  simp only [lastAt, he, if_true]
theorem lastAt_other {es : List Ev} {k : Nat} {e : Ev} {p : Int} (he : es[k]? = some e) (hp : p ≠ e.who) : lastAt es (k + 1) p = lastAt es k p := by
  simp only [lastAt, he]
  rw [if_neg (fun h => hp h.symm)]

theorem nearOf_eq {es : List Ev} {k : Nat} {e : Ev} (he : es[k]? = some e) : nearOf es k = (lastAt es k e.who).toList ++ (if e.kind = 3 then [e.of.toNat] else []) := by
  unfold nearOf whoAt takenAt
  rw [he]
  dsimp only
  by_cases h : e.kind = 3
  · rw [if_pos h, if_pos h]; rfl
  · rw [if_neg h, if_neg h]; rfl
theorem nearOf_len (es : List Ev) (k : Nat) : (nearOf es k).length ≤ 2 := by
  unfold nearOf
  cases lastAt es k (whoAt es k) <;> cases takenAt es k <;> simp
theorem nearOf_lt {n : Int} {es : List Ev} (hv : Valid n es) {k j : Nat} (hj : j ∈ nearOf es k) : j < k := by
  unfold nearOf at hj
  rcases List.mem_append.1 hj with h | h
  · cases hl : lastAt es k (whoAt es k) with
    | none => rw [hl] at h; cases h
    | some x => rw [hl] at h; simp at h; subst h; exact lastAt_lt hl
  · unfold takenAt at h
    cases he : es[k]? with
    | none => rw [he] at h; cases h
    | some e =>
      rw [he] at h
      dsimp only at h
      by_cases h3 : e.kind = 3
      · rw [if_pos h3] at h
        simp at h
        obtain ⟨i, hi, hik⟩ := (hv.2.2.2 k e he).2.2.2 h3
        omega
      · rw [if_neg h3] at h; cases h
end Go.Proofs.Ytjglbjiekndpeab
