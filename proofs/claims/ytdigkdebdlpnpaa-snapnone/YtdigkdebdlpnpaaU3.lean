/- Nobody begins: nothing is noted; plain. -/
import Derived.Test.YtdigkdebdlpnpaaV2
namespace Go.Proofs.Ytdigkdebdlpnpaa
set_option linter.unusedVariables false
variable {n : Nat} {s : St}

def Still (n : Nat) (s : St) : Prop := (∀ i, i < n → s.own i = -1) ∧ ∀ i j, i < n → j < n → ∀ x ∈ (s.ways i j).things, x ≠ 0
theorem still_step (h : Still n s) {p : Pass} (hp : p.kind ≠ 3) : Still n (stepS n s p) := by
  unfold stepS
  split
  · rename_i hc
    rcases code_ok hc with ⟨w, o, x, hw, ho, hwo, h1, h2, _, e⟩ | ⟨w, o, x, y, r, hw, ho, hwo, hth, _, e⟩ | ⟨w, hw, _, e3, _, e⟩
    · rw [e]
      refine ⟨h.1, fun i j hi hj z hz => ?_⟩
      have hz2 : z ∈ (upd2 s.ways w o (pushW (s.ways w o) x) i j).things := hz
      by_cases e2 : i = w ∧ j = o
      · obtain ⟨rfl, rfl⟩ := e2
        rw [upd2_same] at hz2
        simp only [pushW, List.mem_append, List.mem_singleton] at hz2
        rcases hz2 with e3 | e3
        · exact h.2 i j hi hj z e3
        · omega
      · rw [upd2_other _ _ e2] at hz2
        exact h.2 i j hi hj z hz2
    · have hy : y ≠ 0 := h.2 o w ho hw y (by rw [hth]; simp)
      rw [e]
      have et : takeS n s o w = wayS (payS s w y) o w ⟨r, hearS s o w y, (s.ways o w).marked⟩ := by unfold takeS; rw [hth]; simp only []; rw [if_neg hy]
      rw [et]
      refine ⟨h.1, fun i j hi hj z hz => ?_⟩
      have hz2 : z ∈ (upd2 s.ways o w ⟨r, hearS s o w y, (s.ways o w).marked⟩ i j).things := hz
      by_cases e2 : i = o ∧ j = w
      · obtain ⟨rfl, rfl⟩ := e2
        rw [upd2_same] at hz2
        exact h.2 i j hi hj z (by rw [hth]; exact List.mem_cons_of_mem _ hz2)
      · rw [upd2_other _ _ e2] at hz2
        exact h.2 i j hi hj z hz2
    · exact absurd e3 hp
  · exact h
theorem still_at {ps : List Pass} (hp : ∀ p ∈ ps, p.kind ≠ 3) (m : Nat → Int) : ∀ k, Still n (stAt n (st0 m) ps k)
  | 0 => ⟨fun _ _ => rfl, (fun i j _ _ x hx => nomatch hx)⟩
  | k + 1 => by
    have ih := still_at hp m k
    unfold stAt
    split
    · rename_i p hpk
      exact still_step ih (hp p (List.mem_of_getElem? hpk))
    · exact ih
theorem still_done (h : Still n s) (hn : 0 < n) : doneB n s = false := by
  unfold doneB
  have : ((List.range n).all fun i => s.own i != -1) = false := List.all_eq_false.2 ⟨0, List.mem_range.2 hn, by simp [h.1 0 hn]⟩
  rw [this]
  rfl
/-- Is the step at q done, and does i send by it? -/
def sends (n : Nat) (s : St) (ps : List Pass) (i q : Nat) : Option Int := match ps[q]? with
  | some p => if codeAt n s ps q = 0 ∧ p.kind = 1 ∧ p.who = (i : Int) then some p.n else none
  | none => none
/-- What i has, if nothing comes. -/
def hasTo (n : Nat) (s : St) (ps : List Pass) (i : Nat) : Nat → Int
  | 0 => s.money i
  | k + 1 => hasTo n s ps i k - (sends n s ps i k).getD 0
theorem take_money (h : Inv n s) {i j : Nat} (hi : i < n) (hj : j < n) {x : Int} {r : List Int} (hth : (s.ways i j).things = x :: r) (a : Nat) (ha : a < n) : s.money a ≤ (takeS n s i j).money a := by
  have hx0 : 0 ≤ x := h.thg i j hi hj x (by rw [hth]; simp)
  unfold takeS
  rw [hth]
  simp only []
  split
  · show s.money a ≤ (noteS n s j).money a
    rw [noteS_money]
    exact Int.le_refl _
  · show s.money a ≤ upd1 s.money j (s.money j + x) a
    by_cases e : a = j
    · subst e; rw [upd1_same]; omega
    · rw [upd1_other _ _ e]; exact Int.le_refl _
theorem has_le (h0 : Inv n s) (ps : List Pass) (i : Nat) (hi : i < n) : ∀ k, hasTo n s ps i k ≤ (stAt n s ps k).money i
  | 0 => Int.le_refl _
  | k + 1 => by
    have ih := has_le h0 ps i hi k
    have hinv := (at_inv h0 ps k).1
    show hasTo n s ps i k - (sends n s ps i k).getD 0 ≤ _
    have e1 : stAt n s ps (k + 1) = (match ps[k]? with | some p => stepS n (stAt n s ps k) p | none => stAt n s ps k) := rfl
    rw [e1]
    unfold sends codeAt
    cases hp : ps[k]? with
    | none => simp only [Option.getD_none]; omega
    | some p =>
      simp only []
      unfold stepS
      by_cases hc : codeS n (stAt n s ps k) p = 0
      · rw [if_pos hc]
        rcases code_ok hc with ⟨w, o, x, hw, ho, hwo, h1, h2, e0, e⟩ | ⟨w, o, x, y, r, hw, ho, hwo, hth, e0, e⟩ | ⟨w, hw, _, e3, _, e⟩
        · subst e0
          rw [e]
          show _ ≤ upd1 (stAt n s ps k).money w ((stAt n s ps k).money w + -x) i
          by_cases e2 : i = w
          · subst e2
            rw [if_pos ⟨hc, rfl, rfl⟩, upd1_same]
            simp only [Option.getD_some]
            omega
          · rw [if_neg (fun h => e2 (by have := h.2.2; simp at this; omega)), upd1_other _ _ e2]
            simp only [Option.getD_none]
            omega
        · subst e0
          rw [e, if_neg (fun h => by have := h.2.1; simp at this)]
          have := take_money hinv ho hw hth i hi
          simp only [Option.getD_none]
          omega
        · rw [e, if_neg (fun h => by have := h.2.1; omega), noteS_money]
          simp only [Option.getD_none]
          omega
      · rw [if_neg hc, if_neg (fun h => hc h.1)]
        simp only [Option.getD_none]
        omega
theorem sends_le (h0 : Inv n s) (ps : List Pass) (i k : Nat) : 0 ≤ (sends n s ps i k).getD 0 ∧ (sends n s ps i k).getD 0 ≤ tot n s := by
  have ht : 0 ≤ tot n s := by
    have h1 := sumN_nonneg h0.mon
    have h2 : 0 ≤ sum2 n fun i j => lsum (s.ways i j).things := sum2_nonneg fun i j hi hj => lsum_nonneg (h0.thg i j hi hj)
    unfold tot
    omega
  unfold sends codeAt
  cases hp : ps[k]? with
  | none => simp only [Option.getD_none]; omega
  | some p =>
    simp only []
    split
    · rename_i hc
      obtain ⟨hinv, htot, _⟩ := at_inv h0 ps k
      rcases code_ok hc.1 with ⟨w, o, x, hw, ho, hwo, h1, h2, e0, e⟩ | ⟨w, o, x, y, r, hw, ho, hwo, hth, e0, e⟩ | ⟨w, hw, _, e3, _, e⟩
      · subst e0
        have := money_le hinv hw
        simp only [Option.getD_some]
        omega
      · subst e0
        have := hc.2.1
        simp at this
      · have := hc.2.1
        omega
    · simp only [Option.getD_none]; omega
theorem has_bounds (h0 : Inv n s) (ps : List Pass) (i : Nat) (hi : i < n) : ∀ k, s.money i - tot n s * k ≤ hasTo n s ps i k ∧ hasTo n s ps i k ≤ s.money i
  | 0 => ⟨by show s.money i - tot n s * ((0 : Nat) : Int) ≤ s.money i; simp, Int.le_refl _⟩
  | k + 1 => by
    obtain ⟨h1, h2⟩ := has_bounds h0 ps i hi k
    obtain ⟨h3, h4⟩ := sends_le h0 ps i k
    show _ ≤ hasTo n s ps i k - (sends n s ps i k).getD 0 ∧ hasTo n s ps i k - (sends n s ps i k).getD 0 ≤ _
    rw [show ((k + 1 : Nat) : Int) = (k : Int) + 1 from rfl, Int.mul_add]
    constructor <;> omega
end Go.Proofs.Ytdigkdebdlpnpaa
