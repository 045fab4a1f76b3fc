/- One phase each, plain: what each votes, and that those who don't lie vote the same in the end. -/
namespace Go.Proofs.Ytllbfaldhlfjeaa
set_option linter.unusedVariables false

/-- What i says to j. -/
def saysK (tr : Nat → Bool) (lie : Nat → Nat → Bool) (n i j pl : Nat) (x : Bool) : Bool := if tr i = true then lie pl ((n * i + j) % 64) else x
def yesK (tr : Nat → Bool) (lie : Nat → Nat → Bool) (n : Nat) (s : Nat → Bool) (k j : Nat) : Nat := (List.range n).countP fun i => saysK tr lie n i j (2 * k) (s i)
def majK (tr : Nat → Bool) (lie : Nat → Nat → Bool) (n : Nat) (s : Nat → Bool) (k j : Nat) : Bool := decide (n - yesK tr lie n s k j < yesK tr lie n s k j)
def cntK (tr : Nat → Bool) (lie : Nat → Nat → Bool) (n : Nat) (s : Nat → Bool) (k j : Nat) : Nat := if majK tr lie n s k j = true then yesK tr lie n s k j else n - yesK tr lie n s k j
def nextK (tr : Nat → Bool) (lie : Nat → Nat → Bool) (n t : Nat) (s : Nat → Bool) (k j : Nat) : Bool := if 2 * cntK tr lie n s k j ≤ n + 2 * t then saysK tr lie n k j (2 * k + 1) (majK tr lie n s k k) else majK tr lie n s k j
def kingAt (tr : Nat → Bool) (lie : Nat → Nat → Bool) (n t : Nat) (s : Nat → Bool) : Nat → Nat → Bool
  | 0 => s
  | k + 1 => nextK tr lie n t (kingAt tr lie n t s k) k

variable {tr : Nat → Bool} {lie : Nat → Nat → Bool} {n t : Nat} {s : Nat → Bool}
theorem countK_le {f g : Nat → Bool} (tr : Nat → Bool) : ∀ {l : List Nat}, (∀ i ∈ l, tr i = false → f i = true → g i = true) → l.countP f ≤ l.countP g + l.countP tr
  | [], _ => by simp
  | a :: l, h => by
    have ih := countK_le (l := l) tr (fun i hi => h i (List.mem_cons_of_mem _ hi))
    have ha := h a (List.mem_cons_self ..)
    cases ht : tr a
    · cases hf : f a
      · cases hg : g a <;> simp [ht, hf, hg] <;> omega
      · have hg := ha ht hf
        simp [ht, hf, hg]; omega
    · cases hf : f a <;> cases hg : g a <;> simp [ht, hf, hg] <;> omega
theorem says_true {i j k : Nat} {x : Bool} (h : tr i = false) : saysK tr lie n i j k x = x := by unfold saysK; rw [h]; simp
theorem yes_le (k j : Nat) : yesK tr lie n s k j ≤ n := by
  unfold yesK
  exact Nat.le_trans List.countP_le_length (by simp)
theorem yes_near (k j j2 : Nat) : yesK tr lie n s k j ≤ yesK tr lie n s k j2 + (List.range n).countP tr := by
  unfold yesK
  refine countK_le tr (fun i _ ht hf => ?_)
  rw [says_true ht] at hf ⊢
  exact hf
theorem yes_all (h : ∀ i, i < n → tr i = false → s i = true) (k j : Nat) : n ≤ yesK tr lie n s k j + (List.range n).countP tr := by
  have h1 : (List.range n).countP (fun _ => true) ≤ yesK tr lie n s k j + (List.range n).countP tr := countK_le tr (fun i hi ht _ => by
    rw [says_true ht]
    exact h i (List.mem_range.1 hi) ht)
  simpa using h1
theorem yes_none (h : ∀ i, i < n → tr i = false → s i = false) (k j : Nat) : yesK tr lie n s k j ≤ (List.range n).countP tr := by
  have h1 : yesK tr lie n s k j ≤ (List.range n).countP (fun _ => false) + (List.range n).countP tr := countK_le tr (fun i hi ht hf => by
    rw [says_true ht, h i (List.mem_range.1 hi) ht] at hf
    cases hf)
  simpa using h1

/-- Who have the same vote keep it. -/
theorem phase_keep (hn : 4 * t < n) (hl : (List.range n).countP tr ≤ t) {v : Bool} (h : ∀ i, i < n → tr i = false → s i = v) (k j : Nat) : nextK tr lie n t s k j = v := by
  have hle := yes_le (tr := tr) (lie := lie) (n := n) (s := s) k j
  cases v
  · have h1 := yes_none (lie := lie) h k j
    have hm : majK tr lie n s k j = false := decide_eq_false (by omega)
    have hc : cntK tr lie n s k j = n - yesK tr lie n s k j := by unfold cntK; rw [hm]; simp
    unfold nextK
    rw [if_neg (by rw [hc]; omega), hm]
  · have h1 := yes_all (lie := lie) h k j
    have hm : majK tr lie n s k j = true := decide_eq_true (by omega)
    have hc : cntK tr lie n s k j = yesK tr lie n s k j := by unfold cntK; rw [hm]; simp
    unfold nextK
    rw [if_neg (by rw [hc]; omega), hm]
/-- Behind the phase of a king that does not lie all vote as it says. -/
theorem phase_king (hl : (List.range n).countP tr ≤ t) {k : Nat} (hk : tr k = false) (j : Nat) : nextK tr lie n t s k j = majK tr lie n s k k := by
  have hle := yes_le (tr := tr) (lie := lie) (n := n) (s := s) k j
  have hle2 := yes_le (tr := tr) (lie := lie) (n := n) (s := s) k k
  have h1 := yes_near (tr := tr) (lie := lie) (n := n) (s := s) k j k
  have h2 := yes_near (tr := tr) (lie := lie) (n := n) (s := s) k k j
  unfold nextK
  split
  · rw [says_true hk]
  · rename_i hc
    cases hm : majK tr lie n s k j
    · have hc2 : cntK tr lie n s k j = n - yesK tr lie n s k j := by unfold cntK; rw [hm]; simp
      rw [hc2] at hc
      exact (decide_eq_false (by omega)).symm
    · have hc2 : cntK tr lie n s k j = yesK tr lie n s k j := by unfold cntK; rw [hm]; simp
      rw [hc2] at hc
      exact (decide_eq_true (by omega)).symm
theorem king_keep (hn : 4 * t < n) (hl : (List.range n).countP tr ≤ t) {v : Bool} {k : Nat} (h : ∀ i, i < n → tr i = false → kingAt tr lie n t s k i = v) : ∀ d i, i < n → tr i = false → kingAt tr lie n t s (k + d) i = v
  | 0, i, hi, ht => h i hi ht
  | d + 1, i, hi, ht => phase_keep hn hl (fun i hi ht => king_keep hn hl h d i hi ht) (k + d) i
/-- Of the first t + 1 one does not lie. -/
theorem king_true (hn : t < n) (hl : (List.range n).countP tr ≤ t) : ∃ k, k ≤ t ∧ tr k = false := by
  apply Classical.byContradiction
  intro h
  have h1 : ∀ k, k ≤ t → tr k = true := fun k hk => by
    cases e : tr k
    · exact absurd ⟨k, hk, e⟩ h
    · rfl
  have h2 : ∀ m, m ≤ n → min m (t + 1) ≤ (List.range m).countP tr := by
    intro m
    induction m with
    | zero => simp
    | succ m ih =>
      intro hm
      have := ih (by omega)
      rw [List.range_succ, List.countP_append]
      by_cases e : m ≤ t
      · simp [h1 m e]; omega
      · simp; omega
  have := h2 n (Nat.le_refl _)
  omega
/-- BERMAN, GARAY, PERRY: those who don't lie vote the same in the end. -/
theorem king_agree (hn : 4 * t < n) (hl : (List.range n).countP tr ≤ t) : ∃ v, ∀ i, i < n → tr i = false → kingAt tr lie n t s (t + 1) i = v := by
  obtain ⟨k, hk, hkt⟩ := king_true (by omega) hl
  refine ⟨majK tr lie n (kingAt tr lie n t s k) k k, fun i hi ht => ?_⟩
  have := king_keep (lie := lie) (s := s) hn hl (k := k + 1) (v := majK tr lie n (kingAt tr lie n t s k) k k) (fun i hi ht => phase_king hl hkt i) (t - k) i hi ht
  rw [show k + 1 + (t - k) = t + 1 by omega] at this
  exact this
theorem king_first (hn : 4 * t < n) (hl : (List.range n).countP tr ≤ t) {v : Bool} (h : ∀ i, i < n → tr i = false → s i = v) : ∀ i, i < n → tr i = false → kingAt tr lie n t s (t + 1) i = v := by
  intro i hi ht
  have := king_keep (lie := lie) (s := s) hn hl (k := 0) h (t + 1) i hi ht
  rw [Nat.zero_add] at this
  exact this
/-- Without a liar all vote in the end as more than half did at first. -/
theorem king_half (h0 : ∀ j, tr j = false) (n t : Nat) (s : Nat → Bool) : ∀ k j, kingAt tr lie n t s (k + 1) j = decide (n < 2 * (List.range n).countP s) := by
  have hy : ∀ (s : Nat → Bool) k j, yesK tr lie n s k j = (List.range n).countP s := fun s k j => by
    unfold yesK
    congr 1
    funext i
    rw [says_true (h0 i)]
  have hm : ∀ (s : Nat → Bool) k j, majK tr lie n s k j = decide (n < 2 * (List.range n).countP s) := fun s k j => by
    unfold majK
    rw [hy]
    have : (List.range n).countP s ≤ n := Nat.le_trans List.countP_le_length (by simp)
    rw [Bool.eq_iff_iff]; simp; omega
  have hn : ∀ (s : Nat → Bool) k j, nextK tr lie n t s k j = decide (n < 2 * (List.range n).countP s) := fun s k j => by
    unfold nextK
    split
    · rw [says_true (h0 k), hm]
    · rw [hm]
  intro k
  induction k with
  | zero => exact fun j => hn s 0 j
  | succ k ih =>
    intro j
    show nextK tr lie n t (kingAt tr lie n t s (k + 1)) (k + 1) j = _
    rw [hn]
    have e : kingAt tr lie n t s (k + 1) = fun _ => decide (n < 2 * (List.range n).countP s) := funext ih
    rw [e]
    cases hv : decide (n < 2 * (List.range n).countP s)
    · simp
    · have := of_decide_eq_true hv
      have h2 : (List.range n).countP s ≤ n := Nat.le_trans List.countP_le_length (by simp)
      simp; omega
end Go.Proofs.Ytllbfaldhlfjeaa
