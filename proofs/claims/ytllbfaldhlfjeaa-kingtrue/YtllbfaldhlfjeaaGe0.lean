/- Generals, plain: what each holds, and that the loyal ones agree. -/
namespace Go.Proofs.Ytllbfaldhlfjeaa
set_option linter.unusedVariables false

def wayC (way : List Nat) : Nat := way.foldl (fun c i => 7 * c + i + 1) 0
def lastW (way : List Nat) : Nat := way.getLast?.getD 0
def sentG (tr lie : Nat → Bool) (way : List Nat) (to : Nat) (x : Bool) : Bool := if tr (lastW way) = true then lie ((7 * wayC way + to) % 64) else x
def majG (f : Nat → Bool) (l : List Nat) : Bool := decide (l.countP (fun j => !f j) < l.countP f)
def holdsG (tr lie : Nat → Bool) : Nat → List Nat → List Nat → Nat → Bool → Bool
  | 0, way, _, i, x => sentG tr lie way i x
  | d + 1, way, l, i, x => majG (fun j => if j = i then sentG tr lie way i x else holdsG tr lie d (way ++ [j]) (l.filter (fun k => k != j)) i (sentG tr lie way j x)) l

variable {tr lie : Nat → Bool}
theorem lastW_app (way : List Nat) (j : Nat) : lastW (way ++ [j]) = j := by simp [lastW]
theorem wayC_app (way : List Nat) (j : Nat) : wayC (way ++ [j]) = 7 * wayC way + j + 1 := by simp [wayC]
theorem sent_loyal {way : List Nat} (h : tr (lastW way) = false) (i : Nat) (x : Bool) : sentG tr lie way i x = x := by
  unfold sentG; rw [h]; simp
theorem count_both (f : Nat → Bool) : ∀ l : List Nat, l.countP f + l.countP (fun j => !f j) = l.length
  | [] => rfl
  | a :: l => by
    have := count_both f l
    cases h : f a <;> simp [h] <;> omega
theorem count_le {f g : Nat → Bool} : ∀ {l : List Nat}, (∀ j ∈ l, f j = true → g j = true) → l.countP f ≤ l.countP g
  | [], _ => Nat.le_refl _
  | a :: l, h => by
    have := count_le (l := l) (fun j hj => h j (List.mem_cons_of_mem _ hj))
    have ha := h a (List.mem_cons_self ..)
    cases hf : f a
    · cases hg : g a <;> simp [hf, hg] <;> omega
    · have hg := ha hf
      simp [hf, hg]; omega
theorem count_same {f g : Nat → Bool} {l : List Nat} (h : ∀ j ∈ l, f j = g j) : l.countP f = l.countP g :=
  Nat.le_antisymm (count_le fun j hj e => by rw [← h j hj]; exact e) (count_le fun j hj e => by rw [h j hj]; exact e)
theorem maj_same {f g : Nat → Bool} {l : List Nat} (h : ∀ j ∈ l, f j = g j) : majG f l = majG g l := by
  unfold majG
  rw [count_same h, count_same (f := fun j => !f j) (g := fun j => !g j) (fun j hj => by rw [h j hj])]
/-- So many more than half have x. -/
theorem maj_most {f : Nat → Bool} {l : List Nat} {x : Bool} {k : Nat} (tr : Nat → Bool) (hk : l.countP tr ≤ k) (hl : 2 * k < l.length) (h : ∀ j ∈ l, tr j = false → f j = x) : majG f l = x := by
  have h1 := count_both tr l
  have h2 := count_both f l
  unfold majG
  cases x
  · have h3 : l.countP (fun j => !tr j) ≤ l.countP (fun j => !f j) := count_le fun j hj e => by
      have e2 : tr j = false := by simpa using e
      rw [h j hj e2]; rfl
    exact decide_eq_false (by omega)
  · have h3 : l.countP (fun j => !tr j) ≤ l.countP f := count_le fun j hj e => by
      have e2 : tr j = false := by simpa using e
      exact h j hj e2
    exact decide_eq_true (by omega)
theorem filt_len {l : List Nat} (hd : l.Nodup) {j : Nat} (hj : j ∈ l) : (l.filter (fun k => k != j)).length + 1 = l.length := by
  induction l with
  | nil => simp at hj
  | cons a l ih =>
    rw [List.nodup_cons] at hd
    by_cases e : a = j
    · subst e
      have : l.filter (fun k => k != a) = l := by
        rw [List.filter_eq_self]
        intro b hb
        simp
        exact fun e => hd.1 (e ▸ hb)
      simp [this]
    · have hj' : j ∈ l := by simpa [Ne.symm e] using hj
      have h1 : (a != j) = true := by simpa using e
      have := ih hd.2 hj'
      simp [h1]; omega
theorem filt_count (f : Nat → Bool) {l : List Nat} {j : Nat} (hj : j ∈ l) : (l.filter (fun k => k != j)).countP f + (if f j = true then 1 else 0) ≤ l.countP f := by
  induction l with
  | nil => simp at hj
  | cons a l ih =>
    have hle : (l.filter (fun k => k != j)).countP f ≤ l.countP f := by
      have : ∀ m : List Nat, (m.filter (fun k => k != j)).countP f ≤ m.countP f := by
        intro m
        induction m with
        | nil => simp
        | cons b m ihm =>
          by_cases h1 : (b != j) = true
          · simp [h1, List.countP_cons]; omega
          · simp [h1, List.countP_cons]; omega
      exact this l
    by_cases e : a = j
    · subst e
      simp [List.countP_cons]
      exact hle
    · have hj' : j ∈ l := by simpa [Ne.symm e] using hj
      have h1 : (a != j) = true := by simpa using e
      have := ih hj'
      simp [h1, List.countP_cons]; omega
theorem filt_mem {l : List Nat} {i j : Nat} (hi : i ∈ l) (h : i ≠ j) : i ∈ l.filter (fun k => k != j) := by
  rw [List.mem_filter]; exact ⟨hi, by simpa using h⟩
theorem filt_nodup {l : List Nat} (hd : l.Nodup) (j : Nat) : (l.filter (fun k => k != j)).Nodup := List.Pairwise.filter _ hd

/-- With a loyal sender all who are loyal hold what it has. -/
theorem loyal_holds : ∀ (d : Nat) (way l : List Nat) (i : Nat) (x : Bool) (k : Nat), l.Nodup → tr (lastW way) = false → l.countP tr ≤ k → 2 * k + d < l.length + 1 → i ∈ l → tr i = false → holdsG tr lie d way l i x = x
  | 0, way, l, i, x, k, _, h, _, _, _, _ => sent_loyal h i x
  | d + 1, way, l, i, x, k, hd, h, hk, hl, hi, hti => by
    unfold holdsG
    refine maj_most tr hk (by omega) (fun j hj htj => ?_)
    show (if j = i then _ else _) = x
    by_cases e : j = i
    · rw [if_pos e]; exact sent_loyal h i x
    · rw [if_neg e]
      have h1 := filt_len hd hj
      have h2 := filt_count tr hj
      have := loyal_holds d (way ++ [j]) (l.filter (fun k => k != j)) i (sentG tr lie way j x) k (filt_nodup hd j) (by rw [lastW_app]; exact htj) (by omega) (by omega) (filt_mem hi (fun e2 => e e2.symm)) hti
      rw [this]
      exact sent_loyal h j x
/-- LAMPORT, SHOSTAK, PEASE: more than three times as many: all who are loyal hold the same. -/
theorem agree_holds : ∀ (d : Nat) (way l : List Nat) (i1 i2 : Nat) (x : Bool), l.Nodup → (if tr (lastW way) = true then 1 else 0) + l.countP tr ≤ d → 3 * d < l.length + 1 → i1 ∈ l → i2 ∈ l → tr i1 = false → tr i2 = false → holdsG tr lie d way l i1 x = holdsG tr lie d way l i2 x
  | 0, way, l, i1, i2, x, hd, hk, hl, h1, h2, t1, t2 => by
    have ht : tr (lastW way) = false := by
      cases e : tr (lastW way)
      · rfl
      · rw [e] at hk; simp at hk
    unfold holdsG
    rw [sent_loyal ht, sent_loyal ht]
  | d + 1, way, l, i1, i2, x, hd, hk, hl, h1, h2, t1, t2 => by
    cases ht : tr (lastW way)
    · rw [ht] at hk
      rw [loyal_holds (d + 1) way l i1 x (d + 1) hd ht (by simpa using hk) (by omega) h1 t1, loyal_holds (d + 1) way l i2 x (d + 1) hd ht (by simpa using hk) (by omega) h2 t2]
    · rw [ht] at hk
      simp only [if_true] at hk
      by_cases e12 : i1 = i2
      · rw [e12]
      unfold holdsG
      refine maj_same (fun j hj => ?_)
      show (if j = i1 then _ else _) = (if j = i2 then _ else _)
      have f1 := filt_len hd hj
      have f2 := filt_count tr hj
      by_cases e1 : j = i1
      · subst e1
        rw [if_pos rfl, if_neg e12]
        exact (loyal_holds d (way ++ [j]) (l.filter (fun k => k != j)) i2 _ d (filt_nodup hd j) (by rw [lastW_app]; exact t1) (by omega) (by omega) (filt_mem h2 (Ne.symm e12)) t2).symm
      · rw [if_neg e1]
        by_cases e2 : j = i2
        · subst e2
          rw [if_pos rfl]
          exact loyal_holds d (way ++ [j]) (l.filter (fun k => k != j)) i1 _ d (filt_nodup hd j) (by rw [lastW_app]; exact t2) (by omega) (by omega) (filt_mem h1 e12) t1
        · rw [if_neg e2]
          refine agree_holds d (way ++ [j]) (l.filter (fun k => k != j)) i1 i2 _ (filt_nodup hd j) ?_ (by omega) (filt_mem h1 (Ne.symm e1)) (filt_mem h2 (Ne.symm e2)) t1 t2
          rw [lastW_app]
          omega
/-- Without a traitor all hold what was sent, however few they are. -/
theorem true_holds (h0 : ∀ j, tr j = false) : ∀ (d : Nat) (way l : List Nat) (i : Nat) (x : Bool), i ∈ l → holdsG tr lie d way l i x = x
  | 0, way, l, i, x, _ => sent_loyal (h0 _) i x
  | d + 1, way, l, i, x, hi => by
    unfold holdsG
    refine maj_most (fun _ => false) (k := 0) (by simp) (by have := List.length_pos_of_mem hi; omega) (fun j hj _ => ?_)
    show (if j = i then _ else _) = x
    by_cases e : j = i
    · rw [if_pos e]; exact sent_loyal (h0 _) i x
    · rw [if_neg e, true_holds h0 d (way ++ [j]) _ i _ (filt_mem hi (fun e2 => e e2.symm))]
      exact sent_loyal (h0 _) j x
end Go.Proofs.Ytllbfaldhlfjeaa
