/- All ways by which one event is before another, as the document's table reckons them: plain facts. -/
import Derived.Test.YtjglbjiekndpeaaH12
namespace Go.Proofs.Ytjglbjiekndpeaa
open Go.RowKit
set_option linter.unusedVariables false

variable {N : Int} {es : List Ev}

/-- At first hand, in the document's words. -/
def dB (es : List Ev) (i j : Nat) : Bool := decide (i < j) && (whoAt es i == whoAt es j || takenAt es j == some i)
/-- By ways over places below k. -/
def fw (es : List Ev) : Nat → Nat → Nat → Bool
  | 0, i, j => dB es i j
  | k + 1, i, j => fw es k i j || (decide (i < k) && decide (k < j) && fw es k i k && fw es k k j)

theorem dB_lt {i j : Nat} (h : dB es i j = true) : i < j := by unfold dB at h; simp at h; exact h.1
theorem fw_lt : ∀ {k i j : Nat}, fw es k i j = true → i < j
  | 0, i, j, h => dB_lt h
  | k + 1, i, j, h => by
    simp only [fw, Bool.or_eq_true, Bool.and_eq_true, decide_eq_true_iff] at h
    rcases h with h | h
    · exact fw_lt h
    · omega
theorem fw_up {k i j : Nat} (h : fw es k i j = true) : fw es (k + 1) i j = true := by simp only [fw, h, Bool.true_or]
theorem fw_of_d {i j : Nat} (h : dB es i j = true) : ∀ k, fw es k i j = true
  | 0 => h
  | k + 1 => fw_up (fw_of_d h k)
theorem dB_bef (hv : Valid N es) {i j : Nat} (hj : j < es.length) (h : dB es i j = true) : befB es i j = true := by
  unfold dB at h
  simp only [Bool.and_eq_true, decide_eq_true_iff, Bool.or_eq_true, beq_iff_eq] at h
  rcases h.2 with h2 | h2
  · exact bef_same hv hj h.1 h2
  · exact bef_near hv (near_taken h2)
theorem near_d (hv : Valid N es) {k j : Nat} (hj : j < es.length) (h : k ∈ nearOf es j) : dB es k j = true := by
  have hlt := nearOf_lt hv h
  unfold dB
  simp only [Bool.and_eq_true, decide_eq_true_iff, Bool.or_eq_true, beq_iff_eq]
  refine ⟨hlt, ?_⟩
  unfold nearOf at h
  rcases List.mem_append.1 h with h1 | h1
  · cases hla : lastAt es j (whoAt es j) with
    | none => rw [hla] at h1; cases h1
    | some x => rw [hla] at h1; simp at h1; subst h1; exact .inl (last_some (Nat.le_of_lt hj) hla).1
  · cases hla : takenAt es j with
    | none => rw [hla] at h1; cases h1
    | some x => rw [hla] at h1; simp at h1; subst h1; exact .inr rfl
theorem fw_bef (hv : Valid N es) : ∀ {k i j : Nat}, k ≤ es.length → j < es.length → fw es k i j = true → befB es i j = true
  | 0, i, j, _, hj, h => dB_bef hv hj h
  | k + 1, i, j, hk, hj, h => by
    simp only [fw, Bool.or_eq_true, Bool.and_eq_true, decide_eq_true_iff] at h
    rcases h with h | ⟨⟨⟨h1, h2⟩, h3⟩, h4⟩
    · exact fw_bef hv (by omega) hj h
    · exact bef_trans hv (fw_bef hv (by omega) (by omega) h3) (fw_bef hv (by omega) hj h4)
theorem fw_trans : ∀ {k i x j : Nat}, x < k → fw es k i x = true → fw es k x j = true → fw es k i j = true
  | 0, i, x, j, h, _, _ => by omega
  | k + 1, i, x, j, hx, h1, h2 => by
    have l1 := fw_lt h1
    have l2 := fw_lt h2
    simp only [fw, Bool.or_eq_true, Bool.and_eq_true, decide_eq_true_iff] at h1 h2 ⊢
    by_cases e : x = k
    · subst e
      have h1' : fw es x i x = true := by rcases h1 with h | ⟨⟨⟨_, h⟩, _⟩, _⟩; exact h; omega
      have h2' : fw es x x j = true := by rcases h2 with h | ⟨⟨⟨h, _⟩, _⟩, _⟩; exact h; omega
      exact .inr ⟨⟨⟨l1, l2⟩, h1'⟩, h2'⟩
    · have h1' : fw es k i x = true := by rcases h1 with h | ⟨⟨⟨_, h⟩, _⟩, _⟩; exact h; omega
      rcases h2 with h | ⟨⟨⟨h3, h4⟩, h5⟩, h6⟩
      · exact .inl (fw_trans (by omega) h1' h)
      · exact .inr ⟨⟨⟨by omega, h4⟩, fw_trans (by omega) h1' h5⟩, h6⟩
theorem bef_fw (hv : Valid N es) {i : Nat} : ∀ (m : Nat) {j : Nat}, j < m → j < es.length → befB es i j = true → fw es es.length i j = true
  | 0, _, h, _, _ => by omega
  | m + 1, j, h, hj, hb => by
    obtain ⟨k, hk, hik⟩ := bef_cases hv hb
    have hlt := nearOf_lt hv hk
    have hd := fw_of_d (near_d hv hj hk) es.length
    rcases hik with e | hb2
    · subst e; exact hd
    · exact fw_trans (by omega) (bef_fw hv m (by omega) (by omega) hb2) hd
theorem fw_is (hv : Valid N es) {i j : Nat} (hj : j < es.length) : fw es es.length i j = befB es i j := by
  rw [Bool.eq_iff_iff]
  exact ⟨fw_bef hv (Nat.le_refl _) hj, bef_fw hv (j + 1) (by omega) hj⟩

/-! A table of n times n. -/
def tab (n : Nat) (M : Nat → Nat → Bool) : List Bool := (List.range (n * n)).map fun q => M (q / n) (q % n)
theorem tab_len (n : Nat) (M : Nat → Nat → Bool) : (tab n M).length = n * n := by simp [tab]
theorem at_lt {n i j : Nat} (hi : i < n) (hj : j < n) : i * n + j < n * n := by
  have h1 : (i + 1) * n ≤ n * n := Nat.mul_le_mul_right n hi
  rw [Nat.add_mul, Nat.one_mul] at h1
  omega
theorem at_div {n i j : Nat} (hj : j < n) : (i * n + j) / n = i := by
  rw [Nat.add_comm, Nat.add_mul_div_right _ _ (by omega), Nat.div_eq_of_lt hj, Nat.zero_add]
theorem at_mod {n i j : Nat} (hj : j < n) : (i * n + j) % n = j := by
  rw [Nat.add_comm, Nat.add_mul_mod_self_right, Nat.mod_eq_of_lt hj]
theorem tab_at {n i j : Nat} {M : Nat → Nat → Bool} (hi : i < n) (hj : j < n) : (tab n M)[i * n + j]? = some (M i j) := by
  have := at_lt hi hj
  simp [tab, this, at_div hj, at_mod hj]
/-- One more is true. -/
def put2 (M : Nat → Nat → Bool) (i j : Nat) (a b : Nat) : Bool := if a = i ∧ b = j then true else M a b
theorem tab_set {n i j : Nat} {M : Nat → Nat → Bool} (hi : i < n) (hj : j < n) : (tab n M).set (i * n + j) true = tab n (put2 M i j) := by
  apply List.ext_getElem?
  intro q
  rw [List.getElem?_set]
  by_cases hq : q < n * n
  · have h1 : (tab n M)[q]? = some (M (q / n) (q % n)) := by simp [tab, hq]
    have h2 : (tab n (put2 M i j))[q]? = some (put2 M i j (q / n) (q % n)) := by simp [tab, hq]
    rw [h1, h2, tab_len]
    unfold put2
    by_cases he : i * n + j = q
    · subst he
      rw [at_div hj, at_mod hj]
      simp [hq]
    · have hne : ¬ (q / n = i ∧ q % n = j) := fun ⟨h3, h4⟩ => he (by rw [← h3, ← h4]; have := Nat.div_add_mod q n; rw [Nat.mul_comm] at this; exact this)
      rw [if_neg he, if_neg hne]
  · have h1 : (tab n M)[q]? = none := List.getElem?_eq_none (by rw [tab_len]; omega)
    have h2 : (tab n (put2 M i j))[q]? = none := List.getElem?_eq_none (by rw [tab_len]; omega)
    have := at_lt hi hj
    rw [h1, h2, if_neg (by omega)]
theorem tab_congr {n : Nat} {M M2 : Nat → Nat → Bool} (h : ∀ a b, a < n → b < n → M a b = M2 a b) : tab n M = tab n M2 := by
  apply List.map_congr_left
  intro q hq
  have hq' : q < n * n := List.mem_range.1 hq
  have hn : 0 < n := by
    apply Nat.pos_of_ne_zero
    intro h0
    subst h0
    omega
  exact h _ _ (Nat.div_lt_of_lt_mul hq') (Nat.mod_lt _ hn)

/-- The table while its first part is filled: columns below j are done, of column j rows below i. -/
def t1 (es : List Ev) (j i : Nat) (a b : Nat) : Bool := (decide (b < j) && dB es a b) || (decide (b = j) && decide (a < i) && dB es a b)
theorem t1_zero (n : Nat) : tab n (t1 es 0 0) = tab n fun _ _ => false := tab_congr fun a b _ _ => by simp [t1]
theorem t1_put {n j i : Nat} (h : dB es i j = true) : tab n (put2 (t1 es j i) i j) = tab n (t1 es j (i + 1)) := tab_congr fun a b _ _ => by
  unfold put2 t1
  by_cases e : a = i ∧ b = j
  · obtain ⟨rfl, rfl⟩ := e; rw [if_pos ⟨rfl, rfl⟩]; simp [h]
  · rw [if_neg e]
    congr 1
    by_cases hb : b = j
    · subst hb
      have : a ≠ i := fun h => e ⟨h, rfl⟩
      have e2 : decide (a < i + 1) = decide (a < i) := by rw [decide_eq_decide]; omega
      rw [e2]
    · simp [hb]
theorem t1_skip {n j i : Nat} (h : dB es i j = false) : tab n (t1 es j i) = tab n (t1 es j (i + 1)) := tab_congr fun a b _ _ => by
  unfold t1
  congr 1
  by_cases hb : b = j
  · subst hb
    by_cases ha : a = i
    · subst ha; simp [h]
    · have e2 : decide (a < i + 1) = decide (a < i) := by rw [decide_eq_decide]; omega
      rw [e2]
  · simp [hb]
theorem t1_next {n j : Nat} : tab n (t1 es j j) = tab n (t1 es (j + 1) 0) := tab_congr fun a b _ _ => by
  unfold t1
  rw [Bool.eq_iff_iff]
  simp only [Bool.or_eq_true, Bool.and_eq_true, decide_eq_true_iff]
  constructor
  · rintro (⟨h1, h2⟩ | ⟨⟨h1, h2⟩, h3⟩)
    · exact .inl ⟨by omega, h2⟩
    · exact .inl ⟨by omega, h3⟩
  · rintro (⟨h1, h2⟩ | ⟨⟨h1, h2⟩, h3⟩)
    · by_cases e : b = j
      · exact .inr ⟨⟨e, by have := dB_lt h2; omega⟩, h2⟩
      · exact .inl ⟨by omega, h2⟩
    · omega
theorem t1_end (n : Nat) : tab n (t1 es n 0) = tab n (fw es 0) := tab_congr fun a b _ hb => by
  unfold t1 fw
  simp [hb]

/-- The table while ways over k are laid: rows below i are done, of row i columns below j. -/
def t2 (es : List Ev) (k i j : Nat) (a b : Nat) : Bool := fw es k a b || ((decide (a < i) || (decide (a = i) && decide (b < j))) && decide (a < k) && decide (k < b) && fw es k a k && fw es k k b)
theorem t2_zero (n k : Nat) : tab n (t2 es k 0 0) = tab n (fw es k) := tab_congr fun a b _ _ => by simp [t2]
theorem t2_start {n k i : Nat} : tab n (t2 es k i 0) = tab n (t2 es k i (k + 1)) := tab_congr fun a b _ _ => by
  unfold t2
  congr 1
  rw [Bool.eq_iff_iff]
  simp only [Bool.or_eq_true, Bool.and_eq_true, decide_eq_true_iff]
  constructor
  · rintro ⟨⟨⟨⟨h | h, h2⟩, h3⟩, h4⟩, h5⟩
    · exact ⟨⟨⟨⟨.inl h, h2⟩, h3⟩, h4⟩, h5⟩
    · omega
  · rintro ⟨⟨⟨⟨h | h, h2⟩, h3⟩, h4⟩, h5⟩
    · exact ⟨⟨⟨⟨.inl h, h2⟩, h3⟩, h4⟩, h5⟩
    · omega
theorem t2_put {n k i j : Nat} (hi : i < k) (hj : k < j) (h1 : fw es k i k = true) (h2 : fw es k k j = true) : tab n (put2 (t2 es k i j) i j) = tab n (t2 es k i (j + 1)) := tab_congr fun a b _ _ => by
  unfold put2 t2
  by_cases e : a = i ∧ b = j
  · obtain ⟨rfl, rfl⟩ := e; rw [if_pos ⟨rfl, rfl⟩]; simp [h1, h2, hi, hj]
  · rw [if_neg e]
    by_cases ha : a = i
    · subst ha
      have : b ≠ j := fun h => e ⟨rfl, h⟩
      have e2 : decide (b < j + 1) = decide (b < j) := by rw [decide_eq_decide]; omega
      rw [e2]
    · simp [ha]
theorem t2_skip {n k i j : Nat} (h : (fw es k i k && fw es k k j) = false) : tab n (t2 es k i j) = tab n (t2 es k i (j + 1)) := tab_congr fun a b _ _ => by
  unfold t2
  congr 1
  by_cases ha : a = i
  · subst ha
    by_cases hb : b = j
    · subst hb
      rw [Bool.and_assoc, Bool.and_assoc _ (fw es k a k), h]
      simp
    · have e2 : decide (b < j + 1) = decide (b < j) := by rw [decide_eq_decide]; omega
      rw [e2]
  · simp [ha]
theorem t2_next {n k i : Nat} : tab n (t2 es k i n) = tab n (t2 es k (i + 1) 0) := tab_congr fun a b _ hb => by
  unfold t2
  congr 4
  rw [Bool.eq_iff_iff]
  simp only [Bool.or_eq_true, Bool.and_eq_true, decide_eq_true_iff]
  omega
theorem t2_end {n k : Nat} : tab n (t2 es k k 0) = tab n (fw es (k + 1)) := tab_congr fun a b _ _ => by
  show (fw es k a b || _) = (fw es k a b || _)
  congr 1
  rw [Bool.eq_iff_iff]
  simp only [Bool.or_eq_true, Bool.and_eq_true, decide_eq_true_iff]
  constructor
  · rintro ⟨⟨⟨⟨h | h, h2⟩, h3⟩, h4⟩, h5⟩
    · exact ⟨⟨⟨h2, h3⟩, h4⟩, h5⟩
    · omega
  · rintro ⟨⟨⟨h2, h3⟩, h4⟩, h5⟩
    exact ⟨⟨⟨⟨.inl h2, h2⟩, h3⟩, h4⟩, h5⟩
theorem t2_ik {k i j : Nat} : t2 es k i j i k = fw es k i k := by simp [t2]
theorem t2_kj {k i j : Nat} : t2 es k i j k j = fw es k k j := by simp [t2]
end Go.Proofs.Ytjglbjiekndpeaa
