/- Machines in a ring, plain: who is free, what a move makes, and that all comes right. -/
namespace Go.Proofs.Ytflmbhjighnicab
set_option linter.unusedVariables false

def badJ (k x : Int) : Bool := decide (x < 0) || decide (k ≤ x)
def codeJ (k : Int) (zs : List Int) : Int := if zs.length < 2 ∨ 6 < zs.length ∨ k < 2 ∨ 1000 < k then 1 else if zs.any (badJ k) then 2 else 0
def frJ (n : Nat) (s : Nat → Int) (i : Nat) : Bool := if i = 0 then s 0 == s (n - 1) else s i != s (i - 1)
def mvJ (k : Int) (s : Nat → Int) (i j : Nat) : Int := if j = i then (if i = 0 then (if s 0 + 1 = k then 0 else s 0 + 1) else s (i - 1)) else s j
def nxJ (n i : Nat) : Nat := if i + 1 = n then 0 else i + 1
def rwJ (n : Nat) (s : Nat → Int) : List Int := (List.range n).map s
def frL (n : Nat) (s : Nat → Int) (m : Nat) : List Nat := (List.range m).filter (frJ n s)
def OkJ (k : Int) (n : Nat) (s : Nat → Int) : Prop := ∀ i, i < n → 0 ≤ s i ∧ s i < k

theorem rwJ_len (n : Nat) (s : Nat → Int) : (rwJ n s).length = n := by simp [rwJ]
theorem rwJ_at {n i : Nat} {s : Nat → Int} (h : i < n) : (rwJ n s)[i]? = some (s i) := by simp [rwJ, h]
theorem rwJ_of (zs : List Int) : zs = rwJ zs.length (fun i => zs.getD i 0) := by
  apply List.ext_getElem?
  intro i
  by_cases h : i < zs.length
  · rw [rwJ_at h, List.getElem?_eq_getElem h]; simp [h]
  · rw [List.getElem?_eq_none (by omega), List.getElem?_eq_none (by rw [rwJ_len]; omega)]
theorem codeJ_ok {k : Int} {n : Nat} {s : Nat → Int} (h2 : 2 ≤ n) (h6 : n ≤ 6) (k2 : 2 ≤ k) (k3 : k ≤ 1000) (hv : OkJ k n s) : codeJ k (rwJ n s) = 0 := by
  unfold codeJ
  rw [rwJ_len, if_neg (by omega)]
  have : (rwJ n s).any (badJ k) = false := by
    rw [List.any_eq_false]
    intro x hx
    simp only [rwJ, List.mem_map, List.mem_range] at hx
    obtain ⟨i, hi, rfl⟩ := hx
    have := hv i hi
    simp [badJ]; omega
  rw [this]; rfl
theorem codeJ_zero {k : Int} {zs : List Int} (h : codeJ k zs = 0) : 2 ≤ zs.length ∧ zs.length ≤ 6 ∧ 2 ≤ k ∧ k ≤ 1000 ∧ ∀ x ∈ zs, 0 ≤ x ∧ x < k := by
  unfold codeJ at h
  split at h
  · simp at h
  · rename_i h1
    split at h
    · simp at h
    · rename_i h2
      refine ⟨by omega, by omega, by omega, by omega, fun x hx => ?_⟩
      have h3 : zs.any (badJ k) = false := by simpa using h2
      have := List.any_eq_false.1 h3 x hx
      simp [badJ] at this; omega
theorem okJ_of {k : Int} {zs : List Int} (h : codeJ k zs = 0) : OkJ k zs.length (fun i => zs.getD i 0) := fun i hi => by
  have e : (fun i => zs.getD i 0) i = zs[i] := by simp [hi]
  rw [e]
  exact (codeJ_zero h).2.2.2.2 _ (List.getElem_mem _)

/-- What the numbers below m of which p holds weigh. -/
def wn (w : Nat → Nat) (p : Nat → Bool) : Nat → Nat
  | 0 => 0
  | m + 1 => wn w p m + if p m then w m else 0
theorem wn_len (p : Nat → Bool) : ∀ m, ((List.range m).filter p).length = wn (fun _ => 1) p m
  | 0 => rfl
  | m + 1 => by
    rw [List.range_succ, List.filter_append, List.length_append, wn_len p m, wn]
    cases h : p m <;> simp [h]
theorem wn_two (w : Nat → Nat) {p q : Nat → Bool} {i a : Nat} (hp : p i = true) (hq : q i = false) : ∀ m, (∀ j, j < m → j ≠ i → j ≠ a → q j = p j) → wn w q m + (if i < m then w i else 0) ≤ wn w p m + (if a < m then w a else 0)
  | 0, _ => by simp [wn]
  | m + 1, h => by
    have ih := wn_two w hp hq m (fun j hj => h j (by omega))
    simp only [wn]
    by_cases e : m = i
    · subst e
      rw [hp, hq]
      simp only [Nat.lt_irrefl, if_false] at ih
      by_cases e2 : a = m
      · subst e2; simp at ih ⊢; omega
      · by_cases e3 : a < m
        · rw [if_pos e3] at ih; rw [if_pos (show a < m + 1 by omega)]; simp; omega
        · rw [if_neg e3] at ih; rw [if_neg (show ¬ a < m + 1 by omega)]; simp; omega
    · have e1 : (if i < m + 1 then w i else 0) = if i < m then w i else 0 := by
        by_cases h1 : i < m
        · rw [if_pos h1, if_pos (by omega)]
        · rw [if_neg h1, if_neg (by omega)]
      rw [e1]
      by_cases e2 : m = a
      · subst e2
        simp only [Nat.lt_irrefl, if_false] at ih
        rw [if_pos (Nat.lt_succ_self m)]
        have : (if q m then w m else 0) ≤ w m := by split <;> omega
        omega
      · rw [h m (Nat.lt_succ_self m) e e2]
        have e3 : (if a < m + 1 then w a else 0) = if a < m then w a else 0 := by
          by_cases h1 : a < m
          · rw [if_pos h1, if_pos (by omega)]
          · rw [if_neg h1, if_neg (by omega)]
        rw [e3]; omega
theorem wn_le (w : Nat → Nat) (p : Nat → Bool) : ∀ m, wn w p m ≤ wn w (fun _ => true) m
  | 0 => Nat.le_refl _
  | m + 1 => by
    have := wn_le w p m
    simp only [wn]
    split <;> simp <;> omega
theorem wn_zero {w : Nat → Nat} {p : Nat → Bool} : ∀ {m}, wn w p m = 0 → ∀ j, j < m → 0 < w j → p j = false
  | 0, _, j, hj, _ => by omega
  | m + 1, h, j, hj, hw => by
    simp only [wn] at h
    by_cases e : j = m
    · subst e
      cases hp : p j
      · rfl
      · rw [hp] at h; simp at h; omega
    · exact wn_zero (m := m) (by omega) j (by omega) hw

variable {k : Int} {n : Nat} {s : Nat → Int}
theorem fr_some (hn : 2 ≤ n) (s : Nat → Int) : ∃ i, i < n ∧ frJ n s i = true := by
  apply Classical.byContradiction
  intro h
  have h1 : ∀ i, i < n → frJ n s i = false := fun i hi => by
    cases e : frJ n s i
    · rfl
    · exact absurd ⟨i, hi, e⟩ h
  have h2 : ∀ i, i < n → s i = s 0 := by
    intro i
    induction i with
    | zero => intro _; rfl
    | succ i ih =>
      intro hi
      have := h1 (i + 1) hi
      unfold frJ at this
      rw [if_neg (by omega)] at this
      have e : s (i + 1) = s i := by simpa using this
      rw [e]; exact ih (by omega)
  have := h1 0 (by omega)
  unfold frJ at this
  rw [if_pos rfl, h2 (n - 1) (by omega)] at this
  simp at this
theorem mv_ok (hv : OkJ k n s) (hk : 2 ≤ k) {i : Nat} (hi : i < n) : OkJ k n (mvJ k s i) := fun j hj => by
  unfold mvJ
  have h0 := hv 0 (by omega)
  split
  · split
    · split <;> omega
    · exact hv _ (by omega)
  · exact hv j hj
theorem mv_not (hv : OkJ k n s) (hn : 2 ≤ n) (hk : 2 ≤ k) {i : Nat} (hi : i < n) (hf : frJ n s i = true) : frJ n (mvJ k s i) i = false := by
  unfold frJ at hf ⊢
  by_cases e : i = 0
  · subst e
    simp only [if_true] at hf ⊢
    have e1 : mvJ k s 0 0 = if s 0 + 1 = k then 0 else s 0 + 1 := by simp [mvJ]
    have e2 : mvJ k s 0 (n - 1) = s (n - 1) := by unfold mvJ; rw [if_neg (by omega)]
    have h0 := hv 0 (by omega)
    have hf' : s 0 = s (n - 1) := by simpa using hf
    rw [e1, e2, ← hf']
    simp
    split <;> omega
  · rw [if_neg e]
    have e1 : mvJ k s i i = s (i - 1) := by simp [mvJ, e]
    have e2 : mvJ k s i (i - 1) = s (i - 1) := by unfold mvJ; rw [if_neg (by omega)]
    rw [e1, e2]; simp
theorem mv_other {i j : Nat} (hi : i < n) (hj : j < n) (h1 : j ≠ i) (h2 : j ≠ nxJ n i) : frJ n (mvJ k s i) j = frJ n s j := by
  unfold nxJ at h2
  unfold frJ
  by_cases e : j = 0
  · subst e
    have e3 : n - 1 ≠ i := by split at h2 <;> omega
    have e1 : mvJ k s i 0 = s 0 := by unfold mvJ; rw [if_neg (by omega)]
    have e2 : mvJ k s i (n - 1) = s (n - 1) := by unfold mvJ; rw [if_neg e3]
    simp only [if_true, e1, e2]
  · have e3 : j - 1 ≠ i := by split at h2 <;> omega
    have e1 : mvJ k s i j = s j := by unfold mvJ; rw [if_neg h1]
    have e2 : mvJ k s i (j - 1) = s (j - 1) := by unfold mvJ; rw [if_neg e3]
    rw [if_neg e, if_neg e, e1, e2]
theorem nx_lt {i : Nat} (hi : i < n) : nxJ n i < n := by unfold nxJ; split <;> omega

def cnJ (n : Nat) (s : Nat → Int) : Nat := wn (fun _ => 1) (frJ n s) n
theorem frL_len (n : Nat) (s : Nat → Int) : (frL n s n).length = cnJ n s := wn_len _ _
theorem fr_less (hv : OkJ k n s) (hn : 2 ≤ n) (hk : 2 ≤ k) {i : Nat} (hi : i < n) (hf : frJ n s i = true) : cnJ n (mvJ k s i) ≤ cnJ n s := by
  have h := wn_two (fun _ => 1) hf (mv_not hv hn hk hi hf) n (a := nxJ n i) (fun j hj h1 h2 => mv_other hi hj h1 h2)
  rw [if_pos hi, if_pos (nx_lt hi)] at h
  unfold cnJ; omega
theorem cn_pos (hn : 2 ≤ n) (s : Nat → Int) : 0 < cnJ n s := by
  obtain ⟨i, hi, hf⟩ := fr_some hn s
  apply Nat.pos_of_ne_zero
  intro e
  have := wn_zero (w := fun _ => 1) e i hi (by omega)
  rw [hf] at this; cases this
theorem frL_mem {i : Nat} : i ∈ frL n s n ↔ i < n ∧ frJ n s i = true := by simp [frL]
theorem fr_one (h : cnJ n s = 1) {i : Nat} (hi : i < n) (hf : frJ n s i = true) : frL n s n = [i] := by
  have hl := frL_len n s
  rw [h] at hl
  obtain ⟨x, hx⟩ := List.length_eq_one_iff.1 hl
  have hm : i ∈ frL n s n := frL_mem.2 ⟨hi, hf⟩
  rw [hx] at hm ⊢
  simp at hm
  rw [hm]
theorem fr_only (h : cnJ n s = 1) {i j : Nat} (hi : i < n) (hf : frJ n s i = true) (hj : j < n) (h1 : j ≠ i) : frJ n s j = false := by
  cases e : frJ n s j
  · rfl
  · have hm : j ∈ frL n s n := frL_mem.2 ⟨hj, e⟩
    rw [fr_one h hi hf] at hm
    simp at hm
    exact absurd hm h1
theorem one_next (hv : OkJ k n s) (hn : 2 ≤ n) (hk : 2 ≤ k) (h : cnJ n s = 1) {i : Nat} (hi : i < n) (hf : frJ n s i = true) : cnJ n (mvJ k s i) = 1 ∧ frJ n (mvJ k s i) (nxJ n i) = true := by
  have h1 := fr_less hv hn hk hi hf
  have h2 := cn_pos hn (mvJ k s i)
  refine ⟨by omega, ?_⟩
  obtain ⟨j, hj, hjf⟩ := fr_some hn (mvJ k s i)
  by_cases e1 : j = i
  · subst e1
    rw [mv_not hv hn hk hi hf] at hjf; cases hjf
  · by_cases e2 : j = nxJ n i
    · rw [← e2]; exact hjf
    · rw [mv_other hi hj e1 e2, fr_only h hi hf hj e1] at hjf; cases hjf

/-- From a list of fewer numbers than k one below k is missing. -/
theorem missing : ∀ (k : Nat) (l : List Nat), l.length < k → ∃ x, x < k ∧ x ∉ l
  | 0, l, h => by omega
  | k + 1, l, h => by
    by_cases hm : k ∈ l
    · have hl : (l.filter (fun x => decide (x ≠ k))).length < l.length := by
        apply List.length_filter_lt_length_iff_exists.2
        exact ⟨k, hm, by simp⟩
      obtain ⟨x, hx, hn⟩ := missing k (l.filter (fun x => decide (x ≠ k))) (by omega)
      refine ⟨x, by omega, fun hx2 => hn ?_⟩
      rw [List.mem_filter]
      exact ⟨hx2, by simp; omega⟩
    · exact ⟨k, by omega, hm⟩

def wJ (n j : Nat) : Nat := if j = 0 then 0 else n - j
def potJ (n : Nat) (s : Nat → Int) : Nat := wn (wJ n) (frJ n s) n
theorem pot_le (hn : 2 ≤ n) (h6 : n ≤ 6) (s : Nat → Int) : potJ n s ≤ n * (n - 1) / 2 := by
  refine Nat.le_trans (wn_le _ _ _) ?_
  obtain rfl | rfl | rfl | rfl | rfl : n = 2 ∨ n = 3 ∨ n = 4 ∨ n = 5 ∨ n = 6 := by omega
  all_goals decide
theorem pot_less (hv : OkJ k n s) (hn : 2 ≤ n) (hk : 2 ≤ k) {i : Nat} (hi : i < n) (h0 : i ≠ 0) (hf : frJ n s i = true) : potJ n (mvJ k s i) + 1 ≤ potJ n s := by
  have h := wn_two (wJ n) hf (mv_not hv hn hk hi hf) n (a := nxJ n i) (fun j hj h1 h2 => mv_other hi hj h1 h2)
  rw [if_pos hi, if_pos (nx_lt hi)] at h
  have e1 : wJ n i = n - i := by unfold wJ; rw [if_neg h0]
  have e2 : wJ n (nxJ n i) + 1 ≤ n - i := by unfold wJ nxJ; split <;> split <;> omega
  unfold potJ; omega

/-- So many moves of the first machine (d) until it has x, which no other one has; or a beginning of them has x, and no other. -/
def PhJ (k : Int) (n : Nat) (s : Nat → Int) (x : Int) (d : Nat) : Prop :=
  0 ≤ x ∧ x < k ∧ (d : Int) < k ∧ (x = s 0 + (d : Int) ∨ x + k = s 0 + (d : Int)) ∧
    (if d = 0 then ∃ j, j < n ∧ (∀ i, i ≤ j → s i = x) ∧ ∀ i, j < i → i < n → s i ≠ x else ∀ i, 0 < i → i < n → s i ≠ x)
def RtJ (k : Int) (n : Nat) (M : Nat) (s : Nat → Int) : Prop :=
  cnJ n s = 1 ∨ ∃ x d, PhJ k n s x d ∧ d * (n * (n - 1) / 2 + 1) + potJ n s ≤ M
theorem cn_same (hn : 2 ≤ n) {x : Int} (h : ∀ i, i < n → s i = x) : cnJ n s = 1 := by
  have h1 : ∀ i, i < n → i ≠ 0 → frJ n s i = false := fun i hi h0 => by
    unfold frJ; rw [if_neg h0, h i hi, h (i - 1) (by omega)]; simp
  have h2 : ∀ m, 0 < m → m ≤ n → wn (fun _ => 1) (frJ n s) m = 1 := by
    intro m
    induction m with
    | zero => intro h _; omega
    | succ m ih =>
      intro _ hm
      simp only [wn]
      by_cases e : m = 0
      · subst e
        have : frJ n s 0 = true := by unfold frJ; rw [if_pos rfl, h 0 (by omega), h (n - 1) (by omega)]; simp
        rw [this]; rfl
      · rw [h1 m (by omega) e, ih (by omega) (by omega)]; rfl
  exact h2 n (by omega) (Nat.le_refl _)
theorem rt_zero (hn : 2 ≤ n) (h : RtJ k n 0 s) : cnJ n s = 1 := by
  rcases h with h | ⟨x, d, _, h⟩
  · exact h
  · have hp : potJ n s = 0 := by omega
    have h1 : ∀ i, i < n → s i = s 0 := by
      intro i
      induction i with
      | zero => intro _; rfl
      | succ i ih =>
        intro hi
        have := wn_zero hp (i + 1) hi (by unfold wJ; rw [if_neg (by omega)]; omega)
        unfold frJ at this
        rw [if_neg (by omega)] at this
        have e : s (i + 1) = s i := by simpa using this
        rw [e]; exact ih (by omega)
    exact cn_same hn h1
theorem rt_step (hv : OkJ k n s) (hn : 2 ≤ n) (h6 : n ≤ 6) (hk : 2 ≤ k) {M i : Nat} (h : RtJ k n M s) (hi : i < n) (hf : frJ n s i = true) : RtJ k n (M - 1) (mvJ k s i) := by
  rcases h with h | ⟨x, d, ⟨hx0, hxk, hdk, hxd, hd⟩, hM⟩
  · exact .inl (one_next hv hn hk h hi hf).1
  have hs0 := hv 0 (by omega)
  by_cases e0 : i = 0
  · subst e0
    by_cases ed : d = 0
    · subst ed
      rw [if_pos rfl] at hd
      obtain ⟨j, hj, h1, h2⟩ := hd
      have hl : s 0 = s (n - 1) := by simpa [frJ] using hf
      have ej : j = n - 1 := by
        apply Classical.byContradiction
        intro e
        exact h2 (n - 1) (by omega) (by omega) (hl.symm.trans (h1 0 (by omega)))
      subst ej
      exact .inl (one_next hv hn hk (cn_same hn (fun i hi => h1 i (by omega))) hi hf).1
    · rw [if_neg ed] at hd
      right
      have e1 : mvJ k s 0 0 = if s 0 + 1 = k then 0 else s 0 + 1 := by simp [mvJ]
      have e2 : ∀ j, 0 < j → mvJ k s 0 j = s j := fun j hj => by unfold mvJ; rw [if_neg (by omega)]
      refine ⟨x, d - 1, ⟨hx0, hxk, by omega, ?_, ?_⟩, ?_⟩
      · rw [e1]
        split <;> omega
      · by_cases e3 : d - 1 = 0
        · rw [if_pos e3]
          refine ⟨0, by omega, fun i hi => ?_, fun i h1 h2 => by rw [e2 i h1]; exact hd i h1 h2⟩
          obtain rfl : i = 0 := by omega
          rw [e1]
          split <;> omega
        · rw [if_neg e3]
          exact fun i h1 h2 => by rw [e2 i h1]; exact hd i h1 h2
      · have hp := pot_le hn h6 (mvJ k s 0)
        obtain ⟨c, rfl⟩ : ∃ c, d = c + 1 := ⟨d - 1, by omega⟩
        rw [Nat.add_mul, Nat.one_mul] at hM
        simp only [Nat.add_sub_cancel]
        omega
  · have hp := pot_less hv hn hk hi e0 hf
    right
    have e1 : mvJ k s i 0 = s 0 := by unfold mvJ; rw [if_neg (by omega)]
    have e2 : mvJ k s i i = s (i - 1) := by simp [mvJ, e0]
    have e3 : ∀ j, j ≠ i → mvJ k s i j = s j := fun j hj => by unfold mvJ; rw [if_neg hj]
    refine ⟨x, d, ⟨hx0, hxk, hdk, by rw [e1]; exact hxd, ?_⟩, by omega⟩
    by_cases ed : d = 0
    · rw [if_pos ed] at hd ⊢
      obtain ⟨j, hj, h1, h2⟩ := hd
      have hne : s i ≠ s (i - 1) := by
        unfold frJ at hf; rw [if_neg e0] at hf; simpa using hf
      have hij : j < i := by
        apply Nat.lt_of_not_le
        intro hle
        exact hne ((h1 i hle).trans (h1 (i - 1) (by omega)).symm)
      by_cases e4 : i = j + 1
      · refine ⟨j + 1, by omega, fun l hl => ?_, fun l hl hl2 => ?_⟩
        · by_cases e5 : l = i
          · subst e5; rw [e2]; exact h1 _ (by omega)
          · rw [e3 l e5]; exact h1 l (by omega)
        · rw [e3 l (by omega)]; exact h2 l (by omega) hl2
      · refine ⟨j, hj, fun l hl => by rw [e3 l (by omega)]; exact h1 l hl, fun l hl hl2 => ?_⟩
        by_cases e5 : l = i
        · subst e5; rw [e2]; exact h2 _ (by omega) (by omega)
        · rw [e3 l e5]; exact h2 l hl hl2
    · rw [if_neg ed] at hd ⊢
      intro l hl hl2
      by_cases e5 : l = i
      · subst e5
        rw [e2]
        by_cases e6 : l = 1
        · subst e6
          show s 0 ≠ x
          omega
        · exact hd _ (by omega) (by omega)
      · rw [e3 l e5]; exact hd l hl hl2
theorem rt_start (hv : OkJ k n s) (hn : 2 ≤ n) (h6 : n ≤ 6) (hk : (n : Int) ≤ k) : RtJ k n ((k.toNat + 1) * (n * (n - 1) / 2 + 1)) s := by
  right
  obtain ⟨x, hx, hm⟩ := missing k.toNat ((List.range (n - 1)).map fun i => (s (i + 1)).toNat) (by simp; omega)
  have hs0 := hv 0 (by omega)
  have hne : ∀ i, 0 < i → i < n → s i ≠ (x : Int) := fun i h1 h2 e => hm (by
    rw [List.mem_map]
    refine ⟨i - 1, by rw [List.mem_range]; omega, ?_⟩
    rw [show i - 1 + 1 = i by omega, e]; rfl)
  have hp := pot_le hn h6 s
  obtain ⟨d, hd⟩ : ∃ d : Nat, d = (if s 0 ≤ x then (x : Int) - s 0 else (x : Int) + k - s 0).toNat := ⟨_, rfl⟩
  have hd1 : (s 0 ≤ x ∧ (x : Int) = s 0 + (d : Int)) ∨ (¬ s 0 ≤ x ∧ (x : Int) + k = s 0 + (d : Int)) := by split at hd <;> omega
  clear hd
  refine ⟨x, d, ⟨by omega, by omega, by omega, by omega, ?_⟩, ?_⟩
  · by_cases e0 : d = 0
    · rw [if_pos e0]
      refine ⟨0, by omega, fun i hi => ?_, fun i h1 h2 => hne i h1 h2⟩
      obtain rfl : i = 0 := by omega
      omega
    · rw [if_neg e0]; exact hne
  · have hd : d ≤ k.toNat := by omega
    have h1 := Nat.mul_le_mul_right (n * (n - 1) / 2 + 1) hd
    rw [Nat.add_mul, Nat.one_mul]
    omega
theorem rt_less {M M2 : Nat} (h : RtJ k n M s) (hm : M ≤ M2) : RtJ k n M2 s := by
  rcases h with h | ⟨x, d, hp, h⟩
  · exact .inl h
  · exact .inr ⟨x, d, hp, by omega⟩

/-- Where just one is free: it goes round. -/
def tnJ (n i : Nat) : Nat → Nat
  | 0 => i
  | t + 1 => nxJ n (tnJ n i t)
def seJ (k : Int) (n : Nat) (s : Nat → Int) (i : Nat) : Nat → Nat → Int
  | 0 => s
  | t + 1 => mvJ k (seJ k n s i t) (tnJ n i t)
theorem tn_lt {i : Nat} (hi : i < n) : ∀ t, tnJ n i t < n
  | 0 => hi
  | t + 1 => nx_lt (tn_lt hi t)
theorem tn_eq {i : Nat} (hi : i < n) : ∀ t, t ≤ n → tnJ n i t = if i + t < n then i + t else i + t - n
  | 0, _ => by simp [tnJ, hi]
  | t + 1, ht => by
    rw [tnJ, tn_eq hi t (by omega)]
    unfold nxJ
    split <;> split <;> split <;> omega
theorem se_ok (hv : OkJ k n s) (hn : 2 ≤ n) (hk : 2 ≤ k) (h : cnJ n s = 1) {i : Nat} (hi : i < n) (hf : frJ n s i = true) : ∀ t, OkJ k n (seJ k n s i t) ∧ cnJ n (seJ k n s i t) = 1 ∧ frJ n (seJ k n s i t) (tnJ n i t) = true
  | 0 => ⟨hv, h, hf⟩
  | t + 1 => by
    obtain ⟨h1, h2, h3⟩ := se_ok hv hn hk h hi hf t
    have h4 := one_next h1 hn hk h2 (tn_lt hi t) h3
    exact ⟨mv_ok h1 hk (tn_lt hi t), h4.1, h4.2⟩
theorem tn_nodup {i : Nat} (hi : i < n) : ((List.range n).map fun t => ((tnJ n i t : Nat) : Int)).Nodup := by
  rw [List.nodup_iff_pairwise_ne, List.pairwise_map]
  refine List.Pairwise.imp_of_mem ?_ (List.pairwise_lt_range (n := n))
  intro a b ha hb hab
  rw [List.mem_range] at ha hb
  rw [tn_eq hi a (by omega), tn_eq hi b (by omega)]
  intro e
  have e' : (if i + a < n then i + a else i + a - n) = if i + b < n then i + b else i + b - n := by exact_mod_cast e
  split at e' <;> split at e' <;> omega
end Go.Proofs.Ytflmbhjighnicab
