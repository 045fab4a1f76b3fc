/- Money that is passed on: what holds at every step; plain. -/
import Derived.Test.YthadhhconkjpmaaT3
namespace Go.Proofs.Ythadhhconkjpmaa
set_option linter.unusedVariables false

def sumN (f : Nat → Int) : Nat → Int
  | 0 => 0
  | n + 1 => sumN f n + f n
theorem sumN_congr {f g : Nat → Int} : ∀ {n : Nat}, (∀ i, i < n → f i = g i) → sumN f n = sumN g n
  | 0, _ => rfl
  | n + 1, h => by show sumN f n + f n = sumN g n + g n; rw [sumN_congr (fun i hi => h i (by omega)), h n (by omega)]
theorem sumN_upd (f : Nat → Int) {i : Nat} (v : Int) : ∀ {n : Nat}, i < n → sumN (upd1 f i v) n = sumN f n - f i + v
  | 0, h => by omega
  | n + 1, h => by
    show sumN (upd1 f i v) n + upd1 f i v n = sumN f n + f n - f i + v
    by_cases e : n = i
    · subst e
      rw [upd1_same, sumN_congr (g := f) (fun k hk => upd1_other f v (by omega))]
      omega
    · rw [upd1_other f v e, sumN_upd f v (show i < n by omega)]
      omega
theorem sumN_nonneg {f : Nat → Int} : ∀ {n : Nat}, (∀ i, i < n → 0 ≤ f i) → 0 ≤ sumN f n
  | 0, _ => Int.le_refl _
  | n + 1, h => by
    have h1 := sumN_nonneg (n := n) (fun i hi => h i (by omega))
    have h2 := h n (by omega)
    show 0 ≤ sumN f n + f n
    omega
theorem sumN_le {f g : Nat → Int} : ∀ {n : Nat}, (∀ i, i < n → f i ≤ g i) → sumN f n ≤ sumN g n
  | 0, _ => Int.le_refl _
  | n + 1, h => by
    have h1 := sumN_le (n := n) (f := f) (g := g) (fun i hi => h i (by omega))
    have h2 := h n (by omega)
    show sumN f n + f n ≤ sumN g n + g n
    omega
theorem sumN_one {f : Nat → Int} {n i : Nat} (hi : i < n) (h : ∀ i, i < n → 0 ≤ f i) : f i ≤ sumN f n := by
  have h1 := sumN_upd f 0 hi
  have h2 : 0 ≤ sumN (upd1 f i 0) n := sumN_nonneg fun k hk => by
    by_cases e : k = i
    · subst e; rw [upd1_same]; omega
    · rw [upd1_other _ _ e]; exact h k hk
  omega
theorem sumN_mono {f : Nat → Int} {k n : Nat} (hk : k ≤ n) (h : ∀ i, i < n → 0 ≤ f i) : sumN f k ≤ sumN f n := by
  induction n with
  | zero => have : k = 0 := by omega
            subst this; exact Int.le_refl _
  | succ n ih =>
    by_cases e : k = n + 1
    · subst e; exact Int.le_refl _
    · have h1 := ih (by omega) (fun i hi => h i (by omega))
      have h2 := h n (by omega)
      show sumN f k ≤ sumN f n + f n
      omega
def sum2 (n : Nat) (g : Nat → Nat → Int) : Int := sumN (fun i => sumN (g i) n) n
theorem sum2_congr {n : Nat} {f g : Nat → Nat → Int} (h : ∀ i j, i < n → j < n → f i j = g i j) : sum2 n f = sum2 n g :=
  sumN_congr fun i hi => sumN_congr fun j hj => h i j hi hj
theorem sum2_upd {n : Nat} (g : Nat → Nat → Int) {i j : Nat} (hi : i < n) (hj : j < n) (v : Int) : sum2 n (upd2 g i j v) = sum2 n g - g i j + v := by
  unfold sum2
  have e : sumN (fun a => sumN (upd2 g i j v a) n) n = sumN (upd1 (fun a => sumN (g a) n) i (sumN (g i) n - g i j + v)) n := sumN_congr fun a ha => by
    by_cases h : a = i
    · subst h
      rw [upd1_same, ← sumN_upd (g a) v hj]
      refine sumN_congr fun b hb => ?_
      by_cases h2 : b = j
      · subst h2; rw [upd2_same, upd1_same]
      · rw [upd2_other _ _ (fun e => h2 e.2), upd1_other _ _ h2]
    · rw [upd1_other _ _ h]
      exact sumN_congr fun b hb => upd2_other _ _ (fun e => h e.1)
  rw [e, sumN_upd _ _ hi]
  omega
theorem sum2_nonneg {n : Nat} {g : Nat → Nat → Int} (h : ∀ i j, i < n → j < n → 0 ≤ g i j) : 0 ≤ sum2 n g := sumN_nonneg fun i hi => sumN_nonneg fun j hj => h i j hi hj
theorem sum2_one {n : Nat} {g : Nat → Nat → Int} {i j : Nat} (hi : i < n) (hj : j < n) (h : ∀ i j, i < n → j < n → 0 ≤ g i j) : g i j ≤ sum2 n g :=
  Int.le_trans (sumN_one hj (fun b hb => h i b hi hb)) (sumN_one (f := fun i => sumN (g i) n) hi (fun a ha => sumN_nonneg fun b hb => h a b ha hb))

def lsum : List Int → Int
  | [] => 0
  | x :: r => x + lsum r
theorem lsum_append (a b : List Int) : lsum (a ++ b) = lsum a + lsum b := by
  induction a with
  | nil => simp [lsum]
  | cons x r ih => show x + lsum (r ++ b) = x + lsum r + lsum b; rw [ih]; omega
theorem lsum_nonneg {l : List Int} (h : ∀ x ∈ l, 0 ≤ x) : 0 ≤ lsum l := by
  induction l with
  | nil => exact Int.le_refl _
  | cons x r ih =>
    have h1 := h x (by simp)
    have h2 := ih (fun y hy => h y (by simp [hy]))
    show 0 ≤ x + lsum r
    omega
theorem lsum_one {l : List Int} {x : Int} (hx : x ∈ l) (h : ∀ x ∈ l, 0 ≤ x) : x ≤ lsum l := by
  induction l with
  | nil => cases hx
  | cons y r ih =>
    have h1 := h y (by simp)
    have h2 := lsum_nonneg (l := r) (fun y hy => h y (by simp [hy]))
    show x ≤ y + lsum r
    rcases List.mem_cons.1 hx with e | e
    · omega
    · have := ih e (fun y hy => h y (by simp [hy])); omega
/-- What stands ahead of the mark. -/
def pre : List Int → List Int
  | [] => []
  | x :: r => if x = 0 then [] else x :: pre r
theorem pre_all {l : List Int} (h : ∀ x ∈ l, x ≠ 0) : pre l = l := by
  induction l with
  | nil => rfl
  | cons x r ih =>
    show (if x = 0 then [] else x :: pre r) = _
    rw [if_neg (h x (by simp)), ih (fun y hy => h y (by simp [hy]))]
theorem pre_append {l : List Int} (m : List Int) (h : 0 ∈ l) : pre (l ++ m) = pre l := by
  induction l with
  | nil => cases h
  | cons x r ih =>
    show (if x = 0 then [] else x :: pre (r ++ m)) = (if x = 0 then [] else x :: pre r)
    by_cases hx : x = 0
    · rw [if_pos hx, if_pos hx]
    · rw [if_neg hx, if_neg hx, ih (by
        rcases List.mem_cons.1 h with e | e
        · exact absurd e.symm hx
        · exact e)]
theorem pre_mark (l : List Int) : pre (l ++ [0]) = pre l := by
  induction l with
  | nil => rfl
  | cons x r ih => show (if x = 0 then [] else x :: pre (r ++ [0])) = (if x = 0 then [] else x :: pre r); rw [ih]
theorem pre_mem {l : List Int} {x : Int} (h : x ∈ pre l) : x ∈ l := by
  induction l with
  | nil => cases h
  | cons y r ih =>
    unfold pre at h
    split at h
    · cases h
    · rcases List.mem_cons.1 h with e | e
      · rw [e]; simp
      · simp [ih e]

/-- What holds at every step. -/
structure Inv (n : Nat) (s : St) : Prop where
  mon : ∀ i, i < n → 0 ≤ s.money i
  thg : ∀ i j, i < n → j < n → ∀ x ∈ (s.ways i j).things, 0 ≤ x
  ntd : ∀ i j, i < n → j < n → ∀ x ∈ (s.ways i j).noted, 0 ≤ x
  own : ∀ i, i < n → s.own i = -1 ∨ 0 ≤ s.own i
  i1 : ∀ i j, i < n → j < n → s.own i = -1 → (∀ x ∈ (s.ways i j).things, x ≠ 0) ∧ (s.ways i j).marked = false
  i2 : ∀ i j, i < n → j < n → i ≠ j → s.own i ≠ -1 → 0 ∈ (s.ways i j).things ∨ (s.ways i j).marked = true
  i3 : ∀ i j, i < n → j < n → s.own j = -1 → (s.ways i j).marked = false ∧ (s.ways i j).noted = []
  i4 : ∀ i, i < n → s.ways i i = ⟨[], [], false⟩

/-- All the money. -/
def tot (n : Nat) (s : St) : Int := sumN s.money n + sum2 n fun i j => lsum (s.ways i j).things
/-- What is noted, or would be. -/
def cOf (s : St) (i : Nat) : Int := if s.own i = -1 then s.money i else s.own i
def wOf (w : Wy) : Int := lsum w.noted + if w.marked = true then 0 else lsum (pre w.things)
def pict (n : Nat) (s : St) : Int := sumN (cOf s) n + sum2 n fun i j => wOf (s.ways i j)

/-- The marks, all at once. -/
def markW (n : Nat) (s : St) (who a b : Nat) : Wy := if a = who ∧ b ≠ who ∧ b < n then pushW (s.ways a b) 0 else s.ways a b
theorem noteTo_money (s : St) (who : Nat) : ∀ k, (noteTo s who k).money = s.money
  | 0 => rfl
  | k + 1 => by
    unfold noteTo
    split
    · exact noteTo_money s who k
    · exact noteTo_money s who k
theorem noteTo_own (s : St) (who : Nat) : ∀ k, (noteTo s who k).own = s.own
  | 0 => rfl
  | k + 1 => by
    unfold noteTo
    split
    · exact noteTo_own s who k
    · exact noteTo_own s who k
theorem noteTo_ways (s : St) (who : Nat) (a b : Nat) : ∀ k, (noteTo s who k).ways a b = markW k s who a b
  | 0 => by unfold markW; rw [if_neg (by omega)]; rfl
  | k + 1 => by
    have ih := noteTo_ways s who a b k
    unfold noteTo
    split
    · rename_i e
      rw [ih]
      unfold markW
      by_cases h : a = who ∧ b ≠ who ∧ b < k
      · rw [if_pos h, if_pos ⟨h.1, h.2.1, by omega⟩]
      · rw [if_neg h, if_neg (fun h2 => h ⟨h2.1, h2.2.1, by omega⟩)]
    · rename_i e
      show upd2 (noteTo s who k).ways who k (pushW ((noteTo s who k).ways who k) 0) a b = _
      by_cases h : a = who ∧ b = k
      · obtain ⟨rfl, rfl⟩ := h
        rw [upd2_same, ih]
        unfold markW
        rw [if_neg (by omega), if_pos ⟨rfl, e, by omega⟩]
      · rw [upd2_other _ _ h, ih]
        unfold markW
        by_cases h3 : a = who ∧ b ≠ who ∧ b < k
        · rw [if_pos h3, if_pos ⟨h3.1, h3.2.1, by omega⟩]
        · rw [if_neg h3, if_neg (fun h2 => h3 ⟨h2.1, h2.2.1, by have : b ≠ k := fun e => h ⟨h2.1, e⟩; omega⟩)]
theorem noteS_not {n : Nat} {s : St} {who : Nat} (h : s.own who ≠ -1) : noteS n s who = s := by unfold noteS; rw [if_pos h]
theorem noteS_do {n : Nat} {s : St} {who : Nat} (h : s.own who = -1) : noteS n s who = ⟨s.money, upd1 s.own who (s.money who), markW n s who⟩ := by
  unfold noteS
  rw [if_neg (by simp [h])]
  have h1 := noteTo_money (ownS s who) who n
  have h2 := noteTo_own (ownS s who) who n
  have h3 : (noteTo (ownS s who) who n).ways = markW n s who := by funext a b; exact noteTo_ways (ownS s who) who a b n
  cases hh : noteTo (ownS s who) who n with
  | mk a b c => rw [hh] at h1 h2 h3; simp only at h1 h2 h3; rw [h1, h2, h3]; rfl
theorem markW_own (n : Nat) (s : St) {who a b : Nat} (h : a ≠ who) : markW n s who a b = s.ways a b := by unfold markW; rw [if_neg (fun e => h e.1)]
theorem markW_self (n : Nat) (s : St) (who : Nat) : markW n s who who who = s.ways who who := by unfold markW; rw [if_neg (fun e => e.2.1 rfl)]
theorem markW_push {n : Nat} (s : St) {who b : Nat} (hb : b ≠ who) (hn : b < n) : markW n s who who b = pushW (s.ways who b) 0 := by unfold markW; rw [if_pos ⟨rfl, hb, hn⟩]
theorem markW_marked (n : Nat) (s : St) (who a b : Nat) : (markW n s who a b).marked = (s.ways a b).marked ∧ (markW n s who a b).noted = (s.ways a b).noted := by
  unfold markW
  split <;> exact ⟨rfl, rfl⟩

variable {n : Nat} {s : St}
theorem inv0 {m : Nat → Int} (h : ∀ i, i < n → 0 ≤ m i) : Inv n (st0 m) :=
  ⟨h, (fun i j _ _ x hx => nomatch hx), (fun i j _ _ x hx => nomatch hx), fun i _ => .inl rfl, fun i j _ _ _ => ⟨(fun x hx => nomatch hx), rfl⟩, fun i j _ _ _ h => absurd rfl h, fun i j _ _ _ => ⟨rfl, rfl⟩, fun i _ => rfl⟩
theorem tot0 (m : Nat → Int) : tot n (st0 m) = sumN m n := by
  unfold tot
  show sumN m n + sum2 n (fun _ _ => 0) = _
  have : sum2 n (fun _ _ => 0) = 0 := by
    have z : ∀ k, sumN (fun _ => 0) k = 0 := fun k => by
      induction k with
      | zero => rfl
      | succ k ih => show sumN _ k + 0 = 0; rw [ih]; rfl
    show sumN (fun i => sumN (fun _ => 0) n) n = 0
    rw [sumN_congr (g := fun _ => 0) (fun i _ => z n), z]
  rw [this]
  omega
theorem pict0 (m : Nat → Int) : pict n (st0 m) = sumN m n := by
  have h := tot0 (n := n) m
  unfold pict
  unfold tot at h
  rw [← h]
  congr 1

theorem note_inv (h : Inv n s) {who : Nat} (hw : who < n) : Inv n (noteS n s who) ∧ tot n (noteS n s who) = tot n s ∧ pict n (noteS n s who) = pict n s := by
  by_cases ho : s.own who = -1
  · rw [noteS_do ho]
    have hth : ∀ a b, a < n → b < n → ∀ x ∈ (markW n s who a b).things, 0 ≤ x := by
      intro a b ha hb x hx
      unfold markW at hx
      split at hx
      · simp only [pushW, List.mem_append, List.mem_singleton] at hx
        rcases hx with e | e
        · exact h.thg a b ha hb x e
        · omega
      · exact h.thg a b ha hb x hx
    refine ⟨⟨h.mon, hth, fun a b ha hb x hx => ?_, fun i hi => ?_, fun i j hi hj e => ?_, fun i j hi hj hij e => ?_, fun i j hi hj e => ?_, fun i hi => ?_⟩, ?_, ?_⟩
    · rw [(markW_marked n s who a b).2] at hx; exact h.ntd a b ha hb x hx
    · show upd1 s.own who (s.money who) i = -1 ∨ 0 ≤ upd1 s.own who (s.money who) i
      by_cases e : i = who
      · subst e; rw [upd1_same]; exact .inr (h.mon i hi)
      · rw [upd1_other _ _ e]; exact h.own i hi
    · by_cases e2 : i = who
      · subst e2
        have : upd1 s.own i (s.money i) i = -1 := e
        rw [upd1_same] at this
        have := h.mon i hi
        omega
      · have e3 : upd1 s.own who (s.money who) i = -1 := e
        rw [upd1_other _ _ e2] at e3
        show (∀ x ∈ (markW n s who i j).things, x ≠ 0) ∧ (markW n s who i j).marked = false
        rw [markW_own n s e2]
        exact h.i1 i j hi hj e3
    · show 0 ∈ (markW n s who i j).things ∨ (markW n s who i j).marked = true
      by_cases e2 : i = who
      · subst e2
        rw [markW_push s (Ne.symm hij) hj]
        exact .inl (by simp [pushW])
      · rw [markW_own n s e2]
        have e3 : upd1 s.own who (s.money who) i ≠ -1 := e
        rw [upd1_other _ _ e2] at e3
        exact h.i2 i j hi hj hij e3
    · show (markW n s who i j).marked = false ∧ (markW n s who i j).noted = []
      rw [(markW_marked n s who i j).1, (markW_marked n s who i j).2]
      by_cases e2 : j = who
      · subst e2
        have : upd1 s.own j (s.money j) j = -1 := e
        rw [upd1_same] at this
        have := h.mon j hj
        omega
      · have e3 : upd1 s.own who (s.money who) j = -1 := e
        rw [upd1_other _ _ e2] at e3
        exact h.i3 i j hi hj e3
    · show markW n s who i i = _
      by_cases e2 : i = who
      · subst e2; rw [markW_self]; exact h.i4 i hi
      · rw [markW_own n s e2]; exact h.i4 i hi
    · unfold tot
      congr 1
      refine sum2_congr fun a b ha hb => ?_
      show lsum (markW n s who a b).things = _
      unfold markW
      split
      · show lsum ((s.ways a b).things ++ [0]) = _
        rw [lsum_append]
        show _ + (0 + 0) = _
        omega
      · rfl
    · unfold pict
      congr 1
      · refine sumN_congr fun i hi => ?_
        unfold cOf
        show (if upd1 s.own who (s.money who) i = -1 then s.money i else upd1 s.own who (s.money who) i) = _
        by_cases e : i = who
        · subst e
          rw [upd1_same, if_pos ho]
          have := h.mon i hi
          rw [if_neg (by omega)]
        · rw [upd1_other _ _ e]
      · refine sum2_congr fun a b ha hb => ?_
        show wOf (markW n s who a b) = _
        unfold markW
        split
        · unfold wOf pushW
          simp only [pre_mark]
        · rfl
  · rw [noteS_not ho]
    exact ⟨h, rfl, rfl⟩
end Go.Proofs.Ythadhhconkjpmaa
