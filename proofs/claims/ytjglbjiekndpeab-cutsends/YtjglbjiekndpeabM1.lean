/- Cuts: what is in them, whole ones, the nearest whole ones; plain facts; no program is named here. -/
import Derived.Test.YtjglbjiekndpeabH12
namespace Go.Proofs.Ytjglbjiekndpeab
open Go.RowKit
set_option linter.unusedVariables false

variable {N : Int} {es : List Ev}

/-- Is the event at j in the cut c? -/
def inC (es : List Ev) (c : Nat → Nat) (j : Nat) : Bool := decide (pc es (whoAt es j).toNat j < c (whoAt es j).toNat)
/-- A cut is whole. -/
def WholeC (es : List Ev) (c : Nat → Nat) : Prop := ∀ j k, j < es.length → takenAt es j = some k → inC es c j = true → inC es c k = true
/-- How many events of p with P stand ahead of place m. -/
def cn (es : List Ev) (P : Nat → Bool) (p : Nat) : Nat → Nat
  | 0 => 0
  | m + 1 => cn es P p m + if whoAt es m = (p : Int) ∧ P m = true then 1 else 0

theorem inC_iff {c : Nat → Nat} {j p : Nat} (hp : whoAt es j = (p : Int)) : inC es c j = true ↔ pc es p j < c p := by
  unfold inC
  rw [hp]
  simp
theorem pc_succ_at {p m : Nat} (h : whoAt es m = (p : Int)) : pc es p (m + 1) = pc es p m + 1 := by
  simp only [pc]; rw [if_pos h]
theorem pc_lt {p i j : Nat} (h : i < j) (hi : whoAt es i = (p : Int)) : pc es p i < pc es p j := by
  have := pc_succ_at hi
  have := pc_mono es p (a := i + 1) (b := j) h
  omega
theorem cn_le (P : Nat → Bool) (p : Nat) : ∀ m, cn es P p m ≤ pc es p m
  | 0 => Nat.le_refl _
  | m + 1 => by
    have := cn_le P p m
    simp only [cn, pc]
    by_cases h : whoAt es m = (p : Int)
    · rw [if_pos h]; split <;> omega
    · rw [if_neg h, if_neg (fun x => h x.1)]; omega
theorem cn_mono (P : Nat → Bool) (p : Nat) : ∀ {a b : Nat}, a ≤ b → cn es P p a ≤ cn es P p b
  | a, 0, h => by have : a = 0 := by omega
                  subst this; exact Nat.le_refl _
  | a, b + 1, h => by
    by_cases e : a = b + 1
    · subst e; exact Nat.le_refl _
    · exact Nat.le_trans (cn_mono P p (b := b) (by omega)) (Nat.le_add_right _ _)
theorem cn_full {P : Nat → Bool} {p : Nat} : ∀ {m : Nat}, (∀ i, i < m → whoAt es i = (p : Int) → P i = true) → cn es P p m = pc es p m
  | 0, _ => rfl
  | m + 1, h => by
    have ih := cn_full (m := m) fun i hi => h i (by omega)
    simp only [cn, pc]
    rw [ih]
    by_cases hw : whoAt es m = (p : Int)
    · rw [if_pos hw, if_pos ⟨hw, h m (by omega) hw⟩]
    · rw [if_neg hw, if_neg (fun x => hw x.1)]
theorem cn_flat {P : Nat → Bool} {p : Nat} : ∀ {a b : Nat}, a ≤ b → (∀ i, a ≤ i → i < b → whoAt es i = (p : Int) → P i = false) → cn es P p b = cn es P p a
  | a, 0, h, _ => by have : a = 0 := by omega
                     subst this; rfl
  | a, b + 1, h, hf => by
    by_cases e : a = b + 1
    · subst e; rfl
    · have ih := cn_flat (a := a) (b := b) (by omega) fun i h1 h2 => hf i h1 (by omega)
      simp only [cn]
      rw [ih, if_neg]
      · rfl
      · rintro ⟨h1, h2⟩
        rw [hf b (by omega) (by omega) h1] at h2
        cases h2

/-- What has, with an event, all of its process ahead of it. -/
def Front (es : List Ev) (P : Nat → Bool) : Prop := ∀ i j, i < j → j < es.length → whoAt es i = whoAt es j → P j = true → P i = true
theorem front_in {P : Nat → Bool} (hP : Front es P) {j p : Nat} (hj : j < es.length) (hp : whoAt es j = (p : Int)) : P j = true ↔ pc es p j < cn es P p es.length := by
  constructor
  · intro h
    have h1 : cn es P p (j + 1) = pc es p (j + 1) := cn_full fun i hi hw => by
      by_cases e : i = j
      · subst e; exact h
      · exact hP i j (by omega) hj (hw.trans hp.symm) h
    have h2 := cn_mono (es := es) P p (a := j + 1) (b := es.length) hj
    have h3 := pc_succ_at hp
    omega
  · intro h
    cases hf : P j with
    | true => rfl
    | false =>
      have h1 : cn es P p es.length = cn es P p j := cn_flat (by omega) fun i h1 h2 hw => by
        by_cases e : j = i
        · subst e; exact hf
        · cases hi : P i with
          | false => rfl
          | true =>
            have := hP j i (by omega) h2 (hp.trans hw.symm) hi
            rw [hf] at this; cases this
      have h2 := cn_le (es := es) P p j
      omega

theorem pc_reach {p q : Nat} : ∀ {m : Nat}, q < pc es p m → ∃ j, j < m ∧ whoAt es j = (p : Int) ∧ pc es p j = q
  | 0, h => by simp only [pc] at h; omega
  | m + 1, h => by
    by_cases hq : q < pc es p m
    · obtain ⟨j, h1, h2⟩ := pc_reach hq
      exact ⟨j, by omega, h2⟩
    · simp only [pc] at h
      by_cases hw : whoAt es m = (p : Int)
      · rw [if_pos hw] at h
        exact ⟨m, by omega, hw, by omega⟩
      · rw [if_neg hw] at h; omega
/-- Of two cuts the one has no more, if all that is in it is in the other. -/
theorem le_of_in {c d : Nat → Nat} {p : Nat} (hc : c p ≤ pc es p es.length) (h : ∀ j, j < es.length → inC es c j = true → inC es d j = true) : c p ≤ d p := by
  by_cases h0 : c p = 0
  · omega
  · obtain ⟨j, h1, h2, h3⟩ := pc_reach (es := es) (p := p) (q := c p - 1) (m := es.length) (by omega)
    have h4 := (inC_iff h2).1 (h j h1 ((inC_iff h2).2 (by omega)))
    omega
theorem in_of_le (hv : Valid N es) {n : Nat} (hn : N = (n : Int)) {c d : Nat → Nat} (h : ∀ p, p < n → c p ≤ d p) {j : Nat} (hj : j < es.length) (hi : inC es c j = true) : inC es d j = true := by
  obtain ⟨p, hp, hpn⟩ := who_nat hv hj
  have := h p (by omega)
  have := (inC_iff hp).1 hi
  exact (inC_iff hp).2 (by omega)
theorem inC_front (c : Nat → Nat) (hv : Valid N es) : Front es (inC es c) := by
  intro i j hij hj hw h
  obtain ⟨p, hp, _⟩ := who_nat hv hj
  have h1 := (inC_iff hp).1 h
  have h2 := pc_lt (es := es) hij (hw.trans hp)
  exact (inC_iff (hw.trans hp)).2 (by omega)

theorem whole_down (hv : Valid N es) {c : Nat → Nat} (hc : WholeC es c) {i : Nat} : ∀ (m : Nat) {j : Nat}, j < m → j < es.length → inC es c j = true → upTo es i j = true → inC es c i = true
  | 0, j, h, _, _, _ => by omega
  | m + 1, j, h, hj, hi, hu => by
    rcases (near_cases hv).1 hu with e | ⟨k, hk, hku⟩
    · subst e; exact hi
    · have hkj := nearOf_lt hv hk
      refine whole_down hv hc m (by omega) (by omega) ?_ hku
      unfold nearOf at hk
      rcases List.mem_append.1 hk with h1 | h1
      · cases hl : lastAt es j (whoAt es j) with
        | none => rw [hl] at h1; cases h1
        | some x =>
          rw [hl] at h1
          simp at h1
          subst h1
          exact inC_front c hv k j hkj hj (last_some (by omega) hl).1 hi
      · cases hl : takenAt es j with
        | none => rw [hl] at h1; cases h1
        | some x =>
          rw [hl] at h1
          simp at h1
          subst h1
          exact hc j k hj hl hi

/-- It, or something that it is before, is in the cut. -/
def gP (es : List Ev) (c : Nat → Nat) (i : Nat) : Bool := (List.range es.length).any fun j => inC es c j && upTo es i j
/-- It, and all that is before it, is in the cut. -/
def sP (es : List Ev) (c : Nat → Nat) (i : Nat) : Bool := (List.range es.length).all fun j => inC es c j || !upTo es j i
def grown (es : List Ev) (c : Nat → Nat) (p : Nat) : Nat := cn es (gP es c) p es.length
def shrunk (es : List Ev) (c : Nat → Nat) (p : Nat) : Nat := cn es (sP es c) p es.length

theorem gP_iff {c : Nat → Nat} {i : Nat} : gP es c i = true ↔ ∃ j, j < es.length ∧ inC es c j = true ∧ upTo es i j = true := by
  unfold gP
  simp
theorem sP_iff {c : Nat → Nat} {i : Nat} : sP es c i = true ↔ ∀ j, j < es.length → upTo es j i = true → inC es c j = true := by
  unfold sP
  simp only [List.all_eq_true, List.mem_range, Bool.or_eq_true, Bool.not_eq_true']
  constructor
  · intro h j hj hu
    rcases h j hj with h1 | h1
    · exact h1
    · rw [h1] at hu; cases hu
  · intro h j hj
    cases hu : upTo es j i with
    | false => exact Or.inr rfl
    | true => exact Or.inl (h j hj hu)
theorem up_up (hv : Valid N es) {i j k : Nat} (h : upTo es i j = true) (h2 : upTo es j k = true) : upTo es i k = true := up_trans hv h (k + 1) (by omega) h2
theorem up_of_lt (hv : Valid N es) {i j : Nat} (hj : j < es.length) (h : i < j) (hw : whoAt es i = whoAt es j) : upTo es i j = true := up_same hv (j + 1) (by omega) hj (by omega) hw
theorem up_of_taken (hv : Valid N es) {j k : Nat} (h : takenAt es j = some k) : upTo es k j = true := (near_cases hv).2 (Or.inr ⟨k, near_taken h, up_self hv k⟩)
theorem gP_down (hv : Valid N es) {c : Nat → Nat} {i j : Nat} (h : upTo es i j = true) (hg : gP es c j = true) : gP es c i = true := by
  obtain ⟨k, h1, h2, h3⟩ := gP_iff.1 hg
  exact gP_iff.2 ⟨k, h1, h2, up_up hv h h3⟩
theorem sP_down (hv : Valid N es) {c : Nat → Nat} {i j : Nat} (h : upTo es i j = true) (hg : sP es c j = true) : sP es c i = true :=
  sP_iff.2 fun k hk hu => sP_iff.1 hg k hk (up_up hv hu h)
theorem gP_front (hv : Valid N es) (c : Nat → Nat) : Front es (gP es c) := fun i j hij hj hw h => gP_down hv (up_of_lt hv hj hij hw) h
theorem sP_front (hv : Valid N es) (c : Nat → Nat) : Front es (sP es c) := fun i j hij hj hw h => sP_down hv (up_of_lt hv hj hij hw) h
theorem in_grown (hv : Valid N es) (c : Nat → Nat) {j : Nat} (hj : j < es.length) : inC es (grown es c) j = gP es c j := by
  obtain ⟨p, hp, _⟩ := who_nat hv hj
  rw [Bool.eq_iff_iff, inC_iff hp, front_in (gP_front hv c) hj hp]
  rfl
theorem in_shrunk (hv : Valid N es) (c : Nat → Nat) {j : Nat} (hj : j < es.length) : inC es (shrunk es c) j = sP es c j := by
  obtain ⟨p, hp, _⟩ := who_nat hv hj
  rw [Bool.eq_iff_iff, inC_iff hp, front_in (sP_front hv c) hj hp]
  rfl
theorem grown_cut (c : Nat → Nat) (p : Nat) : grown es c p ≤ pc es p es.length := cn_le _ p _
theorem shrunk_cut (c : Nat → Nat) (p : Nat) : shrunk es c p ≤ pc es p es.length := cn_le _ p _
theorem grown_whole (hv : Valid N es) (c : Nat → Nat) : WholeC es (grown es c) := by
  intro j k hj ht h
  have hk := taken_lt hv ht
  rw [in_grown hv c hj] at h
  rw [in_grown hv c (by omega)]
  exact gP_down hv (up_of_taken hv ht) h
theorem shrunk_whole (hv : Valid N es) (c : Nat → Nat) : WholeC es (shrunk es c) := by
  intro j k hj ht h
  have hk := taken_lt hv ht
  rw [in_shrunk hv c hj] at h
  rw [in_shrunk hv c (by omega)]
  exact sP_down hv (up_of_taken hv ht) h
theorem grown_ge (hv : Valid N es) {c : Nat → Nat} {p : Nat} (hc : c p ≤ pc es p es.length) : c p ≤ grown es c p :=
  le_of_in hc fun j hj h => by rw [in_grown hv c hj]; exact gP_iff.2 ⟨j, hj, h, up_self hv j⟩
theorem shrunk_le (hv : Valid N es) {c : Nat → Nat} (p : Nat) : shrunk es c p ≤ c p :=
  le_of_in (shrunk_cut c p) fun j hj h => by rw [in_shrunk hv c hj] at h; exact sP_iff.1 h j hj (up_self hv j)
theorem grown_le (hv : Valid N es) {n : Nat} (hn : N = (n : Int)) {c d : Nat → Nat} (hd : WholeC es d) (h : ∀ p, p < n → c p ≤ d p) (p : Nat) : grown es c p ≤ d p :=
  le_of_in (grown_cut c p) fun j hj hi => by
    rw [in_grown hv c hj] at hi
    obtain ⟨k, h1, h2, h3⟩ := gP_iff.1 hi
    exact whole_down hv hd (k + 1) (by omega) h1 (in_of_le hv hn h h1 h2) h3
theorem shrunk_ge (hv : Valid N es) {n : Nat} (hn : N = (n : Int)) {c d : Nat → Nat} (hd : WholeC es d) (h : ∀ p, p < n → d p ≤ c p) {p : Nat} (hp : d p ≤ pc es p es.length) : d p ≤ shrunk es c p :=
  le_of_in hp fun j hj hi => by
    rw [in_shrunk hv c hj]
    exact sP_iff.2 fun k hk hu => in_of_le hv hn h hk (whole_down hv hd (j + 1) (by omega) hj hi hu)
/-- What is whole, has all of the cut and is in each such one, is Grow. -/
theorem grown_is (hv : Valid N es) {n : Nat} (hn : N = (n : Int)) {c g : Nat → Nat} (hc : ∀ p, p < n → c p ≤ pc es p es.length) (hg : WholeC es g) (h1 : ∀ p, p < n → c p ≤ g p) (h2 : ∀ p, p < n → g p ≤ grown es c p) : ∀ p, p < n → g p = grown es c p := fun p hp =>
  Nat.le_antisymm (h2 p hp) (grown_le hv hn hg h1 p)
theorem shrunk_is (hv : Valid N es) {n : Nat} (hn : N = (n : Int)) {c s : Nat → Nat} (hc : ∀ p, p < n → c p ≤ pc es p es.length) (hs : WholeC es s) (h1 : ∀ p, p < n → s p ≤ c p) (h2 : ∀ p, p < n → shrunk es c p ≤ s p) : ∀ p, p < n → s p = shrunk es c p := fun p hp =>
  Nat.le_antisymm (shrunk_ge hv hn hs h1 (Nat.le_trans (h1 p hp) (hc p hp))) (h2 p hp)
theorem grown_whole_same (hv : Valid N es) {n : Nat} (hn : N = (n : Int)) {c : Nat → Nat} (hw : WholeC es c) {p : Nat} (hc : c p ≤ pc es p es.length) : grown es c p = c p :=
  Nat.le_antisymm (grown_le hv hn hw (fun _ _ => Nat.le_refl _) p) (grown_ge hv hc)
theorem shrunk_whole_same (hv : Valid N es) {n : Nat} (hn : N = (n : Int)) {c : Nat → Nat} (hw : WholeC es c) {p : Nat} (hc : c p ≤ pc es p es.length) : shrunk es c p = c p :=
  Nat.le_antisymm (shrunk_le hv p) (shrunk_ge hv hn hw (fun _ _ => Nat.le_refl _) hc)

theorem whole_none : WholeC es fun _ => 0 := by
  intro j k hj ht h
  unfold inC at h
  simp at h
theorem whole_all (hv : Valid N es) : WholeC es fun p => pc es p es.length := by
  intro j k hj ht h
  have hk := taken_lt hv ht
  obtain ⟨p, hp, _⟩ := who_nat hv (i := k) (by omega)
  exact (inC_iff hp).2 (pc_lt (by omega) hp)
theorem whole_min {a b : Nat → Nat} (ha : WholeC es a) (hb : WholeC es b) : WholeC es fun p => min (a p) (b p) := by
  intro j k hj ht h
  have h1 := ha j k hj ht
  have h2 := hb j k hj ht
  unfold inC at h h1 h2 ⊢
  simp only [decide_eq_true_eq] at h h1 h2 ⊢
  have h3 := h1 (by omega)
  have h4 := h2 (by omega)
  omega
theorem whole_max {a b : Nat → Nat} (ha : WholeC es a) (hb : WholeC es b) : WholeC es fun p => max (a p) (b p) := by
  intro j k hj ht h
  have h1 := ha j k hj ht
  have h2 := hb j k hj ht
  unfold inC at h h1 h2 ⊢
  simp only [decide_eq_true_eq] at h h1 h2 ⊢
  rcases (lt_max_iff _ _ _).1 h with h3 | h3
  · have := h1 h3; omega
  · have := h2 h3; omega

theorem in_past (hv : Valid N es) {i j : Nat} (hi : i < es.length) (hj : j < es.length) : inC es (fun p => vc es p i) j = upTo es j i := by
  obtain ⟨p, hp, _⟩ := who_nat hv hj
  rw [Bool.eq_iff_iff, inC_iff hp, up_iff hv hj hp (i + 1) (by omega) hi]
theorem past_whole (hv : Valid N es) {i : Nat} (hi : i < es.length) : WholeC es fun p => vc es p i := by
  intro j k hj ht h
  have hk := taken_lt hv ht
  rw [in_past hv hi hj] at h
  rw [in_past hv hi (by omega)]
  exact up_up hv (up_of_taken hv ht) h
theorem past_cut (hv : Valid N es) {i : Nat} (hi : i < es.length) (p : Nat) : vc es p i ≤ pc es p es.length :=
  Nat.le_trans (vc_pc hv p (i + 1) i (by omega)) (pc_mono es p hi)
theorem past_grown (hv : Valid N es) {n : Nat} (hn : N = (n : Int)) {i q : Nat} (hi : i < es.length) (hq : whoAt es i = (q : Int)) (p : Nat) : grown es (fun p => if p = q then vc es q i else 0) p = vc es p i := by
  apply Nat.le_antisymm
  · refine grown_le hv hn (past_whole hv hi) (fun p _ => ?_) p
    by_cases h : p = q
    · subst h; rw [if_pos rfl]; exact Nat.le_refl _
    · rw [if_neg h]; exact Nat.zero_le _
  · refine le_of_in (c := fun p => vc es p i) (past_cut hv hi p) fun j hj h => ?_
    rw [in_past hv hi hj] at h
    rw [in_grown hv _ hj]
    refine gP_iff.2 ⟨i, hi, (inC_iff hq).2 ?_, h⟩
    rw [if_pos rfl, vc_own hv q (i + 1) i (by omega) hi hq]
    omega

/-- Between two whole cuts there is a step. -/
theorem step_some (hv : Valid N es) {n : Nat} (hn : N = (n : Int)) {a b : Nat → Nat} (ha : WholeC es a) (hb : WholeC es b) (hcb : ∀ p, p < n → b p ≤ pc es p es.length) {p0 : Nat} (hp0 : p0 < n) (hlt : a p0 < b p0) :
    ∃ q, q < n ∧ a q < b q ∧ WholeC es fun p => if p = q then a q + 1 else a p := by
  have hex : ∃ j, j < es.length ∧ inC es b j = true ∧ inC es a j = false := by
    have h0 := hcb p0 hp0
    obtain ⟨j, h1, h2, h3⟩ := pc_reach (es := es) (p := p0) (q := a p0) (m := es.length) (by omega)
    refine ⟨j, h1, (inC_iff h2).2 (by omega), ?_⟩
    cases h : inC es a j with
    | false => rfl
    | true => have := (inC_iff h2).1 h; omega
  have hmin : ∀ m j, j < m → j < es.length → inC es b j = true → inC es a j = false → ∃ j, j < es.length ∧ inC es b j = true ∧ inC es a j = false ∧ ∀ i, i < j → inC es b i = true → inC es a i = true := by
    intro m
    induction m with
    | zero => intro j h; omega
    | succ m ih =>
      intro j hjm hj h1 h2
      by_cases hall : ∀ i, i < j → inC es b i = true → inC es a i = true
      · exact ⟨j, hj, h1, h2, hall⟩
      · simp only [Classical.not_forall] at hall
        obtain ⟨i, hi, hib, hia⟩ := hall
        exact ih i (by omega) (by omega) hib (by simpa using hia)
  obtain ⟨j0, hj0, hb0, ha0⟩ := hex
  obtain ⟨j, hj, hjb, hja, hfirst⟩ := hmin (j0 + 1) j0 (by omega) hj0 hb0 ha0
  obtain ⟨q, hq, hqN⟩ := who_nat hv hj
  have hjb' := (inC_iff hq).1 hjb
  have hge : a q ≤ pc es q j := by
    by_cases h : pc es q j < a q
    · rw [(inC_iff hq).2 h] at hja; cases hja
    · omega
  have heq : a q = pc es q j := by
    by_cases h : a q < pc es q j
    · obtain ⟨m, h1, h2, h3⟩ := pc_reach (es := es) (p := q) (q := a q) (m := j) h
      have := (inC_iff h2).1 (hfirst m h1 ((inC_iff h2).2 (by omega)))
      omega
    · omega
  refine ⟨q, by omega, by omega, ?_⟩
  intro m k hm ht h
  have hk := taken_lt hv ht
  have hgrow : ∀ x, x < es.length → inC es a x = true → inC es (fun p => if p = q then a q + 1 else a p) x = true := fun x hx h => by
    obtain ⟨r, hr, _⟩ := who_nat hv hx
    have h1 := (inC_iff hr).1 h
    refine (inC_iff hr).2 ?_
    by_cases e : r = q
    · subst e; rw [if_pos rfl]; omega
    · rw [if_neg e]; exact h1
  refine hgrow k (by omega) ?_
  cases hma : inC es a m with
  | true => exact ha m k hm ht hma
  | false =>
    obtain ⟨r, hr, _⟩ := who_nat hv hm
    have h1 := (inC_iff hr).1 h
    have hna : ¬ pc es r m < a r := fun x => by rw [(inC_iff hr).2 x] at hma; cases hma
    by_cases e : r = q
    · subst e
      rw [if_pos rfl] at h1
      have hmj : m = j := by
        rcases Nat.lt_trichotomy m j with h2 | h2 | h2
        · have := pc_lt (es := es) h2 hr; omega
        · exact h2
        · have := pc_lt (es := es) h2 hq; omega
      subst hmj
      exact hfirst k hk (hb m k hm ht hjb)
    · rw [if_neg e] at h1; exact absurd h1 hna
end Go.Proofs.Ytjglbjiekndpeab
