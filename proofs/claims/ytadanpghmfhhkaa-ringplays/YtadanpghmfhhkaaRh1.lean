/- The ring: that it comes to an end; plain. -/
import Derived.Test.YtadanpghmfhhkaaRh0
import Derived.Test.YtadanpghmfhhkaaCb2n
namespace Go.Proofs.Ytadanpghmfhhkaa
set_option linter.unusedVariables false

variable {n : Nat} {nm : Nat → Int} {s : GS} {hop : Nat → Nat} {lv : Nat → Bool}
def Great (n : Nat) (nm : Nat → Int) (g : Nat) : Prop := ∀ i, i < n → i ≠ g → nm i < nm g
def RJ (n : Nat) (nm : Nat → Int) (s : GS) : Prop := ∃ hop lv, RI n nm s hop lv ∧ ∀ g, g < n → Great n nm g → (s.pr g).tp = true → lv g = true ∨ g ∈ s.ch
def NX (n : Nat) (s : GS) : Prop := ∀ i, i < n → (s.pr i).tp = true → (s.pr (nx n i)).tp = true ∨ (s.pr (nx n i)).co ≠ []
theorem coG_co (s : GS) (i : Nat) (l : List Int) (k : Nat) : ((coG s i l).pr k).co = if k = i then l else (s.pr k).co := by
  unfold coG
  by_cases e : k = i
  · subst e; simp [upd1_same]
  · simp [upd1_other _ _ e, e]
theorem coG_tp (s : GS) (i : Nat) (l : List Int) (k : Nat) : ((coG s i l).pr k).tp = (s.pr k).tp := by
  unfold coG
  by_cases e : k = i
  · subst e; simp [upd1_same]
  · simp [upd1_other _ _ e]
theorem rj_begin (h : RJ n nm s) (hd : Dist n nm) {i : Nat} (hi : i < n) (ht : (s.pr i).tp = false) : RJ n nm (sendG n s i (nm i)) := by
  obtain ⟨hop, lv, h1, h2⟩ := h
  have h0 : hop i = 0 := by
    refine Nat.eq_zero_of_not_pos fun hp => ?_
    have := h1.tp i hi hp
    rw [ht] at this; cases this
  have hl : lv i = false := by
    cases e : lv i with
    | false => rfl
    | true => have := h1.pos i hi e; omega
  have hc : i ∉ s.ch := fun hm => by
    rcases h1.ch with e | ⟨g, hg, e, e2, e3⟩
    · rw [e] at hm; simp at hm
    · rw [e] at hm; simp at hm; subst hm; omega
  refine ⟨_, _, ri_send h1 hd hi hl (by rw [h0, Nat.add_zero, Nat.mod_eq_of_lt hi]) (by omega) (fun hp => by omega) hc, fun g hg hG htg => ?_⟩
  by_cases e : g = i
  · subst e; left; rw [upd1_same]
  · rw [sendG_tp, if_neg e] at htg
    rw [upd1_other _ _ e]
    exact h2 g hg hG htg
theorem takeG_eq (n : Nat) (nm : Nat → Int) (s : GS) (i : Nat) {x : Int} {r : List Int} (hc : (s.pr i).co = x :: r) :
    takeG n nm s i = if nm i < x then sendG n (coG s i r) i x else if x = nm i then chG (coG s i r) i else if (s.pr i).tp = true then coG s i r else sendG n (coG s i r) i (nm i) := by
  unfold takeG; rw [hc]
theorem rj_take (h : RJ n nm s) (hd : Dist n nm) {i : Nat} (hi : i < n) {x : Int} {r : List Int} (hc : (s.pr i).co = x :: r) : RJ n nm (takeG n nm s i) ∧ ((takeG n nm s i).pr i).tp = true ∧ (x = nm i → (s.pr i).tp = true) := by
  obtain ⟨hop, lv, h1, h2⟩ := h
  obtain ⟨j, hj, hx, hlj, hij, h3⟩ := ri_pop h1 hi hd hc
  have hn : 0 < n := by omega
  rw [takeG_eq n nm s i hc]
  have hown : x = nm i → j = i ∧ hop i = n := fun e => by
    have e1 := hd j i hj hi (by rw [← hx, e])
    subst e1
    refine ⟨rfl, ?_⟩
    have a1 := h1.low j hj
    have a2 := h1.pos j hj hlj
    by_cases e2 : hop j = n
    · exact e2
    · by_cases e3 : j + hop j < n
      · rw [Nat.mod_eq_of_lt e3] at hij; omega
      · rw [show j + hop j = (j + hop j - n) + n by omega, Nat.add_mod_right, Nat.mod_eq_of_lt (by omega)] at hij; omega
  have htp2 : x = nm i → (s.pr i).tp = true := fun e => h1.tp i hi (by have := (hown e).2; omega)
  refine ⟨?_, ?_, htp2⟩
  · split
    · rename_i hlt
      have hji : j ≠ i := fun e => by subst e; omega
      have hh : hop j < n := by
        have := h1.low j hj
        by_cases e2 : hop j = n
        · rw [e2, Nat.add_mod_right, Nat.mod_eq_of_lt hj] at hij; omega
        · omega
      have hc2 : j ∉ (coG s i r).ch := fun hm => by
        have hm2 : j ∈ s.ch := hm
        rcases h1.ch with e | ⟨g, hg, e, e2, e3⟩
        · rw [e] at hm2; simp at hm2
        · rw [e] at hm2; simp at hm2; subst hm2; rw [hlj] at e3; cases e3
      have h4 := ri_send h3 hd hj (upd1_same _ _ _) hij hh (fun _ => by omega) hc2
      rw [← hx] at h4
      refine ⟨_, _, h4, fun g hg hG htg => ?_⟩
      have hgi : g ≠ i := fun e => by
        subst e
        have := hG j hj hji
        omega
      rw [sendG_tp, if_neg hgi, coG_tp] at htg
      rcases h2 g hg hG htg with e | e
      · left
        by_cases e2 : g = j
        · subst e2; rw [upd1_same]
        · rw [upd1_other _ _ e2, upd1_other _ _ e2]; exact e
      · exact .inr e
    · split
      · rename_i hnl he
        obtain ⟨e1, e2⟩ := hown he
        subst e1
        have hc2 : (coG s j r).ch = [] := by
          show s.ch = []
          rcases h1.ch with e | ⟨g, hg, e, e3, e4⟩
          · exact e
          · have hgj : g ≠ j := fun e5 => by subst e5; rw [hlj] at e4; cases e4
            have a1 := ri_great h1 hg e3 j hj (fun e => hgj e.symm)
            have a2 := ri_great h1 hj e2 g hg hgj
            omega
        refine ⟨_, _, ri_choose h3 hj (upd1_same _ _ _) e2 hc2, fun g hg hG htg => ?_⟩
        by_cases e5 : g = j
        · subst e5; right; show g ∈ s.ch ++ [g]; simp
        · have htg2 : (s.pr g).tp = true := by have : ((coG s j r).pr g).tp = true := htg; rw [coG_tp] at this; exact this
          rcases h2 g hg hG htg2 with e | e
          · left; rw [upd1_other _ _ e5]; exact e
          · right; show g ∈ s.ch ++ [j]; simp [e]
      · rename_i hnl he
        have hlt : nm j < nm i := by rw [← hx]; omega
        have hji : j ≠ i := fun e => by subst e; omega
        have hgj : ∀ g, Great n nm g → g ≠ j := fun g hG e => by
          subst e
          have := hG i hi (fun e => hji e.symm)
          omega
        split
        · refine ⟨_, _, h3, fun g hg hG htg => ?_⟩
          rw [coG_tp] at htg
          rcases h2 g hg hG htg with e | e
          · left; rw [upd1_other _ _ (hgj g hG)]; exact e
          · exact .inr e
        · rename_i htp
          have htp3 : ((coG s i r).pr i).tp = false := by rw [coG_tp]; simpa using htp
          have hk : RJ n nm (coG s i r) := ⟨_, _, h3, fun g hg hG htg => by
            rw [coG_tp] at htg
            rcases h2 g hg hG htg with e | e
            · left; rw [upd1_other _ _ (hgj g hG)]; exact e
            · exact .inr e⟩
          exact rj_begin hk hd hi htp3
  · split
    · rw [sendG_tp, if_pos rfl]
    · split
      · rename_i hnl he
        show ((coG s i r).pr i).tp = true
        rw [coG_tp]; exact htp2 he
      · split
        · rename_i htp; rw [coG_tp]; exact htp
        · rw [sendG_tp, if_pos rfl]
theorem code_zero {p : Tu} (h : codeG n s p = 0) : ∃ i : Nat, p.who = ((i : Nat) : Int) ∧ i < n ∧ ((p.kind = 1 ∧ (s.pr i).tp = false) ∨ (p.kind = 2 ∧ (s.pr i).co ≠ [])) := by
  unfold codeG at h
  split at h
  · omega
  split at h
  · omega
  rename_i hk hz
  obtain ⟨e, hl⟩ := inP_natG (show inP n p.who = true by simpa using hz)
  refine ⟨p.who.toNat, e, hl, ?_⟩
  split at h
  · rename_i e1
    split at h
    · omega
    · rename_i e2
      exact .inl ⟨e1, by simpa using e2⟩
  · rename_i e1
    split at h
    · omega
    · rename_i e2; exact .inr ⟨by omega, e2⟩
/-- Each step by its two kinds. -/
theorem step_cases {P : GS → Prop} {p : Tu} (h0 : P s) (h1 : ∀ i, i < n → (s.pr i).tp = false → P (sendG n s i (nm i))) (h2 : ∀ i, i < n → (s.pr i).co ≠ [] → P (takeG n nm s i)) : P (stepG n nm s p) := by
  unfold stepG
  split
  · rename_i hc
    obtain ⟨i, e, hi, hk⟩ := code_zero hc
    have e2 : p.who.toNat = i := by omega
    unfold doG
    rw [e2]
    rcases hk with ⟨hk, ht⟩ | ⟨hk, ht⟩
    · rw [if_pos hk]; exact h1 i hi ht
    · rw [if_neg (by omega)]; exact h2 i hi ht
  · exact h0
theorem ne_cons {l : List Int} (h : l ≠ []) : ∃ x r, l = x :: r := by
  cases l with
  | nil => exact absurd rfl h
  | cons x r => exact ⟨x, r, rfl⟩
theorem rj_step (h : RJ n nm s) (hd : Dist n nm) (p : Tu) : RJ n nm (stepG n nm s p) :=
  step_cases h (fun i hi ht => rj_begin h hd hi ht) (fun i hi hc => by
    obtain ⟨x, r, e⟩ := ne_cons hc
    exact (rj_take h hd hi e).1)
theorem rj_at (hd : Dist n nm) (ps : List Tu) : ∀ k, RJ n nm (gsAt n nm ps k)
  | 0 => ⟨_, _, ri_0 n nm, fun g _ _ h => by simp [gsAt, gs0] at h⟩
  | k + 1 => by
    show RJ n nm (match ps[k]? with | some p => stepG n nm (gsAt n nm ps k) p | none => gsAt n nm ps k)
    split
    · exact rj_step (rj_at hd ps k) hd _
    · exact rj_at hd ps k

/-! What is left of a taking: who takes part goes on to, and ways only lose at the taker. -/
theorem takeG_tp (n : Nat) (nm : Nat → Int) (s : GS) (i k : Nat) (h : (s.pr k).tp = true) : ((takeG n nm s i).pr k).tp = true := by
  cases hc : (s.pr i).co with
  | nil => unfold takeG; rw [hc]; exact h
  | cons x r =>
    rw [takeG_eq n nm s i hc]
    have h2 : ((coG s i r).pr k).tp = true := by rw [coG_tp]; exact h
    split
    · rw [sendG_tp]; split
      · rfl
      · exact h2
    · split
      · exact h2
      · split
        · exact h2
        · rw [sendG_tp]; split
          · rfl
          · exact h2
theorem takeG_co (n : Nat) (nm : Nat → Int) (s : GS) (i k : Nat) (hk : k ≠ i) (h : (s.pr k).co ≠ []) : ((takeG n nm s i).pr k).co ≠ [] := by
  cases hc : (s.pr i).co with
  | nil => unfold takeG; rw [hc]; exact h
  | cons x r =>
    rw [takeG_eq n nm s i hc]
    have h2 : ((coG s i r).pr k).co ≠ [] := by rw [coG_co, if_neg hk]; exact h
    split
    · rw [sendG_co]; split
      · simp
      · exact h2
    · split
      · exact h2
      · split
        · exact h2
        · rw [sendG_co]; split
          · simp
          · exact h2
/-- Who takes part anew has sent something. -/
theorem takeG_new (n : Nat) (nm : Nat → Int) (s : GS) (i : Nat) (hf : (s.pr i).tp = false) {x : Int} {r : List Int} (hc : (s.pr i).co = x :: r) (ho : x ≠ nm i) : ((takeG n nm s i).pr (nx n i)).co ≠ [] := by
  rw [takeG_eq n nm s i hc]
  split
  · rw [sendG_co, if_pos rfl]; simp
  · first
      | rw [if_neg ho, if_neg (by rw [hf]; simp), sendG_co, if_pos rfl]
      | rw [if_neg (by rw [hf]; simp), sendG_co, if_pos rfl]
    simp
theorem nx_begin (h : NX n s) {i : Nat} : NX n (sendG n s i (nm i)) := fun k hk ht => by
  rw [sendG_tp] at ht
  rw [sendG_tp, sendG_co]
  by_cases e : k = i
  · subst e
    right
    rw [if_pos rfl]
    simp
  · rw [if_neg e] at ht
    rcases h k hk ht with h1 | h1
    · left; split
      · rfl
      · exact h1
    · right; split
      · simp
      · exact h1
theorem nx_take (h : NX n s) (hj : RJ n nm s) (hd : Dist n nm) {i : Nat} (hi : i < n) (hc : (s.pr i).co ≠ []) : NX n (takeG n nm s i) := fun k hk ht => by
  obtain ⟨x, r, e⟩ := ne_cons hc
  obtain ⟨_, a2, a3⟩ := rj_take hj hd hi e
  by_cases e1 : nx n k = i
  · left; rw [e1]; exact a2
  by_cases e2 : (s.pr k).tp = true
  · rcases h k hk e2 with h1 | h1
    · exact .inl (takeG_tp n nm s i _ h1)
    · exact .inr (takeG_co n nm s i _ e1 h1)
  · have e3 : k = i := by
      refine Classical.byContradiction fun e3 => e2 ?_
      rw [takeG_eq n nm s i e] at ht
      split at ht
      · rw [sendG_tp, if_neg e3, coG_tp] at ht; exact ht
      · split at ht
        · have ht2 : ((coG s i r).pr k).tp = true := ht
          rw [coG_tp] at ht2; exact ht2
        · split at ht
          · rw [coG_tp] at ht; exact ht
          · rw [sendG_tp, if_neg e3, coG_tp] at ht; exact ht
    subst e3
    right
    exact takeG_new n nm s k (by simpa using e2) e (fun e4 => e2 (a3 e4))
theorem nx_at (hd : Dist n nm) (ps : List Tu) : ∀ k, NX n (gsAt n nm ps k)
  | 0 => fun i _ h => by simp [gsAt, gs0] at h
  | k + 1 => by
    show NX n (match ps[k]? with | some p => stepG n nm (gsAt n nm ps k) p | none => gsAt n nm ps k)
    split
    · exact step_cases (nx_at hd ps k) (fun i hi ht => nx_begin (nx_at hd ps k)) (fun i hi hc => nx_take (nx_at hd ps k) (rj_at hd ps k) hd hi hc)
    · exact nx_at hd ps k

/-! What was sent, less what is on the ways. -/
theorem away_sum (s : GS) : ∀ m, awayG s m = sumF (fun i => (s.pr i).co.length) m
  | 0 => rfl
  | m + 1 => by unfold awayG sumF; rw [away_sum s m]
theorem away_send (hn : 0 < n) (s : GS) (i : Nat) (x : Int) : awayG (sendG n s i x) n = awayG s n + 1 := by
  rw [away_sum, away_sum]
  have h1 := sumF_upd (fun k => (s.pr k).co.length) (nx n i) ((s.pr (nx n i)).co.length + 1) n (nx_lt hn)
  have h2 : sumF (fun k => ((sendG n s i x).pr k).co.length) n = sumF (upd1 (fun k => (s.pr k).co.length) (nx n i) ((s.pr (nx n i)).co.length + 1)) n := sumF_congr n (fun k _ => by
    show ((sendG n s i x).pr k).co.length = _
    rw [sendG_co]
    by_cases e : k = nx n i
    · rw [if_pos e, e, upd1_same]; simp
    · rw [if_neg e, upd1_other _ _ e])
  rw [h2]
  omega
theorem away_pop {i : Nat} (hi : i < n) {x : Int} {r : List Int} (hc : (s.pr i).co = x :: r) : awayG (coG s i r) n + 1 = awayG s n := by
  rw [away_sum, away_sum]
  have h1 := sumF_upd (fun k => (s.pr k).co.length) i r.length n hi
  have h2 : sumF (fun k => ((coG s i r).pr k).co.length) n = sumF (upd1 (fun k => (s.pr k).co.length) i r.length) n := sumF_congr n (fun k _ => by
    show ((coG s i r).pr k).co.length = _
    rw [coG_co]
    by_cases e : k = i
    · rw [if_pos e, e, upd1_same]
    · rw [if_neg e, upd1_other _ _ e])
  rw [h2]
  have h3 : (s.pr i).co.length = r.length + 1 := by rw [hc]; rfl
  simp only [h3] at h1
  omega
theorem away_take {i : Nat} (hi : i < n) (hc : (s.pr i).co ≠ []) : (takeG n nm s i).sent + awayG s n = s.sent + awayG (takeG n nm s i) n + 1 := by
  obtain ⟨x, r, e⟩ := ne_cons hc
  have h1 := away_pop (n := n) hi e
  have h2 : (coG s i r).sent = s.sent := rfl
  rw [takeG_eq n nm s i e]
  split
  · rw [away_send (by omega)]; show s.sent + 1 + _ = _; omega
  · split
    · show s.sent + _ = _; have h3 : awayG (chG (coG s i r) i) n = awayG (coG s i r) n := by rw [away_sum, away_sum]; rfl
      rw [h3]; omega
    · split
      · rw [h2]; omega
      · rw [away_send (by omega)]; show s.sent + 1 + _ = _; omega
/-- How many have come. -/
def cameN (n : Nat) (s : GS) : Nat := s.sent - awayG s n
def AW (n : Nat) (s : GS) : Prop := awayG s n ≤ s.sent
theorem aw_step (h : AW n s) (p : Tu) : AW n (stepG n nm s p) ∧ cameN n s ≤ cameN n (stepG n nm s p) := by
  unfold AW cameN at *
  refine step_cases (P := fun t => awayG t n ≤ t.sent ∧ s.sent - awayG s n ≤ t.sent - awayG t n) ⟨h, Nat.le_refl _⟩ (fun i hi ht => ?_) (fun i hi hc => ?_)
  · rw [away_send (by omega)]
    show _ ≤ s.sent + 1 ∧ _ ≤ s.sent + 1 - _
    omega
  · have := away_take (nm := nm) hi hc
    omega
theorem aw_at (n : Nat) (nm : Nat → Int) (ps : List Tu) : ∀ k, AW n (gsAt n nm ps k)
  | 0 => by
    show awayG gs0 n ≤ 0
    rw [away_sum]
    have : ∀ m, sumF (fun i => (gs0.pr i).co.length) m = 0 := fun m => by
      induction m with
      | zero => rfl
      | succ m ih => unfold sumF; rw [ih]; rfl
    exact Nat.le_of_eq (this n)
  | k + 1 => by
    show AW n (match ps[k]? with | some p => stepG n nm (gsAt n nm ps k) p | none => gsAt n nm ps k)
    split
    · exact (aw_step (aw_at n nm ps k) _).1
    · exact aw_at n nm ps k
/-- Some take, one after the other. -/
def tkTo (n : Nat) (nm : Nat → Int) (s : GS) : Nat → GS
  | 0 => s
  | m + 1 => stepG n nm (tkTo n nm s m) ⟨2, (m : Int)⟩
theorem step_take {i : Nat} (hi : i < n) : stepG n nm s ⟨2, (i : Int)⟩ = takeG n nm s i := by
  unfold stepG codeG doG
  have h1 : inP n (i : Int) = true := by unfold inP; simp; omega
  simp only [Int.toNat_natCast]
  by_cases hc : (s.pr i).co = []
  · have : takeG n nm s i = s := by unfold takeG; rw [hc]
    rw [this]
    simp [h1, hc]
  · simp [h1, hc]
theorem away_zero {n : Nat} {s : GS} : ∀ {m : Nat}, awayG s m = 0 → ∀ i, i < m → (s.pr i).co = []
  | 0, _, i, hi => by omega
  | m + 1, h, i, hi => by
    unfold awayG at h
    by_cases e : i = m
    · subst e; exact List.eq_nil_of_length_eq_zero (by omega)
    · exact away_zero (n := n) (m := m) (by omega) i (by omega)
theorem away_pos {s : GS} : ∀ {m : Nat}, awayG s m ≠ 0 → ∃ i, i < m ∧ (s.pr i).co ≠ []
  | 0, h => absurd rfl h
  | m + 1, h => by
    unfold awayG at h
    by_cases e : (s.pr m).co = []
    · obtain ⟨i, hi, hc⟩ := away_pos (s := s) (m := m) (by rw [e] at h; simpa using h)
      exact ⟨i, by omega, hc⟩
    · exact ⟨m, by omega, e⟩
theorem tkTo_still (h : awayG s n = 0) : ∀ m, m ≤ n → tkTo n nm s m = s
  | 0, _ => rfl
  | m + 1, hm => by
    unfold tkTo
    rw [tkTo_still h m (by omega), step_take (by omega)]
    unfold takeG
    rw [away_zero (n := n) h m (by omega)]
theorem tkTo_aw (h : AW n s) : ∀ m, AW n (tkTo n nm s m) ∧ cameN n s ≤ cameN n (tkTo n nm s m)
  | 0 => ⟨h, Nat.le_refl _⟩
  | m + 1 => by
    obtain ⟨h1, h2⟩ := tkTo_aw h m
    obtain ⟨h3, h4⟩ := aw_step (nm := nm) h1 ⟨2, (m : Int)⟩
    exact ⟨h3, Nat.le_trans h2 h4⟩
theorem tkTo_co {i : Nat} (hi : i < n) (hc : (s.pr i).co ≠ []) : ∀ m, m ≤ i → ((tkTo n nm s m).pr i).co ≠ []
  | 0, _ => hc
  | m + 1, hm => by
    unfold tkTo
    rw [step_take (by omega)]
    exact takeG_co n nm _ m i (by omega) (tkTo_co hi hc m (by omega))
theorem tkTo_more (h : AW n s) {i : Nat} (hi : i < n) (hc : (s.pr i).co ≠ []) : ∀ m, i < m → m ≤ n → cameN n s + 1 ≤ cameN n (tkTo n nm s m)
  | 0, h1, _ => by omega
  | m + 1, h1, h2 => by
    by_cases e : i = m
    · subst e
      obtain ⟨a1, a2⟩ := tkTo_aw (nm := nm) h i
      have a3 := tkTo_co (nm := nm) hi hc i (Nat.le_refl _)
      have a4 := away_take (nm := nm) hi a3
      unfold tkTo
      rw [step_take hi]
      unfold AW cameN at *
      omega
    · have := tkTo_more h hi hc m (by omega) (by omega)
      obtain ⟨a1, a2⟩ := tkTo_aw (nm := nm) h m
      obtain ⟨a3, a4⟩ := aw_step (nm := nm) a1 ⟨2, (m : Int)⟩
      unfold tkTo
      omega
theorem at_tkTo (qs : List Tu) (K : Nat) : ∀ m, (∀ d, d < m → qs[K + d]? = some ⟨2, (d : Int)⟩) → gsAt n nm qs (K + m) = tkTo n nm (gsAt n nm qs K) m
  | 0, _ => rfl
  | m + 1, h => by
    show (match qs[K + m]? with | some p => stepG n nm (gsAt n nm qs (K + m)) p | none => gsAt n nm qs (K + m)) = _
    rw [h m (by omega), at_tkTo qs K m (fun d hd => h d (by omega))]
    rfl
theorem max_there (hd : Dist n nm) : ∀ m, 0 < m → m ≤ n → ∃ g, g < m ∧ ∀ i, i < m → i ≠ g → nm i < nm g
  | 0, h, _ => by omega
  | m + 1, _, hm => by
    by_cases h0 : m = 0
    · subst h0; exact ⟨0, by omega, fun i hi e => by omega⟩
    · obtain ⟨g, hg, h1⟩ := max_there hd m (by omega) (by omega)
      by_cases e : nm m < nm g
      · refine ⟨g, by omega, fun i hi e2 => ?_⟩
        by_cases e3 : i = m
        · subst e3; exact e
        · exact h1 i (by omega) e2
      · have hne : nm m ≠ nm g := fun e2 => by have := hd m g (by omega) (by omega) e2; omega
        refine ⟨m, by omega, fun i hi e2 => ?_⟩
        by_cases e3 : i = g
        · subst e3; omega
        · have := h1 i (by omega) e3; omega
theorem tp_mono (n : Nat) (nm : Nat → Int) (s : GS) (p : Tu) (k : Nat) (h : (s.pr k).tp = true) : ((stepG n nm s p).pr k).tp = true :=
  step_cases (P := fun t => (t.pr k).tp = true) h (fun i _ _ => by rw [sendG_tp]; split <;> simp [h]) (fun i _ _ => takeG_tp n nm s i k h)
theorem tp_at (n : Nat) (nm : Nat → Int) (qs : List Tu) (i K : Nat) (h : ((gsAt n nm qs K).pr i).tp = true) : ∀ d, ((gsAt n nm qs (K + d)).pr i).tp = true
  | 0 => h
  | d + 1 => by
    show ((match qs[K + d]? with | some p => stepG n nm (gsAt n nm qs (K + d)) p | none => gsAt n nm qs (K + d)).pr i).tp = true
    split
    · exact tp_mono n nm _ _ i (tp_at n nm qs i K h d)
    · exact tp_at n nm qs i K h d
theorem few_at (hn : 0 < n) (hd : Dist n nm) (ps : List Tu) (k : Nat) : 2 * (gsAt n nm ps k).sent ≤ n * (n + 1) := by
  obtain ⟨hop, lv, h1, _⟩ := rj_at hd ps k
  exact ri_few h1 hn
/-- CHANG, ROBERTS: who is chosen has the greatest name, and is chosen once. -/
theorem great_at (hd : Dist n nm) (ps : List Tu) (k : Nat) : (gsAt n nm ps k).ch = [] ∨ ∃ g, g < n ∧ (gsAt n nm ps k).ch = [g] ∧ Great n nm g := by
  obtain ⟨hop, lv, h1, _⟩ := rj_at hd ps k
  rcases h1.ch with e | ⟨g, hg, e, e2, _⟩
  · exact .inl e
  · exact .inr ⟨g, hg, e, ri_great h1 hg e2⟩
/-- When so many rounds of takings are done behind a beginning, all is said. -/
theorem ends_at (hn : 0 < n) (hd : Dist n nm) (qs : List Tu) (K R : Nat) (hR : n * (n + 1) ≤ 2 * R) (h0 : ((gsAt n nm qs K).pr 0).tp = true)
    (hq : ∀ r d, r < R → d < n → qs[K + r * n + d]? = some ⟨2, (d : Int)⟩) : awayG (gsAt n nm qs (K + R * n)) n = 0 ∧ ∃ g, g < n ∧ (gsAt n nm qs (K + R * n)).ch = [g] ∧ Great n nm g := by
  have key : ∀ r, r ≤ R → awayG (gsAt n nm qs (K + r * n)) n = 0 ∨ r ≤ cameN n (gsAt n nm qs (K + r * n)) := fun r => by
    induction r with
    | zero => intro _; exact .inr (Nat.zero_le _)
    | succ r ih =>
      intro hr
      have e := at_tkTo (n := n) (nm := nm) qs (K + r * n) n (fun d hd2 => hq r d (by omega) hd2)
      rw [show K + (r + 1) * n = K + r * n + n by rw [Nat.succ_mul]; omega, e]
      by_cases h1 : awayG (gsAt n nm qs (K + r * n)) n = 0
      · left; rw [tkTo_still h1 n (Nat.le_refl _)]; exact h1
      · right
        rcases ih (by omega) with h2 | h2
        · exact absurd h2 h1
        · obtain ⟨i, hi, hc⟩ := away_pos h1
          have := tkTo_more (nm := nm) (aw_at n nm qs (K + r * n)) hi hc n hi (Nat.le_refl _)
          omega
  have hz : awayG (gsAt n nm qs (K + R * n)) n = 0 := by
    rcases key R (Nat.le_refl _) with h1 | h1
    · exact h1
    · have h2 := few_at hn hd qs (K + R * n)
      have h3 := aw_at n nm qs (K + R * n)
      unfold AW at h3
      unfold cameN at h1
      omega
  refine ⟨hz, ?_⟩
  have hnx := nx_at hd qs (K + R * n)
  have hall : ∀ i, i < n → ((gsAt n nm qs (K + R * n)).pr i).tp = true := fun i => by
    induction i with
    | zero => intro _; exact tp_at n nm qs 0 K h0 (R * n)
    | succ i ih =>
      intro hi
      rcases hnx i (by omega) (ih (by omega)) with h1 | h1
      · rw [show nx n i = i + 1 from Nat.mod_eq_of_lt hi] at h1; exact h1
      · exact absurd (away_zero (n := n) hz _ (nx_lt hn)) h1
  obtain ⟨g, hg, hG⟩ := max_there hd n hn (Nat.le_refl _)
  obtain ⟨hop, lv, h1, h2⟩ := rj_at hd qs (K + R * n)
  have hin : g ∈ (gsAt n nm qs (K + R * n)).ch := by
    rcases h2 g hg hG (hall g hg) with h3 | h3
    · have h4 := h1.liv g hg h3
      rw [away_zero (n := n) hz _ (Nat.mod_lt _ hn)] at h4
      simp at h4
    · exact h3
  rcases h1.ch with e | ⟨g2, hg2, e, _, _⟩
  · rw [e] at hin; simp at hin
  · rw [e] at hin
    simp at hin
    subst hin
    exact ⟨g, hg, e, hG⟩

/-! What comes later. -/
theorem gsat_same (n : Nat) (nm : Nat → Int) (ps qs : List Tu) : ∀ k, (∀ j, j < k → ps[j]? = qs[j]?) → gsAt n nm ps k = gsAt n nm qs k
  | 0, _ => rfl
  | k + 1, h => by
    show (match ps[k]? with | some p => stepG n nm (gsAt n nm ps k) p | none => gsAt n nm ps k) = (match qs[k]? with | some p => stepG n nm (gsAt n nm qs k) p | none => gsAt n nm qs k)
    rw [h k (by omega), gsat_same n nm ps qs k (fun j hj => h j (by omega))]
theorem gc_same (n : Nat) (nm : Nat → Int) (ps qs : List Tu) (k : Nat) (h : ∀ j, j ≤ k → ps[j]? = qs[j]?) : gcAt n nm ps k = gcAt n nm qs k := by
  unfold gcAt
  rw [h k (Nat.le_refl _), gsat_same n nm ps qs k (fun j hj => h j (by omega))]
theorem takeT_same (ps : List Tu) (m : Nat) : ∀ j, j < m → (ps.take m)[j]? = ps[j]? := fun j hj => by rw [List.getElem?_take, if_pos hj]
theorem ch_step (n : Nat) (nm : Nat → Int) (s : GS) (p : Tu) : (∃ r, (stepG n nm s p).ch = s.ch ++ r) ∧ s.sent ≤ (stepG n nm s p).sent := by
  refine step_cases (P := fun t => (∃ r, t.ch = s.ch ++ r) ∧ s.sent ≤ t.sent) ⟨⟨[], by simp⟩, Nat.le_refl _⟩ (fun i _ _ => ⟨⟨[], by simp [sendG, oneG, coG, tpG]⟩, Nat.le_succ _⟩) (fun i _ hc => ?_)
  obtain ⟨x, r, e⟩ := ne_cons hc
  rw [takeG_eq n nm s i e]
  split
  · exact ⟨⟨[], by simp [sendG, oneG, coG, tpG]⟩, Nat.le_succ _⟩
  · split
    · exact ⟨⟨[i], rfl⟩, Nat.le_refl _⟩
    · split
      · exact ⟨⟨[], by simp [coG]⟩, Nat.le_refl _⟩
      · exact ⟨⟨[], by simp [sendG, oneG, coG, tpG]⟩, Nat.le_succ _⟩
theorem ch_pre (n : Nat) (nm : Nat → Int) (ps : List Tu) (k : Nat) : ∀ j, (∃ r, (gsAt n nm ps (k + j)).ch = (gsAt n nm ps k).ch ++ r) ∧ (gsAt n nm ps k).sent ≤ (gsAt n nm ps (k + j)).sent
  | 0 => ⟨⟨[], by simp⟩, Nat.le_refl _⟩
  | j + 1 => by
    obtain ⟨⟨r, hr⟩, hs⟩ := ch_pre n nm ps k j
    show (∃ r, (match ps[k + j]? with | some p => stepG n nm (gsAt n nm ps (k + j)) p | none => gsAt n nm ps (k + j)).ch = _) ∧ _ ≤ (match ps[k + j]? with | some p => stepG n nm (gsAt n nm ps (k + j)) p | none => gsAt n nm ps (k + j)).sent
    split
    · rename_i p _
      obtain ⟨⟨r2, h2⟩, h3⟩ := ch_step n nm (gsAt n nm ps (k + j)) p
      exact ⟨⟨r ++ r2, by rw [h2, hr, List.append_assoc]⟩, Nat.le_trans hs h3⟩
    · exact ⟨⟨r, hr⟩, hs⟩
end Go.Proofs.Ytadanpghmfhhkaa
