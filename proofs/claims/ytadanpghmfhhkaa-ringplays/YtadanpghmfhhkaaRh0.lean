/- The ring: what holds at every step; plain. -/
import Derived.Test.YtadanpghmfhhkaaRg0
namespace Go.Proofs.Ytadanpghmfhhkaa
set_option linter.unusedVariables false

def sumF (f : Nat → Nat) : Nat → Nat
  | 0 => 0
  | k + 1 => sumF f k + f k
theorem sumF_congr {f g : Nat → Nat} : ∀ n, (∀ i, i < n → f i = g i) → sumF f n = sumF g n
  | 0, _ => rfl
  | n + 1, h => by unfold sumF; rw [sumF_congr n (fun i hi => h i (by omega)), h n (by omega)]
theorem sumF_le {f g : Nat → Nat} : ∀ n, (∀ i, i < n → f i ≤ g i) → sumF f n ≤ sumF g n
  | 0, _ => Nat.le_refl _
  | n + 1, h => by unfold sumF; have := sumF_le n (fun i hi => h i (by omega)); have := h n (by omega); omega
theorem sumF_upd (f : Nat → Nat) (j v : Nat) : ∀ n, j < n → sumF (upd1 f j v) n + f j = sumF f n + v
  | 0, h => by omega
  | n + 1, h => by
    unfold sumF
    by_cases e : j = n
    · subst e
      rw [upd1_same, sumF_congr (g := f) j (fun i hi => upd1_other _ _ (by omega))]
      omega
    · have := sumF_upd f j v n (by omega)
      rw [upd1_other _ _ (fun e2 => e e2.symm)]
      omega
theorem sumF_add (f g : Nat → Nat) : ∀ n, sumF (fun i => f i + g i) n = sumF f n + sumF g n
  | 0 => rfl
  | n + 1 => by unfold sumF; rw [sumF_add f g n]; omega
theorem sumF_one : ∀ n, sumF (fun _ => 1) n = n
  | 0 => rfl
  | n + 1 => by unfold sumF; rw [sumF_one n]
theorem sumF_front (f : Nat → Nat) : ∀ n, sumF f (n + 1) = f 0 + sumF (fun i => f (i + 1)) n
  | 0 => by simp [sumF]
  | n + 1 => by
    show sumF f (n + 1) + f (n + 1) = f 0 + (sumF (fun i => f (i + 1)) n + f (n + 1))
    rw [sumF_front f n]; omega
/-- All round, from wherever. -/
theorem sumF_turn (f : Nat → Nat) {n : Nat} (hn : 0 < n) : ∀ j, sumF (fun d => f ((j + d) % n)) n = sumF f n
  | 0 => sumF_congr n (fun i hi => by rw [Nat.zero_add, Nat.mod_eq_of_lt hi])
  | j + 1 => by
    have ih := sumF_turn f hn j
    have h1 : sumF (fun d => f ((j + d) % n)) (n + 1) = f (j % n) + sumF (fun i => f ((j + (i + 1)) % n)) n := sumF_front _ n
    have h2 : sumF (fun d => f ((j + d) % n)) (n + 1) = sumF (fun d => f ((j + d) % n)) n + f ((j + n) % n) := rfl
    have h4 : f ((j + n) % n) = f (j % n) := by rw [Nat.add_mod_right]
    have h3 : sumF (fun i => f ((j + (i + 1)) % n)) n = sumF (fun d => f ((j + 1 + d) % n)) n := sumF_congr n (fun i _ => by rw [show j + (i + 1) = j + 1 + i by omega])
    generalize sumF (fun d => f ((j + d) % n)) (n + 1) = a at *
    omega
def lessN (nm : Nat → Int) (j i : Nat) : Nat := if nm i < nm j then 1 else 0
theorem sumF_part {f : Nat → Nat} {h : Nat} : ∀ n, h ≤ n → (∀ d, 0 < d → d < h → f d = 1) → h ≤ 1 + sumF f n
  | 0, hn, _ => by omega
  | n + 1, hn, hf => by
    unfold sumF
    by_cases e : h = n + 1
    · subst e
      by_cases h0 : n = 0
      · subst h0; omega
      · have := sumF_part (h := n) n (Nat.le_refl _) (fun d h1 h2 => hf d h1 (by omega))
        rw [hf n (by omega) (by omega)]
        omega
    · have := sumF_part n (by omega) hf
      omega
/-- Each pair once, at most. -/
theorem pairs_le (nm : Nat → Int) : ∀ n, 2 * sumF (fun j => sumF (lessN nm j) n) n ≤ n * n - n
  | 0 => by simp [sumF]
  | n + 1 => by
    have h1 := pairs_le nm n
    have e : sumF (fun j => sumF (lessN nm j) (n + 1)) (n + 1) = sumF (fun j => sumF (lessN nm j) n + lessN nm j n) n + (sumF (lessN nm n) n + lessN nm n n) := rfl
    rw [e, sumF_add]
    have h2 : sumF (fun j => lessN nm j n) n + sumF (lessN nm n) n ≤ n := by
      rw [← sumF_add]
      have := sumF_le (f := fun i => lessN nm i n + lessN nm n i) (g := fun _ => 1) n (fun i _ => by
        unfold lessN
        split <;> split <;> omega)
      rw [sumF_one] at this
      exact this
    have h3 : lessN nm n n = 0 := by unfold lessN; rw [if_neg (by omega)]
    have h4 : (n + 1) * (n + 1) = n * n + 2 * n + 1 := by rw [Nat.mul_add, Nat.add_mul]; omega
    have h5 : n ≤ n * n := by
      cases n with
      | zero => omega
      | succ m => exact Nat.le_mul_of_pos_left _ (by omega)
    omega

/-- Whose name is whose. -/
def Dist (n : Nat) (nm : Nat → Int) : Prop := ∀ i j, i < n → j < n → nm i = nm j → i = j
/-- What holds at every step: hop j: how often the name of j was sent; lv j: whether it is on a way. -/
structure RI (n : Nat) (nm : Nat → Int) (s : GS) (hop : Nat → Nat) (lv : Nat → Bool) : Prop where
  cou : ∀ i, i < n → ∀ x, x ∈ (s.pr i).co → ∃ j, j < n ∧ x = nm j ∧ lv j = true ∧ (j + hop j) % n = i
  nd : ∀ i, i < n → (s.pr i).co.Nodup
  liv : ∀ j, j < n → lv j = true → nm j ∈ (s.pr ((j + hop j) % n)).co
  pos : ∀ j, j < n → lv j = true → 0 < hop j
  low : ∀ j, j < n → hop j ≤ n
  tp : ∀ j, j < n → 0 < hop j → (s.pr j).tp = true
  less : ∀ j, j < n → ∀ d, 0 < d → d < hop j → nm ((j + d) % n) < nm j
  sent : s.sent = sumF hop n
  ch : s.ch = [] ∨ ∃ g, g < n ∧ s.ch = [g] ∧ hop g = n ∧ lv g = false

variable {n : Nat} {nm : Nat → Int} {s : GS} {hop : Nat → Nat} {lv : Nat → Bool}
theorem ri_0 (n : Nat) (nm : Nat → Int) : RI n nm gs0 (fun _ => 0) (fun _ => false) := by
  refine ⟨fun i _ x hx => ?_, fun i _ => ?_, fun j _ h => by simp at h, fun j _ h => by simp at h, fun j _ => Nat.zero_le _, fun j _ h => by simp at h, fun j _ d _ h => by simp at h, ?_, .inl rfl⟩
  · simp [gs0] at hx
  · simp [gs0]
  · show 0 = _
    have := sumF_le (f := fun _ => 0) (g := fun _ => 0) n (fun _ _ => Nat.le_refl _)
    have h0 : ∀ m, sumF (fun _ => 0) m = 0 := fun m => by
      induction m with
      | zero => rfl
      | succ m ih => unfold sumF; rw [ih]
    exact (h0 n).symm
/-- The first name on a way is taken off. -/
theorem ri_pop (h : RI n nm s hop lv) {i : Nat} (hi : i < n) (hd : Dist n nm) {x : Int} {r : List Int} (hc : (s.pr i).co = x :: r) :
    ∃ j, j < n ∧ x = nm j ∧ lv j = true ∧ (j + hop j) % n = i ∧ RI n nm (coG s i r) hop (upd1 lv j false) := by
  obtain ⟨j, hj, hx, hl, hij⟩ := h.cou i hi x (by rw [hc]; simp)
  have hnd := h.nd i hi
  rw [hc, List.nodup_cons] at hnd
  have hco : ∀ k, ((coG s i r).pr k).co = if k = i then r else (s.pr k).co := fun k => by
    unfold coG
    by_cases e : k = i
    · subst e; simp [upd1_same]
    · simp [upd1_other _ _ e, e]
  have htp : ∀ k, ((coG s i r).pr k).tp = (s.pr k).tp := fun k => by
    unfold coG
    by_cases e : k = i
    · subst e; simp [upd1_same]
    · simp [upd1_other _ _ e]
  refine ⟨j, hj, hx, hl, hij, ⟨fun k hk y hy => ?_, fun k hk => ?_, fun q hq hlq => ?_, fun q hq hlq => ?_, h.low, fun q hq hp => by rw [htp]; exact h.tp q hq hp, h.less, h.sent, ?_⟩⟩
  · rw [hco] at hy
    by_cases e : k = i
    · subst e
      rw [if_pos rfl] at hy
      obtain ⟨q, hq, hy2, hlq, hqk⟩ := h.cou k hk y (by rw [hc]; simp [hy])
      refine ⟨q, hq, hy2, ?_, hqk⟩
      by_cases eq : q = j
      · subst eq
        rw [hy2, ← hx] at hy
        exact absurd hy hnd.1
      · rw [upd1_other _ _ eq]; exact hlq
    · rw [if_neg e] at hy
      obtain ⟨q, hq, hy2, hlq, hqk⟩ := h.cou k hk y hy
      refine ⟨q, hq, hy2, ?_, hqk⟩
      by_cases eq : q = j
      · subst eq; omega
      · rw [upd1_other _ _ eq]; exact hlq
  · rw [hco]
    split
    · exact hnd.2
    · exact h.nd k hk
  · by_cases eq : q = j
    · subst eq; rw [upd1_same] at hlq; cases hlq
    · rw [upd1_other _ _ eq] at hlq
      have h1 := h.liv q hq hlq
      rw [hco]
      split
      · rename_i e
        rw [e, hc] at h1
        rcases List.mem_cons.1 h1 with h2 | h2
        · rw [hx] at h2
          exact absurd (hd q j hq hj h2) eq
        · exact h2
      · exact h1
  · by_cases eq : q = j
    · subst eq; rw [upd1_same] at hlq; cases hlq
    · rw [upd1_other _ _ eq] at hlq; exact h.pos q hq hlq
  · rcases h.ch with h1 | ⟨g, hg, h1, h2, h3⟩
    · exact .inl h1
    · refine .inr ⟨g, hg, h1, h2, ?_⟩
      by_cases eq : g = j
      · subst eq; rw [upd1_same]
      · rw [upd1_other _ _ eq]; exact h3
theorem sendG_co (n : Nat) (s : GS) (i : Nat) (x : Int) (k : Nat) : ((sendG n s i x).pr k).co = if k = nx n i then (s.pr k).co ++ [x] else (s.pr k).co := by
  unfold sendG oneG coG
  show (upd1 (tpG s i).pr (nx n i) _ k).co = _
  by_cases e : k = nx n i
  · rw [if_pos e, e, upd1_same]; show _ ++ _ = _; rw [tpG_co]
  · rw [if_neg e, upd1_other _ _ e, tpG_co]
theorem tpG_tp (s : GS) (i k : Nat) : ((tpG s i).pr k).tp = if k = i then true else (s.pr k).tp := by
  unfold tpG
  by_cases e : k = i
  · subst e; simp [upd1_same]
  · simp [upd1_other _ _ e, e]
theorem sendG_tp (n : Nat) (s : GS) (i : Nat) (x : Int) (k : Nat) : ((sendG n s i x).pr k).tp = if k = i then true else (s.pr k).tp := by
  unfold sendG oneG coG
  show (upd1 (tpG s i).pr (nx n i) _ k).tp = _
  by_cases e : k = nx n i
  · rw [e, upd1_same]; show ((tpG s i).pr (nx n i)).tp = _; rw [tpG_tp]
  · rw [upd1_other _ _ e, tpG_tp]
/-- A name is sent. -/
theorem ri_send (h : RI n nm s hop lv) (hd : Dist n nm) {j i : Nat} (hj : j < n) (hl : lv j = false) (hi : (j + hop j) % n = i) (hlow : hop j < n) (hls : 0 < hop j → nm i < nm j) (hch : j ∉ s.ch) :
    RI n nm (sendG n s i (nm j)) (upd1 hop j (hop j + 1)) (upd1 lv j true) := by
  have hn : 0 < n := by omega
  have hi2 : i < n := by rw [← hi]; exact Nat.mod_lt _ hn
  have hnx : (j + (hop j + 1)) % n = nx n i := by
    unfold nx
    rw [← hi, ← Nat.add_assoc, Nat.add_mod (j + hop j) 1 n, Nat.add_mod ((j + hop j) % n) 1 n, Nat.mod_mod]
  have hni : ∀ k, k < n → nm j ∉ (s.pr k).co := fun k hk hm => by
    obtain ⟨q, hq, hy2, hlq, hqk⟩ := h.cou k hk _ hm
    have := hd j q hj hq hy2
    subst this
    rw [hl] at hlq
    cases hlq
  refine ⟨fun k hk y hy => ?_, fun k hk => ?_, fun q hq hlq => ?_, fun q hq hlq => ?_, fun q hq => ?_, fun q hq hp => ?_, fun q hq d h1 h2 => ?_, ?_, ?_⟩
  · rw [sendG_co] at hy
    have old : y ∈ (s.pr k).co → ∃ q, q < n ∧ y = nm q ∧ upd1 lv j true q = true ∧ (q + upd1 hop j (hop j + 1) q) % n = k := fun hy => by
      obtain ⟨q, hq, hy2, hlq, hqk⟩ := h.cou k hk y hy
      have e : q ≠ j := fun e => by subst e; rw [hl] at hlq; cases hlq
      exact ⟨q, hq, hy2, by rw [upd1_other _ _ e]; exact hlq, by rw [upd1_other _ _ e]; exact hqk⟩
    split at hy
    · rename_i e
      rcases List.mem_append.1 hy with hy | hy
      · exact old hy
      · simp at hy
        exact ⟨j, hj, hy, by rw [upd1_same], by rw [upd1_same, hnx, e]⟩
    · exact old hy
  · rw [sendG_co]
    split
    · rw [List.nodup_append]
      refine ⟨h.nd k hk, by simp, fun a ha b hb => ?_⟩
      simp at hb
      subst hb
      exact fun e => hni k hk (e ▸ ha)
    · exact h.nd k hk
  · rw [sendG_co]
    by_cases e : q = j
    · subst e
      rw [upd1_same, if_pos hnx, hnx]
      simp
    · rw [upd1_other _ _ e] at hlq
      rw [upd1_other _ _ e]
      have := h.liv q hq hlq
      split
      · simp [this]
      · exact this
  · by_cases e : q = j
    · subst e; rw [upd1_same]; omega
    · rw [upd1_other _ _ e] at hlq ⊢; exact h.pos q hq hlq
  · by_cases e : q = j
    · subst e; rw [upd1_same]; omega
    · rw [upd1_other _ _ e]; exact h.low q hq
  · rw [sendG_tp]
    by_cases e : q = j
    · subst e
      by_cases h0 : hop q = 0
      · rw [h0, Nat.add_zero, Nat.mod_eq_of_lt hj] at hi
        rw [if_pos hi]
      · have := h.tp q hj (by omega)
        split
        · rfl
        · exact this
    · rw [upd1_other _ _ e] at hp
      have := h.tp q hq hp
      split
      · rfl
      · exact this
  · by_cases e : q = j
    · subst e
      rw [upd1_same] at h2
      by_cases e2 : d = hop q
      · subst e2; rw [hi]; exact hls h1
      · exact h.less q hq d h1 (by omega)
    · rw [upd1_other _ _ e] at h2
      exact h.less q hq d h1 h2
  · show s.sent + 1 = _
    have := sumF_upd hop j (hop j + 1) n hj
    have := h.sent
    omega
  · rcases h.ch with h1 | ⟨g, hg, h1, h2, h3⟩
    · exact .inl h1
    · have e : g ≠ j := fun e => hch (by rw [h1, e]; simp)
      exact .inr ⟨g, hg, h1, by rw [upd1_other _ _ e]; exact h2, by rw [upd1_other _ _ e]; exact h3⟩
/-- One is chosen. -/
theorem ri_choose (h : RI n nm s hop lv) {i : Nat} (hi : i < n) (hl : lv i = false) (hh : hop i = n) (hch : s.ch = []) : RI n nm (chG s i) hop lv :=
  ⟨h.cou, h.nd, h.liv, h.pos, h.low, h.tp, h.less, h.sent, .inr ⟨i, hi, by show s.ch ++ [i] = [i]; rw [hch]; rfl, hh, hl⟩⟩
/-- Whose name came all round has the greatest one. -/
theorem ri_great (h : RI n nm s hop lv) {g : Nat} (hg : g < n) (hh : hop g = n) : ∀ i, i < n → i ≠ g → nm i < nm g := fun i hi e => by
  have h1 := h.less g hg ((i + n - g) % n) (by
    refine Nat.pos_of_ne_zero fun h0 => ?_
    by_cases hgi : g ≤ i
    · rw [show i + n - g = (i - g) + n by omega, Nat.add_mod_right, Nat.mod_eq_of_lt (by omega)] at h0; omega
    · rw [Nat.mod_eq_of_lt (by omega)] at h0; omega) (by rw [hh]; exact Nat.mod_lt _ (by omega))
  have h2 : (g + (i + n - g) % n) % n = i := by
    by_cases hgi : g ≤ i
    · rw [show i + n - g = (i - g) + n by omega, Nat.add_mod_right, Nat.mod_eq_of_lt (show i - g < n by omega), show g + (i - g) = i by omega, Nat.mod_eq_of_lt hi]
    · rw [Nat.mod_eq_of_lt (show i + n - g < n by omega), show g + (i + n - g) = i + n by omega, Nat.add_mod_right, Nat.mod_eq_of_lt hi]
  rw [h2] at h1
  exact h1
theorem ri_few (h : RI n nm s hop lv) (hn : 0 < n) : 2 * s.sent ≤ n * (n + 1) := by
  have h1 : sumF hop n ≤ sumF (fun j => 1 + sumF (lessN nm j) n) n := sumF_le n (fun j hj => by
    rw [← sumF_turn (lessN nm j) hn j]
    exact sumF_part n (h.low j hj) (fun d h1 h2 => by
      unfold lessN
      rw [if_pos (h.less j hj d h1 h2)]))
  rw [sumF_add, sumF_one] at h1
  have h2 := pairs_le nm n
  have h3 := h.sent
  have h4 : n * (n + 1) = n * n + n := by rw [Nat.mul_add, Nat.mul_one]
  have h5 : n ≤ n * n := Nat.le_mul_of_pos_left _ hn
  omega
end Go.Proofs.Ytadanpghmfhhkaa
