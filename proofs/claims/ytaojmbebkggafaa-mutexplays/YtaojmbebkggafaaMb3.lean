/- One at a time: laws, plain. -/
import Derived.Test.YtaojmbebkggafaaMb1
namespace Go.Proofs.Ytaojmbebkggafaa
set_option linter.unusedVariables false

variable {n : Nat} {s : MS}
theorem msat_same (n : Nat) (ps qs : List Cst) : ∀ k, (∀ j, j < k → ps[j]? = qs[j]?) → msAt n ps k = msAt n qs k
  | 0, _ => rfl
  | k + 1, h => by
    show (match ps[k]? with | some p => stepM n (msAt n ps k) p | none => msAt n ps k) = (match qs[k]? with | some p => stepM n (msAt n qs k) p | none => msAt n qs k)
    rw [h k (by omega), msat_same n ps qs k (fun j hj => h j (by omega))]
theorem mc_same (n : Nat) (ps qs : List Cst) (k : Nat) (h : ∀ j, j ≤ k → ps[j]? = qs[j]?) : mcAt n ps k = mcAt n qs k := by
  unfold mcAt
  rw [h k (Nat.le_refl _), msat_same n ps qs k (fun j hj => h j (by omega))]
theorem takeM_same (ps : List Cst) (m : Nat) : ∀ j, j < m → (ps.take m)[j]? = ps[j]? := fun j hj => by rw [List.getElem?_take, if_pos hj]
/-- What a step adds to those who came inside. -/
theorem ins_step (n : Nat) (s : MS) (p : Cst) : (stepM n s p).ins = s.ins ∨ ∃ w, (stepM n s p).ins = s.ins ++ [w] := by
  have he : ∀ (t : MS) (i : Nat), (enterM n t i).ins = t.ins ∨ ∃ w, (enterM n t i).ins = t.ins ++ [w] := fun t i => by
    unfold enterM; split
    · exact .inr ⟨i, rfl⟩
    · exact .inl rfl
  unfold stepM
  split
  · unfold doM
    split
    · unfold askM
      have := he (keysTo (askS s p.who.toNat) p.who.toNat ((s.pr p.who.toNat).num + 1) n) p.who.toNat
      rw [(keysTo_pr _ _ _ n).2] at this
      exact this
    · split
      · unfold takeM
        split
        · exact .inl rfl
        · split
          · exact he _ _
          · left
            unfold answerM
            split <;> rfl
      · left
        exact (yesesTo_pr _ _ _).2
  · exact .inl rfl
theorem ins_pre (n : Nat) (ps : List Cst) (k : Nat) : ∀ j, ∃ r, (msAt n ps (k + j)).ins = (msAt n ps k).ins ++ r
  | 0 => ⟨[], by simp⟩
  | j + 1 => by
    obtain ⟨r, hr⟩ := ins_pre n ps k j
    show ∃ r, (match ps[k + j]? with | some p => stepM n (msAt n ps (k + j)) p | none => msAt n ps (k + j)).ins = _
    split
    · rename_i p _
      rcases ins_step n (msAt n ps (k + j)) p with h | ⟨w, h⟩
      · exact ⟨r, by rw [h, hr]⟩
      · exact ⟨r ++ [w], by rw [h, hr, List.append_assoc]⟩
    · exact ⟨r, hr⟩
/-- RICART, AGRAWALA: no two are inside. -/
theorem inside_one (h : MInv n s) {i j : Nat} (hi : i < n) (hj : j < n) (h1 : (s.pr i).st = 2) (h2 : (s.pr j).st = 2) : i = j := by
  refine Classical.byContradiction fun e => ?_
  have a := (h.perm i j hi hj e (.inl h2)).2 (by omega)
  have b := (h.perm j i hj hi (Ne.symm e) (.inl h1)).2 (by omega)
  unfold kl at a b
  omega
theorem inside_few (h : MInv n s) : (insideM n s).length ≤ 1 := by
  cases hl : insideM n s with
  | nil => simp
  | cons a r =>
    cases r with
    | nil => simp
    | cons b t =>
      have hnd : (insideM n s).Nodup := List.Pairwise.filter _ List.nodup_range
      have hm : ∀ x, x ∈ insideM n s → x < n ∧ (s.pr x).st = 2 := fun x hx => by
        unfold insideM at hx
        rw [List.mem_filter, List.mem_range] at hx
        exact ⟨hx.1, by simpa using hx.2⟩
      have ha := hm a (by rw [hl]; simp)
      have hb := hm b (by rw [hl]; simp)
      have e := inside_one h ha.1 hb.1 ha.2 hb.2
      rw [hl] at hnd
      simp [e] at hnd
theorem mem_inside {x : Nat} : x ∈ insideM n s ↔ x < n ∧ (s.pr x).st = 2 := by
  unfold insideM
  rw [List.mem_filter, List.mem_range]
  simp
/-- When nothing is on its way, and some ask, one is inside. -/
theorem some_inside (h : MInv n s) (hw : ∀ i j, i < n → j < n → s.ways i j = []) {w : Nat} (hwn : w < n) (hst : (s.pr w).st ≠ 0) : ∃ i, i < n ∧ (s.pr i).st = 2 := by
  refine Classical.byContradiction fun hno => ?_
  have hno2 : ∀ i, i < n → (s.pr i).st ≠ 2 := fun i hi e => hno ⟨i, hi, e⟩
  -- the least key of those that ask
  have least : ∀ m, m ≤ n → (∃ i, i < m ∧ (s.pr i).st = 1) → ∃ i, i < m ∧ (s.pr i).st = 1 ∧ ∀ j, j < m → (s.pr j).st = 1 → ¬ kl s j i := by
    intro m
    induction m with
    | zero => rintro _ ⟨i, hi, _⟩; omega
    | succ m ih =>
      intro hm ⟨i, hi, h1⟩
      by_cases hx : ∃ i, i < m ∧ (s.pr i).st = 1
      · obtain ⟨a, ha, ha1, ha2⟩ := ih (by omega) hx
        by_cases hb : (s.pr m).st = 1 ∧ kl s m a
        · refine ⟨m, by omega, hb.1, fun j hj hj1 hk => ?_⟩
          by_cases e : j = m
          · subst e; unfold kl at hk; omega
          · refine ha2 j (by omega) hj1 ?_
            have := hb.2
            unfold kl at this hk ⊢
            omega
        · refine ⟨a, by omega, ha1, fun j hj hj1 hk => ?_⟩
          by_cases e : j = m
          · subst e; exact hb ⟨hj1, hk⟩
          · exact ha2 j (by omega) hj1 hk
      · have : i = m := by
          refine Classical.byContradiction fun e => hx ⟨i, by omega, h1⟩
        subst this
        refine ⟨i, by omega, h1, fun j hj hj1 hk => ?_⟩
        by_cases e : j = i
        · subst e; unfold kl at hk; omega
        · exact hx ⟨j, by omega, hj1⟩
  have hst1 : (s.pr w).st = 1 := by have := h.st3 w; have := hno2 w hwn; omega
  obtain ⟨a, ha, ha1, ha2⟩ := least n (Nat.le_refl _) ⟨w, hwn, hst1⟩
  have hz : sumO (fun i => cc s i a) a n = 0 := by
    have : ∀ m, sumO (fun _ => 0) a m = 0 := fun m => by
      induction m with
      | zero => rfl
      | succ m ih => unfold sumO; rw [ih]; split <;> rfl
    rw [sumO_congr n (g := fun _ => 0) (fun i hi hia => ?_), this]
    show nk (s.ways a i) + nz (s.ways i a) + wc (s.pr i).wait a = 0
    rw [hw a i ha hi, hw i a hi ha]
    have hni : a ∉ (s.pr i).wait := fun hm => by
      obtain ⟨_, _, _, h4⟩ := h.wt i hi a hm
      rcases h4 with h4 | ⟨h4, h5⟩
      · exact hno2 i hi h4
      · exact ha2 i hi h4 h5
    rw [wc_zero.2 hni]
    rfl
  have h1 := h.sum a ha ha1
  have h2 := h.lt a ha ha1
  omega
end Go.Proofs.Ytaojmbebkggafaa
