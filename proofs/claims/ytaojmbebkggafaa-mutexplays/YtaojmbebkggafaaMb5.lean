/- One at a time: who asks by the steps is who is not outside; plain. -/
import Derived.Test.YtaojmbebkggafaaMe0
namespace Go.Proofs.Ytaojmbebkggafaa
set_option linter.unusedVariables false

variable {n k : Nat} {s : MS}
theorem enter_st (n : Nat) (t : MS) (i a : Nat) (hi : (t.pr i).st ≠ 0) : ((enterM n t i).pr a).st ≠ 0 ↔ (t.pr a).st ≠ 0 := by
  unfold enterM
  split
  · show ((upd1 t.pr i { t.pr i with st := 2 }) a).st ≠ 0 ↔ _
    rw [upd1_ite]
    split
    · rename_i e; subst e; exact ⟨fun _ => hi, fun _ => by show (2 : Nat) ≠ 0; omega⟩
    · exact Iff.rfl
  · exact Iff.rfl
theorem answer_st (t : MS) (w x o a : Nat) : ((answerM t w x o).pr a).st = (t.pr a).st := by
  unfold answerM
  split
  · show ((upd1 t.pr w { t.pr w with num := max (t.pr w).num x, wait := (t.pr w).wait ++ [o] }) a).st = _
    rw [upd1_ite]; split
    · rename_i e; subst e; rfl
    · rfl
  · show ((upd1 t.pr w { t.pr w with num := max (t.pr w).num x }) a).st = _
    rw [upd1_ite]; split
    · rename_i e; subst e; rfl
    · rfl
/-- What a right step does to who asks. -/
theorem st_do (hn : n ≤ 1000) (h : MB n k s) {p : Cst} (hc : codeM n s p = 0) (a : Nat) (ha : a < n) :
    ((doM n s p).pr a).st ≠ 0 ↔ if p.kind = 2 then (s.pr a).st ≠ 0 else if p.kind = 1 then ((a : Int) ≠ p.who ∧ (s.pr a).st ≠ 0) ∨ (a : Int) = p.who else ((a : Int) ≠ p.who ∧ (s.pr a).st ≠ 0) := by
  rcases code_zero hn hc with ⟨w, hw, e1, e2, hst, e⟩ | ⟨w, o, x, r, hw, ho, hne, e1, e2, e3, hl, e⟩ | ⟨w, hw, e1, e2, hst, e⟩
  · rw [e, e1, e2, if_neg (by omega), if_pos rfl]
    have hp : ∀ b, (keysTo (askS s w) w ((s.pr w).num + 1) n).pr b = if b = w then ⟨(s.pr w).num + 1, 1, (s.pr w).num + 1, w, 0, (s.pr w).wait⟩ else s.pr b := fun b => by rw [(keysTo_pr _ _ _ n).1]; rfl
    unfold askM
    rw [enter_st _ _ _ _ (by rw [hp, if_pos rfl]; simp), hp]
    by_cases e : a = w
    · subst e; simp
    · rw [if_neg e]
      have : (a : Int) ≠ (w : Int) := by omega
      constructor
      · intro h2; exact .inl ⟨this, h2⟩
      · rintro (⟨_, h2⟩ | h2)
        · exact h2
        · exact absurd h2 this
  · rw [e, e1, if_pos rfl]
    unfold takeM
    simp only [hl]
    split
    · rename_i hx
      subst hx
      have hcc : cc s o w ≥ 1 := by unfold cc; rw [hl, nz_cons, if_pos rfl]; omega
      have h1 : (s.pr w).st = 1 := Classical.byContradiction fun e => by have := h.inv.off o w ho hw hne e; omega
      have hp : ∀ b, ((yesS (wayM s o w r) w).pr b).st = (s.pr b).st := fun b => by
        show ((upd1 s.pr w { s.pr w with yes := (s.pr w).yes + 1 }) b).st = _
        rw [upd1_ite]; split
        · rename_i e; subst e; rfl
        · rfl
      rw [enter_st _ _ _ _ (by rw [hp, h1]; omega), hp]
    · rw [answer_st]; exact Iff.rfl
  · rw [e, e1, e2, if_neg (by omega), if_neg (by omega)]
    have hpr := yesesTo_pr w (s.pr w).wait (outS s w)
    have hP : ∀ b, ((leaveM s w).pr b).st = if b = w then 0 else (s.pr b).st := by
      intro b
      show (upd1 (yesesTo (outS s w) w (s.pr w).wait).pr w { (yesesTo (outS s w) w (s.pr w).wait).pr w with wait := [] } b).st = _
      rw [upd1_ite, hpr.1]
      split
      · show ((upd1 s.pr w { s.pr w with st := 0 }) w).st = _; rw [upd1_same]
      · rename_i e2; show (upd1 s.pr w _ b).st = _; rw [upd1_other _ _ e2]
    rw [hP]
    by_cases e : a = w
    · subst e; simp
    · rw [if_neg e]
      have : (a : Int) ≠ (w : Int) := by omega
      exact ⟨fun h2 => ⟨this, h2⟩, fun h2 => h2.2⟩
theorem code_who (hn : n ≤ 1000) {p : Cst} (h : codeM n s p = 0) : ∃ w : Nat, w < n ∧ p.who = (w : Int) := by
  rcases code_zero hn h with ⟨w, hw, _, e2, _⟩ | ⟨w, o, x, r, hw, _, _, _, e2, _⟩ | ⟨w, hw, _, e2, _⟩ <;> exact ⟨w, hw, e2⟩
theorem ask_mem (hn : n ≤ 1000) (ps : List Cst) : ∀ k, k ≤ ps.length → ∀ x : Int, x ∈ askTo ps (mcAt n ps) k ↔ ∃ w : Nat, w < n ∧ x = (w : Int) ∧ ((msAt n ps k).pr w).st ≠ 0
  | 0, _, x => by simp [askTo, msAt, ms0]
  | k + 1, hk, x => by
    have ih := ask_mem hn ps k (by omega)
    have hB := mb_at hn ps k
    have hp : ps[k]? = some (ps[k]'(by omega)) := List.getElem?_eq_getElem _
    generalize ps[k]'(by omega) = p at hp
    have ek : msAt n ps (k + 1) = stepM n (msAt n ps k) p := by show (match ps[k]? with | some p => _ | none => _) = _; rw [hp]
    have ec : mcAt n ps k = codeM n (msAt n ps k) p := by unfold mcAt; rw [hp]
    have eg : ps.getD k ⟨0, 0, 0⟩ = p := by rw [List.getD_eq_getElem?_getD, hp]; rfl
    rw [askTo, eg, ec, ek]
    unfold stepM
    generalize msAt n ps k = S at *
    by_cases hc : codeM n S p = 0
    · rw [if_pos hc]
      obtain ⟨w0, hw0, ew⟩ := code_who hn hc
      have hst := fun a ha => st_do hn hB hc a ha
      by_cases h2 : p.kind = 2
      · rw [if_pos (.inr h2), ih]
        constructor
        · rintro ⟨w, h3, h4, h5⟩; exact ⟨w, h3, h4, (hst w h3).2 (by rw [if_pos h2]; exact h5)⟩
        · rintro ⟨w, h3, h4, h5⟩
          have := (hst w h3).1 h5
          rw [if_pos h2] at this
          exact ⟨w, h3, h4, this⟩
      · rw [if_neg (fun e => by rcases e with e | e; exact e hc; exact h2 e)]
        by_cases h1 : p.kind = 1
        · rw [if_pos h1, List.mem_append, List.mem_filter, ih, List.mem_singleton]
          constructor
          · rintro (⟨⟨w, h3, h4, h5⟩, h6⟩ | h3)
            · refine ⟨w, h3, h4, (hst w h3).2 ?_⟩
              rw [if_neg h2, if_pos h1]
              exact .inl ⟨by rw [← h4]; simpa [notW] using h6, h5⟩
            · refine ⟨w0, hw0, by rw [h3, ew], (hst w0 hw0).2 ?_⟩
              rw [if_neg h2, if_pos h1]
              exact .inr ew.symm
          · rintro ⟨w, h3, h4, h5⟩
            have := (hst w h3).1 h5
            rw [if_neg h2, if_pos h1] at this
            rcases this with ⟨h6, h7⟩ | h6
            · exact .inl ⟨⟨w, h3, h4, h7⟩, by rw [h4]; simpa [notW] using h6⟩
            · exact .inr (by rw [h4, h6])
        · rw [if_neg h1, List.mem_filter, ih]
          constructor
          · rintro ⟨⟨w, h3, h4, h5⟩, h6⟩
            refine ⟨w, h3, h4, (hst w h3).2 ?_⟩
            rw [if_neg h2, if_neg h1]
            exact ⟨by rw [← h4]; simpa [notW] using h6, h5⟩
          · rintro ⟨w, h3, h4, h5⟩
            have := (hst w h3).1 h5
            rw [if_neg h2, if_neg h1] at this
            exact ⟨⟨w, h3, h4, this.2⟩, by rw [h4]; simpa [notW] using this.1⟩
    · rw [if_neg hc, if_pos (.inl hc), ih]
theorem posI_ge {xs : List Int} {x : Int} (h : x ∈ xs) : 0 ≤ posI xs x := by
  unfold posI
  cases e : xs.findIdx? (fun y => y == x) with
  | none =>
    rw [List.findIdx?_eq_none_iff] at e
    have := e x h
    simp at this
  | some k => exact Int.natCast_nonneg k
theorem posI_mem {xs : List Int} {x : Int} (h : 0 ≤ posI xs x) : x ∈ xs := by
  refine Classical.byContradiction fun e => ?_
  rw [posI_none e] at h
  omega
theorem awayTo_all {f : Nat → Nat} : ∀ n, awayTo f n = 0 → ∀ m, m < n → f m = 0
  | 0, _, m, h => by omega
  | n + 1, h, m, hm => by
    unfold awayTo at h
    by_cases e : m = n
    · subst e; omega
    · exact awayTo_all n (by omega) m (by omega)
theorem away_none (h : awayM n s = 0) {i j : Nat} (hi : i < n) (hj : j < n) : s.ways i j = [] := by
  have h1 := awayTo_all n h i hi
  exact List.length_eq_zero_iff.1 (awayTo_all n h1 j hj)
/-- The law. -/
theorem goes_plain (hn : n ≤ 1000) (ps : List Cst) (ha : awayM n (msAt n ps ps.length) = 0) (hl : askTo ps (mcAt n ps) ps.length ≠ []) : (insideM n (msAt n ps ps.length)).length = 1 := by
  have hB := mb_at hn ps ps.length
  obtain ⟨x, hx⟩ := List.exists_mem_of_ne_nil _ hl
  obtain ⟨w, hw, _, hst⟩ := (ask_mem hn ps _ (Nat.le_refl _) x).1 hx
  obtain ⟨i, hi, h2⟩ := some_inside hB.inv (fun a b ha2 hb => away_none ha ha2 hb) hw hst
  have h3 := inside_few hB.inv
  have h4 : i ∈ insideM n (msAt n ps ps.length) := mem_inside.2 ⟨hi, h2⟩
  have h5 := List.length_pos_of_mem h4
  omega
theorem inside_asks (hn : n ≤ 1000) (ps : List Cst) {i : Nat} (h : i ∈ insideM n (msAt n ps ps.length)) : (i : Int) ∈ askTo ps (mcAt n ps) ps.length := by
  obtain ⟨h1, h2⟩ := mem_inside.1 h
  exact (ask_mem hn ps _ (Nat.le_refl _) _).2 ⟨i, h1, rfl, by omega⟩
end Go.Proofs.Ytaojmbebkggafaa
