/- One at a time: no way leads from one to itself; plain. -/
import Derived.Test.YtaojmbebkggafaaMb0
namespace Go.Proofs.Ytaojmbebkggafaa
set_option linter.unusedVariables false

variable {n k : Nat} {s : MS}
theorem answer_ways (s : MS) (who x frm a b : Nat) : (answerM s who x frm).ways a b = s.ways a b ∨ (a = who ∧ b = frm ∧ (answerM s who x frm).ways a b = s.ways a b ++ [0]) := by
  unfold answerM
  split
  · exact .inl rfl
  · by_cases e : a = who ∧ b = frm
    · obtain ⟨rfl, rfl⟩ := e
      right
      refine ⟨rfl, rfl, ?_⟩
      show upd2 s.ways a b (s.ways a b ++ [0]) a b = _
      rw [upd2_same]
    · left
      show upd2 s.ways who frm _ a b = _
      rw [upd2_other _ _ e]
theorem diag_do (hn : n ≤ 1000) (h : MB n k s) (hd : ∀ i, s.ways i i = []) {p : Cst} (hc : codeM n s p = 0) : ∀ i, (doM n s p).ways i i = [] := by
  intro i
  rcases code_zero hn hc with ⟨w, hw, _, _, hst, e⟩ | ⟨w, o, x, r, hw, ho, hne, _, _, _, hl, e⟩ | ⟨w, hw, _, _, hst, e⟩
  · rw [e]
    unfold askM
    rw [(enter_keep _ _ _).1, keysTo_ways, if_neg (by omega)]
    exact hd i
  · rw [e]
    have hwy : (wayM s o w r).ways i i = [] := by
      show upd2 s.ways o w r i i = _
      rw [upd2_other _ _ (by omega)]
      exact hd i
    unfold takeM
    simp only [hl]
    split
    · rw [(enter_keep _ _ _).1]; exact hwy
    · rcases answer_ways (wayM s o w r) w x o i i with h1 | h1
      · rw [h1]; exact hwy
      · omega
  · rw [e]
    have hW : (leaveM s w).ways i i = if i = w then s.ways i i ++ List.replicate (wc (s.pr w).wait i) 0 else s.ways i i := yesesTo_ways w i i _ _
    rw [hW]
    split
    · rename_i e2
      subst e2
      have hz : wc (s.pr i).wait i = 0 := wc_zero.2 (fun hm => (h.inv.wt i hw i hm).2.1 rfl)
      rw [hz, hd]; rfl
    · exact hd i
theorem diag_at (hn : n ≤ 1000) (ps : List Cst) : ∀ k i, (msAt n ps k).ways i i = []
  | 0, i => rfl
  | k + 1, i => by
    show (match ps[k]? with | some p => stepM n (msAt n ps k) p | none => msAt n ps k).ways i i = []
    split
    · rename_i p _
      unfold stepM
      split
      · rename_i hc; exact diag_do hn (mb_at hn ps k) (diag_at hn ps k) hc i
      · exact diag_at hn ps k i
    · exact diag_at hn ps k i
theorem len2_at (hn : n ≤ 1000) (ps : List Cst) (k : Nat) {i j : Nat} (hi : i < n) (hj : j < n) : ((msAt n ps k).ways i j).length ≤ 2 := by
  by_cases e : i = j
  · subst e; rw [diag_at hn]; simp
  · exact (mb_at hn ps k).len hi hj e
end Go.Proofs.Ytaojmbebkggafaa
