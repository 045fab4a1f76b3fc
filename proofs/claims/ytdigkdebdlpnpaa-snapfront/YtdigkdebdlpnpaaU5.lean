/- What was noted stays ahead of what is noted later; plain. -/
import Derived.Test.YtdigkdebdlpnpaaU4
namespace Go.Proofs.Ytdigkdebdlpnpaa
set_option linter.unusedVariables false
variable {n : Nat} {s : St}

/-- From one state to a later one. -/
structure Later (n : Nat) (s t : St) : Prop where
  own : ∀ i, i < n → s.own i ≠ -1 → t.own i = s.own i
  bm : ∀ i j, i < n → j < n → (s.ways i j).marked = true → (t.ways i j).marked = true ∧ (t.ways i j).noted = (s.ways i j).noted
  nt : ∀ i j, i < n → j < n → ∃ r, (t.ways i j).noted = (s.ways i j).noted ++ r
theorem Later.refl (n : Nat) (s : St) : Later n s s := ⟨fun _ _ _ => rfl, fun _ _ _ _ h => ⟨h, rfl⟩, fun i j _ _ => ⟨[], by simp⟩⟩
theorem Later.trans {s t u : St} (a : Later n s t) (b : Later n t u) : Later n s u := by
  refine ⟨fun i hi h => ?_, fun i j hi hj h => ?_, fun i j hi hj => ?_⟩
  · have h1 := a.own i hi h
    rw [b.own i hi (by rw [h1]; exact h), h1]
  · obtain ⟨h1, h2⟩ := a.bm i j hi hj h
    obtain ⟨h3, h4⟩ := b.bm i j hi hj h1
    exact ⟨h3, h4.trans h2⟩
  · obtain ⟨r, h1⟩ := a.nt i j hi hj
    obtain ⟨r2, h2⟩ := b.nt i j hi hj
    exact ⟨r ++ r2, by rw [h2, h1, List.append_assoc]⟩
theorem later_note (who : Nat) : Later n s (noteS n s who) := by
  refine ⟨fun i _ h => note_own_mono h, fun i j _ _ h => ?_, fun i j _ _ => ?_⟩
  · by_cases ho : s.own who = -1
    · rw [noteS_do ho]
      exact ⟨by rw [← h]; exact (markW_marked n s who i j).1, (markW_marked n s who i j).2⟩
    · rw [noteS_not ho]; exact ⟨h, rfl⟩
  · by_cases ho : s.own who = -1
    · rw [noteS_do ho]
      exact ⟨[], by rw [List.append_nil]; exact (markW_marked n s who i j).2⟩
    · rw [noteS_not ho]; exact ⟨[], by simp⟩
theorem later_step (p : Pass) : Later n s (stepS n s p) := by
  suffices key : (∀ i j, i < n → j < n → (s.ways i j).marked = true → ((stepS n s p).ways i j).marked = true ∧ ((stepS n s p).ways i j).noted = (s.ways i j).noted) ∧ (∀ i j, i < n → j < n → ∃ r, ((stepS n s p).ways i j).noted = (s.ways i j).noted ++ r) from ⟨fun i _ h => step_own p h, key.1, key.2⟩
  unfold stepS
  split
  · rename_i hc
    rcases code_ok hc with ⟨w, o, x, hw, ho, hwo, h1, h2, _, e⟩ | ⟨w, o, x, y, r, hw, ho, hwo, hth, _, e⟩ | ⟨w, hw, _, _, _, e⟩
    · rw [e]
      have key : ∀ i j, ((putS (payS s w (-x)) w o x).ways i j).marked = (s.ways i j).marked ∧ ((putS (payS s w (-x)) w o x).ways i j).noted = (s.ways i j).noted := by
        intro i j
        show (upd2 s.ways w o (pushW (s.ways w o) x) i j).marked = _ ∧ (upd2 s.ways w o (pushW (s.ways w o) x) i j).noted = _
        by_cases e2 : i = w ∧ j = o
        · obtain ⟨rfl, rfl⟩ := e2; rw [upd2_same]; exact ⟨rfl, rfl⟩
        · rw [upd2_other _ _ e2]; exact ⟨rfl, rfl⟩
      exact ⟨fun i j _ _ h => ⟨by rw [(key i j).1]; exact h, (key i j).2⟩, fun i j _ _ => ⟨[], by rw [(key i j).2]; simp⟩⟩
    · rw [e]
      unfold takeS
      rw [hth]
      simp only []
      split
      · have hl := later_note (n := n) (s := s) w
        refine ⟨fun i j hi hj h => ?_, fun i j hi hj => ?_⟩
        · show (upd2 (noteS n s w).ways o w _ i j).marked = true ∧ (upd2 (noteS n s w).ways o w _ i j).noted = _
          by_cases e2 : i = o ∧ j = w
          · obtain ⟨rfl, rfl⟩ := e2; rw [upd2_same]; exact ⟨rfl, rfl⟩
          · rw [upd2_other _ _ e2]; exact hl.bm i j hi hj h
        · show ∃ r2, (upd2 (noteS n s w).ways o w _ i j).noted = _
          by_cases e2 : i = o ∧ j = w
          · obtain ⟨rfl, rfl⟩ := e2; rw [upd2_same]; exact ⟨[], by simp⟩
          · rw [upd2_other _ _ e2]; exact hl.nt i j hi hj
      · refine ⟨fun i j hi hj h => ?_, fun i j hi hj => ?_⟩
        · show (upd2 s.ways o w _ i j).marked = true ∧ (upd2 s.ways o w _ i j).noted = _
          by_cases e2 : i = o ∧ j = w
          · obtain ⟨rfl, rfl⟩ := e2
            rw [upd2_same]
            refine ⟨h, ?_⟩
            show hearS s i j y = _
            unfold hearS
            rw [if_neg (fun e => by rw [h] at e; exact absurd e.2 (by simp))]
          · rw [upd2_other _ _ e2]; exact ⟨h, rfl⟩
        · show ∃ r2, (upd2 s.ways o w _ i j).noted = _
          by_cases e2 : i = o ∧ j = w
          · obtain ⟨rfl, rfl⟩ := e2
            rw [upd2_same]
            show ∃ r2, hearS s i j y = _
            unfold hearS
            split
            · exact ⟨[y], rfl⟩
            · exact ⟨[], by simp⟩
          · rw [upd2_other _ _ e2]; exact ⟨[], by simp⟩
    · rw [e]
      exact ⟨(later_note w).bm, (later_note w).nt⟩
  · exact ⟨(Later.refl n s).bm, (Later.refl n s).nt⟩
theorem later_run : ∀ (l : List Pass) (s : St), Later n s (runS n s l)
  | [], s => Later.refl n s
  | p :: l, s => (later_step p).trans (later_run l (stepS n s p))
theorem later_at (s : St) (ps : List Pass) {k : Nat} (hk : k ≤ ps.length) : Later n (stAt n s (ps.take k) k) (stAt n s ps ps.length) := by
  rw [stAt_run, List.take_take, Nat.min_self, stAt_all]
  have e : runS n s ps = runS n (runS n s (ps.take k)) (ps.drop k) := by rw [← runS_append, List.take_append_drop]
  rw [e]
  exact later_run _ _
theorem later_done {t : St} (h : Later n s t) (hd : doneB n s = true) : doneB n t = true ∧ ∀ i j, i < n → j < n → i ≠ j → (t.ways i j).noted = (s.ways i j).noted := by
  unfold doneB at hd ⊢
  simp only [Bool.and_eq_true, List.all_eq_true, List.mem_range, bne_iff_ne, Bool.or_eq_true, beq_iff_eq] at hd ⊢
  refine ⟨⟨fun i hi => by rw [h.own i hi (hd.1 i hi)]; exact hd.1 i hi, fun i hi j hj => ?_⟩, fun i j hi hj hij => ?_⟩
  · rcases hd.2 i hi j hj with e | e
    · exact .inl e
    · exact .inr (h.bm i j hi hj e).1
  · rcases hd.2 i hi j hj with e | e
    · exact absurd e hij
    · exact (h.bm i j hi hj e).2
end Go.Proofs.Ytdigkdebdlpnpaa
