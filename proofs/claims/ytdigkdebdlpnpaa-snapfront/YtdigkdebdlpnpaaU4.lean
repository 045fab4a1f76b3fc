/- When one notes, and all that is on its way comes, all is noted; plain. -/
import Derived.Test.YtdigkdebdlpnpaaV2
namespace Go.Proofs.Ytdigkdebdlpnpaa
set_option linter.unusedVariables false
variable {n : Nat} {s : St}

def runS (n : Nat) (s : St) (l : List Pass) : St := l.foldl (stepS n) s
theorem runS_append (s : St) (a b : List Pass) : runS n s (a ++ b) = runS n (runS n s a) b := by unfold runS; rw [List.foldl_append]
theorem stAt_run (s : St) (l : List Pass) : ∀ k, stAt n s l k = runS n s (l.take k)
  | 0 => by simp [stAt, runS]
  | k + 1 => by
    have ih := stAt_run s l k
    have e1 : stAt n s l (k + 1) = (match l[k]? with | some p => stepS n (stAt n s l k) p | none => stAt n s l k) := rfl
    rw [e1, List.take_add_one, runS_append, ← ih]
    cases h : l[k]? with
    | none => simp [runS]
    | some p => simp [runS]
theorem stAt_all (s : St) (l : List Pass) : stAt n s l l.length = runS n s l := by rw [stAt_run, List.take_length]
theorem run_inv (h : Inv n s) (l : List Pass) : Inv n (runS n s l) ∧ tot n (runS n s l) = tot n s := by
  rw [← stAt_all]
  exact ⟨(at_inv h l l.length).1, (at_inv h l l.length).2.1⟩

theorem note_own_mono {who a : Nat} (ha : s.own a ≠ -1) : (noteS n s who).own a = s.own a := by
  by_cases ho : s.own who = -1
  · rw [noteS_do ho]
    show upd1 s.own who (s.money who) a = _
    rw [upd1_other _ _ (fun e => ha (by rw [e]; exact ho))]
  · rw [noteS_not ho]
/-- What was noted of one stays. -/
theorem step_own {a : Nat} (p : Pass) (ha : s.own a ≠ -1) : (stepS n s p).own a = s.own a := by
  unfold stepS
  split
  · rename_i hc
    rcases code_ok hc with ⟨w, o, x, hw, ho, hwo, h1, h2, _, e⟩ | ⟨w, o, x, y, r, hw, ho, hwo, hth, _, e⟩ | ⟨w, hw, _, _, _, e⟩
    · rw [e]; rfl
    · rw [e]
      unfold takeS
      rw [hth]
      simp only []
      split
      · exact note_own_mono ha
      · rfl
    · rw [e]; exact note_own_mono ha
  · rfl
theorem run_own {a : Nat} : ∀ (l : List Pass) (s : St), s.own a ≠ -1 → (runS n s l).own a = s.own a
  | [], _, _ => rfl
  | p :: l, s, h => by
    have h1 := step_own (n := n) p h
    show (runS n (stepS n s p) l).own a = _
    rw [run_own l _ (by rw [h1]; exact h), h1]

/-- How much may still come on a way. -/
def rest (s : St) (a b : Nat) : Nat := (s.ways a b).things.length + if s.own a = -1 then 1 else 0
theorem note_rest (h : Inv n s) {who a b : Nat} (hw : who < n) (ha : a < n) (hb : b < n) (hab : a ≠ b) : rest (noteS n s who) a b = rest s a b := by
  by_cases ho : s.own who = -1
  · rw [noteS_do ho]
    unfold rest
    show (markW n s who a b).things.length + (if upd1 s.own who (s.money who) a = -1 then 1 else 0) = _
    by_cases e : a = who
    · subst e
      rw [markW_push s (Ne.symm hab) hb, upd1_same, if_pos ho]
      have := h.mon a ha
      rw [if_neg (by omega)]
      simp [pushW]
    · rw [markW_own n s e, upd1_other _ _ e]
  · rw [noteS_not ho]
def takeP (w o : Nat) : Pass := ⟨2, (w : Int), (o : Int), 0⟩
theorem code_take {w o : Nat} (hw : w < n) (ho : o < n) (hwo : w ≠ o) : codeS n s (takeP w o) = if (s.ways o w).things = [] then 5 else 0 := by
  unfold codeS takeP
  have e1 : inP n (w : Int) = true := by simp [inP]; omega
  have e2 : inP n (o : Int) = true := by simp [inP]; omega
  rw [if_pos (show (2 : Int) = 1 ∨ (2 : Int) = 2 from .inr rfl), if_neg (by rw [e1, e2]; simp; omega), if_neg (by simp)]
  simp only [Int.toNat_natCast]
theorem take_rest (h : Inv n s) {w o : Nat} (hw : w < n) (ho : o < n) (hwo : w ≠ o) :
    ((s.ways o w).things = [] ∧ stepS n s (takeP w o) = s) ∨ (rest (stepS n s (takeP w o)) o w + 1 = rest s o w ∧ ∀ a b, a < n → b < n → a ≠ b → ¬ (a = o ∧ b = w) → rest (stepS n s (takeP w o)) a b = rest s a b) := by
  unfold stepS
  rw [code_take hw ho hwo]
  cases hth : (s.ways o w).things with
  | nil => exact .inl ⟨rfl, by rw [if_pos rfl, if_neg (by omega)]⟩
  | cons y r =>
    right
    rw [if_neg (show ¬ (y :: r = []) by simp), if_pos rfl]
    have e : doS n s (takeP w o) = takeS n s o w := by unfold doS takeP; rw [if_neg (by simp), if_pos rfl]; simp
    rw [e]
    by_cases hy : y = 0
    · subst hy
      have et : takeS n s o w = wayS (noteS n s w) o w ⟨r, (s.ways o w).noted, true⟩ := by unfold takeS; rw [hth]; rfl
      rw [et]
      have hoo : (noteS n s w).own o = s.own o := by
        by_cases h1 : s.own w = -1
        · rw [noteS_do h1]; show upd1 s.own w (s.money w) o = _; rw [upd1_other _ _ (Ne.symm hwo)]
        · rw [noteS_not h1]
      refine ⟨?_, fun a b ha hb hab hne => ?_⟩
      · unfold rest
        show (upd2 (noteS n s w).ways o w _ o w).things.length + (if (noteS n s w).own o = -1 then 1 else 0) + 1 = _
        rw [upd2_same, hoo, hth]
        simp
        omega
      · rw [← note_rest h hw ha hb hab]
        unfold rest
        show (upd2 (noteS n s w).ways o w _ a b).things.length + (if (noteS n s w).own a = -1 then 1 else 0) = _
        rw [upd2_other _ _ hne]
    · have et : takeS n s o w = wayS (payS s w y) o w ⟨r, hearS s o w y, (s.ways o w).marked⟩ := by unfold takeS; rw [hth]; simp only []; rw [if_neg hy]
      rw [et]
      refine ⟨?_, fun a b ha hb hab hne => ?_⟩
      · unfold rest
        show (upd2 s.ways o w _ o w).things.length + (if s.own o = -1 then 1 else 0) + 1 = _
        rw [upd2_same, hth]
        simp
        omega
      · unfold rest
        show (upd2 s.ways o w _ a b).things.length + (if s.own a = -1 then 1 else 0) = _
        rw [upd2_other _ _ hne]
def AllTakes (n : Nat) (l : List Pass) : Prop := ∀ p ∈ l, ∃ w o, w < n ∧ o < n ∧ w ≠ o ∧ p = takeP w o
theorem run_rest {c d : Nat → Nat} {N : Nat → Prop} (hd : ∀ a, c a - 1 ≤ d a) (hd1 : ∀ a, N a ∨ 1 ≤ d a) : ∀ (l : List Pass), AllTakes n l → ∀ (s : St) (D : Nat → Nat → Prop), Inv n s → (∀ a, a < n → N a → s.own a ≠ -1) →
    (∀ a b, a < n → b < n → a ≠ b → rest s a b ≤ c a ∧ (D a b → rest s a b ≤ d a)) →
    ∀ a b, a < n → b < n → a ≠ b → rest (runS n s l) a b ≤ c a ∧ ((D a b ∨ takeP b a ∈ l) → rest (runS n s l) a b ≤ d a)
  | [], _, s, D, h, hN, hb, a, b, ha, hbn, hab => ⟨(hb a b ha hbn hab).1, fun e => (hb a b ha hbn hab).2 (e.elim id (fun e => by cases e))⟩
  | p :: l, hl, s, D, h, hN, hb, a, b, ha, hbn, hab => by
    obtain ⟨w, o, hw, ho, hwo, rfl⟩ := hl p (by simp)
    have ih := run_rest hd hd1 l (fun q hq => hl q (by simp [hq])) (stepS n s (takeP w o)) (fun a b => D a b ∨ (a = o ∧ b = w)) (step_inv h _).1
      (fun a ha hNa => by rw [step_own _ (hN a ha hNa)]; exact hN a ha hNa) (fun a b ha hb2 hab => by
        rcases take_rest h hw ho hwo with ⟨e1, e2⟩ | ⟨e1, e2⟩
        · rw [e2]
          refine ⟨(hb a b ha hb2 hab).1, fun e => ?_⟩
          rcases e with e | ⟨rfl, rfl⟩
          · exact (hb a b ha hb2 hab).2 e
          · unfold rest
            rw [e1]
            rcases hd1 a with e3 | e3
            · rw [if_neg (hN a ha e3)]; simp
            · split
              · simp; exact e3
              · simp
        · by_cases e3 : a = o ∧ b = w
          · obtain ⟨rfl, rfl⟩ := e3
            have h1 := (hb a b ha hb2 hab).1
            have h2 := hd a
            exact ⟨by omega, fun _ => by omega⟩
          · rw [e2 a b ha hb2 hab e3]
            exact ⟨(hb a b ha hb2 hab).1, fun e => (hb a b ha hb2 hab).2 (e.elim id (fun e => absurd e e3))⟩) a b ha hbn hab
    refine ⟨ih.1, fun e => ih.2 ?_⟩
    rcases e with e | e
    · exact .inl (.inl e)
    · rcases List.mem_cons.1 e with e | e
      · unfold takeP at e
        simp at e
        exact .inl (.inr ⟨by omega, by omega⟩)
      · exact .inr e

/-- What one takes of the first j others; a turn; so many turns. -/
def tk (i j : Nat) : List Pass := ((List.range j).filter (fun q => q != i)).map (takeP i)
def turnTo (n : Nat) : Nat → List Pass
  | 0 => []
  | i + 1 => turnTo n i ++ tk i n
def turnsL (n : Nat) : Nat → List Pass
  | 0 => []
  | t + 1 => turnsL n t ++ turnTo n n
theorem tk_succ (i j : Nat) : tk i (j + 1) = tk i j ++ if j = i then [] else [takeP i j] := by
  unfold tk
  rw [List.range_succ, List.filter_append, List.map_append]
  by_cases e : j = i
  · simp [e]
  · simp [e]
theorem turnTo_mem {i : Nat} : ∀ {k a b : Nat}, a < k → b < n → a ≠ b → takeP a b ∈ turnTo n k
  | 0, _, _, h, _, _ => by omega
  | k + 1, a, b, h, hb, hab => by
    show _ ∈ turnTo n k ++ tk k n
    rw [List.mem_append]
    by_cases e : a = k
    · subst e
      right
      unfold tk
      exact List.mem_map.2 ⟨b, List.mem_filter.2 ⟨List.mem_range.2 hb, by simpa using Ne.symm hab⟩, rfl⟩
    · exact .inl (turnTo_mem (i := i) (by omega) hb hab)
theorem turnTo_all : ∀ {k : Nat}, k ≤ n → AllTakes n (turnTo n k)
  | 0, _, p, hp => by cases hp
  | k + 1, h, p, hp => by
    have hp2 : p ∈ turnTo n k ++ tk k n := hp
    rcases List.mem_append.1 hp2 with e | e
    · exact turnTo_all (by omega) p e
    · unfold tk at e
      obtain ⟨b, hb, rfl⟩ := List.mem_map.1 e
      obtain ⟨h1, h2⟩ := List.mem_filter.1 hb
      exact ⟨k, b, by omega, List.mem_range.1 h1, by have : b ≠ k := by simpa using h2
                                                     exact Ne.symm this, rfl⟩
theorem turn_rest {c d : Nat → Nat} {N : Nat → Prop} (hd : ∀ a, c a - 1 ≤ d a) (hd1 : ∀ a, N a ∨ 1 ≤ d a) (h : Inv n s) (hN : ∀ a, a < n → N a → s.own a ≠ -1) (hb : ∀ a b, a < n → b < n → a ≠ b → rest s a b ≤ c a) :
    ∀ a b, a < n → b < n → a ≠ b → rest (runS n s (turnTo n n)) a b ≤ d a := fun a b ha hbn hab =>
  (run_rest hd hd1 _ (turnTo_all (Nat.le_refl _)) s (fun _ _ => False) h hN (fun a b ha hb2 hab => ⟨hb a b ha hb2 hab, fun e => e.elim⟩) a b ha hbn hab).2 (.inr (turnTo_mem (i := 0) hbn ha (Ne.symm hab)))
theorem turns_rest (h : Inv n s) (h0 : 0 < n) (ho : s.own 0 ≠ -1) (hb : ∀ a b, a < n → b < n → a ≠ b → rest s a b ≤ 14) : ∀ t, ∀ a b, a < n → b < n → a ≠ b → rest (runS n s (turnsL n t)) a b ≤ (if a = 0 then 14 - t else max (14 - t) 1)
  | 0, a, b, ha, hbn, hab => by
    have := hb a b ha hbn hab
    show rest s a b ≤ _
    split
    · exact this
    · omega
  | t + 1, a, b, ha, hbn, hab => by
    have ih := turns_rest h h0 ho hb t
    show rest (runS n s (turnsL n t ++ turnTo n n)) a b ≤ _
    rw [runS_append]
    exact turn_rest (c := fun a => if a = 0 then 14 - t else max (14 - t) 1) (d := fun a => if a = 0 then 14 - (t + 1) else max (14 - (t + 1)) 1) (N := fun a => a = 0)
      (fun a => by show (if a = 0 then _ else _) - 1 ≤ (if a = 0 then _ else _); split <;> omega) (fun a => by
        by_cases e : a = 0
        · exact .inl e
        · right; show 1 ≤ (if a = 0 then _ else _); rw [if_neg e]; omega)
      (run_inv h _).1 (fun a _ e => by subst e; rw [run_own _ _ ho]; exact ho) ih a b ha hbn hab
/-- All is noted, and nothing is on its way. -/
theorem turns_done (h : Inv n s) (h0 : 0 < n) (ho : s.own 0 ≠ -1) (hb : ∀ a b, a < n → b < n → a ≠ b → rest s a b ≤ 14) : doneB n (runS n s (turnsL n 17)) = true ∧ sumN (runS n s (turnsL n 17)).money n = tot n s := by
  have h14 := turns_rest h h0 ho hb 14
  have i14 := (run_inv h (turnsL n 14)).1
  have o14 : (runS n s (turnsL n 14)).own 0 ≠ -1 := by rw [run_own _ _ ho]; exact ho
  have all14 : ∀ a, a < n → (runS n s (turnsL n 14)).own a ≠ -1 := by
    intro a ha
    by_cases e : a = 0
    · subst e; exact o14
    · have h1 := h14 0 a h0 ha (Ne.symm e)
      rw [if_pos rfl] at h1
      have h2 : ((runS n s (turnsL n 14)).ways 0 a).things = [] := by
        unfold rest at h1
        exact List.eq_nil_of_length_eq_zero (by omega)
      rcases i14.i2 0 a h0 ha (Ne.symm e) o14 with h3 | h3
      · rw [h2] at h3; cases h3
      · intro e2
        rw [(i14.i3 0 a h0 ha e2).1] at h3
        cases h3
  have e15 : turnsL n 15 = turnsL n 14 ++ turnTo n n := rfl
  have e16 : turnsL n 16 = turnsL n 15 ++ turnTo n n := rfl
  have e17 : turnsL n 17 = turnsL n 16 ++ turnTo n n := rfl
  have all15 : ∀ l, ∀ a, a < n → (runS n (runS n s (turnsL n 14)) l).own a ≠ -1 := fun l a ha => by rw [run_own _ _ (all14 a ha)]; exact all14 a ha
  have h15 : ∀ a b, a < n → b < n → a ≠ b → rest (runS n s (turnsL n 15)) a b ≤ 0 := by
    rw [e15, runS_append]
    exact turn_rest (c := fun _ => 1) (d := fun _ => 0) (N := fun _ => True) (fun _ => by omega) (fun _ => .inl trivial) i14 (fun a ha _ => all14 a ha) (fun a b ha hb hab => by
      have := h14 a b ha hb hab
      split at this <;> omega)
  have h16 : ∀ a b, a < n → b < n → a ≠ b → rest (runS n s (turnsL n 16)) a b ≤ 0 := by
    rw [e16, runS_append]
    exact turn_rest (c := fun _ => 0) (d := fun _ => 0) (N := fun _ => True) (fun _ => by omega) (fun _ => .inl trivial) (run_inv h _).1 (fun a ha _ => by rw [e15, runS_append]; exact all15 _ a ha) h15
  have h17 : ∀ a b, a < n → b < n → a ≠ b → rest (runS n s (turnsL n 17)) a b ≤ 0 := by
    rw [e17, runS_append]
    exact turn_rest (c := fun _ => 0) (d := fun _ => 0) (N := fun _ => True) (fun _ => by omega) (fun _ => .inl trivial) (run_inv h _).1 (fun a ha _ => by rw [e16, e15, runS_append, runS_append, ← runS_append]; exact all15 _ a ha) h16
  have all17 : ∀ a, a < n → (runS n s (turnsL n 17)).own a ≠ -1 := fun a ha => by rw [e17, e16, e15, List.append_assoc, List.append_assoc, runS_append]; exact all15 _ a ha
  obtain ⟨i17, t17⟩ := run_inv h (turnsL n 17)
  have emp : ∀ a b, a < n → b < n → ((runS n s (turnsL n 17)).ways a b).things = [] := by
    intro a b ha hb
    by_cases e : a = b
    · subst e; rw [i17.i4 a ha]
    · have h1 := h17 a b ha hb e
      unfold rest at h1
      exact List.eq_nil_of_length_eq_zero (by omega)
  constructor
  · unfold doneB
    simp only [Bool.and_eq_true, List.all_eq_true, List.mem_range, bne_iff_ne, Bool.or_eq_true, beq_iff_eq]
    refine ⟨all17, fun a ha b hb => ?_⟩
    by_cases e : a = b
    · exact .inl e
    · rcases i17.i2 a b ha hb e (all17 a ha) with h3 | h3
      · rw [emp a b ha hb] at h3; cases h3
      · exact .inr h3
  · rw [← t17]
    unfold tot
    have : sum2 n (fun i j => lsum ((runS n s (turnsL n 17)).ways i j).things) = sum2 n (fun _ _ => 0) := sum2_congr fun i j hi hj => by rw [emp i j hi hj]; rfl
    rw [this]
    have z : ∀ k, sumN (fun _ => 0) k = 0 := fun k => by
      induction k with
      | zero => rfl
      | succ k ih => show sumN _ k + 0 = 0; rw [ih]; rfl
    have z2 : sum2 n (fun _ _ => 0) = 0 := by
      show sumN (fun i => sumN (fun _ => 0) n) n = 0
      rw [sumN_congr (g := fun _ => 0) (fun i _ => z n), z]
    rw [z2]
    omega
def beginP : Pass := ⟨3, 0, 0, 0⟩
theorem ends_plain {m : Nat → Int} (hm : ∀ i, i < n → 0 ≤ m i) (h0 : 0 < n) {ps : List Pass} (hp : ps.length ≤ 12) :
    doneB n (runS n (st0 m) (ps ++ [beginP] ++ turnsL n 17)) = true ∧ sumN (runS n (st0 m) (ps ++ [beginP] ++ turnsL n 17)).money n = sumN m n := by
  have hi := inv0 (n := n) hm
  obtain ⟨h1, h2⟩ := run_inv hi (ps ++ [beginP])
  have hl : Len n 13 (runS n (st0 m) (ps ++ [beginP])) := by
    have := at_len (n := n) m (ps ++ [beginP]) (ps ++ [beginP]).length
    rw [stAt_all] at this
    intro a b ha hb
    obtain ⟨h3, h4⟩ := this a b ha hb
    simp at h3 h4
    exact ⟨by omega, by omega⟩
  have ho : (runS n (st0 m) (ps ++ [beginP])).own 0 ≠ -1 := by
    rw [runS_append]
    show (stepS n (runS n (st0 m) ps) beginP).own 0 ≠ -1
    by_cases e : (runS n (st0 m) ps).own 0 = -1
    · have hc : codeS n (runS n (st0 m) ps) beginP = 0 := by
        unfold codeS beginP
        rw [if_neg (by simp), if_pos rfl, if_neg (by simp [inP]; omega), if_neg (by simp [e])]
      unfold stepS
      rw [if_pos hc]
      have e2 : doS n (runS n (st0 m) ps) beginP = noteS n (runS n (st0 m) ps) 0 := by unfold doS beginP; rw [if_neg (by simp), if_neg (by simp)]; rfl
      rw [e2]
      exact noteS_own_self (run_inv hi ps).1 h0
    · rw [step_own _ e]; exact e
  have := turns_done h1 h0 ho (fun a b ha hb hab => by
    have := (hl a b ha hb).1
    unfold rest
    split <;> omega)
  rw [runS_append]
  rw [h2, tot0] at this
  exact this
end Go.Proofs.Ytdigkdebdlpnpaa
