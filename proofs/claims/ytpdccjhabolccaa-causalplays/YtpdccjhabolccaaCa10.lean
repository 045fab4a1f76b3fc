/- Plain: what laws say of messages. -/
import Derived.Test.YtpdccjhabolccaaCa0
namespace Go.Proofs.Ytpdccjhabolccaa
set_option linter.unusedVariables false

variable {n : Nat}
theorem cat_same (ps qs : List Cst) : ∀ k, (∀ j, j < k → ps[j]? = qs[j]?) → csAt n ps k = csAt n qs k
  | 0, _ => rfl
  | k + 1, h => by
    have ih := cat_same ps qs k (fun j hj => h j (by omega))
    show (match ps[k]? with | some p => stepC n (csAt n ps k) p | none => csAt n ps k) = (match qs[k]? with | some p => stepC n (csAt n qs k) p | none => csAt n qs k)
    rw [h k (by omega), ih]
theorem cc_same (ps qs : List Cst) (k : Nat) (h : ∀ j, j ≤ k → ps[j]? = qs[j]?) : ccAt n ps k = ccAt n qs k := by
  unfold ccAt
  rw [h k (Nat.le_refl _), cat_same ps qs k (fun j hj => h j (by omega))]
theorem take_same (ps : List Cst) (m : Nat) : ∀ j, j < m → (ps.take m)[j]? = ps[j]? := fun j hj => by rw [List.getElem?_take, if_pos hj]
theorem app_same (ps r : List Cst) : ∀ j, j < ps.length → (ps ++ r)[j]? = ps[j]? := fun j hj => List.getElem?_append_left hj

/-- What was sent, and by which step. -/
structure Sent (n : Nat) (ps : List Cst) (k m i : Nat) (w : Nat) : Prop where
  lt : i < k
  at_ : ∃ p, ps[i]? = some p ∧ p.who = (w : Int)
  wn : w < n
  msg : (csAt n ps k).msgs[m]? = some (w, ((csAt n ps i).ls w).length)
  num : (csAt n ps i).msgs.length = m
theorem sent_msgs (ps : List Cst) : ∀ k, k ≤ ps.length → (csAt n ps k).msgs.length = (sentTo ps (ccAt n ps) k).length ∧ ∀ m i, (sentTo ps (ccAt n ps) k)[m]? = some i → ∃ w, Sent n ps k m i w
  | 0, _ => ⟨rfl, fun m i h => by simp [sentTo] at h⟩
  | k + 1, hk => by
    obtain ⟨ih1, ih2⟩ := sent_msgs ps k (by omega)
    have hp : ps[k]? = some (ps[k]'(by omega)) := List.getElem?_eq_getElem (by omega)
    generalize ps[k]'(by omega) = p at hp
    have ek : csAt n ps (k + 1) = stepC n (csAt n ps k) p := by show (match ps[k]? with | some p => _ | none => _) = _; rw [hp]
    have ec : ccAt n ps k = codeC n (csAt n ps k) p := by unfold ccAt; rw [hp]
    have es : sentTo ps (ccAt n ps) (k + 1) = if p.kind = 1 ∧ codeC n (csAt n ps k) p = 0 then sentTo ps (ccAt n ps) k ++ [k] else sentTo ps (ccAt n ps) k := by
      rw [sentTo, List.getD_eq_getElem?_getD, hp, ec]; rfl
    have keep : (csAt n ps (k + 1)).msgs = (csAt n ps k).msgs → sentTo ps (ccAt n ps) (k + 1) = sentTo ps (ccAt n ps) k → (csAt n ps (k + 1)).msgs.length = (sentTo ps (ccAt n ps) (k + 1)).length ∧ ∀ m i, (sentTo ps (ccAt n ps) (k + 1))[m]? = some i → ∃ w, Sent n ps (k + 1) m i w := by
      intro h1 h2
      rw [h2, h1]
      refine ⟨ih1, fun m i h => ?_⟩
      obtain ⟨w, s⟩ := ih2 m i h
      exact ⟨w, by have := s.lt; omega, s.at_, s.wn, by rw [h1]; exact s.msg, s.num⟩
    by_cases hc : codeC n (csAt n ps k) p = 0
    · obtain ⟨w, hw, ew, ⟨ek1, ed⟩ | ⟨ek2, m, hm, em, _, hcm, ed⟩⟩ := code_ok hc
      · have e1 : csAt n ps (k + 1) = sendC (csAt n ps k) w := by rw [ek]; unfold stepC; rw [if_pos hc, ed]
        have e2 : (csAt n ps (k + 1)).msgs = (csAt n ps k).msgs ++ [(w, ((csAt n ps k).ls w).length)] := by rw [e1]; rfl
        rw [if_pos ⟨ek1, hc⟩] at es
        rw [es, e2]
        refine ⟨by simp [ih1], fun m i h => ?_⟩
        by_cases hl : m < (sentTo ps (ccAt n ps) k).length
        · rw [List.getElem?_append_left hl] at h
          obtain ⟨w', s⟩ := ih2 m i h
          exact ⟨w', by have := s.lt; omega, s.at_, s.wn, by rw [e2]; exact get_app s.msg, s.num⟩
        · have h3 := get_lt h
          simp at h3
          obtain rfl : m = (sentTo ps (ccAt n ps) k).length := by omega
          simp at h
          subst h
          exact ⟨w, by omega, ⟨p, hp, ew⟩, hw, by rw [e2, ← ih1]; simp, ih1⟩
      · have e1 : csAt n ps (k + 1) = takeC (csAt n ps k) w m := by rw [ek]; unfold stepC; rw [if_pos hc, ed]
        refine keep ?_ ?_
        · rw [e1]
          have := (gone_to (inv_come (cat_inv (n := n) ps k) hm hcm) hw (csAt n ps k).msgs.length).msgs
          exact this
        · rw [es, if_neg (fun e => by omega)]
    · refine keep ?_ ?_
      · rw [ek]; unfold stepC; rw [if_neg hc]
      · rw [es, if_neg (fun e => hc e.2)]

/-- What one sends later it hears later. -/
theorem own_order (ps : List Cst) : ∀ k, k ≤ ps.length → ∀ m1 m2 w a b : Nat, m1 < m2 → (csAt n ps k).msgs[m1]? = some (w, a) → (csAt n ps k).msgs[m2]? = some (w, b) → a < b
  | 0, _ => fun m1 m2 w a b _ h => by simp [csAt, cs0] at h
  | k + 1, hk => by
    have ih := own_order ps k (by omega)
    have hi := cat_inv (n := n) ps k
    intro m1 m2 w a b hlt h1 h2
    obtain ⟨p, e | e⟩ := cat_succ (n := n) ps k
    · rw [e] at h1 h2
      unfold stepC at h1 h2
      split at h1
      · rename_i hc
        rw [if_pos hc] at h2
        obtain ⟨w', hw, ew, ⟨ek1, ed⟩ | ⟨ek2, m, hm, em, _, hcm, ed⟩⟩ := code_ok hc
        · rw [ed] at h1 h2
          change ((csAt n ps k).msgs ++ [(w', ((csAt n ps k).ls w').length)])[m1]? = some (w, a) at h1
          change ((csAt n ps k).msgs ++ [(w', ((csAt n ps k).ls w').length)])[m2]? = some (w, b) at h2
          have l2 := get_lt h2
          simp at l2
          rw [List.getElem?_append_left (by omega)] at h1
          by_cases hl : m2 < (csAt n ps k).msgs.length
          · rw [List.getElem?_append_left hl] at h2
            exact ih m1 m2 w a b hlt h1 h2
          · obtain rfl : m2 = (csAt n ps k).msgs.length := by omega
            simp at h2
            obtain ⟨rfl, rfl⟩ := h2
            exact get_lt (hi.i2 m1 _ h1)
        · rw [ed] at h1 h2
          have hg := (gone_to (inv_come hi hm hcm) hw (csAt n ps k).msgs.length).msgs
          have e3 : (takeC (csAt n ps k) w' m).msgs = (csAt n ps k).msgs := hg
          rw [e3] at h1 h2
          exact ih m1 m2 w a b hlt h1 h2
      · rename_i hc
        rw [if_neg hc] at h2
        exact ih m1 m2 w a b hlt h1 h2
    · rw [e] at h1 h2
      exact ih m1 m2 w a b hlt h1 h2

/-- When all has come to all, all is heard. -/
theorem all_heard {s : CS} (h : CInv n s) (hs : ∀ p m, readyC s p m = false) {p : Nat} (hc : ∀ m, m < s.msgs.length → s.came p m ≠ 0) : (s.ls p).length = s.msgs.length := by
  have key : ∀ m, m < s.msgs.length → s.came p m = 2 := by
    intro m
    induction m using Nat.strongRecOn with
    | ind m ih =>
      intro hm
      have hok : okC s p m = true := by
        unfold okC
        rw [Bool.not_eq_true']
        rw [List.any_eq_false]
        intro c hcm
        have hlt := h.i9 m c hcm
        rw [ih c hlt (by omega)]
        simp
      have h1 := hs p m
      unfold readyC at h1
      rw [hok, Bool.and_true] at h1
      have h2 := h.i11 p m
      have h3 := hc m hm
      have h4 : s.came p m ≠ 1 := by simpa using h1
      omega
  have a1 := ls_len h p
  have a2 := sub_len (a := List.range s.msgs.length) (List.nodup_range) (b := s.ls p) (fun x hx => (h.i4 p x).1 (key x (List.mem_range.1 hx)))
  simp at a2
  omega
/-- A step that takes leaves the messages as they are, and what it takes has come, or is one's own. -/
theorem took {s : CS} (h : CInv n s) {w m : Nat} (hw : w < n) (hm : m < s.msgs.length) : (stepC n s ⟨2, w, m⟩).msgs = s.msgs ∧ (stepC n s ⟨2, w, m⟩).came w m ≠ 0 := by
  by_cases hc : codeC n s ⟨2, w, m⟩ = 0
  · obtain ⟨w', hw', ew, ⟨ek1, ed⟩ | ⟨ek2, m', hm', em, _, hcm, ed⟩⟩ := code_ok hc
    · simp at ek1
    · have e1 : w' = w := by have e0 : (w : Int) = (w' : Int) := ew; omega
      have e2 : m' = m := by have e0 : (m : Int) = (m' : Int) := em; omega
      subst e1
      subst e2
      unfold stepC
      rw [if_pos hc, ed]
      have hg := gone_to (inv_come h hm hcm) hw s.msgs.length
      exact ⟨hg.msgs, (step_take h hw hm hcm).2⟩
  · have e : stepC n s ⟨2, w, m⟩ = s := by unfold stepC; rw [if_neg hc]
    rw [e]
    refine ⟨rfl, fun h0 => hc ?_⟩
    have hq : s.msgs[m]? = some s.msgs[m] := List.getElem?_eq_getElem hm
    have e1 : (s.msgs.getD m (0, 0)).1 ≠ w := fun e1 => by
      have h2 := h.i2 m _ hq
      rw [List.getD_eq_getElem?_getD, hq] at e1
      have e3 : (s.msgs[m]).1 = w := e1
      rw [e3] at h2
      have := (h.i4 w m).2 (List.mem_of_getElem? h2)
      omega
    unfold codeC
    simp only [Int.toNat_natCast]
    rw [if_neg (by simp), if_neg (by simp [inP]; omega), if_neg (by simp), if_neg, if_neg (by simpa using h0)]
    rintro (h3 | h3)
    · simp [inP] at h3; omega
    · exact e1 h3
end Go.Proofs.Ytpdccjhabolccaa
