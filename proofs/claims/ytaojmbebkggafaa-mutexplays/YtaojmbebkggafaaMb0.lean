/- One at a time: bounds; what holds behind any steps; plain. -/
import Derived.Test.YtaojmbebkggafaaMa1
namespace Go.Proofs.Ytaojmbebkggafaa
set_option linter.unusedVariables false

theorem in_of {n : Nat} {z : Int} (hz : inP n z = true) : ∃ k : Nat, k < n ∧ z = (k : Int) := by
  unfold inP at hz
  rw [Bool.and_eq_true, decide_eq_true_iff, decide_eq_true_iff] at hz
  exact ⟨z.toNat, by omega, by omega⟩
theorem inP_nat {n k : Nat} (h : k < n) : inP n (k : Int) = true := by
  unfold inP
  rw [Bool.and_eq_true, decide_eq_true_iff, decide_eq_true_iff]
  omega
/-- Behind k steps. -/
structure MB (n k : Nat) (s : MS) : Prop where
  inv : MInv n s
  num : ∀ i, (s.pr i).num ≤ k
  way : ∀ i j x, x ∈ s.ways i j → x ≤ k
  wait : ∀ i, (s.pr i).wait.length ≤ k
  yes : ∀ i, (s.pr i).yes ≤ k
  ins : s.ins.length ≤ k
variable {n k : Nat} {s : MS}
theorem MB.len (h : MB n k s) {i j : Nat} (hi : i < n) (hj : j < n) (hij : i ≠ j) : (s.ways i j).length ≤ 2 := by
  have h1 := h.inv.le1 j i hj hi (Ne.symm hij)
  have h2 := h.inv.le1 i j hi hj hij
  unfold cc at h1 h2
  have := nk_nz (s.ways i j)
  omega
theorem MB.up (h : MB n k s) : MB n (k + 1) s :=
  ⟨h.inv, fun i => Nat.le_succ_of_le (h.num i), fun i j x hx => Nat.le_succ_of_le (h.way i j x hx), fun i => Nat.le_succ_of_le (h.wait i), fun i => Nat.le_succ_of_le (h.yes i), Nat.le_succ_of_le h.ins⟩
theorem enter_keep (n : Nat) (s : MS) (i : Nat) : (enterM n s i).ways = s.ways ∧ (∀ a, ((enterM n s i).pr a).num = (s.pr a).num ∧ ((enterM n s i).pr a).wait = (s.pr a).wait ∧ ((enterM n s i).pr a).yes = (s.pr a).yes ∧ ((enterM n s i).pr a).kn = (s.pr a).kn) ∧ (enterM n s i).ins.length ≤ s.ins.length + 1 := by
  unfold enterM
  split
  · refine ⟨rfl, fun a => ?_, by simp⟩
    show ((upd1 s.pr i { s.pr i with st := 2 }) a).num = _ ∧ ((upd1 s.pr i { s.pr i with st := 2 }) a).wait = _ ∧ ((upd1 s.pr i { s.pr i with st := 2 }) a).yes = _ ∧ ((upd1 s.pr i { s.pr i with st := 2 }) a).kn = _
    rw [upd1_ite]
    split
    · rename_i e; subst e; exact ⟨rfl, rfl, rfl, rfl⟩
    · exact ⟨rfl, rfl, rfl, rfl⟩
  · exact ⟨rfl, fun a => ⟨rfl, rfl, rfl, rfl⟩, by omega⟩
/-- What a right step is. -/
theorem code_zero (hn : n ≤ 1000) {p : Cst} (h : codeM n s p = 0) :
    (∃ w, w < n ∧ p.kind = 1 ∧ p.who = (w : Int) ∧ (s.pr w).st = 0 ∧ doM n s p = askM n s w) ∨
    (∃ w o x r, w < n ∧ o < n ∧ o ≠ w ∧ p.kind = 2 ∧ p.who = (w : Int) ∧ p.msg = (o : Int) ∧ s.ways o w = x :: r ∧ doM n s p = takeM n s o w) ∨
    (∃ w, w < n ∧ p.kind = 3 ∧ p.who = (w : Int) ∧ (s.pr w).st = 2 ∧ doM n s p = leaveM s w) := by
  obtain ⟨kd, wh, ms⟩ := p
  unfold codeM at h
  simp only at h
  split at h
  · omega
  · rename_i h1
    split at h
    · omega
    · rename_i h2
      have hw : inP n wh = true := by
        cases e : inP n wh with
        | true => rfl
        | false => exact absurd (.inl e) h2
      obtain ⟨w, hw1, rfl⟩ := in_of hw
      simp only [Int.toNat_natCast] at h
      split at h
      · rename_i h3
        subst h3
        have hm : inP n ms = true := by
          cases e : inP n ms with
          | true => rfl
          | false => exact absurd (.inr ⟨rfl, .inl e⟩) h2
        obtain ⟨o, ho, rfl⟩ := in_of hm
        simp only [Int.toNat_natCast] at h
        split at h
        · omega
        · rename_i h4
          cases hl : s.ways o w with
          | nil => exact absurd hl h4
          | cons x r =>
            refine .inr (.inl ⟨w, o, x, r, hw1, ho, fun e => h2 (.inr ⟨rfl, .inr (by rw [e])⟩), rfl, rfl, rfl, hl, ?_⟩)
            show (if (2 : Int) = 1 then _ else if (2 : Int) = 2 then _ else _) = _
            rw [if_neg (by omega), if_pos rfl]
            rfl
      · rename_i h3
        split at h
        · omega
        · rename_i h4
          have hst := s.pr w
          by_cases e1 : kd = 1
          · subst e1
            refine .inl ⟨w, hw1, rfl, rfl, Classical.byContradiction fun e => h4 (.inl ⟨rfl, e⟩), ?_⟩
            show (if (1 : Int) = 1 then _ else _) = _
            rw [if_pos rfl]
            rfl
          · have e3 : kd = 3 := by omega
            subst e3
            refine .inr (.inr ⟨w, hw1, rfl, rfl, Classical.byContradiction fun e => h4 (.inr ⟨rfl, e⟩), ?_⟩)
            show (if (3 : Int) = 1 then _ else if (3 : Int) = 2 then _ else _) = _
            rw [if_neg (by omega), if_neg (by omega)]
            rfl
theorem mb_do (hn : n ≤ 1000) (h : MB n k s) {p : Cst} (hc : codeM n s p = 0) : MB n (k + 1) (doM n s p) := by
  rcases code_zero hn hc with ⟨w, hw, _, _, hst, e⟩ | ⟨w, o, x, r, hw, ho, hne, _, _, _, hl, e⟩ | ⟨w, hw, _, _, hst, e⟩
  · rw [e]
    have hi := ask_inv h.inv hw hst
    unfold askM at hi ⊢
    obtain ⟨e1, e2, e3⟩ := enter_keep n (keysTo (askS s w) w ((s.pr w).num + 1) n) w
    obtain ⟨f1, f2⟩ := keysTo_pr (askS s w) w ((s.pr w).num + 1) n
    have hp : ∀ a, (askS s w).pr a = if a = w then ⟨(s.pr w).num + 1, 1, (s.pr w).num + 1, w, 0, (s.pr w).wait⟩ else s.pr a := fun a => rfl
    refine ⟨hi, fun a => ?_, fun a b y hy => ?_, fun a => ?_, fun a => ?_, ?_⟩
    · rw [(e2 a).1, f1, hp]
      split
      · have := h.num w; show (s.pr w).num + 1 ≤ _; omega
      · have := h.num a; omega
    · rw [e1, keysTo_ways] at hy
      split at hy
      · rw [List.mem_append] at hy
        rcases hy with hy | hy
        · have := h.way a b y hy; omega
        · have := h.num w; simp at hy; omega
      · have := h.way a b y hy; omega
    · rw [(e2 a).2.1, f1, hp]
      split
      · have := h.wait w; show (s.pr w).wait.length ≤ _; omega
      · have := h.wait a; omega
    · rw [(e2 a).2.2.1, f1, hp]
      split
      · exact Nat.zero_le _
      · have := h.yes a; omega
    · rw [f2] at e3
      have := h.ins
      have e4 : (askS s w).ins.length = s.ins.length := rfl
      omega
  · rw [e]
    have hx : x ≤ k := h.way o w x (by rw [hl]; simp)
    have hr : ∀ y, y ∈ r → y ≤ k := fun y hy => h.way o w y (by rw [hl]; exact List.mem_cons_of_mem _ hy)
    have hw2 : ∀ a b y, y ∈ (wayM s o w r).ways a b → y ≤ k := fun a b y hy => by
      have hy2 : y ∈ (if a = o ∧ b = w then r else s.ways a b) := hy
      split at hy2
      · exact hr y hy2
      · exact h.way a b y hy2
    by_cases hx0 : x = 0
    · subst hx0
      have et : takeM n s o w = enterM n (yesS (wayM s o w r) w) w := by unfold takeM; simp only [hl, if_true]
      have hi := take_yes_inv h.inv ho hw hne hl
      rw [et]
      obtain ⟨e1, e2, e3⟩ := enter_keep n (yesS (wayM s o w r) w) w
      have hp : ∀ a, (yesS (wayM s o w r) w).pr a = if a = w then { s.pr w with yes := (s.pr w).yes + 1 } else s.pr a := fun a => rfl
      refine ⟨hi, fun a => ?_, fun a b y hy => ?_, fun a => ?_, fun a => ?_, ?_⟩
      · rw [(e2 a).1, hp]
        split
        · exact Nat.le_succ_of_le (h.num w)
        · exact Nat.le_succ_of_le (h.num a)
      · rw [e1] at hy; exact Nat.le_succ_of_le (hw2 a b y hy)
      · rw [(e2 a).2.1, hp]
        split
        · exact Nat.le_succ_of_le (h.wait w)
        · exact Nat.le_succ_of_le (h.wait a)
      · rw [(e2 a).2.2.1, hp]
        split
        · exact Nat.succ_le_succ (h.yes w)
        · exact Nat.le_succ_of_le (h.yes a)
      · have := h.ins
        have e4 : (yesS (wayM s o w r) w).ins.length = s.ins.length := rfl
        omega
    · have et : takeM n s o w = answerM (wayM s o w r) w x o := by unfold takeM; simp only [hl]; rw [if_neg hx0]
      have hi := take_key_inv h.inv ho hw hne hl hx0
      rw [et]
      refine ⟨hi, ?_, ?_, ?_, ?_, ?_⟩ <;> unfold answerM <;> by_cases hB : holdB ((wayM s o w r).pr w) x o = true
      · rw [if_pos hB]
        intro a
        show ((if a = w then { s.pr w with num := max (s.pr w).num x, wait := (s.pr w).wait ++ [o] } else s.pr a) : Pr).num ≤ _
        split
        · have := h.num w; show max (s.pr w).num x ≤ _; omega
        · exact Nat.le_succ_of_le (h.num a)
      · rw [if_neg hB]
        intro a
        show ((if a = w then { s.pr w with num := max (s.pr w).num x } else s.pr a) : Pr).num ≤ _
        split
        · have := h.num w; show max (s.pr w).num x ≤ _; omega
        · exact Nat.le_succ_of_le (h.num a)
      · rw [if_pos hB]
        intro a b y hy
        exact Nat.le_succ_of_le (hw2 a b y hy)
      · rw [if_neg hB]
        intro a b y hy
        have hy2 : y ∈ (if a = w ∧ b = o then (wayM s o w r).ways w o ++ [0] else (wayM s o w r).ways a b) := hy
        split at hy2
        · rw [List.mem_append] at hy2
          rcases hy2 with hy2 | hy2
          · exact Nat.le_succ_of_le (hw2 w o y hy2)
          · simp at hy2; omega
        · exact Nat.le_succ_of_le (hw2 a b y hy2)
      · rw [if_pos hB]
        intro a
        show ((if a = w then { s.pr w with num := max (s.pr w).num x, wait := (s.pr w).wait ++ [o] } else s.pr a) : Pr).wait.length ≤ _
        split
        · have := h.wait w; show ((s.pr w).wait ++ [o]).length ≤ _; simp; omega
        · exact Nat.le_succ_of_le (h.wait a)
      · rw [if_neg hB]
        intro a
        show ((if a = w then { s.pr w with num := max (s.pr w).num x } else s.pr a) : Pr).wait.length ≤ _
        split
        · exact Nat.le_succ_of_le (h.wait w)
        · exact Nat.le_succ_of_le (h.wait a)
      · rw [if_pos hB]
        intro a
        show ((if a = w then { s.pr w with num := max (s.pr w).num x, wait := (s.pr w).wait ++ [o] } else s.pr a) : Pr).yes ≤ _
        split
        · exact Nat.le_succ_of_le (h.yes w)
        · exact Nat.le_succ_of_le (h.yes a)
      · rw [if_neg hB]
        intro a
        show ((if a = w then { s.pr w with num := max (s.pr w).num x } else s.pr a) : Pr).yes ≤ _
        split
        · exact Nat.le_succ_of_le (h.yes w)
        · exact Nat.le_succ_of_le (h.yes a)
      · rw [if_pos hB]; exact Nat.le_succ_of_le h.ins
      · rw [if_neg hB]; exact Nat.le_succ_of_le h.ins
  · rw [e]
    have hi := leave_inv h.inv hw hst
    have hpr := yesesTo_pr w (s.pr w).wait (outS s w)
    have hP : ∀ a, (leaveM s w).pr a = if a = w then { s.pr w with st := 0, wait := [] } else s.pr a := by
      intro a
      show upd1 (yesesTo (outS s w) w (s.pr w).wait).pr w { (yesesTo (outS s w) w (s.pr w).wait).pr w with wait := [] } a = _
      rw [upd1_ite, hpr.1]
      split
      · show { (upd1 s.pr w { s.pr w with st := 0 }) w with wait := [] } = _; rw [upd1_same]
      · rename_i e2; show upd1 s.pr w _ a = _; rw [upd1_other _ _ e2]
    have hW : ∀ a b, (leaveM s w).ways a b = if a = w then s.ways a b ++ List.replicate (wc (s.pr w).wait b) 0 else s.ways a b := fun a b => yesesTo_ways w a b _ _
    refine ⟨hi, fun a => ?_, fun a b y hy => ?_, fun a => ?_, fun a => ?_, ?_⟩
    · rw [hP]; split
      · exact Nat.le_succ_of_le (h.num w)
      · exact Nat.le_succ_of_le (h.num a)
    · rw [hW] at hy
      split at hy
      · rw [List.mem_append, List.mem_replicate] at hy
        rcases hy with hy | hy
        · exact Nat.le_succ_of_le (h.way a b y hy)
        · omega
      · exact Nat.le_succ_of_le (h.way a b y hy)
    · rw [hP]; split
      · exact Nat.zero_le _
      · exact Nat.le_succ_of_le (h.wait a)
    · rw [hP]; split
      · exact Nat.le_succ_of_le (h.yes w)
      · exact Nat.le_succ_of_le (h.yes a)
    · have e4 : (leaveM s w).ins = s.ins := hpr.2
      rw [e4]; exact Nat.le_succ_of_le h.ins
theorem mb_step (hn : n ≤ 1000) (h : MB n k s) (p : Cst) : MB n (k + 1) (stepM n s p) := by
  unfold stepM
  split
  · rename_i hc; exact mb_do hn h hc
  · exact h.up
theorem mb_at (hn : n ≤ 1000) (ps : List Cst) : ∀ k, MB n k (msAt n ps k)
  | 0 => ⟨minv0 n, fun _ => Nat.le_refl _, fun _ _ _ h => by simp [msAt, ms0] at h, fun _ => Nat.le_refl _, fun _ => Nat.le_refl _, Nat.le_refl _⟩
  | k + 1 => by
    show MB n (k + 1) (match ps[k]? with | some p => stepM n (msAt n ps k) p | none => msAt n ps k)
    split
    · exact mb_step hn (mb_at hn ps k) _
    · exact (mb_at hn ps k).up
end Go.Proofs.Ytaojmbebkggafaa
