/- The bakery: laws, plain. -/
import Derived.Test.YtgnigjfgddhgiaaBa0
import Derived.Test.YtgnigjfgddhgiaaCb2n
namespace Go.Proofs.Ytgnigjfgddhgiaa
set_option linter.unusedVariables false

variable {n t : Nat} {s : BS}
theorem bsat_same (n : Nat) (ps qs : List Int) : ∀ k, (∀ j, j < k → ps[j]? = qs[j]?) → bsAt n ps k = bsAt n qs k
  | 0, _ => rfl
  | k + 1, h => by
    show (match ps[k]? with | some p => stepB n (bsAt n ps k) p | none => bsAt n ps k) = (match qs[k]? with | some p => stepB n (bsAt n qs k) p | none => bsAt n qs k)
    rw [h k (by omega), bsat_same n ps qs k (fun j hj => h j (by omega))]
theorem bc_same (n : Nat) (ps qs : List Int) (k : Nat) (h : ∀ j, j ≤ k → ps[j]? = qs[j]?) : bcAt n ps k = bcAt n qs k := by
  unfold bcAt
  rw [h k (Nat.le_refl _)]
theorem takeB_same (ps : List Int) (m : Nat) : ∀ j, j < m → (ps.take m)[j]? = ps[j]? := fun j hj => by rw [List.getElem?_take, if_pos hj]
/-- What a move adds to those who went in. -/
theorem ins_act (n : Nat) (s : BS) (i : Nat) : (actB n s i).ins = s.ins ∨ (actB n s i).ins = s.ins ++ [i] := by
  unfold actB
  split
  · exact .inl rfl
  split
  · unfold drawB; split <;> exact .inl rfl
  split
  · exact .inl rfl
  split
  · unfold meetB; split
    · exact .inr rfl
    · split <;> exact .inl rfl
  split
  · unfold yieldB; split <;> exact .inl rfl
  · exact .inl rfl
theorem ins_preB (n : Nat) (ps : List Int) (k : Nat) : ∀ j, ∃ r, (bsAt n ps (k + j)).ins = (bsAt n ps k).ins ++ r
  | 0 => ⟨[], by simp⟩
  | j + 1 => by
    obtain ⟨r, hr⟩ := ins_preB n ps k j
    show ∃ r, (match ps[k + j]? with | some p => stepB n (bsAt n ps (k + j)) p | none => bsAt n ps (k + j)).ins = _
    split
    · rename_i p _
      unfold stepB
      split
      · rcases ins_act n (bsAt n ps (k + j)) p.toNat with h | h
        · exact ⟨r, by rw [h, hr]⟩
        · exact ⟨r ++ [p.toNat], by rw [h, hr, List.append_assoc]⟩
      · exact ⟨r, hr⟩
    · exact ⟨r, hr⟩

/-- How many of the first k are in. -/
def cntB (s : BS) : Nat → Nat
  | 0 => 0
  | k + 1 => if (s.pr k).pl = 5 then cntB s k + 1 else cntB s k
theorem cntB_none (s : BS) : ∀ k, (∀ j, j < k → (s.pr j).pl ≠ 5) → cntB s k = 0
  | 0, _ => rfl
  | k + 1, h => by
    unfold cntB
    rw [if_neg (h k (by omega))]
    exact cntB_none s k (fun j hj => h j (by omega))
theorem cntB_one (h : BInv n t s) : ∀ k, k ≤ n → cntB s k ≤ 1
  | 0, _ => by simp [cntB]
  | k + 1, hk => by
    unfold cntB
    split
    · rename_i e
      rw [cntB_none s k (fun j hj e2 => by have := in_one h (show j < n by omega) (show k < n by omega) e2 e; omega)]
      omega
    · exact cntB_one h k (by omega)
theorem cntB_le (s : BS) : ∀ k, cntB s k ≤ k
  | 0 => Nat.le_refl _
  | k + 1 => by
    have := cntB_le s k
    unfold cntB
    split <;> omega

/-- One goes in ahead of another one. -/
structure FQ (i j : Nat) (p q : Pb) : Prop where
  a : p.pl = 3 ∨ p.pl = 4
  b : q.pl ≠ 5
  c : q.pl = 1 → i < q.k → p.tk ≤ q.m
  d : 2 ≤ q.pl → kl i j p q
  e : q.pl = 3 ∨ q.pl = 4 → q.k ≤ i
theorem fq_act (h : BInv n t s) {i j w : Nat} (hi : i < n) (hj : j < n) (hij : i ≠ j) (hw : w < n) (f : FQ i j (s.pr i) (s.pr j)) :
    (FQ i j ((actB n s w).pr i) ((actB n s w).pr j) ∧ ((actB n s w).ins = s.ins ∨ ((actB n s w).ins = s.ins ++ [w] ∧ w ≠ i ∧ w ≠ j))) ∨ (actB n s w).ins = s.ins ++ [i] := by
  obtain ⟨fa, fb, fc, fd, fe⟩ := f
  by_cases ewi : w = i
  · subst ewi
    have hq : ∀ p l, (⟨upd1 s.pr w p, l⟩ : BS).pr j = s.pr j := fun p l => upd1_other _ _ (Ne.symm hij)
    have hp : ∀ p l, (⟨upd1 s.pr w p, l⟩ : BS).pr w = p := fun p l => upd1_same _ _ _
    unfold actB
    rw [if_neg (by omega), if_neg (by omega), if_neg (by omega)]
    split
    · rename_i e3
      unfold meetB
      split
      · exact .inr rfl
      · split
        · exact .inl ⟨⟨fa, fb, fc, fd, fe⟩, .inl rfl⟩
        · left
          refine ⟨?_, .inl rfl⟩
          unfold setB
          rw [hp, hq]
          exact ⟨.inr rfl, fb, fc, fd, fe⟩
    · rename_i e3
      rw [if_pos (by omega)]
      unfold yieldB
      split
      · exact .inl ⟨⟨fa, fb, fc, fd, fe⟩, .inl rfl⟩
      · left
        refine ⟨?_, .inl rfl⟩
        unfold setB
        rw [hp, hq]
        exact ⟨.inl rfl, fb, fc, fd, fe⟩
  · by_cases ewj : w = j
    · subst ewj
      have hq : ∀ p l, (⟨upd1 s.pr w p, l⟩ : BS).pr i = s.pr i := fun p l => upd1_other _ _ hij
      have hp : ∀ p l, (⟨upd1 s.pr w p, l⟩ : BS).pr w = p := fun p l => upd1_same _ _ _
      obtain ⟨o1, o2, o3, o4, o5, o6, o7, o8⟩ := h.own w hw
      obtain ⟨i1, i2, i3, i4, i5, i6, i7, i8⟩ := h.own i hi
      left
      unfold actB
      split
      · refine ⟨?_, .inl rfl⟩
        unfold chooseB setB
        rw [hp, hq]
        exact ⟨fa, by simp, fun _ x => by simp at x, fun x => by simp at x, fun x => by simp at x⟩
      split
      · rename_i e0 e1
        unfold drawB
        split
        · rename_i ek
          refine ⟨?_, .inl rfl⟩
          unfold setB
          rw [hp, hq]
          refine ⟨fa, by simp, fun x => by simp at x, fun _ => ?_, fun x => by simp at x⟩
          have := fc e1 (by omega)
          left
          show (s.pr i).tk < (s.pr w).m + 1
          omega
        · rename_i ek
          refine ⟨?_, .inl rfl⟩
          unfold setB
          rw [hp, hq]
          refine ⟨fa, by simp only; omega, fun _ x => ?_, fun x => by simp only at x; omega, fun x => by simp only at x; omega⟩
          show (s.pr i).tk ≤ max (s.pr w).m (s.pr (s.pr w).k).tk
          have x2 : i < (s.pr w).k + 1 := x
          by_cases ei : i = (s.pr w).k
          · rw [← ei]; omega
          · have := fc e1 (by omega); omega
      split
      · rename_i e0 e1 e2
        refine ⟨?_, .inl rfl⟩
        unfold showB setB
        rw [hp, hq]
        exact ⟨fa, by simp, fun x => by simp at x, fun _ => fd (by omega), fun _ => Nat.zero_le _⟩
      split
      · rename_i e0 e1 e2 e3
        have hk := fe (.inl e3)
        unfold meetB
        rw [if_neg (by omega)]
        split
        · exact ⟨⟨fa, fb, fc, fd, fe⟩, .inl rfl⟩
        · refine ⟨?_, .inl rfl⟩
          unfold setB
          rw [hp, hq]
          exact ⟨fa, by simp, fun x => by simp at x, fun _ => fd (by omega), fun _ => hk⟩
      split
      · rename_i e0 e1 e2 e3 e4
        have hk := fe (.inr e4)
        unfold yieldB
        split
        · exact ⟨⟨fa, fb, fc, fd, fe⟩, .inl rfl⟩
        · rename_i eb
          refine ⟨?_, .inl rfl⟩
          unfold setB
          rw [hp, hq]
          refine ⟨fa, by simp, fun x => by simp at x, fun _ => fd (by omega), fun _ => ?_⟩
          show (s.pr w).k + 1 ≤ i
          by_cases ek : (s.pr w).k = i
          · exfalso
            unfold barB blt at eb
            simp only [Bool.and_eq_true, decide_eq_true_iff] at eb
            rw [ek] at eb
            have h1 := i7 (by omega)
            have h2 := fd (by omega)
            unfold kl at h2
            omega
          · omega
      · exact absurd (show (s.pr w).pl = 5 by omega) fb
    · left
      have hk : (actB n s w).pr i = s.pr i ∧ (actB n s w).pr j = s.pr j := by
        have hu : ∀ p l, (⟨upd1 s.pr w p, l⟩ : BS).pr i = s.pr i ∧ (⟨upd1 s.pr w p, l⟩ : BS).pr j = s.pr j := fun p l => ⟨upd1_other _ _ (Ne.symm ewi), upd1_other _ _ (Ne.symm ewj)⟩
        unfold actB
        split
        · exact hu _ _
        split
        · unfold drawB; split <;> exact hu _ _
        split
        · exact hu _ _
        split
        · unfold meetB; split
          · exact hu _ _
          · split
            · exact ⟨rfl, rfl⟩
            · exact hu _ _
        split
        · unfold yieldB; split
          · exact ⟨rfl, rfl⟩
          · exact hu _ _
        · exact hu _ _
      rw [hk.1, hk.2]
      refine ⟨⟨fa, fb, fc, fd, fe⟩, ?_⟩
      rcases ins_act n s w with e | e
      · exact .inl e
      · exact .inr ⟨e, ewi, ewj⟩
/-- What came behind: neither of the two, or the one ahead of the other. -/
def Ahead (i j : Nat) (r : List Nat) : Prop := ∃ a c, r = a ++ i :: c ∧ i ∉ a ∧ j ∉ a
theorem first_at {zs : List Int} {i j k : Nat} (hi : i < n) (hj : j < n) (hij : i ≠ j) (h1 : ((bsAt n zs k).pr i).pl = 3 ∨ ((bsAt n zs k).pr i).pl = 4) (h2 : ((bsAt n zs k).pr j).pl = 0) :
    ∀ d, ∃ r, (bsAt n zs (k + d)).ins = (bsAt n zs k).ins ++ r ∧ ((i ∉ r ∧ j ∉ r ∧ FQ i j ((bsAt n zs (k + d)).pr i) ((bsAt n zs (k + d)).pr j)) ∨ Ahead i j r)
  | 0 => ⟨[], by simp, .inl ⟨by simp, by simp, ⟨h1, by rw [Nat.add_zero]; omega, fun x => by rw [Nat.add_zero] at x; omega, fun x => by rw [Nat.add_zero] at x; omega, fun x => by rw [Nat.add_zero] at x; omega⟩⟩⟩
  | d + 1 => by
    obtain ⟨r, hr, h⟩ := first_at hi hj hij h1 h2 d
    show ∃ r, (match zs[k + d]? with | some p => stepB n (bsAt n zs (k + d)) p | none => bsAt n zs (k + d)).ins = _ ∧ ((i ∉ r ∧ j ∉ r ∧ FQ i j ((match zs[k + d]? with | some p => stepB n (bsAt n zs (k + d)) p | none => bsAt n zs (k + d)).pr i) ((match zs[k + d]? with | some p => stepB n (bsAt n zs (k + d)) p | none => bsAt n zs (k + d)).pr j)) ∨ Ahead i j r)
    cases zs[k + d]? with
    | none => exact ⟨r, hr, h⟩
    | some z =>
      simp only
      unfold stepB
      split
      · rename_i hz
        have hw := (inP_nat hz).2
        have hb := binv_at n zs (k + d)
        generalize bsAt n zs (k + d) = S at *
        rcases h with ⟨n1, n2, f⟩ | ⟨a, c, e, n1, n2⟩
        · rcases fq_act hb hi hj hij hw f with ⟨f2, e | ⟨e, w1, w2⟩⟩ | e
          · exact ⟨r, by rw [e, hr], .inl ⟨n1, n2, f2⟩⟩
          · refine ⟨r ++ [z.toNat], by rw [e, hr, List.append_assoc], .inl ⟨?_, ?_, f2⟩⟩
            · simp only [List.mem_append, List.mem_singleton, not_or]; exact ⟨n1, Ne.symm w1⟩
            · simp only [List.mem_append, List.mem_singleton, not_or]; exact ⟨n2, Ne.symm w2⟩
          · exact ⟨r ++ [i], by rw [e, hr, List.append_assoc], .inr ⟨r, [], rfl, n1, n2⟩⟩
        · rcases ins_act n S z.toNat with e2 | e2
          · exact ⟨r, by rw [e2, hr], .inr ⟨a, c, e, n1, n2⟩⟩
          · exact ⟨r ++ [z.toNat], by rw [e2, hr, List.append_assoc], .inr ⟨a, c ++ [z.toNat], by rw [e]; simp, n1, n2⟩⟩
      · exact ⟨r, hr, h⟩
theorem posI_none' {xs : List Int} {x : Int} (h : x ∉ xs) : posI xs x = -1 := posI_none h
theorem ahead_pos {i j : Nat} {r : List Nat} (hij : i ≠ j) (h : Ahead i j r) : posI (natsI r) (j : Int) < 0 ∨ (0 ≤ posI (natsI r) (i : Int) ∧ posI (natsI r) (i : Int) < posI (natsI r) (j : Int)) := by
  obtain ⟨a, c, rfl, n1, n2⟩ := h
  by_cases hm : (j : Int) ∈ natsI (a ++ i :: c)
  · right
    have hpi : posI (natsI (a ++ i :: c)) (i : Int) = (a.length : Int) := by
      refine posI_hit (by simp [natsI]) (fun q hq e => ?_)
      have : (natsI a)[q]? = some (i : Int) := by
        rw [natsI_app] at e
        rwa [List.getElem?_append_left (by rw [natsI_len]; exact hq)] at e
      obtain ⟨m, hm1, hm2⟩ := natsI_back this
      have : m = i := by omega
      subst this
      exact n1 (List.mem_of_getElem? hm1)
    rw [hpi]
    refine ⟨by omega, ?_⟩
    unfold posI
    cases hf : (natsI (a ++ i :: c)).findIdx? (fun y => y == (j : Int)) with
    | none =>
      rw [List.findIdx?_eq_none_iff] at hf
      have := hf _ hm
      simp at this
    | some q =>
      simp only
      rw [List.findIdx?_eq_some_iff_getElem] at hf
      obtain ⟨hl, hv, _⟩ := hf
      have hv2 : (natsI (a ++ i :: c))[q]? = some (j : Int) := by rw [List.getElem?_eq_getElem hl]; simpa using hv
      obtain ⟨m, hm1, hm2⟩ := natsI_back hv2
      have hmj : m = j := by omega
      subst hmj
      have : ¬ q < a.length := fun hq => by
        rw [List.getElem?_append_left hq] at hm1
        exact n2 (List.mem_of_getElem? hm1)
      have : q ≠ a.length := fun hq => by
        subst hq
        simp at hm1
        exact hij hm1
      omega
  · left
    rw [posI_none hm]
    decide

/-- How many steps of its own lead one in, if no other one wants in. -/
def remB (n : Nat) (p : Pb) : Nat := if p.pl = 0 then 3 * n + 4 else if p.pl = 1 then 3 * n + 3 - p.k else if p.pl = 2 then 2 * n + 2 else if p.pl = 3 then 2 * n + 1 - 2 * p.k else if p.pl = 4 then 2 * n - 2 * p.k else 3 * n + 5
def Solo (n : Nat) (s : BS) (i : Nat) : Prop := ∀ p, p < n → p ≠ i → (s.pr p).pl = 0
theorem rem_pos {p : Pb} (h : Own n t p) : 1 ≤ remB n p ∧ remB n p ≤ 3 * n + 5 := by
  have := h.k
  have := h.k4
  unfold remB
  repeat' split
  all_goals omega
theorem solo_keep {i : Nat} (hs : Solo n s i) (p : Pb) (l : List Nat) : Solo n ⟨upd1 s.pr i p, l⟩ i := fun q hq e => by
  show (upd1 s.pr i p q).pl = 0
  rw [upd1_other _ _ e]
  exact hs q hq e
theorem solo_act (h : BInv n t s) {i : Nat} (hi : i < n) (hs : Solo n s i) :
    Solo n (actB n s i) i ∧ ((remB n ((actB n s i).pr i) + 1 = remB n (s.pr i) ∧ (actB n s i).ins = s.ins) ∨ (actB n s i).ins = s.ins ++ [i]) := by
  obtain ⟨o1, o2, o3, o4, o5, o6, o7, o8⟩ := h.own i hi
  have hp : ∀ p l, (⟨upd1 s.pr i p, l⟩ : BS).pr i = p := fun p l => upd1_same _ _ _
  have hch : ∀ p, p < n → (s.pr i).pl ≠ 1 → (s.pr i).pl ≠ 2 → (s.pr p).ch = false := fun p hpn a1 a2 => by
    by_cases e : p = i
    · subst e
      cases hc : (s.pr p).ch with
      | false => rfl
      | true => have := o5.1 hc; omega
    · cases hc : (s.pr p).ch with
      | false => rfl
      | true => have := (h.own p hpn).ch.1 hc; have := hs p hpn e; omega
  have htk : ∀ p, p < n → p ≠ i → (s.pr p).tk = 0 := fun p hpn e => (h.own p hpn).t0 (by rw [hs p hpn e]; omega)
  unfold actB
  split
  · rename_i e
    refine ⟨solo_keep hs _ _, .inl ⟨?_, rfl⟩⟩
    unfold chooseB setB; rw [hp]
    simp [remB, e]
  split
  · rename_i e0 e
    unfold drawB
    split
    · rename_i ek
      refine ⟨solo_keep hs _ _, .inl ⟨?_, rfl⟩⟩
      unfold setB; rw [hp]
      simp [remB, e]
      omega
    · rename_i ek
      refine ⟨solo_keep hs _ _, .inl ⟨?_, rfl⟩⟩
      unfold setB; rw [hp]
      simp [remB, e]
      omega
  split
  · rename_i e0 e1 e
    refine ⟨solo_keep hs _ _, .inl ⟨?_, rfl⟩⟩
    unfold showB setB; rw [hp]
    simp [remB, e]
  split
  · rename_i e0 e1 e2 e
    unfold meetB
    split
    · exact ⟨solo_keep hs _ _, .inr rfl⟩
    · rename_i ek
      rw [if_neg (by rw [hch (s.pr i).k (by omega) e1 e2]; simp)]
      refine ⟨solo_keep hs _ _, .inl ⟨?_, rfl⟩⟩
      unfold setB; rw [hp]
      simp [remB, e]
      omega
  split
  · rename_i e0 e1 e2 e3 e
    have hk := o8 e
    unfold yieldB
    rw [if_neg (by
      unfold barB blt
      simp only [Bool.and_eq_true, decide_eq_true_iff]
      by_cases ei : (s.pr i).k = i
      · rw [ei]; omega
      · rw [htk _ hk ei]; omega)]
    refine ⟨solo_keep hs _ _, .inl ⟨?_, rfl⟩⟩
    unfold setB; rw [hp]
    simp [remB, e]
    omega
  · rename_i e0 e1 e2 e3 e4
    refine ⟨solo_keep hs _ _, .inl ⟨?_, rfl⟩⟩
    unfold leaveB setB; rw [hp]
    simp [remB, e0, e1, e2, e3, e4]
/-- The script of the law, so far. -/
def soloZ (zs : List Int) (i : Nat) (q : Nat) : List Int := zs ++ List.replicate q (i : Int)
theorem soloZ_len (zs : List Int) (i q : Nat) : (soloZ zs i q).length = zs.length + q := by simp [soloZ]
theorem soloZ_succ (zs : List Int) (i q : Nat) : soloZ zs i (q + 1) = soloZ zs i q ++ [(i : Int)] := by
  unfold soloZ
  rw [List.replicate_succ', List.append_assoc]
theorem solo_run {zs : List Int} {i q : Nat} (hi : i < n) (hs : Solo n (bsAt n zs zs.length) i) : ∀ d, d ≤ q →
    Solo n (bsAt n (soloZ zs i q) (zs.length + d)) i ∧ ((remB n ((bsAt n (soloZ zs i q) (zs.length + d)).pr i) + d = remB n ((bsAt n zs zs.length).pr i) ∧ (bsAt n (soloZ zs i q) (zs.length + d)).ins = (bsAt n zs zs.length).ins) ∨
      ∃ r, (bsAt n (soloZ zs i q) (zs.length + d)).ins = (bsAt n zs zs.length).ins ++ i :: r)
  | 0, _ => by
    have e : bsAt n (soloZ zs i q) (zs.length + 0) = bsAt n zs zs.length := bsat_same n _ _ _ (fun j hj => by unfold soloZ; exact List.getElem?_append_left (by omega))
    rw [e]
    exact ⟨hs, .inl ⟨rfl, rfl⟩⟩
  | d + 1, hd => by
    obtain ⟨h1, h2⟩ := solo_run (q := q) hi hs d (by omega)
    have hz : (soloZ zs i q)[zs.length + d]? = some (i : Int) := by
      unfold soloZ
      rw [List.getElem?_append_right (Nat.le_add_right _ _), Nat.add_sub_cancel_left, List.getElem?_replicate, if_pos (by omega)]
    have e : bsAt n (soloZ zs i q) (zs.length + (d + 1)) = actB n (bsAt n (soloZ zs i q) (zs.length + d)) i := by
      show (match (soloZ zs i q)[zs.length + d]? with | some p => stepB n (bsAt n (soloZ zs i q) (zs.length + d)) p | none => bsAt n (soloZ zs i q) (zs.length + d)) = _
      rw [hz]
      show stepB n _ (i : Int) = _
      unfold stepB
      rw [if_pos (by simp [inP]; omega)]
      rfl
    rw [e]
    have hb := binv_at n (soloZ zs i q) (zs.length + d)
    obtain ⟨h3, h4⟩ := solo_act hb hi h1
    refine ⟨h3, ?_⟩
    rcases h2 with ⟨a, b⟩ | ⟨r, b⟩
    · rcases h4 with ⟨c, f⟩ | f
      · exact .inl ⟨by omega, by rw [f, b]⟩
      · exact .inr ⟨[], by rw [f, b]⟩
    · right
      rcases ins_act n (bsAt n (soloZ zs i q) (zs.length + d)) i with f | f
      · exact ⟨r, by rw [f, b]⟩
      · exact ⟨r ++ [i], by rw [f, b]; simp⟩
theorem solo_in {zs : List Int} {i : Nat} (hi : i < n) (hs : Solo n (bsAt n zs zs.length) i) : ∃ r, (bsAt n (soloZ zs i (3 * n + 6)) (zs.length + (3 * n + 6))).ins = (bsAt n zs zs.length).ins ++ i :: r := by
  obtain ⟨_, h⟩ := solo_run (q := 3 * n + 6) hi hs (3 * n + 6) (Nat.le_refl _)
  rcases h with ⟨a, _⟩ | h
  · have := rem_pos ((binv_at n zs zs.length).own i hi)
    omega
  · exact h
end Go.Proofs.Ytgnigjfgddhgiaa
