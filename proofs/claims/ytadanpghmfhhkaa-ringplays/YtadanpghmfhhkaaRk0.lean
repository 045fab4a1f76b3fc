/- The document's Ring is the program's: plain. -/
import Derived.Test.YtadanpghmfhhkaaRh1
namespace Go.Proofs.Ytadanpghmfhhkaa
set_option linter.unusedVariables false

/-- Who takes part; of each name that was sent: to whom, which, whether it has come; who was chosen; the codes. -/
structure DS where
  part : Nat → Bool
  dst : List Nat
  wh : List Int
  cm : List Bool
  ch : List Nat
  cds : List Int
def ds0 : DS := ⟨fun _ => false, [], [], [], [], []⟩
def hitD (dst : List Nat) (cm : List Bool) (i k : Nat) : Bool := decide (dst[k]? = some i) && decide (cm[k]? = some false)
/-- The search from behind, d places done. -/
def seekD (dst : List Nat) (cm : List Bool) (i : Nat) : Nat → Int
  | 0 => -1
  | d + 1 => if hitD dst cm i (dst.length - 1 - d) = true then ((dst.length - 1 - d : Nat) : Int) else seekD dst cm i d
def atD (st : DS) (i : Nat) : Int := seekD st.dst st.cm i st.dst.length
def codeD (n : Nat) (st : DS) (p : Tu) : Int :=
  if p.kind ≠ 1 ∧ p.kind ≠ 2 then 4
  else if inP n p.who = false then 2
  else if p.kind = 1 then (if st.part p.who.toNat = true then 6 else 0)
  else if atD st p.who.toNat < 0 then 5 else 0
/-- What comes, if anything does. -/
def getD' (st : DS) (i : Nat) : Int := st.wh.getD (atD st i).toNat 0
def sndD (n : Nat) (nm : Nat → Int) (st : DS) (p : Tu) : Bool :=
  if codeD n st p ≠ 0 then false
  else if p.kind = 1 then true
  else if getD' st p.who.toNat = nm p.who.toNat then false
  else if nm p.who.toNat < getD' st p.who.toNat then true
  else !st.part p.who.toNat
def nameD (n : Nat) (nm : Nat → Int) (st : DS) (p : Tu) : Int :=
  if p.kind ≠ 1 ∧ p.kind ≠ 2 then 0
  else if inP n p.who = false then 0
  else if p.kind = 1 then nm p.who.toNat
  else if atD st p.who.toNat < 0 then 0
  else if getD' st p.who.toNat = nm p.who.toNat then getD' st p.who.toNat
  else if nm p.who.toNat < getD' st p.who.toNat then getD' st p.who.toNat
  else if st.part p.who.toNat = true then getD' st p.who.toNat else nm p.who.toNat
def comeD (st : DS) (k : Nat) : DS := { st with cm := st.cm.set k true }
def chosD (st : DS) (i : Nat) : DS := { st with ch := st.ch ++ [i] }
/-- Behind the chain of cases. -/
def midD (n : Nat) (nm : Nat → Int) (st : DS) (p : Tu) : DS :=
  if codeD n st p ≠ 0 then st
  else if p.kind = 1 then st
  else if getD' st p.who.toNat = nm p.who.toNat then chosD (comeD st (atD st p.who.toNat).toNat) p.who.toNat
  else comeD st (atD st p.who.toNat).toNat
def partD (st : DS) (i : Nat) : DS := { st with part := upd1 st.part i true }
def addD (st : DS) (t : Nat) (x : Int) : DS := { st with dst := st.dst ++ [t], wh := st.wh ++ [x], cm := st.cm ++ [false] }
def lastD (st : DS) (e : Int) : DS := { st with cds := st.cds ++ [e] }
def stepD (n : Nat) (nm : Nat → Int) (st : DS) (p : Tu) : DS :=
  lastD (if sndD n nm st p = true then addD (partD (midD n nm st p) p.who.toNat) (nx n p.who.toNat) (nameD n nm st p) else midD n nm st p) (codeD n st p)
def dsAt (n : Nat) (nm : Nat → Int) (ps : List Tu) : Nat → DS
  | 0 => ds0
  | k + 1 => match ps[k]? with
    | some p => stepD n nm (dsAt n nm ps k) p
    | none => dsAt n nm ps k
def pendL : List Nat → List Int → List Bool → Nat → List Int
  | t :: ts, x :: xs, c :: cs, i => if t = i ∧ c = false then x :: pendL ts xs cs i else pendL ts xs cs i
  | _, _, _, _ => []
def cntF : List Bool → Nat
  | [] => 0
  | c :: cs => cntF cs + if c = true then 0 else 1

theorem cntF_append (a b : List Bool) : cntF (a ++ b) = cntF a + cntF b := by
  induction a with
  | nil => simp [cntF]
  | cons x xs ih => simp only [List.cons_append, cntF, ih]; omega
theorem cntF_set : ∀ (l : List Bool) (k : Nat), l[k]? = some false → cntF (l.set k true) + 1 = cntF l
  | [], k, h => by simp at h
  | c :: cs, 0, h => by
    simp at h
    subst h
    simp [cntF]
  | c :: cs, k + 1, h => by
    have := cntF_set cs k (by simpa using h)
    simp only [List.set_cons_succ, cntF]
    omega
theorem pend_append : ∀ (dst : List Nat) (wh : List Int) (cm : List Bool) (t : Nat) (x : Int) (i : Nat), wh.length = dst.length → cm.length = dst.length →
    pendL (dst ++ [t]) (wh ++ [x]) (cm ++ [false]) i = if t = i then pendL dst wh cm i ++ [x] else pendL dst wh cm i
  | [], [], [], t, x, i, _, _ => by simp [pendL]
  | a :: ts, b :: xs, c :: cs, t, x, i, h1, h2 => by
    have := pend_append ts xs cs t x i (by simpa using h1) (by simpa using h2)
    simp only [List.cons_append, pendL, this]
    by_cases e : t = i
    · simp only [if_pos e]
      split <;> simp
    · simp only [if_neg e]
  | [], b :: xs, _, _, _, _, h, _ => by simp at h
  | [], [], c :: cs, _, _, _, _, h => by simp at h
  | a :: ts, [], _, _, _, _, h, _ => by simp at h
  | a :: ts, b :: xs, [], _, _, _, _, h => by simp at h
theorem hit_cons (a : Nat) (ts : List Nat) (c : Bool) (cs : List Bool) (i k : Nat) : hitD (a :: ts) (c :: cs) i (k + 1) = hitD ts cs i k := rfl
theorem pend_none : ∀ (dst : List Nat) (wh : List Int) (cm : List Bool) (i : Nat), wh.length = dst.length → cm.length = dst.length → (∀ k, k < dst.length → hitD dst cm i k = false) → pendL dst wh cm i = []
  | [], wh, cm, i, h1, h2, h => by
    cases wh <;> cases cm <;> simp_all [pendL]
  | a :: ts, b :: xs, c :: cs, i, h1, h2, h => by
    have h0 := h 0 (by simp)
    simp only [hitD, List.getElem?_cons_zero, Option.some.injEq, Bool.and_eq_false_iff, decide_eq_false_iff_not] at h0
    simp only [pendL]
    rw [if_neg (fun e => by rcases h0 with h0 | h0; exact h0 e.1; exact h0 e.2)]
    exact pend_none ts xs cs i (by simpa using h1) (by simpa using h2) (fun k hk => by rw [← hit_cons a ts c cs]; exact h (k + 1) (by simpa using hk))
  | a :: ts, [], _, _, h1, _, _ => by simp at h1
  | a :: ts, b :: xs, [], _, _, h2, _ => by simp at h2
theorem pend_first : ∀ (dst : List Nat) (wh : List Int) (cm : List Bool) (i k : Nat), wh.length = dst.length → cm.length = dst.length → hitD dst cm i k = true → (∀ q, q < k → hitD dst cm i q = false) →
    ∃ x, wh[k]? = some x ∧ pendL dst wh cm i = x :: pendL dst wh (cm.set k true) i
  | [], wh, cm, i, k, h1, h2, h, _ => by simp [hitD] at h
  | a :: ts, b :: xs, c :: cs, i, 0, h1, h2, h, _ => by
    simp only [hitD, List.getElem?_cons_zero, Option.some.injEq, Bool.and_eq_true, decide_eq_true_iff] at h
    refine ⟨b, rfl, ?_⟩
    simp only [List.set_cons_zero, pendL]
    rw [if_pos h, if_neg (by simp)]
  | a :: ts, b :: xs, c :: cs, i, k + 1, h1, h2, h, hq => by
    rw [hit_cons] at h
    obtain ⟨x, e1, e2⟩ := pend_first ts xs cs i k (by simpa using h1) (by simpa using h2) h (fun q hqk => by rw [← hit_cons a ts c cs]; exact hq (q + 1) (by omega))
    have h0 := hq 0 (by omega)
    simp only [hitD, List.getElem?_cons_zero, Option.some.injEq, Bool.and_eq_false_iff, decide_eq_false_iff_not] at h0
    have hn : ¬ (a = i ∧ c = false) := fun e => by rcases h0 with h0 | h0; exact h0 e.1; exact h0 e.2
    refine ⟨x, by simpa using e1, ?_⟩
    simp only [List.set_cons_succ, pendL]
    rw [if_neg hn, if_neg hn, e2]
  | a :: ts, [], _, _, _, h1, _, _, _ => by simp at h1
  | a :: ts, b :: xs, [], _, _, _, h2, _, _ => by simp at h2
theorem pend_other : ∀ (dst : List Nat) (wh : List Int) (cm : List Bool) (i j k : Nat), wh.length = dst.length → cm.length = dst.length → dst[k]? = some i → j ≠ i → pendL dst wh (cm.set k true) j = pendL dst wh cm j
  | [], wh, cm, i, j, k, h1, h2, h, _ => by simp at h
  | a :: ts, b :: xs, c :: cs, i, j, 0, h1, h2, h, hj => by
    simp at h
    subst h
    simp only [List.set_cons_zero, pendL]
    rw [if_neg (fun e => hj e.1.symm), if_neg (fun e => hj e.1.symm)]
  | a :: ts, b :: xs, c :: cs, i, j, k + 1, h1, h2, h, hj => by
    have := pend_other ts xs cs i j k (by simpa using h1) (by simpa using h2) (by simpa using h) hj
    simp only [List.set_cons_succ, pendL, this]
  | a :: ts, [], _, _, _, _, h1, _, _, _ => by simp at h1
  | a :: ts, b :: xs, [], _, _, _, _, h2, _, _ => by simp at h2
theorem seek_spec (dst : List Nat) (cm : List Bool) (i : Nat) : ∀ d, d ≤ dst.length → (seekD dst cm i d = -1 ∧ ∀ k, dst.length - d ≤ k → k < dst.length → hitD dst cm i k = false) ∨
    ∃ k : Nat, seekD dst cm i d = (k : Int) ∧ dst.length - d ≤ k ∧ k < dst.length ∧ hitD dst cm i k = true ∧ ∀ q, dst.length - d ≤ q → q < k → hitD dst cm i q = false
  | 0, _ => .inl ⟨rfl, fun k h1 h2 => by omega⟩
  | d + 1, hd => by
    unfold seekD
    by_cases h : hitD dst cm i (dst.length - 1 - d) = true
    · right
      rw [if_pos h]
      exact ⟨_, rfl, by omega, by omega, h, fun q h1 h2 => by omega⟩
    · rw [if_neg h]
      have h2 : hitD dst cm i (dst.length - 1 - d) = false := by simpa using h
      rcases seek_spec dst cm i d (by omega) with ⟨h3, h4⟩ | ⟨k, h3, h4, h5, h6, h7⟩
      · refine .inl ⟨h3, fun k h5 h6 => ?_⟩
        by_cases e : k = dst.length - 1 - d
        · rw [e]; exact h2
        · exact h4 k (by omega) h6
      · refine .inr ⟨k, h3, by omega, h5, h6, fun q h8 h9 => ?_⟩
        by_cases e : q = dst.length - 1 - d
        · rw [e]; exact h2
        · exact h7 q (by omega) h9

/-- The document's state is the program's. -/
structure SimG (n : Nat) (s : GS) (st : DS) : Prop where
  part : ∀ i, st.part i = (s.pr i).tp
  co : ∀ i, i < n → (s.pr i).co = pendL st.dst st.wh st.cm i
  wl : st.wh.length = st.dst.length
  cl : st.cm.length = st.dst.length
  ch : st.ch = s.ch
  sent : st.dst.length = s.sent
  away : cntF st.cm = awayG s n
theorem sim0 (n : Nat) : SimG n gs0 ds0 := ⟨fun _ => rfl, fun _ _ => rfl, rfl, rfl, rfl, rfl, by
  have := aw_at n nm00 [] 0
  unfold AW at this
  have h0 : (gsAt n nm00 [] 0).sent = 0 := rfl
  show 0 = awayG (gsAt n nm00 [] 0) n
  omega⟩
where nm00 : Nat → Int := fun _ => 0
variable {n : Nat} {nm : Nat → Int} {s : GS} {st : DS}
theorem sim_at_none (h : SimG n s st) {i : Nat} (hi : i < n) (ha : atD st i < 0) : (s.pr i).co = [] := by
  rcases seek_spec st.dst st.cm i st.dst.length (Nat.le_refl _) with ⟨_, h2⟩ | ⟨k, h2, _⟩
  · rw [h.co i hi]
    exact pend_none _ _ _ i h.wl h.cl (fun k hk => h2 k (by omega) hk)
  · unfold atD at ha; omega
/-- What is found is the first on the way. -/
theorem sim_at (h : SimG n s st) {i : Nat} (hi : i < n) (ha : ¬ atD st i < 0) : ∃ (k : Nat) (r : List Int), atD st i = (k : Int) ∧ k < st.dst.length ∧ st.dst[k]? = some i ∧ st.cm[k]? = some false ∧ st.wh[k]? = some (getD' st i) ∧ (s.pr i).co = getD' st i :: r ∧ SimG n (coG s i r) (comeD st k) := by
  rcases seek_spec st.dst st.cm i st.dst.length (Nat.le_refl _) with ⟨h2, _⟩ | ⟨k, h2, _, h3, h4, h5⟩
  · unfold atD at ha; omega
  · obtain ⟨x, e1, e2⟩ := pend_first st.dst st.wh st.cm i k h.wl h.cl h4 (fun q hq => h5 q (by omega) hq)
    have hk : atD st i = (k : Int) := h2
    have hx : getD' st i = x := by
      unfold getD'
      rw [hk, Int.toNat_natCast, List.getD_eq_getElem?_getD, e1]; rfl
    have h6 : st.dst[k]? = some i ∧ st.cm[k]? = some false := by simpa [hitD] using h4
    have hc : (s.pr i).co = x :: pendL st.dst st.wh (st.cm.set k true) i := by rw [h.co i hi, e2]
    refine ⟨k, _, hk, h3, h6.1, h6.2, by rw [hx]; exact e1, by rw [hx]; exact hc, ⟨fun j => by rw [coG_tp]; exact h.part j, fun j hj => ?_, h.wl, by show (st.cm.set k true).length = _; rw [List.length_set]; exact h.cl, h.ch, h.sent, ?_⟩⟩
    · rw [coG_co]
      by_cases e : j = i
      · rw [if_pos e, e]; rfl
      · rw [if_neg e, h.co j hj]
        exact (pend_other st.dst st.wh st.cm i j k h.wl h.cl h6.1 e).symm
    · have h7 := cntF_set st.cm k h6.2
      have h8 := away_pop (n := n) hi hc
      have h9 := h.away
      show cntF (st.cm.set k true) = _
      omega
theorem sim_send (h : SimG n s st) (hn : 0 < n) (i : Nat) (x : Int) : SimG n (sendG n s i x) (addD (partD st i) (nx n i) x) := by
  refine ⟨fun j => ?_, fun j hj => ?_, ?_, ?_, h.ch, ?_, ?_⟩
  · rw [sendG_tp]
    show upd1 st.part i true j = _
    by_cases e : j = i
    · subst e; rw [upd1_same, if_pos rfl]
    · rw [upd1_other _ _ e, if_neg e]; exact h.part j
  · rw [sendG_co]
    show _ = pendL (st.dst ++ [nx n i]) (st.wh ++ [x]) (st.cm ++ [false]) j
    rw [pend_append _ _ _ _ _ _ h.wl h.cl]
    by_cases e : j = nx n i
    · rw [if_pos e, if_pos e.symm, h.co j hj]
    · rw [if_neg e, if_neg (fun e2 => e e2.symm), h.co j hj]
  · show (st.wh ++ [x]).length = (st.dst ++ [nx n i]).length
    have := h.wl
    simp; omega
  · show (st.cm ++ [false]).length = (st.dst ++ [nx n i]).length
    have := h.cl
    simp; omega
  · show (st.dst ++ [nx n i]).length = s.sent + 1
    have := h.sent
    simp; omega
  · rw [away_send hn]
    show cntF (st.cm ++ [false]) = _
    rw [cntF_append]
    have := h.away
    simp [cntF]; omega
theorem sim_code (h : SimG n s st) (p : Tu) : codeD n st p = codeG n s p := by
  unfold codeD codeG
  by_cases h1 : p.kind ≠ 1 ∧ p.kind ≠ 2
  · rw [if_pos h1, if_pos h1]
  · rw [if_neg h1, if_neg h1]
    by_cases h2 : inP n p.who = false
    · rw [if_pos h2, if_pos h2]
    · rw [if_neg h2, if_neg h2]
      obtain ⟨_, hl⟩ := inP_natG (show inP n p.who = true by simpa using h2)
      rw [h.part]
      by_cases h3 : p.kind = 1
      · rw [if_pos h3, if_pos h3]
      · rw [if_neg h3, if_neg h3]
        by_cases h4 : atD st p.who.toNat < 0
        · rw [if_pos h4, if_pos (sim_at_none h hl h4)]
        · obtain ⟨k, r, _, _, _, _, _, e, _⟩ := sim_at h hl h4
          rw [if_neg h4, if_neg (by rw [e]; simp)]
theorem sim_last (h : SimG n s st) (e : Int) : SimG n s (lastD st e) := ⟨h.part, h.co, h.wl, h.cl, h.ch, h.sent, h.away⟩
theorem sim_choose (h : SimG n s st) (i : Nat) : SimG n (chG s i) (chosD st i) := ⟨h.part, h.co, h.wl, h.cl, by show st.ch ++ [i] = s.ch ++ [i]; rw [h.ch], h.sent, by
  have h1 : awayG (chG s i) n = awayG s n := by rw [away_sum, away_sum]; rfl
  rw [h1]; exact h.away⟩
theorem sim_step (h : SimG n s st) (p : Tu) : SimG n (stepG n nm s p) (stepD n nm st p) := by
  unfold stepD
  refine sim_last ?_ _
  have hc := sim_code h p
  unfold stepG
  by_cases h0 : codeG n s p = 0
  · rw [if_pos h0]
    obtain ⟨i, e, hi, hk⟩ := code_zero h0
    have e2 : p.who.toNat = i := by omega
    have hd0 : codeD n st p = 0 := hc.trans h0
    have hin : inP n p.who = true := by unfold inP; simp; omega
    have hnz : ¬ codeD n st p ≠ 0 := fun e => e hd0
    have hk12 : ¬ (p.kind ≠ 1 ∧ p.kind ≠ 2) := fun e => by omega
    have hinf : ¬ inP n p.who = false := by rw [hin]; simp
    unfold doG
    rw [e2]
    rcases hk with ⟨hk, ht⟩ | ⟨hk, ht⟩
    · have hS : sndD n nm st p = true := by unfold sndD; rw [if_neg hnz, if_pos hk]
      have hM : midD n nm st p = st := by unfold midD; rw [if_neg hnz, if_pos hk]
      have hN : nameD n nm st p = nm i := by unfold nameD; rw [if_neg hk12, if_neg hinf, if_pos hk, e2]
      rw [if_pos hk, hS, hM, hN, if_pos rfl]
      exact sim_send h (by omega) i _
    · have hna : ¬ atD st i < 0 := fun ha => ht (sim_at_none h hi ha)
      obtain ⟨k, r, a1, a2, a3, a4, a5, a6, a7⟩ := sim_at h hi hna
      have hk1 : ¬ p.kind = 1 := by omega
      rw [if_neg hk1, takeG_eq n nm s i a6]
      by_cases b1 : getD' st i = nm i
      · have hS : sndD n nm st p = false := by unfold sndD; rw [if_neg hnz, if_neg hk1, e2, if_pos b1]
        have hM : midD n nm st p = chosD (comeD st k) i := by unfold midD; rw [if_neg hnz, if_neg hk1, e2, if_pos b1, a1, Int.toNat_natCast]
        rw [hS, hM, if_neg (show ¬ nm i < getD' st i by omega), if_pos b1, if_neg (by simp)]
        exact sim_choose a7 i
      · have hM : midD n nm st p = comeD st k := by unfold midD; rw [if_neg hnz, if_neg hk1, e2, if_neg b1, a1, Int.toNat_natCast]
        by_cases b2 : nm i < getD' st i
        · have hS : sndD n nm st p = true := by unfold sndD; rw [if_neg hnz, if_neg hk1, e2, if_neg b1, if_pos b2]
          have hN : nameD n nm st p = getD' st i := by unfold nameD; rw [if_neg hk12, if_neg hinf, if_neg hk1, e2, if_neg hna, if_neg b1, if_pos b2]
          rw [hS, hM, hN, if_pos b2, if_pos rfl]
          exact sim_send a7 (by omega) i _
        · rw [if_neg b2, if_neg b1]
          cases htp : (s.pr i).tp with
          | true =>
            have hS : sndD n nm st p = false := by unfold sndD; rw [if_neg hnz, if_neg hk1, e2, if_neg b1, if_neg b2, h.part i, htp]; rfl
            rw [hS, hM, if_pos rfl, if_neg (by simp)]
            exact a7
          | false =>
            have hS : sndD n nm st p = true := by unfold sndD; rw [if_neg hnz, if_neg hk1, e2, if_neg b1, if_neg b2, h.part i, htp]; rfl
            have hN : nameD n nm st p = nm i := by unfold nameD; rw [if_neg hk12, if_neg hinf, if_neg hk1, e2, if_neg hna, if_neg b1, if_neg b2, if_neg (by rw [h.part i, htp]; simp)]
            rw [hS, hM, hN, if_neg (by simp), if_pos rfl]
            exact sim_send a7 (by omega) i _
  · rw [if_neg h0]
    have hd0 : codeD n st p ≠ 0 := fun e => h0 (hc.symm.trans e)
    unfold sndD midD
    rw [if_pos hd0, if_pos hd0, if_neg (by simp)]
    exact h
theorem sim_all (n : Nat) (nm : Nat → Int) (ps : List Tu) : ∀ k, SimG n (gsAt n nm ps k) (dsAt n nm ps k)
  | 0 => sim0 n
  | k + 1 => by
    show SimG n (match ps[k]? with | some p => stepG n nm (gsAt n nm ps k) p | none => gsAt n nm ps k) (match ps[k]? with | some p => stepD n nm (dsAt n nm ps k) p | none => dsAt n nm ps k)
    split
    · exact sim_step (sim_all n nm ps k) _
    · exact sim_all n nm ps k
theorem mid_cds (p : Tu) : (midD n nm st p).cds = st.cds := by
  unfold midD
  split
  · rfl
  split
  · rfl
  split <;> rfl
theorem cds_step (p : Tu) : (stepD n nm st p).cds = st.cds ++ [codeD n st p] := by
  unfold stepD lastD
  split
  · show (midD n nm st p).cds ++ _ = _; rw [mid_cds]
  · show (midD n nm st p).cds ++ _ = _; rw [mid_cds]
theorem cds_at (n : Nat) (nm : Nat → Int) (ps : List Tu) : ∀ k, k ≤ ps.length → (dsAt n nm ps k).cds = (List.range k).map (gcAt n nm ps)
  | 0, _ => rfl
  | k + 1, hk => by
    have hpk : ps[k]? = some (ps[k]'(by omega)) := List.getElem?_eq_getElem (by omega)
    show (match ps[k]? with | some p => stepD n nm (dsAt n nm ps k) p | none => dsAt n nm ps k).cds = _
    rw [hpk]
    show (stepD n nm (dsAt n nm ps k) _).cds = _
    rw [cds_step, cds_at n nm ps k (by omega), List.range_succ, List.map_append, sim_code (sim_all n nm ps k)]
    congr 1
    simp [gcAt, hpk]
/-- No more is there than steps were done. -/
theorem ds_len (n : Nat) (nm : Nat → Int) (ps : List Tu) (k : Nat) : (dsAt n nm ps k).dst.length ≤ k ∧ (dsAt n nm ps k).ch.length ≤ k := by
  have h := sim_all n nm ps k
  have hb := gb_at n nm ps k
  exact ⟨by rw [h.sent]; exact hb.sent, by rw [h.ch]; exact hb.ch⟩
end Go.Proofs.Ytadanpghmfhhkaa
