/- The document's reading: all that was ever sent; it stands for the program's; plain. -/
import Derived.Test.YthadhhconkjpmaaU2
namespace Go.Proofs.Ythadhhconkjpmaa
set_option linter.unusedVariables false
variable {n : Nat} {s : St}

/-- All that was sent (-1: a mark), how much has come, how much had come when the one at its end noted. -/
structure Ln where
  sent : List Int
  come : Nat
  ntd : Nat
structure Rf where
  money : Nat → Int
  own : Nat → Int
  lines : Nat → Nat → Ln
def noteLn (i a b : Nat) (l : Ln) : Ln := ⟨if a = i ∧ b ≠ i then l.sent ++ [-1] else l.sent, l.come, if b = i then l.come else l.ntd⟩
def noteR (r : Rf) (i : Nat) : Rf := if 0 ≤ r.own i then r else ⟨r.money, upd1 r.own i (r.money i), fun a b => noteLn i a b (r.lines a b)⟩
def comeR (r : Rf) (o w : Nat) : Rf := ⟨r.money, r.own, upd2 r.lines o w ⟨(r.lines o w).sent, (r.lines o w).come + 1, (r.lines o w).ntd⟩⟩
def codeR (n : Nat) (r : Rf) (p : Pass) : Int :=
  if p.kind ≠ 1 ∧ p.kind ≠ 2 ∧ p.kind ≠ 3 then 4
  else if inP n p.who = false then 2
  else if p.kind = 3 then (if 0 ≤ r.own p.who.toNat then 6 else 0)
  else if inP n p.other = false ∨ p.other = p.who then 2
  else if p.kind = 1 then (if p.n < 1 ∨ r.money p.who.toNat < p.n then 2 else 0)
  else if (r.lines p.other.toNat p.who.toNat).come = (r.lines p.other.toNat p.who.toNat).sent.length then 5 else 0
def sendR (r : Rf) (w o : Nat) (x : Int) : Rf := ⟨upd1 r.money w (r.money w - x), r.own, upd2 r.lines w o ⟨(r.lines w o).sent ++ [x], (r.lines w o).come, (r.lines w o).ntd⟩⟩
def takeR (r : Rf) (o w : Nat) : Rf := match (r.lines o w).sent[(r.lines o w).come]? with
  | some x => if x < 0 then noteR (comeR r o w) w else ⟨upd1 r.money w (r.money w + x), r.own, (comeR r o w).lines⟩
  | none => r
def stepR (n : Nat) (r : Rf) (p : Pass) : Rf := if codeR n r p = 0 then
    (if p.kind = 3 then noteR r p.who.toNat else if p.kind = 1 then sendR r p.who.toNat p.other.toNat p.n else takeR r p.other.toNat p.who.toNat) else r
def rf0 (m : Nat → Int) : Rf := ⟨m, fun _ => -1, fun _ _ => ⟨[], 0, 0⟩⟩
def rfAt (n : Nat) (r : Rf) (ps : List Pass) : Nat → Rf
  | 0 => r
  | k + 1 => match ps[k]? with
    | some p => stepR n (rfAt n r ps k) p
    | none => rfAt n r ps k

/-- A mark is 0 in the program. -/
def mk0 (x : Int) : Int := if x < 0 then 0 else x
def preR : List Int → List Int
  | [] => []
  | x :: l => if x < 0 then [] else x :: preR l
def hasM (l : List Int) : Bool := l.any fun x => decide (x < 0)
/-- What the document tells of a way. -/
def notedR (own : Int) (l : Ln) : List Int := if 0 ≤ own then (preR (l.sent.take l.come)).drop l.ntd else []
theorem preR_len (l : List Int) : (preR l).length ≤ l.length := by
  induction l with
  | nil => exact Nat.le_refl _
  | cons x l ih =>
    unfold preR
    split
    · simp
    · simp; exact ih
theorem preR_none {l : List Int} (h : hasM l = false) : preR l = l := by
  induction l with
  | nil => rfl
  | cons x l ih =>
    simp [hasM] at h
    unfold preR
    rw [if_neg (by omega), ih (by simp [hasM]; exact h.2)]
theorem preR_snoc (l : List Int) (x : Int) : preR (l ++ [x]) = if hasM l then preR l else if x < 0 then l else l ++ [x] := by
  induction l with
  | nil => simp [preR, hasM]
  | cons y l ih =>
    show (if y < 0 then [] else y :: preR (l ++ [x])) = _
    by_cases hy : y < 0
    · have : hasM (y :: l) = true := by simp [hasM, hy]
      rw [if_pos hy, this]
      simp [preR, hy]
    · rw [if_neg hy, ih]
      have e : hasM (y :: l) = hasM l := by simp [hasM, hy]
      rw [e]
      by_cases h1 : hasM l = true
      · rw [if_pos h1, if_pos h1]
        simp [preR, hy]
      · rw [if_neg h1, if_neg h1]
        split <;> rfl
theorem hasM_snoc (l : List Int) (x : Int) : hasM (l ++ [x]) = (hasM l || decide (x < 0)) := by simp [hasM]

/-- The document's reading stands for the program's. -/
structure Sim (n : Nat) (s : St) (r : Rf) : Prop where
  money : ∀ i, i < n → r.money i = s.money i
  own : ∀ i, i < n → r.own i = s.own i
  le : ∀ i j, i < n → j < n → (r.lines i j).come ≤ (r.lines i j).sent.length ∧ (r.lines i j).ntd ≤ (r.lines i j).come
  th : ∀ i j, i < n → j < n → (s.ways i j).things = ((r.lines i j).sent.drop (r.lines i j).come).map mk0
  bm : ∀ i j, i < n → j < n → (s.ways i j).marked = hasM ((r.lines i j).sent.take (r.lines i j).come)
  nt : ∀ i j, i < n → j < n → (s.ways i j).noted = notedR (r.own j) (r.lines i j)
  pz : ∀ i j, i < n → j < n → ∀ x ∈ (r.lines i j).sent, x ≠ 0
theorem sim0 (m : Nat → Int) : Sim n (st0 m) (rf0 m) :=
  ⟨fun _ _ => rfl, fun _ _ => rfl, fun _ _ _ _ => ⟨Nat.le_refl _, Nat.le_refl _⟩, fun _ _ _ _ => rfl, fun _ _ _ _ => rfl, fun _ _ _ _ => rfl, (fun _ _ _ _ x hx => nomatch hx)⟩
variable {r : Rf}
theorem own_neg (h : Inv n s) {i : Nat} (hi : i < n) : (0 ≤ s.own i) ↔ s.own i ≠ -1 := by
  rcases h.own i hi with e | e <;> omega
theorem sim_note (h : Inv n s) (hs : Sim n s r) {i : Nat} (hi : i < n) : Sim n (noteS n s i) (noteR r i) := by
  have hoi := hs.own i hi
  by_cases ho : s.own i = -1
  · rw [noteS_do ho]
    have e : noteR r i = ⟨r.money, upd1 r.own i (r.money i), fun a b => noteLn i a b (r.lines a b)⟩ := by unfold noteR; rw [if_neg (by omega)]
    rw [e]
    refine ⟨hs.money, fun a ha => ?_, fun a b ha hb => ?_, fun a b ha hb => ?_, fun a b ha hb => ?_, fun a b ha hb => ?_, fun a b ha hb x hx => ?_⟩
    · show upd1 r.own i (r.money i) a = upd1 s.own i (s.money i) a
      by_cases e2 : a = i
      · subst e2; rw [upd1_same, upd1_same]; exact hs.money a ha
      · rw [upd1_other _ _ e2, upd1_other _ _ e2]; exact hs.own a ha
    · show (noteLn i a b (r.lines a b)).come ≤ (noteLn i a b (r.lines a b)).sent.length ∧ (noteLn i a b (r.lines a b)).ntd ≤ (noteLn i a b (r.lines a b)).come
      obtain ⟨h1, h2⟩ := hs.le a b ha hb
      unfold noteLn
      simp only
      constructor
      · split
        · simp; omega
        · exact h1
      · split <;> omega
    · show (markW n s i a b).things = _
      have h1 := hs.th a b ha hb
      obtain ⟨h2, _⟩ := hs.le a b ha hb
      unfold markW noteLn
      simp only
      by_cases e2 : a = i ∧ b ≠ i
      · rw [if_pos ⟨e2.1, e2.2, hb⟩, if_pos e2, List.drop_append_of_le_length h2, List.map_append, ← h1]
        rfl
      · rw [if_neg (fun e3 => e2 ⟨e3.1, e3.2.1⟩), if_neg e2]
        exact h1
    · show (markW n s i a b).marked = _
      rw [(markW_marked n s i a b).1, hs.bm a b ha hb]
      obtain ⟨h2, _⟩ := hs.le a b ha hb
      unfold noteLn
      simp only
      split
      · rw [List.take_append_of_le_length h2]
      · rfl
    · show (markW n s i a b).noted = notedR (upd1 r.own i (r.money i) b) (noteLn i a b (r.lines a b))
      rw [(markW_marked n s i a b).2]
      obtain ⟨h2, _⟩ := hs.le a b ha hb
      by_cases e2 : b = i
      · subst e2
        rw [(h.i3 a b ha hb ho).2, upd1_same]
        have e6 : noteLn b a b (r.lines a b) = ⟨(r.lines a b).sent, (r.lines a b).come, (r.lines a b).come⟩ := by unfold noteLn; simp
        rw [e6]
        unfold notedR
        simp only
        have h4 : (preR ((r.lines a b).sent.take (r.lines a b).come)).length ≤ (r.lines a b).come := Nat.le_trans (preR_len _) (by simp; omega)
        split
        · rw [List.drop_of_length_le h4]
        · rfl
      · rw [upd1_other _ _ e2, hs.nt a b ha hb]
        unfold notedR noteLn
        simp only
        rw [if_neg e2]
        have e5 : (if a = i ∧ b ≠ i then (r.lines a b).sent ++ [-1] else (r.lines a b).sent).take (r.lines a b).come = (r.lines a b).sent.take (r.lines a b).come := by
          split
          · rw [List.take_append_of_le_length h2]
          · rfl
        rw [e5]
    · have hx2 : x ∈ (noteLn i a b (r.lines a b)).sent := hx
      unfold noteLn at hx2
      simp only at hx2
      split at hx2
      · simp only [List.mem_append, List.mem_singleton] at hx2
        rcases hx2 with e4 | e4
        · exact hs.pz a b ha hb x e4
        · omega
      · exact hs.pz a b ha hb x hx2
  · rw [noteS_not ho]
    have e : noteR r i = r := by unfold noteR; rw [if_pos (by rw [hoi]; exact (own_neg h hi).2 ho)]
    rw [e]
    exact hs
theorem sim_send (h : Inv n s) (hs : Sim n s r) {w o : Nat} (hw : w < n) (ho : o < n) {x : Int} (hx : 1 ≤ x) : Sim n (putS (payS s w (-x)) w o x) (sendR r w o x) := by
  obtain ⟨l1, l2⟩ := hs.le w o hw ho
  have key : ∀ {P : Nat → Nat → Wy → Ln → Prop}, (∀ a b, a < n → b < n → P a b (s.ways a b) (r.lines a b)) → P w o (pushW (s.ways w o) x) ⟨(r.lines w o).sent ++ [x], (r.lines w o).come, (r.lines w o).ntd⟩ →
      ∀ a b, a < n → b < n → P a b ((putS (payS s w (-x)) w o x).ways a b) ((sendR r w o x).lines a b) := by
    intro P h1 h2 a b ha hb
    show P a b (upd2 s.ways w o _ a b) (upd2 r.lines w o _ a b)
    by_cases e : a = w ∧ b = o
    · obtain ⟨rfl, rfl⟩ := e; rw [upd2_same, upd2_same]; exact h2
    · rw [upd2_other _ _ e, upd2_other _ _ e]; exact h1 a b ha hb
  refine ⟨fun i hi => ?_, hs.own, key (P := fun _ _ _ l => l.come ≤ l.sent.length ∧ l.ntd ≤ l.come) hs.le ⟨by simp; omega, l2⟩, key (P := fun _ _ v l => v.things = (l.sent.drop l.come).map mk0) hs.th ?_,
    key (P := fun _ _ v l => v.marked = hasM (l.sent.take l.come)) hs.bm ?_, key (P := fun _ b v l => v.noted = notedR (r.own b) l) hs.nt ?_, key (P := fun _ _ _ l => ∀ x ∈ l.sent, x ≠ 0) hs.pz ?_⟩
  · show upd1 r.money w (r.money w - x) i = upd1 s.money w (s.money w + -x) i
    by_cases e : i = w
    · subst e; rw [upd1_same, upd1_same, hs.money i hi]; omega
    · rw [upd1_other _ _ e, upd1_other _ _ e]; exact hs.money i hi
  · show (s.ways w o).things ++ [x] = _
    rw [List.drop_append_of_le_length l1, List.map_append, hs.th w o hw ho]
    congr 1
    unfold mk0
    simp
    omega
  · show (s.ways w o).marked = _
    simp only
    rw [List.take_append_of_le_length l1]
    exact hs.bm w o hw ho
  · show (s.ways w o).noted = _
    rw [hs.nt w o hw ho]
    unfold notedR
    simp only
    rw [List.take_append_of_le_length l1]
  · intro y hy
    simp only [List.mem_append, List.mem_singleton] at hy
    rcases hy with e | e
    · exact hs.pz w o hw ho y e
    · omega

/-- One more has come on a way. -/
theorem sim_come (h : Inv n s) (hs : Sim n s r) {o w : Nat} (ho : o < n) (hw : w < n) {x : Int} (hx : (r.lines o w).sent[(r.lines o w).come]? = some x) :
    ∃ t, (s.ways o w).things = mk0 x :: t ∧ t = ((r.lines o w).sent.drop ((r.lines o w).come + 1)).map mk0 ∧ (r.lines o w).come + 1 ≤ (r.lines o w).sent.length ∧ (r.lines o w).sent.take ((r.lines o w).come + 1) = (r.lines o w).sent.take (r.lines o w).come ++ [x] := by
  have hl := (List.getElem?_eq_some_iff.1 hx).1
  refine ⟨_, ?_, rfl, by omega, by rw [List.take_add_one, hx]; rfl⟩
  rw [hs.th o w ho hw, List.drop_eq_getElem_cons hl, List.map_cons]
  congr 2
  have := (List.getElem?_eq_some_iff.1 hx).2
  exact this
/-- A way of the one, a line of the other. -/
def Fits (own : Int) (v : Wy) (l : Ln) : Prop := (l.come ≤ l.sent.length ∧ l.ntd ≤ l.come) ∧ v.things = (l.sent.drop l.come).map mk0 ∧ v.marked = hasM (l.sent.take l.come) ∧ v.noted = notedR own l ∧ ∀ x ∈ l.sent, x ≠ 0
theorem sim_way (hs : Sim n s r) {o w : Nat} {v : Wy} {l : Ln} (h : Fits (r.own w) v l) : Sim n (wayS s o w v) ⟨r.money, r.own, upd2 r.lines o w l⟩ := by
  have key : ∀ {P : Nat → Nat → Wy → Ln → Prop}, (∀ a b, a < n → b < n → P a b (s.ways a b) (r.lines a b)) → P o w v l → ∀ a b, a < n → b < n → P a b (upd2 s.ways o w v a b) (upd2 r.lines o w l a b) := by
    intro P h1 h2 a b ha hb
    by_cases e : a = o ∧ b = w
    · obtain ⟨rfl, rfl⟩ := e; rw [upd2_same, upd2_same]; exact h2
    · rw [upd2_other _ _ e, upd2_other _ _ e]; exact h1 a b ha hb
  exact ⟨hs.money, hs.own, key (P := fun _ _ _ l => l.come ≤ l.sent.length ∧ l.ntd ≤ l.come) hs.le h.1, key (P := fun _ _ v l => v.things = (l.sent.drop l.come).map mk0) hs.th h.2.1,
    key (P := fun _ _ v l => v.marked = hasM (l.sent.take l.come)) hs.bm h.2.2.1, key (P := fun _ b v l => v.noted = notedR (r.own b) l) hs.nt h.2.2.2.1, key (P := fun _ _ _ l => ∀ x ∈ l.sent, x ≠ 0) hs.pz h.2.2.2.2⟩
theorem sim_take (h : Inv n s) (hs : Sim n s r) {o w : Nat} (ho : o < n) (hw : w < n) (how : o ≠ w) {x : Int} (hx : (r.lines o w).sent[(r.lines o w).come]? = some x) : Sim n (takeS n s o w) (takeR r o w) := by
  obtain ⟨t, ht, et, hle, htk⟩ := sim_come h hs ho hw hx
  have hl2 := (hs.le o w ho hw).2
  by_cases hneg : x < 0
  · have em : mk0 x = 0 := by unfold mk0; rw [if_pos hneg]
    rw [em] at ht
    have e1 : takeS n s o w = wayS (noteS n s w) o w ⟨t, (s.ways o w).noted, true⟩ := by unfold takeS; rw [ht]; rfl
    have e2 : takeR r o w = noteR (comeR r o w) w := by unfold takeR; rw [hx]; simp only []; rw [if_pos hneg]
    rw [e1, e2]
    have sn := sim_note h hs hw
    have hown := hs.own w hw
    by_cases hO : s.own w = -1
    · have e3 : noteR (comeR r o w) w = ⟨(noteR r w).money, (noteR r w).own, upd2 (noteR r w).lines o w ⟨(r.lines o w).sent, (r.lines o w).come + 1, (r.lines o w).come + 1⟩⟩ := by
        unfold noteR
        have hc : ¬ 0 ≤ (comeR r o w).own w := by show ¬ 0 ≤ r.own w; omega
        rw [if_neg hc, if_neg (show ¬ 0 ≤ r.own w by omega)]
        simp only [comeR]
        congr 1
        funext a b
        by_cases e : a = o ∧ b = w
        · obtain ⟨rfl, rfl⟩ := e
          rw [upd2_same, upd2_same]
          unfold noteLn
          simp
        · rw [upd2_other _ _ e, upd2_other _ _ e]
      rw [e3]
      refine sim_way sn ⟨⟨hle, Nat.le_refl _⟩, et, ?_, ?_, hs.pz o w ho hw⟩
      · simp only
        rw [htk, hasM_snoc]
        simp [hneg]
      · show (s.ways o w).noted = _
        rw [(h.i3 o w ho hw hO).2]
        unfold notedR
        simp only
        split
        · rw [List.drop_of_length_le]
          exact Nat.le_trans (preR_len _) (by simp; omega)
        · rfl
    · have e3 : noteR (comeR r o w) w = ⟨r.money, r.own, upd2 r.lines o w ⟨(r.lines o w).sent, (r.lines o w).come + 1, (r.lines o w).ntd⟩⟩ := by
        unfold noteR
        have hc : 0 ≤ (comeR r o w).own w := by show 0 ≤ r.own w; rw [hown]; exact (own_neg h hw).2 hO
        rw [if_pos hc]
        rfl
      rw [e3, noteS_not hO]
      refine sim_way hs ⟨⟨hle, by show (r.lines o w).ntd ≤ (r.lines o w).come + 1; omega⟩, et, ?_, ?_, hs.pz o w ho hw⟩
      · simp only
        rw [htk, hasM_snoc]
        simp [hneg]
      · show (s.ways o w).noted = _
        rw [hs.nt o w ho hw]
        unfold notedR
        simp only
        rw [htk, preR_snoc]
        by_cases hM : hasM ((r.lines o w).sent.take (r.lines o w).come) = true
        · rw [if_pos hM]
        · rw [if_neg hM, if_pos hneg, preR_none (by simpa using hM)]
  · have hx0 : x ≠ 0 := hs.pz o w ho hw x (List.mem_of_getElem? hx)
    have em : mk0 x = x := by unfold mk0; rw [if_neg hneg]
    rw [em] at ht
    have e1 : takeS n s o w = wayS (payS s w x) o w ⟨t, hearS s o w x, (s.ways o w).marked⟩ := by unfold takeS; rw [ht]; simp only []; rw [if_neg hx0]
    have e2 : takeR r o w = ⟨upd1 r.money w (r.money w + x), r.own, upd2 r.lines o w ⟨(r.lines o w).sent, (r.lines o w).come + 1, (r.lines o w).ntd⟩⟩ := by unfold takeR; rw [hx]; simp only []; rw [if_neg hneg]; rfl
    rw [e1, e2]
    have sp : Sim n (payS s w x) ⟨upd1 r.money w (r.money w + x), r.own, r.lines⟩ := by
      refine ⟨fun i hi => ?_, hs.own, hs.le, hs.th, hs.bm, hs.nt, hs.pz⟩
      show upd1 r.money w (r.money w + x) i = upd1 s.money w (s.money w + x) i
      by_cases e : i = w
      · subst e; rw [upd1_same, upd1_same, hs.money i hi]
      · rw [upd1_other _ _ e, upd1_other _ _ e]; exact hs.money i hi
    have hbm := hs.bm o w ho hw
    have hnt := hs.nt o w ho hw
    have hown := hs.own w hw
    refine sim_way sp ⟨⟨hle, by show (r.lines o w).ntd ≤ (r.lines o w).come + 1; omega⟩, et, ?_, ?_, hs.pz o w ho hw⟩
    · show (s.ways o w).marked = _
      simp only
      rw [htk, hasM_snoc, hbm]
      simp [hneg]
    · show hearS s o w x = notedR (r.own w) _
      unfold hearS
      rw [hnt, hbm]
      unfold notedR
      simp only
      rw [htk, preR_snoc]
      by_cases hO : s.own w = -1
      · rw [if_neg (fun e => e.1 hO), if_neg (by omega), if_neg (by omega)]
      · have hO2 : 0 ≤ r.own w := by rw [hown]; exact (own_neg h hw).2 hO
        rw [if_pos hO2, if_pos hO2]
        by_cases hM : hasM ((r.lines o w).sent.take (r.lines o w).come) = true
        · rw [if_neg (fun e => by rw [hM] at e; exact absurd e.2 (by simp)), if_pos hM]
        · have hM2 : hasM ((r.lines o w).sent.take (r.lines o w).come) = false := by simpa using hM
          rw [if_pos ⟨hO, hM2⟩, if_neg hM, if_neg hneg, preR_none hM2]
          rw [List.drop_append_of_le_length (by simp; omega)]

theorem sim_code (h : Inv n s) (hs : Sim n s r) (p : Pass) : codeR n r p = codeS n s p := by
  obtain ⟨kind, who, other, x⟩ := p
  have inof : ∀ {z : Int}, inP n z = true → ∃ k : Nat, k < n ∧ z = (k : Int) := fun {z} hz => by
    simp [inP] at hz
    exact ⟨z.toNat, by omega, by omega⟩
  unfold codeR codeS
  simp only
  by_cases hk : kind = 1 ∨ kind = 2
  · rw [if_neg (by omega), if_pos hk]
    cases hw : inP n who with
    | false => rw [if_pos rfl, if_pos (.inl rfl)]
    | true =>
      rw [if_neg (show ¬ (true = false) by simp), if_neg (show ¬ (kind = 3) by omega)]
      cases ho : inP n other with
      | false => rw [if_pos (.inl rfl), if_pos (.inr (.inl rfl))]
      | true =>
        by_cases e : who = other
        · rw [if_pos (.inr e.symm), if_pos (.inr (.inr e))]
        · rw [if_neg (show ¬ (true = false ∨ other = who) from fun h => h.elim (fun h => by cases h) (fun h => e h.symm)), if_neg (show ¬ (true = false ∨ true = false ∨ who = other) from fun h => h.elim (fun h => by cases h) (fun h => h.elim (fun h => by cases h) e))]
          obtain ⟨w, hw2, rfl⟩ := inof hw
          obtain ⟨o, ho2, rfl⟩ := inof ho
          simp only [Int.toNat_natCast]
          simp only [hs.money w hw2]
          by_cases hk1 : kind = 1
          · rw [if_pos hk1, if_pos hk1]
          · rw [if_neg hk1, if_neg hk1]
            have hl := (hs.le o w ho2 hw2).1
            have ht := hs.th o w ho2 hw2
            by_cases hc : (r.lines o w).come = (r.lines o w).sent.length
            · rw [if_pos hc, if_pos]
              rw [ht, hc]
              simp
            · rw [if_neg hc, if_neg]
              rw [ht]
              intro e2
              have := congrArg List.length e2
              simp at this
              omega
  · by_cases hk3 : kind = 3
    · rw [if_neg (by omega), if_neg hk, if_pos hk3, if_pos hk3]
      cases hw : inP n who with
      | false => rw [if_pos rfl, if_pos rfl]
      | true =>
        rw [if_neg (show ¬ (true = false) by simp), if_neg (show ¬ (true = false) by simp)]
        obtain ⟨w, hw2, rfl⟩ := inof hw
        simp only [Int.toNat_natCast]
        simp only [hs.own w hw2]
        by_cases ho : s.own w = -1
        · rw [if_neg (by omega), if_neg (by simp [ho])]
        · rw [if_pos ((own_neg h hw2).2 ho), if_pos ho]
    · rw [if_pos (by omega), if_neg hk, if_neg hk3]
theorem sim_step (h : Inv n s) (hs : Sim n s r) (p : Pass) : Sim n (stepS n s p) (stepR n r p) := by
  unfold stepR stepS
  rw [sim_code h hs p]
  split
  · rename_i hc
    rcases code_ok hc with ⟨w, o, x, hw, ho, hwo, h1, h2, e0, e⟩ | ⟨w, o, x, y, t, hw, ho, hwo, hth, e0, e⟩ | ⟨w, hw, _, e3, e4, e⟩
    · rw [e]
      subst e0
      rw [if_neg (by simp), if_pos rfl]
      simp only [Int.toNat_natCast]
      exact sim_send h hs hw ho h1
    · rw [e]
      subst e0
      rw [if_neg (by simp), if_neg (by simp)]
      simp only [Int.toNat_natCast]
      have ht := hs.th o w ho hw
      have hl : (r.lines o w).come < (r.lines o w).sent.length := by
        rw [hth] at ht
        have := congrArg List.length ht
        simp at this
        omega
      exact sim_take h hs ho hw (Ne.symm hwo) (List.getElem?_eq_getElem hl)
    · rw [e, if_pos e3, e4]
      simp only [Int.toNat_natCast]
      exact sim_note h hs hw
  · exact hs
theorem sim_at {m : Nat → Int} (hm : ∀ i, i < n → 0 ≤ m i) (ps : List Pass) : ∀ k, Sim n (stAt n (st0 m) ps k) (rfAt n (rf0 m) ps k)
  | 0 => sim0 m
  | k + 1 => by
    have ih := sim_at hm ps k
    have hi := (at_inv (inv0 (n := n) hm) ps k).1
    have e1 : stAt n (st0 m) ps (k + 1) = (match ps[k]? with | some p => stepS n (stAt n (st0 m) ps k) p | none => stAt n (st0 m) ps k) := rfl
    have e2 : rfAt n (rf0 m) ps (k + 1) = (match ps[k]? with | some p => stepR n (rfAt n (rf0 m) ps k) p | none => rfAt n (rf0 m) ps k) := rfl
    rw [e1, e2]
    cases ps[k]? with
    | none => exact ih
    | some p => exact sim_step hi ih p
/-- Done, as the document asks it. -/
def doneR (n : Nat) (r : Rf) : Bool := (List.range n).all fun i => (List.range n).all fun j => (i == j || hasM ((r.lines i j).sent.take (r.lines i j).come)) && decide (0 ≤ r.own j)
theorem sim_done (h : Inv n s) (hs : Sim n s r) (hn : 0 < n) : doneR n r = doneB n s := by
  rw [Bool.eq_iff_iff]
  unfold doneR doneB
  simp only [List.all_eq_true, List.mem_range, Bool.and_eq_true, Bool.or_eq_true, beq_iff_eq, decide_eq_true_eq, bne_iff_ne]
  constructor
  · intro h1
    refine ⟨fun i hi => ?_, fun i hi j hj => ?_⟩
    · have := (h1 i hi i hi).2
      rw [hs.own i hi] at this
      exact (own_neg h hi).1 this
    · rw [hs.bm i j hi hj]
      exact (h1 i hi j hj).1
  · rintro ⟨h1, h2⟩ i hi j hj
    refine ⟨?_, by rw [hs.own j hj]; exact (own_neg h hj).2 (h1 j hj)⟩
    rw [← hs.bm i j hi hj]
    exact h2 i hi j hj
end Go.Proofs.Ythadhhconkjpmaa
