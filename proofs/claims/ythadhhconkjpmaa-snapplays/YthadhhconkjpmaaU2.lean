/- Money that is passed on: each step keeps what holds; plain. -/
import Derived.Test.YthadhhconkjpmaaU1
namespace Go.Proofs.Ythadhhconkjpmaa
set_option linter.unusedVariables false
variable {n : Nat} {s : St}

theorem sum2_way (F : Wy → Int) (ways : Nat → Nat → Wy) {i j : Nat} (hi : i < n) (hj : j < n) (w : Wy) :
    sum2 n (fun a b => F (upd2 ways i j w a b)) = sum2 n (fun a b => F (ways a b)) - F (ways i j) + F w := by
  rw [← sum2_upd (fun a b => F (ways a b)) hi hj (F w)]
  refine sum2_congr fun a b _ _ => ?_
  by_cases h : a = i ∧ b = j
  · obtain ⟨rfl, rfl⟩ := h; rw [upd2_same, upd2_same]
  · rw [upd2_other _ _ h, upd2_other _ _ h]
theorem noteS_way {who a : Nat} (h : a ≠ who) (b : Nat) : (noteS n s who).ways a b = s.ways a b := by
  by_cases ho : s.own who = -1
  · rw [noteS_do ho]; exact markW_own n s h
  · rw [noteS_not ho]
theorem noteS_own_self (h : Inv n s) {who : Nat} (hw : who < n) : (noteS n s who).own who ≠ -1 := by
  by_cases ho : s.own who = -1
  · rw [noteS_do ho]
    show upd1 s.own who (s.money who) who ≠ -1
    rw [upd1_same]
    have := h.mon who hw
    omega
  · rw [noteS_not ho]; exact ho
theorem noteS_money (who : Nat) : (noteS n s who).money = s.money := by
  by_cases ho : s.own who = -1
  · rw [noteS_do ho]
  · rw [noteS_not ho]

/-- One way is laid anew, nothing else. -/
theorem way_inv (h : Inv n s) {i j : Nat} (hi : i < n) (hj : j < n) (hij : i ≠ j) (w : Wy) (h1 : ∀ x ∈ w.things, 0 ≤ x) (h1' : ∀ x ∈ w.noted, 0 ≤ x) (h2 : s.own i = -1 → (∀ x ∈ w.things, x ≠ 0) ∧ w.marked = false)
    (h3 : s.own i ≠ -1 → 0 ∈ w.things ∨ w.marked = true) (h4 : s.own j = -1 → w.marked = false ∧ w.noted = []) : Inv n (wayS s i j w) := by
  have key : ∀ {P : Nat → Nat → Wy → Prop}, (∀ a b, a < n → b < n → P a b (s.ways a b)) → P i j w → ∀ a b, a < n → b < n → P a b ((wayS s i j w).ways a b) := by
    intro P hP hw a b ha hb
    show P a b (upd2 s.ways i j w a b)
    by_cases e : a = i ∧ b = j
    · obtain ⟨rfl, rfl⟩ := e; rw [upd2_same]; exact hw
    · rw [upd2_other _ _ e]; exact hP a b ha hb
  refine ⟨h.mon, key (P := fun a b w => ∀ x ∈ w.things, 0 ≤ x) h.thg h1, key (P := fun a b w => ∀ x ∈ w.noted, 0 ≤ x) h.ntd h1', h.own, key (P := fun a b w => s.own a = -1 → (∀ x ∈ w.things, x ≠ 0) ∧ w.marked = false) h.i1 h2,
    key (P := fun a b w => a ≠ b → s.own a ≠ -1 → 0 ∈ w.things ∨ w.marked = true) h.i2 (fun _ => h3), key (P := fun a b w => s.own b = -1 → w.marked = false ∧ w.noted = []) h.i3 h4, fun a ha => ?_⟩
  show upd2 s.ways i j w a a = _
  rw [upd2_other _ _ (fun e => hij (e.1.symm.trans e.2))]
  exact h.i4 a ha

theorem pay_inv (h : Inv n s) {j : Nat} (hj : j < n) {x : Int} (hx : 0 ≤ s.money j + x) : Inv n (payS s j x) := by
  refine ⟨fun i hi => ?_, h.thg, h.ntd, h.own, h.i1, h.i2, h.i3, h.i4⟩
  show 0 ≤ upd1 s.money j (s.money j + x) i
  by_cases e : i = j
  · subst e; rw [upd1_same]; exact hx
  · rw [upd1_other _ _ e]; exact h.mon i hi
theorem pay_tot {j : Nat} (hj : j < n) (x : Int) : tot n (payS s j x) = tot n s + x := by
  unfold tot
  show sumN (upd1 s.money j (s.money j + x)) n + _ = _
  rw [sumN_upd _ _ hj]
  show sumN s.money n - s.money j + (s.money j + x) + (sum2 n fun i j => lsum (s.ways i j).things) = _
  omega
theorem pay_pict {j : Nat} (hj : j < n) (x : Int) : pict n (payS s j x) = pict n s + if s.own j = -1 then x else 0 := by
  unfold pict
  have e : sumN (cOf (payS s j x)) n = sumN (cOf s) n + if s.own j = -1 then x else 0 := by
    have e2 : sumN (cOf (payS s j x)) n = sumN (upd1 (cOf s) j (cOf s j + if s.own j = -1 then x else 0)) n := sumN_congr fun i hi => by
      unfold cOf
      show (if s.own i = -1 then upd1 s.money j (s.money j + x) i else s.own i) = _
      by_cases e : i = j
      · subst e
        rw [upd1_same, upd1_same]
        split
        · rfl
        · omega
      · rw [upd1_other _ _ e, upd1_other _ _ e]
    rw [e2, sumN_upd _ _ hj]
    omega
  rw [e]
  show _ + (sum2 n fun i j => wOf (s.ways i j)) = _
  omega
theorem way_tot {i j : Nat} (hi : i < n) (hj : j < n) (w : Wy) : tot n (wayS s i j w) = tot n s - lsum (s.ways i j).things + lsum w.things := by
  unfold tot
  have := sum2_way (fun w => lsum w.things) s.ways hi hj w
  show sumN s.money n + (sum2 n fun a b => lsum (upd2 s.ways i j w a b).things) = _
  omega
theorem way_pict {i j : Nat} (hi : i < n) (hj : j < n) (w : Wy) : pict n (wayS s i j w) = pict n s - wOf (s.ways i j) + wOf w := by
  unfold pict
  have := sum2_way wOf s.ways hi hj w
  show sumN (cOf s) n + (sum2 n fun a b => wOf (upd2 s.ways i j w a b)) = _
  omega

theorem send_inv (h : Inv n s) {w o : Nat} (hw : w < n) (ho : o < n) (hwo : w ≠ o) {x : Int} (h1 : 1 ≤ x) (h2 : x ≤ s.money w) :
    Inv n (putS (payS s w (-x)) w o x) ∧ tot n (putS (payS s w (-x)) w o x) = tot n s ∧ pict n (putS (payS s w (-x)) w o x) = pict n s := by
  have e : putS (payS s w (-x)) w o x = wayS (payS s w (-x)) w o (pushW (s.ways w o) x) := rfl
  rw [e]
  have hp := pay_inv h hw (x := -x) (by omega)
  refine ⟨way_inv hp hw ho hwo _ ?_ (h.ntd w o hw ho) ?_ ?_ ?_, ?_, ?_⟩
  · intro y hy
    simp only [pushW, List.mem_append, List.mem_singleton] at hy
    rcases hy with hy | hy
    · exact h.thg w o hw ho y hy
    · omega
  · intro hn
    refine ⟨fun y hy => ?_, (h.i1 w o hw ho hn).2⟩
    simp only [pushW, List.mem_append, List.mem_singleton] at hy
    rcases hy with hy | hy
    · exact (h.i1 w o hw ho hn).1 y hy
    · omega
  · intro hn
    rcases h.i2 w o hw ho hwo hn with e | e
    · exact .inl (by simp [pushW, e])
    · exact .inr e
  · exact h.i3 w o hw ho
  · rw [way_tot hw ho, pay_tot hw]
    show tot n s + -x - lsum (s.ways w o).things + lsum ((s.ways w o).things ++ [x]) = _
    rw [lsum_append]
    show tot n s + -x - lsum (s.ways w o).things + (lsum (s.ways w o).things + (x + 0)) = _
    omega
  · rw [way_pict hw ho, pay_pict hw]
    show pict n s + (if s.own w = -1 then -x else 0) - wOf (s.ways w o) + wOf (pushW (s.ways w o) x) = _
    by_cases hn : s.own w = -1
    · rw [if_pos hn]
      obtain ⟨h3, h4⟩ := h.i1 w o hw ho hn
      unfold wOf pushW
      simp only [h4]
      rw [pre_all h3, pre_all (l := (s.ways w o).things ++ [x]) (fun y hy => by
        simp only [List.mem_append, List.mem_singleton] at hy
        rcases hy with hy | hy
        · exact h3 y hy
        · omega), lsum_append]
      show _ + -x - _ + (_ + (lsum (s.ways w o).things + (x + 0))) = _
      simp
      omega
    · rw [if_neg hn]
      have : wOf (pushW (s.ways w o) x) = wOf (s.ways w o) := by
        unfold wOf pushW
        simp only
        rcases h.i2 w o hw ho hwo hn with e | e
        · rw [pre_append _ e]
        · rw [if_pos e, if_pos e]
      rw [this]
      omega

theorem take_inv (h : Inv n s) {i j : Nat} (hi : i < n) (hj : j < n) (hij : i ≠ j) {x : Int} {r : List Int} (hth : (s.ways i j).things = x :: r) :
    Inv n (takeS n s i j) ∧ tot n (takeS n s i j) = tot n s ∧ pict n (takeS n s i j) = pict n s := by
  have hr : ∀ y ∈ r, 0 ≤ y := fun y hy => h.thg i j hi hj y (by rw [hth]; simp [hy])
  have hx0 : 0 ≤ x := h.thg i j hi hj x (by rw [hth]; simp)
  by_cases hx : x = 0
  · subst hx
    have et : takeS n s i j = wayS (noteS n s j) i j ⟨r, (s.ways i j).noted, true⟩ := by unfold takeS; rw [hth]; rfl
    rw [et]
    obtain ⟨h1, h2, h3⟩ := note_inv h hj
    have hw := noteS_way (n := n) (s := s) hij j
    have hoi : s.own i ≠ -1 := fun e => (h.i1 i j hi hj e).1 0 (by rw [hth]; simp) rfl
    have hoi2 : (noteS n s j).own i ≠ -1 := by
      by_cases ho : s.own j = -1
      · rw [noteS_do ho]
        show upd1 s.own j (s.money j) i ≠ -1
        rw [upd1_other _ _ hij]; exact hoi
      · rw [noteS_not ho]; exact hoi
    refine ⟨way_inv h1 hi hj hij _ hr (h.ntd i j hi hj) (fun e => absurd e hoi2) (fun _ => .inr rfl) (fun e => absurd e (noteS_own_self h hj)), ?_, ?_⟩
    · rw [way_tot hi hj, h2, hw, hth]
      show tot n s - (0 + lsum r) + lsum r = _
      omega
    · rw [way_pict hi hj, h3, hw]
      have : wOf (s.ways i j) = wOf ⟨r, (s.ways i j).noted, true⟩ := by
        unfold wOf
        rw [hth]
        show _ + (if _ then (0 : Int) else lsum (pre (0 :: r))) = _ + (if true = true then (0 : Int) else _)
        rw [if_pos rfl]
        show _ + (if _ then (0 : Int) else 0) = _
        split <;> rfl
      rw [this]
      omega
  · have et : takeS n s i j = wayS (payS s j x) i j ⟨r, hearS s i j x, (s.ways i j).marked⟩ := by unfold takeS; rw [hth]; simp only []; rw [if_neg hx]
    rw [et]
    have hm := h.mon j hj
    have hp := pay_inv h hj (x := x) (by omega)
    have hhe : ∀ y ∈ hearS s i j x, 0 ≤ y := by
      intro y hy
      unfold hearS at hy
      split at hy
      · simp only [List.mem_append, List.mem_singleton] at hy
        rcases hy with hy | hy
        · exact h.ntd i j hi hj y hy
        · omega
      · exact h.ntd i j hi hj y hy
    refine ⟨way_inv hp hi hj hij _ hr hhe (fun e => ?_) (fun e => ?_) (fun e => ?_), ?_, ?_⟩
    · obtain ⟨h1, h2⟩ := h.i1 i j hi hj e
      exact ⟨fun y hy => h1 y (by rw [hth]; simp [hy]), h2⟩
    · rcases h.i2 i j hi hj hij e with e2 | e2
      · rw [hth] at e2
        rcases List.mem_cons.1 e2 with e3 | e3
        · exact absurd e3.symm hx
        · exact .inl e3
      · exact .inr e2
    · obtain ⟨h1, h2⟩ := h.i3 i j hi hj e
      refine ⟨h1, ?_⟩
      show hearS s i j x = []
      unfold hearS
      have e3 : s.own j = -1 := e
      rw [if_neg (fun e2 => e2.1 e3)]; exact h2
    · rw [way_tot hi hj, pay_tot hj]
      show tot n s + x - lsum (s.ways i j).things + lsum r = _
      rw [hth]
      show tot n s + x - (x + lsum r) + lsum r = _
      omega
    · rw [way_pict hi hj, pay_pict hj]
      show pict n s + (if s.own j = -1 then x else 0) - wOf (s.ways i j) + wOf ⟨r, hearS s i j x, (s.ways i j).marked⟩ = _
      have hpx : lsum (pre (s.ways i j).things) = x + lsum (pre r) := by rw [hth]; show lsum (if x = 0 then [] else x :: pre r) = _; rw [if_neg hx]; rfl
      unfold wOf
      simp only
      rw [hpx]
      by_cases ho : s.own j = -1
      · rw [if_pos ho]
        obtain ⟨h1, h2⟩ := h.i3 i j hi hj ho
        have e3 : hearS s i j x = (s.ways i j).noted := by unfold hearS; rw [if_neg (fun e2 => e2.1 ho)]
        rw [e3, h1]
        simp
        omega
      · rw [if_neg ho]
        by_cases hb : (s.ways i j).marked = true
        · have e3 : hearS s i j x = (s.ways i j).noted := by unfold hearS; rw [if_neg (fun e2 => by rw [hb] at e2; exact absurd e2.2 (by simp))]
          rw [e3, hb]
          simp
        · have hb' : (s.ways i j).marked = false := by simpa using hb
          have e3 : hearS s i j x = (s.ways i j).noted ++ [x] := by unfold hearS; rw [if_pos ⟨ho, hb'⟩]
          rw [e3, hb', lsum_append]
          show _ - _ + ((lsum (s.ways i j).noted + (x + 0)) + _) = _
          simp
          omega

/-- A step that is done is one of three. -/
theorem code_ok {p : Pass} (h : codeS n s p = 0) : (∃ w o x, w < n ∧ o < n ∧ w ≠ o ∧ 1 ≤ x ∧ x ≤ s.money w ∧ p = ⟨1, (w : Int), (o : Int), x⟩ ∧ doS n s p = putS (payS s w (-x)) w o x) ∨
    (∃ w o x y r, w < n ∧ o < n ∧ w ≠ o ∧ (s.ways o w).things = y :: r ∧ p = ⟨2, (w : Int), (o : Int), x⟩ ∧ doS n s p = takeS n s o w) ∨
    (∃ w, w < n ∧ s.own w = -1 ∧ p.kind = 3 ∧ p.who = (w : Int) ∧ doS n s p = noteS n s w) := by
  obtain ⟨kind, who, other, x⟩ := p
  have inof : ∀ {z : Int}, inP n z = true → ∃ k : Nat, k < n ∧ z = (k : Int) := fun {z} hz => by
    simp [inP] at hz
    exact ⟨z.toNat, by omega, by omega⟩
  unfold codeS at h
  simp only [] at h
  split at h
  · rename_i hk
    split at h
    · omega
    · rename_i hb
      have hb1 : inP n who = true := by
        cases e : inP n who with
        | true => rfl
        | false => exact absurd (Or.inl e) hb
      have hb2 : inP n other = true := by
        cases e : inP n other with
        | true => rfl
        | false => exact absurd (Or.inr (Or.inl e)) hb
      have hb3 : who ≠ other := fun e => hb (.inr (.inr e))
      obtain ⟨w, hw, rfl⟩ := inof hb1
      obtain ⟨o, ho, rfl⟩ := inof hb2
      have hwo : w ≠ o := by omega
      simp only [Int.toNat_natCast] at h
      by_cases hk1 : kind = 1
      · subst hk1
        rw [if_pos rfl] at h
        split at h
        · omega
        · rename_i hx
          exact .inl ⟨w, o, x, hw, ho, hwo, by omega, by omega, rfl, by unfold doS; rw [if_pos rfl]; simp⟩
      · have hk2 : kind = 2 := by omega
        subst hk2
        rw [if_neg (by omega)] at h
        split at h
        · omega
        · rename_i hx
          cases hth : (s.ways o w).things with
          | nil => exact absurd hth hx
          | cons y r => exact .inr (.inl ⟨w, o, x, y, r, hw, ho, hwo, hth, rfl, by unfold doS; rw [if_neg (by simp), if_pos rfl]; simp⟩)
  · split at h
    · rename_i hk
      subst hk
      split at h
      · omega
      · rename_i hb
        have hb1 : inP n who = true := by simpa using hb
        obtain ⟨w, hw, rfl⟩ := inof hb1
        simp only [Int.toNat_natCast] at h
        split at h
        · omega
        · rename_i ho
          exact .inr (.inr ⟨w, hw, by simpa using ho, rfl, rfl, by unfold doS; rw [if_neg (by simp), if_neg (by simp)]; simp⟩)
    · omega

theorem step_inv (h : Inv n s) (p : Pass) : Inv n (stepS n s p) ∧ tot n (stepS n s p) = tot n s ∧ pict n (stepS n s p) = pict n s := by
  unfold stepS
  split
  · rename_i hc
    rcases code_ok hc with ⟨w, o, x, hw, ho, hwo, h1, h2, _, e⟩ | ⟨w, o, x, y, r, hw, ho, hwo, hth, _, e⟩ | ⟨w, hw, _, _, _, e⟩
    · rw [e]; exact send_inv h hw ho hwo h1 h2
    · rw [e]; exact take_inv h ho hw (Ne.symm hwo) hth
    · rw [e]; exact note_inv h hw
  · exact ⟨h, rfl, rfl⟩
theorem at_inv (h : Inv n s) (ps : List Pass) : ∀ k, Inv n (stAt n s ps k) ∧ tot n (stAt n s ps k) = tot n s ∧ pict n (stAt n s ps k) = pict n s
  | 0 => ⟨h, rfl, rfl⟩
  | k + 1 => by
    obtain ⟨h1, h2, h3⟩ := at_inv h ps k
    unfold stAt
    split
    · rename_i p _
      obtain ⟨h4, h5, h6⟩ := step_inv h1 p
      exact ⟨h4, h5.trans h2, h6.trans h3⟩
    · exact ⟨h1, h2, h3⟩

/-- No way has more than so much on it, or noted of it. -/
def Len (n k : Nat) (s : St) : Prop := ∀ a b, a < n → b < n → (s.ways a b).things.length ≤ k ∧ (s.ways a b).noted.length ≤ k
theorem note_len {k who : Nat} (h : Len n k s) : ∀ a b, a < n → b < n → ((noteS n s who).ways a b).things.length ≤ (if a = who then k + 1 else k) ∧ ((noteS n s who).ways a b).noted.length ≤ k := by
  intro a b ha hb
  obtain ⟨h1, h2⟩ := h a b ha hb
  by_cases e : a = who
  · rw [if_pos e]
    by_cases ho : s.own who = -1
    · rw [noteS_do ho]
      show (markW n s who a b).things.length ≤ k + 1 ∧ (markW n s who a b).noted.length ≤ k
      rw [(markW_marked n s who a b).2]
      refine ⟨?_, h2⟩
      unfold markW
      split
      · simp [pushW]; exact h1
      · omega
    · rw [noteS_not ho]; exact ⟨by omega, h2⟩
  · rw [if_neg e, noteS_way e]; exact ⟨h1, h2⟩
theorem step_len {k : Nat} (h : Len n k s) (p : Pass) : Len n (k + 1) (stepS n s p) := by
  have hup : Len n (k + 1) s := fun a b ha hb => by obtain ⟨h1, h2⟩ := h a b ha hb; exact ⟨by omega, by omega⟩
  unfold stepS
  split
  · rename_i hc
    rcases code_ok hc with ⟨w, o, x, hw, ho, hwo, h1, h2, _, e⟩ | ⟨w, o, x, y, r, hw, ho, hwo, hth, _, e⟩ | ⟨w, hw, _, _, _, e⟩
    · rw [e]
      intro a b ha hb
      show (upd2 s.ways w o (pushW (s.ways w o) x) a b).things.length ≤ k + 1 ∧ (upd2 s.ways w o (pushW (s.ways w o) x) a b).noted.length ≤ k + 1
      by_cases e2 : a = w ∧ b = o
      · obtain ⟨rfl, rfl⟩ := e2
        rw [upd2_same]
        obtain ⟨h3, h4⟩ := h a b ha hb
        exact ⟨by simp [pushW]; exact h3, by show (s.ways a b).noted.length ≤ _; omega⟩
      · rw [upd2_other _ _ e2]; exact hup a b ha hb
    · rw [e]
      intro a b ha hb
      have h5 := h o w ho hw
      rw [hth] at h5
      simp at h5
      unfold takeS
      rw [hth]
      simp only []
      split
      · show (upd2 (noteS n s w).ways o w _ a b).things.length ≤ k + 1 ∧ (upd2 (noteS n s w).ways o w _ a b).noted.length ≤ k + 1
        by_cases e2 : a = o ∧ b = w
        · obtain ⟨rfl, rfl⟩ := e2
          rw [upd2_same]
          exact ⟨by show r.length ≤ _; omega, by show (s.ways a b).noted.length ≤ _; omega⟩
        · rw [upd2_other _ _ e2]
          obtain ⟨h6, h7⟩ := note_len (who := w) h a b ha hb
          split at h6
          · exact ⟨h6, by omega⟩
          · exact ⟨by omega, by omega⟩
      · show (upd2 s.ways o w _ a b).things.length ≤ k + 1 ∧ (upd2 s.ways o w _ a b).noted.length ≤ k + 1
        by_cases e2 : a = o ∧ b = w
        · obtain ⟨rfl, rfl⟩ := e2
          rw [upd2_same]
          refine ⟨by show r.length ≤ _; omega, ?_⟩
          show (hearS s a b y).length ≤ _
          unfold hearS
          split
          · simp; exact h5.2
          · omega
        · rw [upd2_other _ _ e2]; exact hup a b ha hb
    · rw [e]
      intro a b ha hb
      obtain ⟨h6, h7⟩ := note_len (who := w) h a b ha hb
      split at h6
      · exact ⟨h6, by omega⟩
      · exact ⟨by omega, by omega⟩
  · exact hup
theorem at_len (m : Nat → Int) (ps : List Pass) : ∀ k, Len n k (stAt n (st0 m) ps k)
  | 0 => fun a b _ _ => ⟨Nat.le_refl _, Nat.le_refl _⟩
  | k + 1 => by
    have ih := at_len m ps k
    unfold stAt
    split
    · exact step_len ih _
    · intro a b ha hb
      obtain ⟨h1, h2⟩ := ih a b ha hb
      exact ⟨by omega, by omega⟩
/-- No sum grows beyond all the money. -/
theorem money_le (h : Inv n s) {i : Nat} (hi : i < n) : s.money i ≤ tot n s := by
  have h1 := sumN_one hi h.mon
  have h2 : 0 ≤ sum2 n fun i j => lsum (s.ways i j).things := sum2_nonneg fun i j hi hj => lsum_nonneg (h.thg i j hi hj)
  unfold tot
  omega
theorem thing_le (h : Inv n s) {i j : Nat} (hi : i < n) (hj : j < n) {x : Int} (hx : x ∈ (s.ways i j).things) : 0 ≤ x ∧ x ≤ tot n s := by
  have h1 := lsum_one hx (h.thg i j hi hj)
  have h2 : lsum (s.ways i j).things ≤ sum2 n fun i j => lsum (s.ways i j).things := sum2_one hi hj (fun i j hi hj => lsum_nonneg (h.thg i j hi hj))
  have h3 := sumN_nonneg h.mon
  have h4 := h.thg i j hi hj x hx
  unfold tot
  omega
end Go.Proofs.Ythadhhconkjpmaa
