/- One at a time: who asks first goes in first; plain. -/
import Derived.Test.YtaojmbebkggafaaMb5
namespace Go.Proofs.Ytaojmbebkggafaa
set_option linter.unusedVariables false

variable {n k : Nat} {s : MS}
theorem enter_ins (n : Nat) (t : MS) (i : Nat) : (enterM n t i).ins = t.ins ∧ (∀ a, ((enterM n t i).pr a).st = (t.pr a).st) ∨ (enterM n t i).ins = t.ins ++ [i] ∧ ((enterM n t i).pr i).st = 2 ∧ ∀ a, a ≠ i → ((enterM n t i).pr a).st = (t.pr a).st := by
  unfold enterM
  split
  · right
    refine ⟨rfl, ?_, fun a ha => ?_⟩
    · show ((upd1 t.pr i { t.pr i with st := 2 }) i).st = 2; rw [upd1_same]
    · show ((upd1 t.pr i { t.pr i with st := 2 }) a).st = _; rw [upd1_other _ _ ha]
  · exact .inl ⟨rfl, fun _ => rfl⟩
/-- A right step: who comes inside stands inside. -/
theorem ins_do (hn : n ≤ 1000) (h : MB n k s) {p : Cst} (hc : codeM n s p = 0) : (doM n s p).ins = s.ins ∨ ∃ w, w < n ∧ (doM n s p).ins = s.ins ++ [w] ∧ ((doM n s p).pr w).st = 2 := by
  rcases code_zero hn hc with ⟨w, hw, _, _, hst, e⟩ | ⟨w, o, x, r, hw, ho, hne, _, _, _, hl, e⟩ | ⟨w, hw, _, _, hst, e⟩
  · rw [e]
    unfold askM
    have h1 := enter_ins n (keysTo (askS s w) w ((s.pr w).num + 1) n) w
    have h2 : (keysTo (askS s w) w ((s.pr w).num + 1) n).ins = s.ins := (keysTo_pr _ _ _ n).2
    rw [h2] at h1
    rcases h1 with h1 | h1
    · exact .inl h1.1
    · exact .inr ⟨w, hw, h1.1, h1.2.1⟩
  · rw [e]
    unfold takeM
    simp only [hl]
    split
    · have h1 := enter_ins n (yesS (wayM s o w r) w) w
      have h2 : (yesS (wayM s o w r) w).ins = s.ins := rfl
      rw [h2] at h1
      rcases h1 with h1 | h1
      · exact .inl h1.1
      · exact .inr ⟨w, hw, h1.1, h1.2.1⟩
    · left; unfold answerM; split <;> rfl
  · rw [e]; exact .inl (yesesTo_pr _ _ _).2
/-- One that asks, and has another one's yes coming: so it stays until it comes inside. -/
theorem perm_do (hn : n ≤ 1000) (h : MB n k s) {p : Cst} (hc : codeM n s p = 0) {a b : Nat} (hab : a ≠ b) (ha : (s.pr a).st = 1) (hk0 : nk (s.ways a b) = 0) (hw0 : a ∉ (s.pr b).wait) :
    (doM n s p).ins = s.ins ++ [a] ∨ (((doM n s p).pr a).st = 1 ∧ nk ((doM n s p).ways a b) = 0 ∧ a ∉ ((doM n s p).pr b).wait) := by
  rcases code_zero hn hc with ⟨w, hw, _, _, hst, e⟩ | ⟨w, o, x, r, hw, ho, hne, _, _, _, hl, e⟩ | ⟨w, hw, _, _, hst, e⟩
  · rw [e]
    have haw : a ≠ w := fun e2 => by rw [e2] at ha; omega
    obtain ⟨e1, e2, _⟩ := enter_keep n (keysTo (askS s w) w ((s.pr w).num + 1) n) w
    have hp : ∀ c, (keysTo (askS s w) w ((s.pr w).num + 1) n).pr c = if c = w then ⟨(s.pr w).num + 1, 1, (s.pr w).num + 1, w, 0, (s.pr w).wait⟩ else s.pr c := fun c => by rw [(keysTo_pr _ _ _ n).1]; rfl
    right
    unfold askM
    refine ⟨?_, ?_, ?_⟩
    · rcases enter_ins n (keysTo (askS s w) w ((s.pr w).num + 1) n) w with h1 | h1
      · rw [h1.2, hp, if_neg haw]; exact ha
      · rw [h1.2.2 a haw, hp, if_neg haw]; exact ha
    · rw [e1, keysTo_ways, if_neg (fun h2 => haw h2.1)]; exact hk0
    · rw [(e2 b).2.1, hp]
      split
      · rename_i e3; rw [← e3]; exact hw0
      · exact hw0
  · rw [e]
    have hwy : nk ((wayM s o w r).ways a b) = 0 := by
      show nk (if a = o ∧ b = w then r else s.ways a b) = 0
      split
      · rename_i e3
        rw [e3.1, e3.2, hl, nk_cons] at hk0
        omega
      · exact hk0
    unfold takeM
    simp only [hl]
    split
    · obtain ⟨e1, e2, _⟩ := enter_keep n (yesS (wayM s o w r) w) w
      have hp : ∀ c, (yesS (wayM s o w r) w).pr c = if c = w then { s.pr w with yes := (s.pr w).yes + 1 } else s.pr c := fun c => rfl
      have hst2 : ∀ c, ((yesS (wayM s o w r) w).pr c).st = (s.pr c).st := fun c => by rw [hp]; split <;> (try subst_vars) <;> rfl
      have hwt2 : ∀ c, ((yesS (wayM s o w r) w).pr c).wait = (s.pr c).wait := fun c => by rw [hp]; split <;> (try subst_vars) <;> rfl
      rcases enter_ins n (yesS (wayM s o w r) w) w with h1 | h1
      · right
        exact ⟨by rw [h1.2, hst2]; exact ha, by rw [e1]; exact hwy, by rw [(e2 b).2.1, hwt2]; exact hw0⟩
      · by_cases haw : a = w
        · left; rw [h1.1, haw]; rfl
        · right
          exact ⟨by rw [h1.2.2 a haw, hst2]; exact ha, by rw [e1]; exact hwy, by rw [(e2 b).2.1, hwt2]; exact hw0⟩
    · rename_i hx
      right
      have hno : ¬ (a = o ∧ b = w) := fun e3 => by
        rw [e3.1, e3.2, hl, nk_cons, if_neg hx] at hk0
        omega
      refine ⟨by rw [answer_st]; exact ha, ?_, ?_⟩
      · rcases answer_ways (wayM s o w r) w x o a b with h1 | h1
        · rw [h1]; exact hwy
        · rw [h1.2.2, nk_app, if_pos rfl]; exact hwy
      · unfold answerM
        split
        · show a ∉ ((if b = w then { s.pr w with num := max (s.pr w).num x, wait := (s.pr w).wait ++ [o] } else s.pr b) : Pr).wait
          split
          · rename_i e3
            show a ∉ (s.pr w).wait ++ [o]
            rw [List.mem_append, List.mem_singleton]
            rintro (h2 | h2)
            · rw [e3] at hw0; exact hw0 h2
            · exact hno ⟨h2, e3⟩
          · exact hw0
        · show a ∉ ((if b = w then { s.pr w with num := max (s.pr w).num x } else s.pr b) : Pr).wait
          split
          · rename_i e3; show a ∉ (s.pr w).wait; rw [← e3]; exact hw0
          · exact hw0
  · rw [e]
    right
    have haw : a ≠ w := fun e2 => by rw [e2] at ha; omega
    have hpr := yesesTo_pr w (s.pr w).wait (outS s w)
    have hP : ∀ c, (leaveM s w).pr c = if c = w then { s.pr w with st := 0, wait := [] } else s.pr c := by
      intro c
      show upd1 (yesesTo (outS s w) w (s.pr w).wait).pr w { (yesesTo (outS s w) w (s.pr w).wait).pr w with wait := [] } c = _
      rw [upd1_ite, hpr.1]
      split
      · show { (upd1 s.pr w { s.pr w with st := 0 }) w with wait := [] } = _; rw [upd1_same]
      · rename_i e2; show upd1 s.pr w _ c = _; rw [upd1_other _ _ e2]
    have hW : (leaveM s w).ways a b = if a = w then s.ways a b ++ List.replicate (wc (s.pr w).wait b) 0 else s.ways a b := yesesTo_ways w a b _ _
    refine ⟨by rw [hP, if_neg haw]; exact ha, by rw [hW, if_neg haw]; exact hk0, ?_⟩
    rw [hP]
    split
    · simp
    · exact hw0

/-- Of those who came inside since: whoever does not ask at first has one ahead of it that does. -/
structure FairM (a b : Nat) (s : MS) (r : List Nat) : Prop where
  out : a ∉ r → (s.pr a).st = 1 ∧ nk (s.ways a b) = 0 ∧ a ∉ (s.pr b).wait ∧ b ∉ r
  ord : ∀ y : Nat, r[y]? = some b → ∃ x : Nat, x < y ∧ r[x]? = some a
theorem fair_step (hn : n ≤ 1000) (h : MB n k s) {a b : Nat} (ha : a < n) (hb : b < n) (hab : a ≠ b) {i0 r : List Nat} (hi : s.ins = i0 ++ r) (hF : FairM a b s r) (p : Cst) :
    ∃ r2, (stepM n s p).ins = i0 ++ r2 ∧ FairM a b (stepM n s p) r2 := by
  unfold stepM
  split
  · rename_i hc
    have hB2 := mb_do hn h hc
    by_cases hm : a ∈ r
    · rcases ins_do hn h hc with e | ⟨w, hw, e, hst⟩
      · exact ⟨r, by rw [e, hi], fun h2 => absurd hm h2, hF.ord⟩
      · refine ⟨r ++ [w], by rw [e, hi, List.append_assoc], fun h2 => absurd (List.mem_append_left _ hm) h2, fun y hy => ?_⟩
        by_cases hyl : y < r.length
        · rw [List.getElem?_append_left hyl] at hy
          obtain ⟨x, hx, hx2⟩ := hF.ord y hy
          exact ⟨x, hx, by rw [List.getElem?_append_left (by omega)]; exact hx2⟩
        · obtain ⟨x, hx⟩ := List.getElem?_of_mem hm
          have := (List.getElem?_eq_some_iff.1 hx).1
          exact ⟨x, by omega, by rw [List.getElem?_append_left this]; exact hx⟩
    · obtain ⟨h1, h2, h3, h4⟩ := hF.out hm
      rcases perm_do hn h hc hab h1 h2 h3 with e | ⟨g1, g2, g3⟩
      · refine ⟨r ++ [a], by rw [e, hi, List.append_assoc], fun h5 => absurd (by simp) h5, fun y hy => ?_⟩
        have : b ∈ r ++ [a] := List.mem_of_getElem? hy
        rw [List.mem_append, List.mem_singleton] at this
        rcases this with h5 | h5
        · exact absurd h5 h4
        · exact absurd h5.symm hab
      · rcases ins_do hn h hc with e | ⟨w, hw, e, hst⟩
        · exact ⟨r, by rw [e, hi], fun _ => ⟨g1, g2, g3, h4⟩, fun y hy => absurd (List.mem_of_getElem? hy) h4⟩
        · have hwa : w ≠ a := fun e2 => by rw [e2] at hst; omega
          have hwb : w ≠ b := fun e2 => by
            subst e2
            have k1 := (hB2.inv.perm w a hw ha (Ne.symm hab) (.inr ⟨g1, g2, g3⟩)).2 (by omega)
            have k2 := (hB2.inv.perm a w ha hw hab (.inl hst)).2 (by omega)
            unfold kl at k1 k2
            omega
          have hbr : b ∉ r ++ [w] := fun h5 => by
            rw [List.mem_append, List.mem_singleton] at h5
            rcases h5 with h5 | h5
            · exact h4 h5
            · exact hwb h5.symm
          exact ⟨r ++ [w], by rw [e, hi, List.append_assoc], fun _ => ⟨g1, g2, g3, hbr⟩, fun y hy => absurd (List.mem_of_getElem? hy) hbr⟩
  · exact ⟨r, hi, hF⟩
theorem fair_at (hn : n ≤ 1000) (ps : List Cst) {a b k : Nat} (ha : a < n) (hb : b < n) (hab : a ≠ b) (hF : FairM a b (msAt n ps k) []) : ∀ j, ∃ r, (msAt n ps (k + j)).ins = (msAt n ps k).ins ++ r ∧ FairM a b (msAt n ps (k + j)) r
  | 0 => ⟨[], by simp, hF⟩
  | j + 1 => by
    obtain ⟨r, h1, h2⟩ := fair_at hn ps ha hb hab hF j
    show ∃ r, (match ps[k + j]? with | some p => stepM n (msAt n ps (k + j)) p | none => msAt n ps (k + j)).ins = _ ∧ FairM a b (match ps[k + j]? with | some p => stepM n (msAt n ps (k + j)) p | none => msAt n ps (k + j)) r
    split
    · exact fair_step hn (mb_at hn ps (k + j)) ha hb hab h1 h2 _
    · exact ⟨r, h1, h2⟩
theorem ins_lt (hn : n ≤ 1000) (ps : List Cst) : ∀ k x, x ∈ (msAt n ps k).ins → x < n
  | 0, x, h => by simp [msAt, ms0] at h
  | k + 1, x, h => by
    have ih := ins_lt hn ps k
    have h2 : x ∈ (match ps[k]? with | some p => stepM n (msAt n ps k) p | none => msAt n ps k).ins := h
    split at h2
    · unfold stepM at h2
      split at h2
      · rename_i hc
        rcases ins_do hn (mb_at hn ps k) hc with e | ⟨w, hw, e, _⟩
        · rw [e] at h2; exact ih x h2
        · rw [e, List.mem_append, List.mem_singleton] at h2
          rcases h2 with h2 | h2
          · exact ih x h2
          · rw [h2]; exact hw
      · exact ih x h2
    · exact ih x h2
theorem natsI_in {l : List Nat} {x : Int} : x ∈ natsI l ↔ ∃ m : Nat, m ∈ l ∧ x = (m : Int) := by
  constructor
  · exact natsI_mem
  · rintro ⟨m, h, rfl⟩
    unfold natsI
    exact List.mem_map.2 ⟨m, h, rfl⟩
theorem posI_lt {xs : List Int} {x y : Int} (hy : y ∈ xs) (h : ∀ q : Nat, xs[q]? = some y → ∃ p, p < q ∧ xs[p]? = some x) : 0 ≤ posI xs x ∧ posI xs x < posI xs y := by
  unfold posI
  cases ey : xs.findIdx? (fun z => z == y) with
  | none =>
    rw [List.findIdx?_eq_none_iff] at ey
    have := ey y hy
    simp at this
  | some q =>
    rw [List.findIdx?_eq_some_iff_getElem] at ey
    obtain ⟨h1, h2, _⟩ := ey
    have h3 : xs[q]? = some y := by rw [List.getElem?_eq_getElem h1]; simpa using h2
    obtain ⟨p, hp, hpx⟩ := h q h3
    cases ex : xs.findIdx? (fun z => z == x) with
    | none =>
      rw [List.findIdx?_eq_none_iff] at ex
      have := ex x (List.mem_of_getElem? hpx)
      simp at this
    | some p2 =>
      have ex2 := ex
      rw [List.findIdx?_eq_some_iff_getElem] at ex2
      obtain ⟨g1, g2, g3⟩ := ex2
      have : p2 ≤ p := by
        refine Classical.byContradiction fun e => ?_
        have hpl := (List.getElem?_eq_some_iff.1 hpx).1
        have g4 := g3 p (by omega)
        rw [List.getElem?_eq_getElem hpl] at hpx
        simp only [Option.some.injEq] at hpx
        simp [hpx] at g4
      refine ⟨Int.natCast_nonneg _, ?_⟩
      show (p2 : Int) < (q : Int)
      omega
theorem askTo_same {ps qs : List Cst} {cd ce : Nat → Int} : ∀ k, (∀ j, j < k → qs[j]? = ps[j]?) → (∀ j, j < k → ce j = cd j) → askTo qs ce k = askTo ps cd k
  | 0, _, _ => rfl
  | k + 1, h1, h2 => by
    rw [askTo, askTo, askTo_same k (fun j hj => h1 j (by omega)) (fun j hj => h2 j (by omega)), h2 k (by omega), List.getD_eq_getElem?_getD, List.getD_eq_getElem?_getD, h1 k (by omega)]
/-- The law. -/
theorem fair_plain (hn : n ≤ 1000) (ps : List Cst) {at0 pl : Nat} (hat : at0 ≤ pl) (hpl : pl = ps.length) (ha : awayM n (msAt n ps at0) = 0) {i j : Int} (hi : i ∈ askTo ps (mcAt n ps) at0) (hi2 : i ∉ natsI (insideM n (msAt n ps at0))) (hj : j ∉ askTo ps (mcAt n ps) at0)
    {r : List Nat} (hr : (msAt n ps pl).ins = (msAt n ps at0).ins ++ r) : posI (natsI r) j < 0 ∨ (0 ≤ posI (natsI r) i ∧ posI (natsI r) i < posI (natsI r) j) := by
  by_cases hjr : j ∈ natsI r
  · right
    have hB := mb_at hn ps at0
    obtain ⟨a, ha1, rfl, ha2⟩ := (ask_mem hn ps at0 (by omega) i).1 hi
    obtain ⟨b, hb1, rfl⟩ := natsI_in.1 hjr
    have hbn : b < n := ins_lt hn ps pl b (by rw [hr]; exact List.mem_append_right _ hb1)
    have hb0 : ((msAt n ps at0).pr b).st = 0 := Classical.byContradiction fun e => hj ((ask_mem hn ps at0 (by omega) _).2 ⟨b, hbn, rfl, e⟩)
    have ha3 : ((msAt n ps at0).pr a).st ≠ 2 := fun e => hi2 (natsI_in.2 ⟨a, mem_inside.2 ⟨ha1, e⟩, rfl⟩)
    have ha4 : ((msAt n ps at0).pr a).st = 1 := by have := hB.inv.st3 a; omega
    have hab : a ≠ b := fun e => by rw [e] at ha4; omega
    have hF : FairM a b (msAt n ps at0) [] := ⟨fun _ => ⟨ha4, by rw [away_none ha ha1 hbn]; rfl, fun hm => by
      have := (hB.inv.wt b hbn a hm).2.2.2
      omega, by simp⟩, fun y hy => by simp at hy⟩
    obtain ⟨r2, h1, h2⟩ := fair_at hn ps ha1 hbn hab hF (pl - at0)
    rw [show at0 + (pl - at0) = pl by omega, hr] at h1
    have h3 : r = r2 := List.append_cancel_left h1
    subst h3
    refine posI_lt hjr (fun q hq => ?_)
    obtain ⟨m, hm1, hm2⟩ := natsI_back hq
    have : m = b := by omega
    subst this
    obtain ⟨x, hx1, hx2⟩ := h2.ord q hm1
    exact ⟨x, hx1, natsI_at hx2⟩
  · left
    rw [posI_none hjr]
    omega
end Go.Proofs.Ytaojmbebkggafaa
