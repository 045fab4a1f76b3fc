/- Plain: what laws say of messages in one order. -/
import Derived.Test.YtipoopbkapgfiaaTb0
namespace Go.Proofs.Ytipoopbkapgfiaa
set_option linter.unusedVariables false

variable {n : Nat} {s : TS} {g : Nat → Nat → Nat}
theorem pre_of (K1 K2 : Nat → Nat) : ∀ (a b : List Nat), a.Pairwise (fun x y => K1 x < K1 y) → b.Pairwise (fun x y => K2 x < K2 y) → (∀ x y, x ∈ a → y ∈ b → K1 x = K2 y → x = y) →
    (∀ x y, x ∈ a → y ∈ b → K2 y < K1 x → y ∈ a ∧ K1 y = K2 y) → (∀ x y, x ∈ a → y ∈ b → K1 x < K2 y → x ∈ b ∧ K2 x = K1 x) → (∃ r, b = a ++ r) ∨ (∃ r, a = b ++ r)
  | [], b, _, _, _, _, _ => .inl ⟨b, rfl⟩
  | a, [], _, _, _, _, _ => .inr ⟨a, rfl⟩
  | x :: a, y :: b, ha, hb, h1, h2, h3 => by
    rw [List.pairwise_cons] at ha hb
    have e0 : K1 x = K2 y := by
      rcases Nat.lt_trichotomy (K1 x) (K2 y) with h | h | h
      · obtain ⟨m, e⟩ := h3 x y (by simp) (by simp) h
        rcases List.mem_cons.1 m with m | m
        · rw [m] at e h; omega
        · have := hb.1 x m; omega
      · exact h
      · obtain ⟨m, e⟩ := h2 x y (by simp) (by simp) h
        rcases List.mem_cons.1 m with m | m
        · rw [m] at e h; omega
        · have := ha.1 y m; omega
    have e1 := h1 x y (by simp) (by simp) e0
    subst e1
    have := pre_of K1 K2 a b ha.2 hb.2 (fun u v hu hv => h1 u v (by simp [hu]) (by simp [hv])) (fun u v hu hv hlt => by
      obtain ⟨m, e⟩ := h2 u v (by simp [hu]) (by simp [hv]) hlt
      rcases List.mem_cons.1 m with m | m
      · have := hb.1 v hv; rw [m] at this; omega
      · exact ⟨m, e⟩) (fun u v hu hv hlt => by
      obtain ⟨m, e⟩ := h3 u v (by simp [hu]) (by simp [hv]) hlt
      rcases List.mem_cons.1 m with m | m
      · have := ha.1 u hu; rw [m] at this; omega
      · exact ⟨m, e⟩)
    rcases this with ⟨r, e⟩ | ⟨r, e⟩
    · exact .inl ⟨r, by rw [e]; rfl⟩
    · exact .inr ⟨r, by rw [e]; rfl⟩

/-- Of what one heard, another has heard what comes ahead of what it heard itself. -/
theorem ahead (h : TInv n s g) {p q x y : Nat} (hx : x ∈ s.ls p) (hy : y ∈ s.ls q) (hlt : ky s q y < ky s p x) : y ∈ s.ls p ∧ ky s p y = ky s q y := by
  obtain ⟨ex, hex, _, _⟩ := h.told_of hx
  obtain ⟨ey, hey, hty, _⟩ := h.told_of hy
  have hp := (h.at_lt hex).1
  obtain ⟨a1, a2, a3⟩ := h.td q y ey hey hty
  rw [ky_some hey] at hlt ⊢
  cases he : s.ent p y with
  | none => exact absurd ((h.g0 p y).1 he) (a1 p hp)
  | some e =>
    cases hh : e.heard with
    | true =>
      have hm : y ∈ s.ls p := (h.hd p y).2 ⟨e, he, hh⟩
      obtain ⟨e2, he2, ht2, _⟩ := h.told_of hm
      rw [he] at he2
      cases he2
      exact ⟨hm, by rw [ky_some he]; exact h.told_eq he hey ht2 hty⟩
    | false =>
      have hab := h.ab p x y e hx he hh
      exfalso
      cases ht : e.told with
      | true =>
        have := h.told_eq he hey ht hty
        omega
      | false =>
        obtain ⟨u1, u2, _⟩ := h.un p y e he ht
        have h3 := a3 p hp
        have : kc e = g p y * 1000 + p := by unfold kc; rw [u1, u2]
        omega
theorem lists_pre (h : TInv n s g) (hn : n ≤ 1000) (p q : Nat) : (∃ r, s.ls q = s.ls p ++ r) ∨ (∃ r, s.ls p = s.ls q ++ r) :=
  pre_of (ky s p) (ky s q) _ _ (h.srt p) (h.srt q) (fun x y hx hy e => by
    obtain ⟨ex, hex, _, _⟩ := h.told_of hx
    obtain ⟨ey, hey, _, _⟩ := h.told_of hy
    rw [ky_some hex, ky_some hey] at e
    exact h.dist hn hex hey e) (fun x y hx hy hlt => ahead h hx hy hlt) (fun x y hx hy hlt => ahead h hy hx hlt)

/-- Who was told of all has heard all. -/
theorem told_all (h : All n s) (hn : n ≤ 1000) {p : Nat} (ht : ∀ m, m < s.sent → toldB s p m = true) : (s.ls p).length = s.sent := by
  obtain ⟨⟨g, hi⟩, hs⟩ := h
  have h1 := ls_len hi p
  have hall : ∀ x, x < s.sent → x ∈ s.ls p := fun x hx => by
    have ht1 := ht x hx
    unfold toldB at ht1
    cases he : s.ent p x with
    | none => rw [he] at ht1; cases ht1
    | some e =>
      refine (hi.hd p x).2 ⟨e, he, ?_⟩
      cases hl : leastTo (s.ent p) s.sent with
      | none => exact (least_some (fun q e he => by have := (hi.key (p := p) he).1; omega) s.sent).1 hl x e hx he
      | some o =>
        obtain ⟨m, e2⟩ := o
        have h2 := hs p m e2 hl
        obtain ⟨m1, m2, _, _⟩ := least_at hi hn hl
        have h3 := ht m m1
        unfold toldB at h3
        rw [m2] at h3
        have h4 : e2.told = true := h3
        rw [h2] at h4
        cases h4
  have h2 := subLen (a := List.range s.sent) List.nodup_range (b := s.ls p) (fun x hx => hall x (List.mem_range.1 hx))
  simp at h2
  omega

/-- Telling tells. -/
theorem told_tell (h : All n s) (hn : n ≤ 1000) {w m : Nat} (hw : w < n) (ha : allB n s m = true) (ht : toldB s w m = false) :
    (hearN (tellT n s w m) w s.sent).sent = s.sent ∧ ∀ q x, toldB (hearN (tellT n s w m) w s.sent) q x = true ↔ toldB s q x = true ∨ (q = w ∧ x = m) := by
  obtain ⟨⟨g, hi⟩, hs⟩ := h
  obtain ⟨_, _, c⟩ := hearN_all hn s.sent (tellT n s w m) (inv_tell hi hn hw ha ht) (un_le _ _)
  obtain ⟨t1, t2⟩ := ent_tell n s w m
  obtain ⟨_, k2, _⟩ := heard_keeps c
  refine ⟨c.sent, fun q x => ⟨fun h => ?_, fun h => ?_⟩⟩
  · by_cases e : q = w ∧ x = m
    · exact .inr e
    · left
      unfold toldB at h ⊢
      rw [← t1 q x e]
      by_cases eq : q = w
      · subst eq
        cases he : (tellT n s q m).ent q x with
        | none => rw [(c.near x).1 he] at h; cases h
        | some e1 =>
          obtain ⟨e2, h2, h3⟩ := (c.near x).2 e1 he
          rw [h2] at h
          exact h3.symm.trans h
      · rw [(c.far q eq).1] at h
        exact h
  · refine k2 q x ?_
    unfold toldB
    by_cases e : q = w ∧ x = m
    · rw [e.1, e.2, t2]
    · rw [t1 q x e]
      rcases h with h | h
      · exact h
      · exact absurd h e

/-- A taking, whatever it is told, leaves what it takes there. -/
theorem took2 (h : All n s) (hn : n ≤ 1000) {p m : Nat} (hp : p < n) (hm : m < s.sent) : (stepT n s ⟨2, p, m⟩).sent = s.sent ∧ ((stepT n s ⟨2, p, m⟩).ent p m).isSome = true := by
  have hc : codeT n s ⟨2, p, m⟩ = if (s.ent p m).isSome = true then 6 else 0 := by
    unfold codeT
    rw [if_neg (by simp), if_neg (by simp [inP]; omega), if_neg (by simp), if_neg (by simp [inP]; omega), if_pos rfl]
    simp
  unfold stepT
  by_cases hs : (s.ent p m).isSome = true
  · rw [hc, if_pos hs, if_neg (by omega)]
    exact ⟨rfl, hs⟩
  · rw [hc, if_neg hs, if_pos rfl]
    unfold doT
    rw [if_neg (by simp), if_pos rfl]
    refine ⟨rfl, ?_⟩
    show (upd2 s.ent (p : Int).toNat (m : Int).toNat _ p m).isSome = true
    simp [upd2_same]
/-- A telling likewise. -/
theorem told3 (h : All n s) (hn : n ≤ 1000) {p m : Nat} (hp : p < n) (hm : m < s.sent) (ha : allB n s m = true) : (stepT n s ⟨3, p, m⟩).sent = s.sent ∧ toldB (stepT n s ⟨3, p, m⟩) p m = true := by
  have hc : codeT n s ⟨3, p, m⟩ = if toldB s p m = true then 6 else 0 := by
    unfold codeT
    rw [if_neg (by simp), if_neg (by simp [inP]; omega), if_neg (by simp), if_neg (by simp [inP]; omega), if_neg (by simp)]
    simp [ha]
  unfold stepT
  by_cases hs : toldB s p m = true
  · rw [hc, if_pos hs, if_neg (by omega)]
    exact ⟨rfl, hs⟩
  · rw [hc, if_neg hs, if_pos rfl]
    unfold doT
    rw [if_neg (by simp), if_neg (by simp)]
    obtain ⟨h1, h2⟩ := told_tell h hn hp ha (by simpa using hs)
    simp only [Int.toNat_natCast]
    exact ⟨h1, (h2 p m).2 (.inr ⟨rfl, rfl⟩)⟩

/-- How often one was told. -/
def tellTo (ps : List Cst) (cd : Nat → Int) (p : Nat) : Nat → Nat
  | 0 => 0
  | k + 1 => if (ps.getD k ⟨0, 0, 0⟩).kind = 3 ∧ (ps.getD k ⟨0, 0, 0⟩).who = (p : Int) ∧ cd k = 0 then tellTo ps cd p k + 1 else tellTo ps cd p k
theorem tellTo_le (ps : List Cst) (cd : Nat → Int) (p : Nat) : ∀ k, tellTo ps cd p k ≤ k
  | 0 => Nat.le_refl _
  | k + 1 => by have := tellTo_le ps cd p k; unfold tellTo; split <;> omega
theorem told_count (hn : n ≤ 1000) (ps : List Cst) (p : Nat) : ∀ k, k ≤ ps.length → ∃ T : List Nat, T.length = tellTo ps (tcAt n ps) p k ∧ ∀ m, toldB (tsAt n ps k) p m = true → m ∈ T
  | 0, _ => ⟨[], rfl, fun m h => by simp [toldB, tsAt, ts0] at h⟩
  | k + 1, hk => by
    obtain ⟨T, hT, hm⟩ := told_count hn ps p k (by omega)
    have hp : ps[k]? = some (ps[k]'(by omega)) := List.getElem?_eq_getElem (by omega)
    generalize ps[k]'(by omega) = c at hp
    have ek : tsAt n ps (k + 1) = stepT n (tsAt n ps k) c := by show (match ps[k]? with | some p => _ | none => _) = _; rw [hp]
    have ec : tcAt n ps k = codeT n (tsAt n ps k) c := by unfold tcAt; rw [hp]
    have eg : ps.getD k ⟨0, 0, 0⟩ = c := by rw [List.getD_eq_getElem?_getD, hp]; rfl
    have hall := tat_all hn ps k
    rw [ek]
    unfold tellTo
    rw [eg, ec]
    unfold stepT
    by_cases hc : codeT n (tsAt n ps k) c = 0
    · rw [if_pos hc]
      cases ok_of hc with
      | send w hw ew ek1 ed =>
        rw [ed, if_neg (by omega)]
        exact ⟨T, hT, fun m h => hm m h⟩
      | take w x hw hx ew em ek1 h0 ed =>
        rw [ed, if_neg (by omega)]
        refine ⟨T, hT, fun m h => hm m ?_⟩
        unfold toldB at h ⊢
        change (match upd2 (tsAt n ps k).ent w x _ p m with | some e => e.told | none => false) = true at h
        rw [ud2] at h
        by_cases e : p = w ∧ m = x
        · rw [if_pos e] at h; cases h
        · rw [if_neg e] at h; exact h
      | tell w x hw hx ew em ek1 ht ha ed =>
        rw [ed]
        obtain ⟨_, h2⟩ := told_tell hall hn hw ha ht
        by_cases e : p = w
        · subst e
          rw [if_pos ⟨ek1, ew, hc⟩]
          refine ⟨x :: T, by simp [hT], fun m h => ?_⟩
          rcases (h2 p m).1 h with h | h
          · exact List.mem_cons_of_mem _ (hm m h)
          · rw [h.2]; simp
        · rw [if_neg (fun h => e (by omega))]
          refine ⟨T, hT, fun m h => ?_⟩
          rcases (h2 p m).1 h with h | h
          · exact hm m h
          · exact absurd h.1 e
    · rw [if_neg hc, if_neg (fun h => hc h.2.2)]
      exact ⟨T, hT, hm⟩
theorem heard_few (hn : n ≤ 1000) (ps : List Cst) (p k : Nat) (hk : k ≤ ps.length) : ((tsAt n ps k).ls p).length ≤ tellTo ps (tcAt n ps) p k := by
  obtain ⟨T, hT, hm⟩ := told_count hn ps p k hk
  obtain ⟨g, hi⟩ := (tat_all hn ps k).inv
  rw [← hT]
  exact subLen (hi.nd p) (fun x hx => by
    obtain ⟨e, he, ht, _⟩ := hi.told_of hx
    exact hm x (by unfold toldB; rw [he]; exact ht))
/-- How much was sent. -/
theorem sent_count (hn : n ≤ 1000) (ps : List Cst) : ∀ k, k ≤ ps.length → (tsAt n ps k).sent = (sentTo ps (tcAt n ps) k).length
  | 0, _ => rfl
  | k + 1, hk => by
    have ih := sent_count hn ps k (by omega)
    have hp : ps[k]? = some (ps[k]'(by omega)) := List.getElem?_eq_getElem (by omega)
    generalize ps[k]'(by omega) = c at hp
    have ek : tsAt n ps (k + 1) = stepT n (tsAt n ps k) c := by show (match ps[k]? with | some p => _ | none => _) = _; rw [hp]
    have ec : tcAt n ps k = codeT n (tsAt n ps k) c := by unfold tcAt; rw [hp]
    have eg : ps.getD k ⟨0, 0, 0⟩ = c := by rw [List.getD_eq_getElem?_getD, hp]; rfl
    have hall := tat_all hn ps k
    rw [ek]
    unfold sentTo
    rw [eg, ec]
    unfold stepT
    by_cases hc : codeT n (tsAt n ps k) c = 0
    · rw [if_pos hc]
      cases ok_of hc with
      | send w hw ew ek1 ed =>
        rw [ed, if_pos ⟨ek1, hc⟩]
        show (tsAt n ps k).sent + 1 = _
        simp [ih]
      | take w x hw hx ew em ek1 h0 ed =>
        rw [ed, if_neg (by omega)]
        exact ih
      | tell w x hw hx ew em ek1 ht ha ed =>
        rw [ed, if_neg (by omega), (told_tell hall hn hw ha ht).1]
        exact ih
    · rw [if_neg hc, if_neg (fun h => hc h.2)]
      exact ih
end Go.Proofs.Ytipoopbkapgfiaa
