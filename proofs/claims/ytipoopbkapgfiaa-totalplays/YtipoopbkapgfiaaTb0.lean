/- Plain: hearing, and what holds at every step. -/
import Derived.Test.YtipoopbkapgfiaaTa0
namespace Go.Proofs.Ytipoopbkapgfiaa
set_option linter.unusedVariables false

variable {n : Nat} {s : TS} {g : Nat → Nat → Nat}
theorem subLen {a b : List Nat} (hd : a.Nodup) (h : ∀ x ∈ a, x ∈ b) : a.length ≤ b.length := by
  induction a generalizing b with
  | nil => simp
  | cons x r ih =>
    rw [List.nodup_cons] at hd
    have hx : x ∈ b := h x (by simp)
    have h1 := ih hd.2 (b := b.erase x) (fun y hy => (List.mem_erase_of_ne (fun e => hd.1 (by rw [← e]; exact hy))).2 (h y (by simp [hy])))
    rw [List.length_erase_of_mem hx] at h1
    have : 0 < b.length := List.length_pos_of_mem hx
    simp
    omega
theorem ls_lt (h : TInv n s g) {p x : Nat} (hx : x ∈ s.ls p) : x < s.sent := by
  obtain ⟨e, he, _⟩ := (h.hd p x).1 hx
  exact (h.at_lt he).2
theorem ls_len (h : TInv n s g) (p : Nat) : (s.ls p).length ≤ s.sent := by
  have := subLen (h.nd p) (b := List.range s.sent) (fun x hx => List.mem_range.2 (ls_lt h hx))
  simpa using this

/-- How much is got and not heard. -/
def unh (o : Option En) : Bool := match o with
  | some e => !e.heard
  | none => false
def unTo (f : Nat → Option En) : Nat → Nat
  | 0 => 0
  | k + 1 => unTo f k + (if unh (f k) = true then 1 else 0)
theorem un_le (f : Nat → Option En) : ∀ k, unTo f k ≤ k
  | 0 => Nat.le_refl _
  | k + 1 => by have := un_le f k; unfold unTo; split <;> omega
theorem un_far (f f' : Nat → Option En) : ∀ k, (∀ x, x < k → f x = f' x) → unTo f k = unTo f' k
  | 0, _ => rfl
  | k + 1, h => by unfold unTo; rw [un_far f f' k (fun x hx => h x (by omega)), h k (by omega)]
theorem un_less {f f' : Nat → Option En} {m : Nat} (h1 : unh (f m) = true) (h2 : unh (f' m) = false) (h3 : ∀ x, x ≠ m → f' x = f x) : ∀ k, m < k → unTo f' k + 1 = unTo f k
  | 0, h => by omega
  | k + 1, h => by
    unfold unTo
    by_cases e : m = k
    · subst e
      rw [un_far f' f m (fun x hx => h3 x (by omega)), h1, h2]
      simp
    · rw [h3 k (fun e1 => e e1.symm)]
      have := un_less h1 h2 h3 k (by omega)
      omega
theorem ent_hear (s : TS) (who m : Nat) (e : En) : ((hear1 s who m e).ent who m = some ⟨e.n, e.p, e.told, true⟩) ∧ (∀ x, x ≠ m → (hear1 s who m e).ent who x = s.ent who x) ∧ ∀ p x, p ≠ who → (hear1 s who m e).ent p x = s.ent p x := by
  refine ⟨upd2_same _ _ _ _, fun x hx => ?_, fun p x hp => ?_⟩
  · show upd2 s.ent who m _ who x = _
    rw [ud2, if_neg (fun e1 => hx e1.2)]
  · show upd2 s.ent who m _ p x = _
    rw [ud2, if_neg (fun e1 => hp e1.1)]
theorem least_at (h : TInv n s g) (hn : n ≤ 1000) {who m : Nat} {e : En} (hl : leastTo (s.ent who) s.sent = some (m, e)) : m < s.sent ∧ s.ent who m = some e ∧ e.heard = false ∧ ∀ x e', x < s.sent → s.ent who x = some e' → e'.heard = false → kc e ≤ kc e' :=
  (least_some (fun q e he => by have := (h.key (p := who) he).1; omega) s.sent).2 m e hl
theorem un_hear (h : TInv n s g) (hn : n ≤ 1000) {who m : Nat} {e : En} (hl : leastTo (s.ent who) s.sent = some (m, e)) : unTo ((hear1 s who m e).ent who) s.sent + 1 = unTo (s.ent who) s.sent := by
  obtain ⟨h1, h2, h3, _⟩ := least_at h hn hl
  obtain ⟨e1, e2, _⟩ := ent_hear s who m e
  exact un_less (by rw [h2]; simp [unh, h3]) (by rw [e1]; rfl) e2 s.sent h1

/-- What hearing leaves. -/
structure Heard1 (s s' : TS) (who : Nat) : Prop where
  sent : s'.sent = s.sent
  num : s'.num = s.num
  far : ∀ p, p ≠ who → s'.ent p = s.ent p ∧ s'.ls p = s.ls p
  near : ∀ x, (s.ent who x = none → s'.ent who x = none) ∧ ∀ e, s.ent who x = some e → ∃ e', s'.ent who x = some e' ∧ e'.told = e.told
  pre : ∃ r, s'.ls who = s.ls who ++ r
theorem Heard1.refl (s : TS) (who : Nat) : Heard1 s s who := ⟨rfl, rfl, fun _ _ => ⟨rfl, rfl⟩, fun _ => ⟨fun h => h, fun e h => ⟨e, h, rfl⟩⟩, ⟨[], by simp⟩⟩
theorem Heard1.trans {a b c : TS} {who : Nat} (x : Heard1 a b who) (y : Heard1 b c who) : Heard1 a c who := by
  refine ⟨y.sent.trans x.sent, y.num.trans x.num, fun p hp => ⟨(y.far p hp).1.trans (x.far p hp).1, (y.far p hp).2.trans (x.far p hp).2⟩, fun z => ⟨fun h => (y.near z).1 ((x.near z).1 h), fun e he => ?_⟩, ?_⟩
  · obtain ⟨e1, h1, h2⟩ := (x.near z).2 e he
    obtain ⟨e2, h3, h4⟩ := (y.near z).2 e1 h1
    exact ⟨e2, h3, h4.trans h2⟩
  · obtain ⟨r, h1⟩ := x.pre
    obtain ⟨q, h2⟩ := y.pre
    exact ⟨r ++ q, by rw [h2, h1, List.append_assoc]⟩
theorem heard_one {who m : Nat} {e : En} (he : s.ent who m = some e) : Heard1 s (hear1 s who m e) who := by
  obtain ⟨e1, e2, e3⟩ := ent_hear s who m e
  refine ⟨rfl, rfl, fun p hp => ⟨funext fun x => e3 p x hp, upd1_other _ _ hp⟩, fun x => ?_, ⟨[m], upd1_same _ _ _⟩⟩
  by_cases hx : x = m
  · subst hx
    exact ⟨fun h => (by rw [he] at h; cases h), fun e' h => (by rw [he] at h; cases h; exact ⟨_, e1, rfl⟩)⟩
  · rw [e2 x hx]
    exact ⟨fun h => h, fun e' h => ⟨e', h, rfl⟩⟩
/-- Nothing that may be heard is left. -/
def Stuck (s : TS) (p : Nat) : Prop := ∀ m e, leastTo (s.ent p) s.sent = some (m, e) → e.told = false
theorem hearN_all (hn : n ≤ 1000) {who : Nat} : ∀ (F : Nat) (s : TS), TInv n s g → unTo (s.ent who) s.sent ≤ F → TInv n (hearN s who F) g ∧ Stuck (hearN s who F) who ∧ Heard1 s (hearN s who F) who
  | 0, s, h, hF => by
    refine ⟨h, fun m e hl => ?_, Heard1.refl _ _⟩
    have := un_hear h hn hl
    omega
  | F + 1, s, h, hF => by
    unfold hearN
    cases hl : leastTo (s.ent who) s.sent with
    | none =>
      simp only
      exact ⟨h, fun m e h2 => (by rw [hl] at h2; cases h2), Heard1.refl _ _⟩
    | some q =>
      obtain ⟨m, e⟩ := q
      simp only
      by_cases ht : e.told = true
      · rw [if_pos ht]
        have h1 := un_hear h hn hl
        obtain ⟨a, b, c⟩ := hearN_all hn (who := who) F (hear1 s who m e) (inv_hear h hn hl ht) (by show unTo _ s.sent ≤ F; omega)
        exact ⟨a, b, (heard_one (least_at h hn hl).2.1).trans c⟩
      · rw [if_neg ht]
        refine ⟨h, fun m' e' h2 => ?_, Heard1.refl _ _⟩
        rw [hl] at h2
        cases h2
        simpa using ht
theorem hearN_stop {who : Nat} (F : Nat) (h : leastTo (s.ent who) s.sent = none ∨ ∃ m e, leastTo (s.ent who) s.sent = some (m, e) ∧ e.told = false) : hearN s who F = s := by
  cases F with
  | zero => rfl
  | succ F =>
    unfold hearN
    rcases h with h | ⟨m, e, h, ht⟩
    · rw [h]
    · rw [h]
      simp only
      rw [if_neg (by rw [ht]; simp)]
theorem hearN_go {who m : Nat} {e : En} (F : Nat) (h : leastTo (s.ent who) s.sent = some (m, e)) (ht : e.told = true) : hearN s who (F + 1) = hearN (hear1 s who m e) who F := by
  rw [hearN, h]
  simp only
  rw [if_pos ht]

/-- A step that is right. -/
inductive OkT (n : Nat) (s : TS) (p : Cst) : Prop where
  | send (w : Nat) (hw : w < n) (ew : p.who = (w : Int)) (ek : p.kind = 1) (ed : doT n s p = sendT s)
  | take (w m : Nat) (hw : w < n) (hm : m < s.sent) (ew : p.who = (w : Int)) (em : p.msg = (m : Int)) (ek : p.kind = 2) (h0 : s.ent w m = none) (ed : doT n s p = takeT s w m)
  | tell (w m : Nat) (hw : w < n) (hm : m < s.sent) (ew : p.who = (w : Int)) (em : p.msg = (m : Int)) (ek : p.kind = 3) (ht : toldB s w m = false) (ha : allB n s m = true) (ed : doT n s p = hearN (tellT n s w m) w s.sent)
theorem inP_nat {n : Nat} {z : Int} (h : ¬ inP n z = false) : ∃ w : Nat, w < n ∧ z = (w : Int) := ⟨z.toNat, by simp [inP] at h; omega, by simp [inP] at h; omega⟩
theorem ok_of {p : Cst} (h : codeT n s p = 0) : OkT n s p := by
  unfold codeT at h
  split at h
  · cases h
  · rename_i hk
    split at h
    · cases h
    · rename_i hw
      obtain ⟨w, hw1, ew⟩ := inP_nat hw
      split at h
      · rename_i ek
        exact .send w hw1 ew ek (by unfold doT; rw [if_pos ek])
      · rename_i ek1
        split at h
        · cases h
        · rename_i hm
          obtain ⟨m, hm1, em⟩ := inP_nat hm
          have e1 : p.who.toNat = w := by omega
          have e2 : p.msg.toNat = m := by omega
          rw [e1, e2] at h
          split at h
          · rename_i ek2
            split at h
            · cases h
            · rename_i hn
              exact .take w m hw1 hm1 ew em ek2 (by simpa using hn) (by unfold doT; rw [if_neg ek1, if_pos ek2, e1, e2])
          · rename_i ek2
            split at h
            · cases h
            · rename_i hn
              have h1 : toldB s w m = false := by simpa using fun e => hn (.inl e)
              have h2 : allB n s m = true := by
                cases hb : allB n s m with
                | true => rfl
                | false => exact absurd (.inr hb) hn
              exact .tell w m hw1 hm1 ew em (by omega) h1 h2 (by unfold doT; rw [if_neg ek1, if_neg ek2, e1, e2])

theorem stuck_take (h : TInv n s g) (hn : n ≤ 1000) {who m : Nat} (hw : who < n) (hm : m < s.sent) (h0 : s.ent who m = none) (hs : Stuck s who) : Stuck (takeT s who m) who := by
  have h' := inv_take h hn hw hm h0
  intro x e hl
  obtain ⟨a1, a2, a3, a4⟩ := least_at h' hn hl
  cases ht : e.told with
  | false => rfl
  | true =>
    exfalso
    have a2' : upd2 s.ent who m (some ⟨s.num who + 1, who, false, false⟩) who x = some e := a2
    have hxm : x ≠ m := fun e1 => by
      subst e1
      rw [upd2_same] at a2'
      cases a2'
      cases ht
    rw [ud2, if_neg (fun e1 => hxm e1.2)] at a2'
    cases hl2 : leastTo (s.ent who) s.sent with
    | none =>
      have := (least_some (f := s.ent who) (fun q e he => by have := (h.key (p := who) he).1; omega) s.sent).1 hl2 x e a1 a2'
      rw [a3] at this; cases this
    | some q =>
      obtain ⟨y, ey⟩ := q
      obtain ⟨b1, b2, b3, b4⟩ := least_at h hn hl2
      have h1 := b4 x e a1 a2' a3
      have hym : y ≠ m := fun e1 => by rw [e1, h0] at b2; cases b2
      have h2 := a4 y ey b1 (by show upd2 s.ent who m _ who y = _; rw [ud2, if_neg (fun e1 => hym e1.2)]; exact b2) b3
      have h3 := h.dist hn a2' b2 (by omega)
      subst h3
      rw [a2'] at b2
      cases b2
      have := hs x e hl2
      rw [ht] at this; cases this
theorem stuck_far {s s' : TS} {p : Nat} (he : s'.ent p = s.ent p) (hz : s'.sent = s.sent) (hs : Stuck s p) : Stuck s' p := fun m e hl => hs m e (by rw [he, hz] at hl; exact hl)

theorem ent_tell (n : Nat) (s : TS) (w m : Nat) : (∀ p x, ¬ (p = w ∧ x = m) → (tellT n s w m).ent p x = s.ent p x) ∧ (tellT n s w m).ent w m = some ⟨(finTo s m n).1, (finTo s m n).2, true, false⟩ :=
  ⟨fun p x h => by show upd2 s.ent w m _ p x = _; rw [ud2, if_neg h], upd2_same _ _ _ _⟩
/-- What holds at every step. -/
structure All (n : Nat) (s : TS) : Prop where
  inv : ∃ g, TInv n s g
  stuck : ∀ p, Stuck s p
theorem all_0 : All n ts0 := ⟨⟨_, inv_0⟩, fun p m e h => by simp [ts0, leastTo] at h⟩
theorem un_sent (h : TInv n s g) (who : Nat) : unTo (s.ent who) s.sent ≤ s.sent := un_le _ _
theorem all_do (h : All n s) (hn : n ≤ 1000) {p : Cst} (hp : codeT n s p = 0) : All n (doT n s p) := by
  obtain ⟨⟨g, hi⟩, hs⟩ := h
  cases ok_of hp with
  | send w hw ew ek ed =>
    rw [ed]
    refine ⟨⟨g, inv_send hi⟩, fun q m e hl => ?_⟩
    change leastTo (s.ent q) (s.sent + 1) = some (m, e) at hl
    have h0 : s.ent q s.sent = none := (hi.g0 q s.sent).2 (hi.hi q s.sent (Nat.le_refl _))
    rw [leastTo, h0] at hl
    exact hs q m e hl
  | take w m hw hm ew em ek h0 ed =>
    rw [ed]
    refine ⟨⟨_, inv_take hi hn hw hm h0⟩, fun q => ?_⟩
    by_cases e : q = w
    · subst e; exact stuck_take hi hn hw hm h0 (hs q)
    · exact stuck_far (s := s) (funext fun x => by show upd2 s.ent w m _ q x = _; rw [ud2, if_neg (fun e1 => e e1.1)]) rfl (hs q)
  | tell w m hw hm ew em ek ht ha ed =>
    rw [ed]
    obtain ⟨a, b, c⟩ := hearN_all hn s.sent (tellT n s w m) (inv_tell hi hn hw ha ht) (un_le _ _)
    refine ⟨⟨_, a⟩, fun q => ?_⟩
    by_cases e : q = w
    · subst e; exact b
    · exact stuck_far (s := s) ((c.far q e).1.trans (funext fun x => (ent_tell n s w m).1 q x (fun e1 => e e1.1))) c.sent (hs q)
theorem all_step (h : All n s) (hn : n ≤ 1000) (p : Cst) : All n (stepT n s p) := by
  unfold stepT
  split
  · exact all_do h hn ‹_›
  · exact h
theorem tat_succ (ps : List Cst) (k : Nat) : (∃ p, ps[k]? = some p ∧ tsAt n ps (k + 1) = stepT n (tsAt n ps k) p) ∨ (ps[k]? = none ∧ tsAt n ps (k + 1) = tsAt n ps k) := by
  show (∃ p, ps[k]? = some p ∧ (match ps[k]? with | some p => stepT n (tsAt n ps k) p | none => tsAt n ps k) = _) ∨ (ps[k]? = none ∧ (match ps[k]? with | some p => stepT n (tsAt n ps k) p | none => tsAt n ps k) = _)
  cases ps[k]? with
  | none => exact .inr ⟨rfl, rfl⟩
  | some p => exact .inl ⟨p, rfl, rfl⟩
theorem tat_all (hn : n ≤ 1000) (ps : List Cst) : ∀ k, All n (tsAt n ps k)
  | 0 => all_0
  | k + 1 => by
    rcases tat_succ (n := n) ps k with ⟨p, _, e⟩ | ⟨_, e⟩
    · rw [e]; exact all_step (tat_all hn ps k) hn p
    · rw [e]; exact tat_all hn ps k

/-- What a step leaves, and what it may change. -/
structure Gone (s s' : TS) : Prop where
  sent : s.sent ≤ s'.sent ∧ s'.sent ≤ s.sent + 1
  num : ∀ p, s'.num p ≤ s'.num p
  got : ∀ p m, (s.ent p m).isSome = true → (s'.ent p m).isSome = true
  told : ∀ p m, toldB s p m = true → toldB s' p m = true
  pre : ∀ p, ∃ r, s'.ls p = s.ls p ++ r
theorem gone_refl (s : TS) : Gone s s := ⟨⟨Nat.le_refl _, by omega⟩, fun _ => Nat.le_refl _, fun _ _ h => h, fun _ _ h => h, fun _ => ⟨[], by simp⟩⟩
theorem heard_keeps {s s' : TS} {w : Nat} (c : Heard1 s s' w) : (∀ p m, (s.ent p m).isSome = true → (s'.ent p m).isSome = true) ∧ (∀ p m, toldB s p m = true → toldB s' p m = true) ∧ ∀ p, ∃ r, s'.ls p = s.ls p ++ r := by
  refine ⟨fun p m h => ?_, fun p m h => ?_, fun p => ?_⟩
  · by_cases e : p = w
    · subst e
      cases he : s.ent p m with
      | none => rw [he] at h; cases h
      | some e0 => obtain ⟨e1, h1, _⟩ := (c.near m).2 e0 he; rw [h1]; rfl
    · rw [(c.far p e).1]; exact h
  · unfold toldB at h ⊢
    by_cases e : p = w
    · subst e
      cases he : s.ent p m with
      | none => rw [he] at h; cases h
      | some e0 =>
        rw [he] at h
        obtain ⟨e1, h1, h2⟩ := (c.near m).2 e0 he
        rw [h1]
        exact h2.trans h
    · rw [(c.far p e).1]; exact h
  · by_cases e : p = w
    · subst e; exact c.pre
    · exact ⟨[], by rw [(c.far p e).2]; simp⟩
theorem gone_do (h : All n s) (hn : n ≤ 1000) {p : Cst} (hp : codeT n s p = 0) : Gone s (doT n s p) := by
  obtain ⟨⟨g, hi⟩, hs⟩ := h
  cases ok_of hp with
  | send w hw ew ek ed =>
    rw [ed]
    exact ⟨⟨by show s.sent ≤ s.sent + 1; omega, Nat.le_refl _⟩, fun _ => Nat.le_refl _, fun _ _ h => h, fun _ _ h => h, fun _ => ⟨[], by simp [sendT]⟩⟩
  | take w m hw hm ew em ek h0 ed =>
    rw [ed]
    have he : ∀ q x, ¬ (q = w ∧ x = m) → (takeT s w m).ent q x = s.ent q x := fun q x h => by show upd2 s.ent w m _ q x = _; rw [ud2, if_neg h]
    refine ⟨⟨Nat.le_refl _, by show s.sent ≤ s.sent + 1; omega⟩, fun _ => Nat.le_refl _, fun q x h => ?_, fun q x h => ?_, fun _ => ⟨[], by simp [takeT]⟩⟩
    · rw [he q x (fun e => by rw [e.1, e.2, h0] at h; cases h)]; exact h
    · unfold toldB at h ⊢
      rw [he q x (fun e => by rw [e.1, e.2, h0] at h; cases h)]; exact h
  | tell w m hw hm ew em ek ht ha ed =>
    rw [ed]
    obtain ⟨_, _, c⟩ := hearN_all hn s.sent (tellT n s w m) (inv_tell hi hn hw ha ht) (un_le _ _)
    obtain ⟨k1, k2, k3⟩ := heard_keeps c
    obtain ⟨t1, t2⟩ := ent_tell n s w m
    have hz : (hearN (tellT n s w m) w s.sent).sent = s.sent := c.sent
    refine ⟨⟨by rw [hz]; exact Nat.le_refl _, by rw [hz]; omega⟩, fun _ => Nat.le_refl _, fun q x h => k1 q x ?_, fun q x h => k2 q x ?_, fun q => k3 q⟩
    · by_cases e : q = w ∧ x = m
      · rw [e.1, e.2, t2]; rfl
      · rw [t1 q x e]; exact h
    · unfold toldB at h ⊢
      by_cases e : q = w ∧ x = m
      · rw [e.1, e.2, t2]
      · rw [t1 q x e]; exact h
theorem gone_step (h : All n s) (hn : n ≤ 1000) (p : Cst) : Gone s (stepT n s p) := by
  unfold stepT
  split
  · exact gone_do h hn ‹_›
  · exact gone_refl s
theorem tat_pre (hn : n ≤ 1000) (ps : List Cst) (p k : Nat) : ∀ d, ∃ r, (tsAt n ps (k + d)).ls p = (tsAt n ps k).ls p ++ r
  | 0 => ⟨[], by simp⟩
  | d + 1 => by
    obtain ⟨r, h1⟩ := tat_pre hn ps p k d
    rcases tat_succ (n := n) ps (k + d) with ⟨q, _, e⟩ | ⟨_, e⟩
    · obtain ⟨r2, h2⟩ := (gone_step (tat_all hn ps (k + d)) hn q).pre p
      exact ⟨r ++ r2, by rw [show k + (d + 1) = k + d + 1 from by omega, e, h2, h1, List.append_assoc]⟩
    · exact ⟨r, by rw [show k + (d + 1) = k + d + 1 from by omega, e, h1]⟩
theorem tat_sent (hn : n ≤ 1000) (ps : List Cst) : ∀ k, (tsAt n ps k).sent ≤ k
  | 0 => Nat.le_refl _
  | k + 1 => by
    have ih := tat_sent hn ps k
    rcases tat_succ (n := n) ps k with ⟨q, _, e⟩ | ⟨_, e⟩
    · have := (gone_step (tat_all hn ps k) hn q).sent.2
      rw [e]; omega
    · rw [e]; omega
theorem tat_same (ps qs : List Cst) : ∀ k, (∀ j, j < k → ps[j]? = qs[j]?) → tsAt n ps k = tsAt n qs k
  | 0, _ => rfl
  | k + 1, h => by
    have ih := tat_same ps qs k (fun j hj => h j (by omega))
    show (match ps[k]? with | some p => stepT n (tsAt n ps k) p | none => tsAt n ps k) = (match qs[k]? with | some p => stepT n (tsAt n qs k) p | none => tsAt n qs k)
    rw [h k (by omega), ih]
theorem tc_same (ps qs : List Cst) (k : Nat) (h : ∀ j, j ≤ k → ps[j]? = qs[j]?) : tcAt n ps k = tcAt n qs k := by
  unfold tcAt
  rw [h k (Nat.le_refl _), tat_same ps qs k (fun j hj => h j (by omega))]
theorem take_same (ps : List Cst) (m : Nat) : ∀ j, j < m → (ps.take m)[j]? = ps[j]? := fun j hj => by rw [List.getElem?_take, if_pos hj]
theorem app_same (ps r : List Cst) : ∀ j, j < ps.length → (ps ++ r)[j]? = ps[j]? := fun j hj => List.getElem?_append_left hj
/-- No number is above how many steps there were. -/
theorem num_do (h : All n s) (hn : n ≤ 1000) {k : Nat} (hk : ∀ p, s.num p ≤ k) {p : Cst} (hp : codeT n s p = 0) : ∀ q, (doT n s p).num q ≤ k + 1 := by
  obtain ⟨⟨g, hi⟩, hs⟩ := h
  cases ok_of hp with
  | send w hw ew ek ed => rw [ed]; exact fun q => by have := hk q; show s.num q ≤ _; omega
  | take w m hw hm ew em ek h0 ed =>
    rw [ed]
    intro q
    have := hk q
    have := hk w
    show upd1 s.num w _ q ≤ _
    rw [ud1]
    split <;> omega
  | tell w m hw hm ew em ek ht ha ed =>
    rw [ed]
    obtain ⟨_, _, c⟩ := hearN_all hn s.sent (tellT n s w m) (inv_tell hi hn hw ha ht) (un_le _ _)
    rw [c.num]
    intro q
    have := hk q
    have := hk w
    obtain ⟨⟨x, hx, f1, _⟩, _⟩ := fin_of hi hn (by omega) ha
    have h2 := hi.gn x m
    have := hk x
    show upd1 s.num w _ q ≤ _
    rw [ud1]
    split <;> omega
theorem tat_num (hn : n ≤ 1000) (ps : List Cst) : ∀ k p, (tsAt n ps k).num p ≤ k
  | 0, p => Nat.le_refl _
  | k + 1, p => by
    have ih := tat_num hn ps k
    rcases tat_succ (n := n) ps k with ⟨q, _, e⟩ | ⟨_, e⟩
    · rw [e]
      unfold stepT
      split
      · exact num_do (tat_all hn ps k) hn ih ‹_› p
      · have := ih p; omega
    · rw [e]; have := ih p; omega
end Go.Proofs.Ytipoopbkapgfiaa
