/- Messages to all, heard behind their causes: plain; no program is named here. -/
import Derived.Test.YtpdccjhabolccaaCb0
namespace Go.Proofs.Ytpdccjhabolccaa
set_option linter.unusedVariables false

/-- Messages (who sent each, and how much it had heard), what has come to whom (1: waits, 2: heard), what each has heard. -/
structure CS where
  msgs : List (Nat × Nat)
  came : Nat → Nat → Nat
  ls : Nat → List Nat
def hearC (s : CS) (who m : Nat) : CS := ⟨s.msgs, upd2 s.came who m 2, upd1 s.ls who (s.ls who ++ [m])⟩
def causC (s : CS) (m : Nat) : List Nat := match s.msgs[m]? with
  | some q => (s.ls q.1).take q.2
  | none => []
def okC (s : CS) (who m : Nat) : Bool := !((causC s m).any fun c => s.came who c != 2)
def readyC (s : CS) (who m : Nat) : Bool := s.came who m == 1 && okC s who m
def hearTo (s : CS) (who : Nat) : Nat → CS
  | 0 => s
  | k + 1 => if readyC (hearTo s who k) who k = true then hearC (hearTo s who k) who k else hearTo s who k
def msgC (s : CS) (who : Nat) : CS := ⟨s.msgs ++ [(who, (s.ls who).length)], s.came, s.ls⟩
def sendC (s : CS) (who : Nat) : CS := hearC (msgC s who) who s.msgs.length
def comeC (s : CS) (who m : Nat) : CS := ⟨s.msgs, upd2 s.came who m 1, s.ls⟩
def takeC (s : CS) (who m : Nat) : CS := hearTo (comeC s who m) who s.msgs.length
def codeC (n : Nat) (s : CS) (p : Cst) : Int :=
  if p.kind ≠ 1 ∧ p.kind ≠ 2 then 4
  else if inP n p.who = false then 2
  else if p.kind = 1 then 0
  else if inP s.msgs.length p.msg = false ∨ (s.msgs.getD p.msg.toNat (0, 0)).1 = p.who.toNat then 2
  else if s.came p.who.toNat p.msg.toNat ≠ 0 then 6 else 0
def doC (s : CS) (p : Cst) : CS := if p.kind = 1 then sendC s p.who.toNat else takeC s p.who.toNat p.msg.toNat
def stepC (n : Nat) (s : CS) (p : Cst) : CS := if codeC n s p = 0 then doC s p else s
def cs0 : CS := ⟨[], fun _ _ => 0, fun _ => []⟩
/-- How all stands behind k steps. -/
def csAt (n : Nat) (ps : List Cst) : Nat → CS
  | 0 => cs0
  | k + 1 => match ps[k]? with
    | some p => stepC n (csAt n ps k) p
    | none => csAt n ps k
def ccAt (n : Nat) (ps : List Cst) (k : Nat) : Int := match ps[k]? with
  | some p => codeC n (csAt n ps k) p
  | none => 0
def castCode (n : Int) (len : Nat) : Int := if n < 1 ∨ 6 < n ∨ 120 < len then 1 else 0

/-- What holds whenever a step, or a hearing, is over. -/
structure CInv (n : Nat) (s : CS) : Prop where
  i1 : ∀ p x, x ∈ s.ls p → x < s.msgs.length
  i2 : ∀ (m : Nat) (q : Nat × Nat), s.msgs[m]? = some q → (s.ls q.1)[q.2]? = some m
  i3 : ∀ p, (s.ls p).Nodup
  i4 : ∀ p m, s.came p m = 2 ↔ m ∈ s.ls p
  i5 : ∀ p m, s.msgs.length ≤ m → s.came p m = 0
  i7 : ∀ (p a m : Nat), (s.ls p)[a]? = some m → ∀ c ∈ causC s m, ∃ b : Nat, b < a ∧ (s.ls p)[b]? = some c
  i9 : ∀ m c, c ∈ causC s m → c < m
  i10 : ∀ (m : Nat) (q : Nat × Nat), s.msgs[m]? = some q → q.1 < n
  i11 : ∀ p m, s.came p m = 0 ∨ s.came p m = 1 ∨ s.came p m = 2
  i12 : ∀ p, n ≤ p → s.ls p = []

variable {n : Nat} {s : CS}
theorem inv_0 : CInv n cs0 := ⟨fun p x h => by simp [cs0] at h, fun m q h => by simp [cs0] at h, fun p => by simp [cs0], fun p m => by simp [cs0], fun p m _ => rfl, fun p a m h => by simp [cs0] at h, fun m c h => by simp [causC, cs0] at h, fun m q h => by simp [cs0] at h, fun p m => .inl rfl, fun p _ => rfl⟩

theorem get_lt {α : Type} {l : List α} {i : Nat} {x : α} (h : l[i]? = some x) : i < l.length := (List.getElem?_eq_some_iff.1 h).1
theorem take_app {α : Type} (l r : List α) {k : Nat} (h : k ≤ l.length) : (l ++ r).take k = l.take k := by rw [List.take_append_of_le_length h]
theorem get_app {α : Type} {l r : List α} {i : Nat} {x : α} (h : l[i]? = some x) : (l ++ r)[i]? = some x := by rw [List.getElem?_append_left (get_lt h)]; exact h
theorem caus_hear (h : CInv n s) (who x m : Nat) : causC (hearC s who x) m = causC s m := by
  unfold causC
  show (match s.msgs[m]? with | some q => (upd1 s.ls who (s.ls who ++ [x]) q.1).take q.2 | none => []) = _
  cases e : s.msgs[m]? with
  | none => rfl
  | some q =>
    simp only
    by_cases eq : q.1 = who
    · have h2 := get_lt (h.i2 m q e)
      rw [eq] at h2
      rw [eq, upd1_same, take_app _ _ (by omega)]
    · rw [upd1_other _ _ eq]
theorem upd2_eq {α : Type} (f : Nat → Nat → α) (i j : Nat) (v : α) (a b : Nat) : upd2 f i j v a b = if a = i ∧ b = j then v else f a b := rfl
theorem upd1_eq {α : Type} (f : Nat → α) (i : Nat) (v : α) (a : Nat) : upd1 f i v a = if a = i then v else f a := rfl

theorem ok_mem (h : CInv n s) {who m : Nat} (ho : okC s who m = true) : ∀ c ∈ causC s m, c ∈ s.ls who := by
  intro c hc
  unfold okC at ho
  have h1 : ((causC s m).any fun c => s.came who c != 2) = false := by simpa using ho
  have h2 := List.any_eq_false.1 h1 c hc
  exact (h.i4 who c).1 (by simpa using h2)
theorem mem_at {l : List Nat} {c : Nat} (h : c ∈ l) : ∃ b, b < l.length ∧ l[b]? = some c := by
  obtain ⟨b, hb, e⟩ := List.getElem_of_mem h
  exact ⟨b, hb, by rw [List.getElem?_eq_getElem hb, e]⟩
theorem nodup_push {l : List Nat} {x : Nat} (h : l.Nodup) (hx : x ∉ l) : (l ++ [x]).Nodup := by
  rw [List.nodup_append]
  exact ⟨h, by simp, fun a ha b hb e => by simp at hb; subst hb; subst e; exact hx ha⟩

/-- One that waits, and may be heard, is heard. -/
theorem inv_hear (h : CInv n s) {who m : Nat} (hn : who < n) (h1 : s.came who m = 1) (ho : okC s who m = true) : CInv n (hearC s who m) := by
  have hm : m < s.msgs.length := by
    apply Nat.lt_of_not_le
    intro hle
    have := h.i5 who m hle
    omega
  have hx : m ∉ s.ls who := fun hx => by have := (h.i4 who m).2 hx; omega
  refine ⟨fun p x hp => ?_, fun k q hq => ?_, fun p => ?_, fun p k => ?_, fun p k hk => ?_, fun p a k hk c hc => ?_, fun k c hc => ?_, fun k q hq => h.i10 k q hq, fun p k => ?_, fun p hp => ?_⟩
  · show x < s.msgs.length
    change x ∈ upd1 s.ls who (s.ls who ++ [m]) p at hp
    by_cases e : p = who
    · subst e
      rw [upd1_same, List.mem_append] at hp
      rcases hp with hp | hp
      · exact h.i1 p x hp
      · simp at hp; omega
    · rw [upd1_other _ _ e] at hp
      exact h.i1 p x hp
  · show (upd1 s.ls who (s.ls who ++ [m]) q.1)[q.2]? = some k
    have h2 := h.i2 k q hq
    by_cases e : q.1 = who
    · rw [e, upd1_same]; rw [e] at h2; exact get_app h2
    · rw [upd1_other _ _ e]; exact h2
  · show (upd1 s.ls who (s.ls who ++ [m]) p).Nodup
    by_cases e : p = who
    · subst e; rw [upd1_same]; exact nodup_push (h.i3 p) hx
    · rw [upd1_other _ _ e]; exact h.i3 p
  · show upd2 s.came who m 2 p k = 2 ↔ k ∈ upd1 s.ls who (s.ls who ++ [m]) p
    by_cases e : p = who
    · subst e
      rw [upd1_same]
      by_cases e2 : k = m
      · subst e2; rw [upd2_same]; simp
      · rw [upd2_other _ _ (fun e3 => e2 e3.2)]
        simp [e2, h.i4]
    · rw [upd1_other _ _ e, upd2_other _ _ (fun e3 => e e3.1)]
      exact h.i4 p k
  · show upd2 s.came who m 2 p k = 0
    have hk2 : s.msgs.length ≤ k := hk
    rw [upd2_other _ _ (fun e3 => by omega)]
    exact h.i5 p k hk
  · rw [caus_hear h] at hc
    change (upd1 s.ls who (s.ls who ++ [m]) p)[a]? = some k at hk
    show ∃ b, b < a ∧ (upd1 s.ls who (s.ls who ++ [m]) p)[b]? = some c
    by_cases e : p = who
    · subst e
      rw [upd1_same] at hk ⊢
      by_cases ha : a < (s.ls p).length
      · rw [List.getElem?_append_left ha] at hk
        obtain ⟨b, hb, e2⟩ := h.i7 p a k hk c hc
        exact ⟨b, hb, get_app e2⟩
      · have ha2 := get_lt hk
        simp at ha2
        obtain rfl : a = (s.ls p).length := by omega
        simp at hk
        subst hk
        obtain ⟨b, hb, e2⟩ := mem_at (ok_mem h ho c hc)
        exact ⟨b, hb, get_app e2⟩
    · rw [upd1_other _ _ e] at hk ⊢
      exact h.i7 p a k hk c hc
  · rw [caus_hear h] at hc
    exact h.i9 k c hc
  · show upd2 s.came who m 2 p k = 0 ∨ upd2 s.came who m 2 p k = 1 ∨ upd2 s.came who m 2 p k = 2
    rw [upd2_eq]
    split
    · omega
    · exact h.i11 p k
  · show upd1 s.ls who (s.ls who ++ [m]) p = []
    rw [upd1_other _ _ (by omega)]
    exact h.i12 p hp

theorem caus_come (s : CS) (who m k : Nat) : causC (comeC s who m) k = causC s k := rfl
theorem inv_come (h : CInv n s) {who m : Nat} (hm : m < s.msgs.length) (h1 : s.came who m = 0) : CInv n (comeC s who m) := by
  refine ⟨h.i1, h.i2, h.i3, fun p k => ?_, fun p k hk => ?_, h.i7, h.i9, h.i10, fun p k => ?_, h.i12⟩
  · show upd2 s.came who m 1 p k = 2 ↔ k ∈ s.ls p
    by_cases e : p = who ∧ k = m
    · obtain ⟨rfl, rfl⟩ := e
      rw [upd2_same]
      have := h.i4 p k
      constructor
      · intro h2; omega
      · intro h2; have := this.2 h2; omega
    · rw [upd2_other _ _ e]; exact h.i4 p k
  · show upd2 s.came who m 1 p k = 0
    have hk2 : s.msgs.length ≤ k := hk
    rw [upd2_other _ _ (fun e3 => by omega)]
    exact h.i5 p k hk
  · show upd2 s.came who m 1 p k = 0 ∨ upd2 s.came who m 1 p k = 1 ∨ upd2 s.came who m 1 p k = 2
    rw [upd2_eq]
    split
    · omega
    · exact h.i11 p k

theorem caus_send (h : CInv n s) (who : Nat) {m : Nat} (hm : m ≠ s.msgs.length) : causC (sendC s who) m = causC s m := by
  unfold causC
  show (match (s.msgs ++ [(who, (s.ls who).length)])[m]? with | some q => (upd1 s.ls who (s.ls who ++ [s.msgs.length]) q.1).take q.2 | none => []) = _
  by_cases hl : m < s.msgs.length
  · rw [List.getElem?_append_left hl]
    cases e : s.msgs[m]? with
    | none => rfl
    | some q =>
      simp only
      by_cases eq : q.1 = who
      · have h2 := get_lt (h.i2 m q e)
        rw [eq] at h2
        rw [eq, upd1_same, take_app _ _ (by omega)]
      · rw [upd1_other _ _ eq]
  · rw [List.getElem?_eq_none (by simp; omega), List.getElem?_eq_none (by omega)]
theorem caus_new (s : CS) (who : Nat) : causC (sendC s who) s.msgs.length = s.ls who := by
  unfold causC
  show (match (s.msgs ++ [(who, (s.ls who).length)])[s.msgs.length]? with | some q => (upd1 s.ls who (s.ls who ++ [s.msgs.length]) q.1).take q.2 | none => []) = _
  simp [upd1_same]

theorem inv_send (h : CInv n s) {who : Nat} (hn : who < n) : CInv n (sendC s who) := by
  have hx : s.msgs.length ∉ s.ls who := fun hx => by have := h.i1 who _ hx; omega
  have hlen : (sendC s who).msgs.length = s.msgs.length + 1 := by simp [sendC, hearC, msgC]
  have hmg : (sendC s who).msgs = s.msgs ++ [(who, (s.ls who).length)] := rfl
  refine ⟨fun p x hp => ?_, fun k q hq => ?_, fun p => ?_, fun p k => ?_, fun p k hk => ?_, fun p a k hk c hc => ?_, fun k c hc => ?_, fun k q hq => ?_, fun p k => ?_, fun p hp => ?_⟩
  · rw [hlen]
    change x ∈ upd1 s.ls who (s.ls who ++ [s.msgs.length]) p at hp
    by_cases e : p = who
    · subst e
      rw [upd1_same, List.mem_append] at hp
      rcases hp with hp | hp
      · have := h.i1 p x hp; omega
      · simp at hp; omega
    · rw [upd1_other _ _ e] at hp
      have := h.i1 p x hp; omega
  · show (upd1 s.ls who (s.ls who ++ [s.msgs.length]) q.1)[q.2]? = some k
    rw [hmg] at hq
    by_cases hl : k < s.msgs.length
    · rw [List.getElem?_append_left hl] at hq
      have h2 := h.i2 k q hq
      by_cases e : q.1 = who
      · rw [e, upd1_same]; rw [e] at h2; exact get_app h2
      · rw [upd1_other _ _ e]; exact h2
    · have h3 := get_lt hq
      simp at h3
      obtain rfl : k = s.msgs.length := by omega
      simp at hq
      subst hq
      simp [upd1_same]
  · show (upd1 s.ls who (s.ls who ++ [s.msgs.length]) p).Nodup
    by_cases e : p = who
    · subst e; rw [upd1_same]; exact nodup_push (h.i3 p) hx
    · rw [upd1_other _ _ e]; exact h.i3 p
  · show upd2 s.came who s.msgs.length 2 p k = 2 ↔ k ∈ upd1 s.ls who (s.ls who ++ [s.msgs.length]) p
    by_cases e : p = who
    · subst e
      rw [upd1_same]
      by_cases e2 : k = s.msgs.length
      · subst e2; rw [upd2_same]; simp
      · rw [upd2_other _ _ (fun e3 => e2 e3.2)]
        simp [e2, h.i4]
    · rw [upd1_other _ _ e, upd2_other _ _ (fun e3 => e e3.1)]
      exact h.i4 p k
  · show upd2 s.came who s.msgs.length 2 p k = 0
    rw [hlen] at hk
    rw [upd2_other _ _ (fun e3 => by omega)]
    exact h.i5 p k (by omega)
  · change (upd1 s.ls who (s.ls who ++ [s.msgs.length]) p)[a]? = some k at hk
    show ∃ b, b < a ∧ (upd1 s.ls who (s.ls who ++ [s.msgs.length]) p)[b]? = some c
    by_cases e : p = who
    · subst e
      rw [upd1_same] at hk ⊢
      by_cases ha : a < (s.ls p).length
      · rw [List.getElem?_append_left ha] at hk
        have hk1 := h.i1 p k (List.mem_of_getElem? hk)
        rw [caus_send h _ (by omega)] at hc
        obtain ⟨b, hb, e2⟩ := h.i7 p a k hk c hc
        exact ⟨b, hb, get_app e2⟩
      · have ha2 := get_lt hk
        simp at ha2
        obtain rfl : a = (s.ls p).length := by omega
        simp at hk
        subst hk
        rw [caus_new] at hc
        obtain ⟨b, hb, e2⟩ := mem_at hc
        exact ⟨b, hb, get_app e2⟩
    · rw [upd1_other _ _ e] at hk ⊢
      have hk1 := h.i1 p k (List.mem_of_getElem? hk)
      rw [caus_send h _ (by omega)] at hc
      exact h.i7 p a k hk c hc
  · by_cases e : k = s.msgs.length
    · subst e
      rw [caus_new] at hc
      exact h.i1 who c hc
    · rw [caus_send h _ e] at hc
      exact h.i9 k c hc
  · rw [hmg] at hq
    by_cases hl : k < s.msgs.length
    · rw [List.getElem?_append_left hl] at hq
      exact h.i10 k q hq
    · have h3 := get_lt hq
      simp at h3
      obtain rfl : k = s.msgs.length := by omega
      simp at hq
      subst hq
      exact hn
  · show upd2 s.came who s.msgs.length 2 p k = 0 ∨ upd2 s.came who s.msgs.length 2 p k = 1 ∨ upd2 s.came who s.msgs.length 2 p k = 2
    rw [upd2_eq]
    split
    · omega
    · exact h.i11 p k
  · show upd1 s.ls who (s.ls who ++ [s.msgs.length]) p = []
    rw [upd1_other _ _ (by omega)]
    exact h.i12 p hp

/-- What a going through leaves. -/
structure Gone (n : Nat) (s t : CS) (who k : Nat) : Prop where
  inv : CInv n t
  msgs : t.msgs = s.msgs
  caus : ∀ m, causC t m = causC s m
  far : ∀ p, p ≠ who → t.ls p = s.ls p ∧ ∀ m, t.came p m = s.came p m
  late : ∀ m, k ≤ m → t.came who m = s.came who m
  none : ∀ m, m < k → readyC t who m = false
  pre : ∃ r, t.ls who = s.ls who ++ r
  grow : ∀ m, s.came who m ≠ 0 → t.came who m ≠ 0
  same : ∀ m, t.came who m = s.came who m ∨ (s.came who m = 1 ∧ t.came who m = 2)
theorem gone_to (h : CInv n s) {who : Nat} (hn : who < n) : ∀ k, Gone n s (hearTo s who k) who k
  | 0 => ⟨h, rfl, fun _ => rfl, fun _ _ => ⟨rfl, fun _ => rfl⟩, fun _ _ => rfl, fun _ h => by omega, ⟨[], by simp [hearTo]⟩, fun _ h => h, fun _ => .inl rfl⟩
  | k + 1 => by
    have g := gone_to h hn k
    unfold hearTo
    split
    · rename_i hr
      have hr2 := hr
      unfold readyC at hr2
      rw [Bool.and_eq_true, beq_iff_eq] at hr2
      have hc1 : s.came who k = 1 := (g.late k (Nat.le_refl _)).symm.trans hr2.1
      refine ⟨inv_hear g.inv hn hr2.1 hr2.2, g.msgs, fun m => (caus_hear g.inv _ _ m).trans (g.caus m), fun p hp => ?_, fun m hm => ?_, fun m hm => ?_, ?_, fun m hm => ?_, fun m => ?_⟩
      · have e := g.far p hp
        exact ⟨(upd1_other _ _ hp).trans e.1, fun m => (upd2_other _ _ (fun e2 => hp e2.1)).trans (e.2 m)⟩
      · exact (upd2_other _ _ (fun e2 => by omega)).trans (g.late m (by omega))
      · by_cases e : m = k
        · subst e
          show ((hearC (hearTo s who m) who m).came who m == 1 && _) = false
          show ((upd2 (hearTo s who m).came who m 2 who m) == 1 && _) = false
          rw [upd2_same]
          rfl
        · have h1 := g.none m (by omega)
          unfold readyC okC at h1 ⊢
          rw [caus_hear g.inv]
          have e1 : (hearC (hearTo s who k) who k).came who m = (hearTo s who k).came who m := upd2_other _ _ (fun e2 => e e2.2)
          have e2 : ((causC (hearTo s who k) m).any fun c => (hearC (hearTo s who k) who k).came who c != 2) = ((causC (hearTo s who k) m).any fun c => (hearTo s who k).came who c != 2) := by
            rw [Bool.eq_iff_iff, List.any_eq_true, List.any_eq_true]
            have e3 : ∀ c ∈ causC (hearTo s who k) m, (hearC (hearTo s who k) who k).came who c = (hearTo s who k).came who c := fun c hc => upd2_other _ _ (fun e4 => by have := g.inv.i9 m c hc; omega)
            constructor
            · rintro ⟨c, hc, h3⟩; exact ⟨c, hc, by rw [e3 c hc] at h3; exact h3⟩
            · rintro ⟨c, hc, h3⟩; exact ⟨c, hc, by rw [e3 c hc]; exact h3⟩
          rw [e1, e2]
          exact h1
      · obtain ⟨r, hr⟩ := g.pre
        refine ⟨r ++ [k], ?_⟩
        show upd1 (hearTo s who k).ls who _ who = _
        rw [upd1_same, hr, List.append_assoc]
      · show upd2 (hearTo s who k).came who k 2 who m ≠ 0
        rw [upd2_eq]
        split
        · omega
        · exact g.grow m hm
      · show upd2 (hearTo s who k).came who k 2 who m = s.came who m ∨ _
        by_cases e : m = k
        · subst e; exact .inr ⟨hc1, upd2_same _ _ _ _⟩
        · rw [upd2_other _ _ (fun e2 => e e2.2)]
          rcases g.same m with h1 | h1
          · exact .inl h1
          · exact .inr ⟨h1.1, (upd2_other _ _ (fun e2 => e e2.2)).trans h1.2⟩
    · rename_i hr
      have hr2 : readyC (hearTo s who k) who k = false := by simpa using hr
      exact ⟨g.inv, g.msgs, g.caus, g.far, fun m hm => g.late m (by omega), fun m hm => by
        by_cases e : m = k
        · subst e; exact hr2
        · exact g.none m (by omega), g.pre, g.grow, g.same⟩

/-- What a step keeps: all above, and that nothing that waits may be heard. -/
structure CStep (n : Nat) (s t : CS) : Prop where
  inv : CInv n t
  still : (∀ p m, readyC s p m = false) → ∀ p m, readyC t p m = false
  pre : ∀ p, ∃ r, t.ls p = s.ls p ++ r
  msgs : ∃ r, t.msgs = s.msgs ++ r
  came : ∀ p m, s.came p m ≠ 0 → t.came p m ≠ 0

theorem step_send (h : CInv n s) {who : Nat} (hn : who < n) : CStep n s (sendC s who) := by
  have hi := inv_send h hn
  refine ⟨hi, fun hs p m => ?_, fun p => ?_, ⟨_, rfl⟩, fun p m hm => ?_⟩
  · by_cases e : m = s.msgs.length
    · subst e
      unfold readyC
      show (upd2 s.came who s.msgs.length 2 p s.msgs.length == 1 && _) = false
      rw [upd2_eq]
      split
      · rfl
      · rw [h.i5 p _ (Nat.le_refl _)]; rfl
    · have h1 := hs p m
      unfold readyC okC at h1 ⊢
      rw [caus_send h _ e]
      have e1 : (sendC s who).came p m = s.came p m := upd2_other _ _ (fun e2 => e e2.2)
      have e2 : ((causC s m).any fun c => (sendC s who).came p c != 2) = ((causC s m).any fun c => s.came p c != 2) := by
        rw [Bool.eq_iff_iff, List.any_eq_true, List.any_eq_true]
        have e3 : ∀ c ∈ causC s m, (sendC s who).came p c = s.came p c := fun c hc => upd2_other _ _ (fun e4 => by
          unfold causC at hc
          split at hc
          · rename_i q hq
            have := h.i1 _ c (List.mem_of_mem_take hc); omega
          · simp at hc)
        constructor
        · rintro ⟨c, hc, h3⟩; exact ⟨c, hc, by rw [e3 c hc] at h3; exact h3⟩
        · rintro ⟨c, hc, h3⟩; exact ⟨c, hc, by rw [e3 c hc]; exact h3⟩
      rw [e1, e2]
      exact h1
  · show ∃ r, upd1 s.ls who (s.ls who ++ [s.msgs.length]) p = s.ls p ++ r
    by_cases e : p = who
    · subst e; exact ⟨_, upd1_same _ _ _⟩
    · exact ⟨[], by rw [upd1_other _ _ e]; simp⟩
  · show upd2 s.came who s.msgs.length 2 p m ≠ 0
    rw [upd2_eq]
    split
    · omega
    · exact hm
theorem step_take (h : CInv n s) {who m : Nat} (hn : who < n) (hm : m < s.msgs.length) (h1 : s.came who m = 0) : CStep n s (takeC s who m) ∧ (takeC s who m).came who m ≠ 0 := by
  have hc := inv_come h hm h1
  have g := gone_to hc hn s.msgs.length
  have hw : (comeC s who m).came who m = 1 := upd2_same _ _ _ _
  refine ⟨⟨g.inv, fun hs p k => ?_, fun p => ?_, ⟨[], by simp; exact g.msgs⟩, fun p k hk => ?_⟩, g.grow m (by omega)⟩
  · by_cases e : p = who
    · subst e
      by_cases hk : k < s.msgs.length
      · exact g.none k hk
      · have h2 := g.inv.i5 p k (by rw [g.msgs]; exact Nat.le_of_not_lt hk)
        show ((hearTo (comeC s p m) p s.msgs.length).came p k == 1 && _) = false
        rw [h2]; rfl
    · have h2 := hs p k
      have h3 := g.far p e
      have h4 : ∀ c, (takeC s who m).came p c = s.came p c := fun c => (h3.2 c).trans (upd2_other _ _ (fun e2 => e e2.1))
      unfold readyC okC at h2 ⊢
      rw [show causC (takeC s who m) k = causC s k from g.caus k, h4]
      simp only [h4]
      exact h2
  · by_cases e : p = who
    · subst e; exact g.pre
    · exact ⟨[], by rw [List.append_nil]; exact (g.far p e).1⟩
  · by_cases e : p = who
    · subst e
      refine g.grow k ?_
      show upd2 s.came p m 1 p k ≠ 0
      rw [upd2_eq]
      split
      · omega
      · exact hk
    · have h3 := g.far p e
      show (takeC s who m).came p k ≠ 0
      rw [show (takeC s who m).came p k = s.came p k from (h3.2 k).trans (upd2_other _ _ (fun e2 => e e2.1))]
      exact hk
theorem cstep_refl (h : CInv n s) : CStep n s s := ⟨h, fun h => h, fun p => ⟨[], by simp⟩, ⟨[], by simp⟩, fun _ _ h => h⟩
theorem CStep.trans {a b c : CS} (h : CStep n a b) (k : CStep n b c) : CStep n a c :=
  ⟨k.inv, fun hs => k.still (h.still hs), fun p => by obtain ⟨r, e⟩ := h.pre p; obtain ⟨r2, e2⟩ := k.pre p; exact ⟨r ++ r2, by rw [e2, e, List.append_assoc]⟩,
   by obtain ⟨r, e⟩ := h.msgs; obtain ⟨r2, e2⟩ := k.msgs; exact ⟨r ++ r2, by rw [e2, e, List.append_assoc]⟩, fun p m hm => k.came p m (h.came p m hm)⟩

/-- When a step is done, what it is. -/
theorem code_ok {p : Cst} (hp : codeC n s p = 0) : ∃ w : Nat, w < n ∧ p.who = (w : Int) ∧ ((p.kind = 1 ∧ doC s p = sendC s w) ∨
    (p.kind = 2 ∧ ∃ m : Nat, m < s.msgs.length ∧ p.msg = (m : Int) ∧ (s.msgs.getD m (0, 0)).1 ≠ w ∧ s.came w m = 0 ∧ doC s p = takeC s w m)) := by
  unfold codeC at hp
  split at hp
  · omega
  · rename_i hk
    split at hp
    · omega
    · rename_i hw
      have hw2 : inP n p.who = true := by simpa using hw
      simp [inP] at hw2
      refine ⟨p.who.toNat, by omega, by omega, ?_⟩
      split at hp
      · rename_i h1
        refine .inl ⟨h1, ?_⟩
        unfold doC
        rw [if_pos h1]
      · rename_i h1
        have h2 : p.kind = 2 := by omega
        split at hp
        · omega
        · rename_i hm
          split at hp
          · omega
          · rename_i hc
            have hm1 : inP s.msgs.length p.msg = true := by
              cases e : inP s.msgs.length p.msg with
              | true => rfl
              | false => exact absurd (Or.inl e) hm
            simp [inP] at hm1
            refine .inr ⟨h2, p.msg.toNat, by omega, by omega, fun e => hm (.inr e), by omega, ?_⟩
            unfold doC
            rw [if_neg h1]
theorem cstep_any (h : CInv n s) (p : Cst) : CStep n s (stepC n s p) := by
  unfold stepC
  split
  · rename_i hp
    obtain ⟨w, hw, _, ⟨_, e⟩ | ⟨_, m, hm, _, _, hc, e⟩⟩ := code_ok hp
    · rw [e]; exact step_send h hw
    · rw [e]; exact (step_take h hw hm hc).1
  · exact cstep_refl h
theorem cat_succ (ps : List Cst) (k : Nat) : ∃ p, csAt n ps (k + 1) = stepC n (csAt n ps k) p ∨ csAt n ps (k + 1) = csAt n ps k := by
  show ∃ p, (match ps[k]? with | some p => stepC n (csAt n ps k) p | none => csAt n ps k) = _ ∨ (match ps[k]? with | some p => stepC n (csAt n ps k) p | none => csAt n ps k) = _
  cases ps[k]? with
  | none => exact ⟨⟨0, 0, 0⟩, .inr rfl⟩
  | some p => exact ⟨p, .inl rfl⟩
theorem cat_inv (ps : List Cst) : ∀ k, CInv n (csAt n ps k)
  | 0 => inv_0
  | k + 1 => by
    obtain ⟨p, e | e⟩ := cat_succ (n := n) ps k
    · rw [e]; exact (cstep_any (cat_inv ps k) p).inv
    · rw [e]; exact cat_inv ps k
theorem cat_step (ps : List Cst) (k : Nat) : ∀ d, CStep n (csAt n ps k) (csAt n ps (k + d))
  | 0 => cstep_refl (cat_inv ps k)
  | d + 1 => by
    obtain ⟨p, e | e⟩ := cat_succ (n := n) ps (k + d)
    · have := (cat_step ps k d).trans (cstep_any (cat_inv ps (k + d)) p)
      rw [← e] at this
      exact this
    · have := cat_step ps k d
      rw [← e] at this
      exact this
theorem cat_still (ps : List Cst) (k : Nat) : ∀ p m, readyC (csAt n ps k) p m = false := by
  have := (cat_step (n := n) ps 0 k).still (fun p m => rfl)
  rwa [Nat.zero_add] at this
theorem cat_msgs_len (ps : List Cst) : ∀ k, (csAt n ps k).msgs.length ≤ k
  | 0 => Nat.le_refl _
  | k + 1 => by
    have ih := cat_msgs_len ps k
    obtain ⟨p, e | e⟩ := cat_succ (n := n) ps k
    · rw [e]
      unfold stepC
      split
      · rename_i hp
        obtain ⟨w, hw, _, ⟨_, e⟩ | ⟨_, m, hm, _, _, hc, e⟩⟩ := code_ok hp
        · rw [e]; simp [sendC, hearC, msgC]; omega
        · rw [e]
          have := (gone_to (inv_come (cat_inv ps k) hm hc) hw (csAt n ps k).msgs.length).msgs
          show (takeC _ w m).msgs.length ≤ _
          unfold takeC
          rw [this]
          show (csAt n ps k).msgs.length ≤ _
          omega
      · omega
    · rw [e]; omega
theorem sub_len : ∀ {a : List Nat}, a.Nodup → ∀ {b : List Nat}, (∀ x ∈ a, x ∈ b) → a.length ≤ b.length
  | [], _, _, _ => Nat.zero_le _
  | x :: a, h, b, hb => by
    rw [List.nodup_cons] at h
    have hx := hb x (by simp)
    have h1 := sub_len h.2 (b := b.erase x) (fun y hy => (List.mem_erase_of_ne (show y ≠ x from fun e => h.1 (e ▸ hy))).2 (hb y (by simp [hy])))
    rw [List.length_erase_of_mem hx] at h1
    have := List.length_pos_of_mem hx
    simp
    omega
theorem ls_len (h : CInv n s) (p : Nat) : (s.ls p).length ≤ s.msgs.length := by
  have := sub_len (h.i3 p) (b := List.range s.msgs.length) (fun x hx => List.mem_range.2 (h.i1 p x hx))
  simpa using this
end Go.Proofs.Ytpdccjhabolccaa
