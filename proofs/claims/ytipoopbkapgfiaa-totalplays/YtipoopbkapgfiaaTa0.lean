/- Messages to all, heard by all in one order: plain; no program is named here. -/
import Derived.Test.YtipoopbkapgfiaaCb0
namespace Go.Proofs.Ytipoopbkapgfiaa
set_option linter.unusedVariables false

/-- A message at one that has got it: its key (a number and a process), whether it was told, whether it is heard. -/
structure En where
  n : Nat
  p : Nat
  told : Bool
  heard : Bool
structure TS where
  sent : Nat
  num : Nat → Nat
  ent : Nat → Nat → Option En
  ls : Nat → List Nat
def klt (a b c d : Nat) : Bool := decide (a < c ∨ (a = c ∧ b < d))
def kc (e : En) : Nat := e.n * 1000 + e.p
theorem klt_code {a b c d : Nat} (hb : b < 1000) (hd : d < 1000) : klt a b c d = true ↔ a * 1000 + b < c * 1000 + d := by
  unfold klt
  rw [decide_eq_true_iff]
  omega
/-- Is one before what was the least so far? -/
def beats (o : Option (Nat × En)) (e : En) : Bool := match o with
  | none => true
  | some q => klt e.n e.p q.2.n q.2.p
def leastTo (f : Nat → Option En) : Nat → Option (Nat × En)
  | 0 => none
  | k + 1 => match f k with
    | none => leastTo f k
    | some e => if (!e.heard && beats (leastTo f k) e) = true then some (k, e) else leastTo f k
def hear1 (s : TS) (who m : Nat) (e : En) : TS := ⟨s.sent, s.num, upd2 s.ent who m (some ⟨e.n, e.p, e.told, true⟩), upd1 s.ls who (s.ls who ++ [m])⟩
def hearN (s : TS) (who : Nat) : Nat → TS
  | 0 => s
  | k + 1 => match leastTo (s.ent who) s.sent with
    | none => s
    | some q => if q.2.told = true then hearN (hear1 s who q.1 q.2) who k else s
def finTo (s : TS) (m : Nat) : Nat → Nat × Nat
  | 0 => (0, 0)
  | k + 1 => match s.ent k m with
    | none => finTo s m k
    | some e => if klt (finTo s m k).1 (finTo s m k).2 e.n e.p = true then (e.n, e.p) else finTo s m k
def allB (n : Nat) (s : TS) (m : Nat) : Bool := (List.range n).all fun p => (s.ent p m).isSome
def toldB (s : TS) (p m : Nat) : Bool := match s.ent p m with
  | some e => e.told
  | none => false
def sendT (s : TS) : TS := ⟨s.sent + 1, s.num, s.ent, s.ls⟩
def takeT (s : TS) (who m : Nat) : TS := ⟨s.sent, upd1 s.num who (s.num who + 1), upd2 s.ent who m (some ⟨s.num who + 1, who, false, false⟩), s.ls⟩
def tellT (n : Nat) (s : TS) (who m : Nat) : TS := ⟨s.sent, upd1 s.num who (max (s.num who) (finTo s m n).1), upd2 s.ent who m (some ⟨(finTo s m n).1, (finTo s m n).2, true, false⟩), s.ls⟩
def codeT (n : Nat) (s : TS) (p : Cst) : Int :=
  if p.kind ≠ 1 ∧ p.kind ≠ 2 ∧ p.kind ≠ 3 then 4
  else if inP n p.who = false then 2
  else if p.kind = 1 then 0
  else if inP s.sent p.msg = false then 2
  else if p.kind = 2 then (if (s.ent p.who.toNat p.msg.toNat).isSome = true then 6 else 0)
  else if toldB s p.who.toNat p.msg.toNat = true ∨ allB n s p.msg.toNat = false then 6 else 0
def doT (n : Nat) (s : TS) (p : Cst) : TS :=
  if p.kind = 1 then sendT s
  else if p.kind = 2 then takeT s p.who.toNat p.msg.toNat
  else hearN (tellT n s p.who.toNat p.msg.toNat) p.who.toNat s.sent
def stepT (n : Nat) (s : TS) (p : Cst) : TS := if codeT n s p = 0 then doT n s p else s
def ts0 : TS := ⟨0, fun _ => 0, fun _ _ => none, fun _ => []⟩
/-- How all stands behind k steps. -/
def tsAt (n : Nat) (ps : List Cst) : Nat → TS
  | 0 => ts0
  | k + 1 => match ps[k]? with
    | some p => stepT n (tsAt n ps k) p
    | none => tsAt n ps k
def tcAt (n : Nat) (ps : List Cst) (k : Nat) : Int := match ps[k]? with
  | some p => codeT n (tsAt n ps k) p
  | none => 0
def castCode (n : Int) (len : Nat) : Int := if n < 1 ∨ 6 < n ∨ 120 < len then 1 else 0
def ky (s : TS) (p m : Nat) : Nat := match s.ent p m with
  | some e => kc e
  | none => 0

theorem ud2 {α : Type} (f : Nat → Nat → α) (i j : Nat) (v : α) (a b : Nat) : upd2 f i j v a b = if a = i ∧ b = j then v else f a b := rfl
theorem ud1 {α : Type} (f : Nat → α) (i : Nat) (v : α) (a : Nat) : upd1 f i v a = if a = i then v else f a := rfl

/-- What holds whenever a step, or a hearing, is over; g: the number that each gave each message when it got it (0: it has not). -/
structure TInv (n : Nat) (s : TS) (g : Nat → Nat → Nat) : Prop where
  g0 : ∀ p m, s.ent p m = none ↔ g p m = 0
  un : ∀ p m e, s.ent p m = some e → e.told = false → e.n = g p m ∧ e.p = p ∧ e.heard = false
  td : ∀ p m e, s.ent p m = some e → e.told = true → (∀ q, q < n → g q m ≠ 0) ∧ (∃ q, q < n ∧ e.n = g q m ∧ e.p = q) ∧ ∀ q, q < n → g q m * 1000 + q ≤ kc e
  nu : ∀ p m e, s.ent p m = some e → e.n ≤ s.num p
  gn : ∀ p m, g p m ≤ s.num p
  inj : ∀ p m m', g p m = g p m' → g p m ≠ 0 → m = m'
  hd : ∀ p m, m ∈ s.ls p ↔ ∃ e, s.ent p m = some e ∧ e.heard = true
  nd : ∀ p, (s.ls p).Nodup
  hi : ∀ p m, s.sent ≤ m → g p m = 0
  pn : ∀ p m, n ≤ p → g p m = 0
  srt : ∀ p, (s.ls p).Pairwise (fun a b => ky s p a < ky s p b)
  ab : ∀ p a m e, a ∈ s.ls p → s.ent p m = some e → e.heard = false → ky s p a < kc e

variable {n : Nat} {s : TS} {g : Nat → Nat → Nat}
theorem inv_0 : TInv n ts0 (fun _ _ => 0) :=
  ⟨fun p m => by simp [ts0], fun p m e h => by simp [ts0] at h, fun p m e h => by simp [ts0] at h, fun p m e h => by simp [ts0] at h, fun p m => Nat.zero_le _, fun p m m' _ h => absurd rfl h, fun p m => by simp [ts0], fun p => by simp [ts0], fun _ _ _ => rfl, fun _ _ _ => rfl, fun p => by simp [ts0], fun p a m e h => by simp [ts0] at h⟩

/-- A key names the one that gave it. -/
theorem TInv.key (h : TInv n s g) {p m : Nat} {e : En} (he : s.ent p m = some e) : e.p < n ∧ e.n = g e.p m ∧ e.n ≠ 0 := by
  have hg : g p m ≠ 0 := fun e0 => by rw [(h.g0 p m).2 e0] at he; cases he
  have hp : p < n := Nat.lt_of_not_le fun hle => hg (h.pn p m hle)
  by_cases ht : e.told = true
  · obtain ⟨h1, ⟨q, hq, e1, e2⟩, _⟩ := h.td p m e he ht
    rw [e2]
    exact ⟨hq, e1, by rw [e1]; exact h1 q hq⟩
  · obtain ⟨e1, e2, _⟩ := h.un p m e he (by simpa using ht)
    rw [e2]
    exact ⟨hp, e1, by rw [e1]; exact hg⟩
theorem TInv.dist (h : TInv n s g) (hn : n ≤ 1000) {p q m m' : Nat} {e e' : En} (he : s.ent p m = some e) (he' : s.ent q m' = some e') (hk : kc e = kc e') : m = m' := by
  obtain ⟨a1, a2, a3⟩ := h.key he
  obtain ⟨b1, b2, b3⟩ := h.key he'
  unfold kc at hk
  have e1 : e.p = e'.p := by omega
  have e2 : e.n = e'.n := by omega
  rw [a2, b2, e1] at e2
  exact h.inj _ _ _ e2 (by rw [e1] at a2; rw [← a2]; exact a3)
theorem TInv.at_lt (h : TInv n s g) {p m : Nat} {e : En} (he : s.ent p m = some e) : p < n ∧ m < s.sent := by
  have hg : g p m ≠ 0 := fun e0 => by rw [(h.g0 p m).2 e0] at he; cases he
  exact ⟨Nat.lt_of_not_le fun hle => hg (h.pn p m hle), Nat.lt_of_not_le fun hle => hg (h.hi p m hle)⟩
/-- The key that a message has at one is none below what that one gave it. -/
theorem TInv.grow (h : TInv n s g) {p m : Nat} {e : En} (he : s.ent p m = some e) : g p m * 1000 + p ≤ kc e := by
  by_cases ht : e.told = true
  · exact (h.td p m e he ht).2.2 p (h.at_lt he).1
  · obtain ⟨e1, e2, _⟩ := h.un p m e he (by simpa using ht)
    unfold kc
    rw [e1, e2]
    exact Nat.le_refl _
theorem TInv.told_of (h : TInv n s g) {p m : Nat} (hm : m ∈ s.ls p) : ∃ e, s.ent p m = some e ∧ e.told = true ∧ e.heard = true := by
  obtain ⟨e, he, hh⟩ := (h.hd p m).1 hm
  refine ⟨e, he, ?_, hh⟩
  by_cases ht : e.told = true
  · exact ht
  · have := (h.un p m e he (by simpa using ht)).2.2
    rw [hh] at this; cases this
theorem TInv.told_eq (h : TInv n s g) {p q m : Nat} {e e' : En} (he : s.ent p m = some e) (he' : s.ent q m = some e') (ht : e.told = true) (ht' : e'.told = true) : kc e = kc e' := by
  obtain ⟨_, ⟨a, ha, a1, a2⟩, a3⟩ := h.td p m e he ht
  obtain ⟨_, ⟨b, hb, b1, b2⟩, b3⟩ := h.td q m e' he' ht'
  have h1 := a3 b hb
  have h2 := b3 a ha
  have e1 : kc e = g a m * 1000 + a := by unfold kc; rw [a1, a2]
  have e2 : kc e' = g b m * 1000 + b := by unfold kc; rw [b1, b2]
  omega
theorem ky_some {p m : Nat} {e : En} (he : s.ent p m = some e) : ky s p m = kc e := by unfold ky; rw [he]

theorem inv_send (h : TInv n s g) : TInv n (sendT s) g :=
  ⟨h.g0, h.un, h.td, h.nu, h.gn, h.inj, h.hd, h.nd, fun p m hm => h.hi p m (by have : s.sent + 1 ≤ m := hm; omega), h.pn, h.srt, h.ab⟩

theorem inv_take (h : TInv n s g) (hn : n ≤ 1000) {who m : Nat} (hw : who < n) (hm : m < s.sent) (h0 : s.ent who m = none) : TInv n (takeT s who m) (upd2 g who m (s.num who + 1)) := by
  have hg : g who m = 0 := (h.g0 who m).1 h0
  have hnl : m ∉ s.ls who := fun hx => by obtain ⟨e, he, _⟩ := (h.hd who m).1 hx; rw [h0] at he; cases he
  have nt : ∀ p e, s.ent p m = some e → e.told = true → False := fun p e he ht => (h.td p m e he ht).1 who hw hg
  have hky : ∀ p a, a ∈ s.ls p → ky (takeT s who m) p a = ky s p a := fun p a ha => by
    show (match upd2 s.ent who m _ p a with | some e => kc e | none => 0) = _
    rw [ud2, if_neg (fun e => hnl (by rw [← e.1, ← e.2]; exact ha))]
    rfl
  refine ⟨fun p k => ?_, fun p k e he ht => ?_, fun p k e he ht => ?_, fun p k e he => ?_, fun p k => ?_, fun p k k' he hk => ?_, fun p k => ?_, h.nd, fun p k hk => ?_, fun p k hp => ?_, fun p => ?_, fun p a k e ha he hh => ?_⟩
  · show upd2 s.ent who m _ p k = none ↔ upd2 g who m _ p k = 0
    rw [ud2, ud2]
    split
    · simp
    · exact h.g0 p k
  · change upd2 s.ent who m _ p k = some e at he
    show e.n = upd2 g who m _ p k ∧ _
    rw [ud2] at he ⊢
    split at he
    · rename_i hc
      cases he
      rw [if_pos hc]
      exact ⟨rfl, hc.1.symm, rfl⟩
    · rename_i hc
      rw [if_neg hc]
      exact h.un p k e he ht
  · change upd2 s.ent who m _ p k = some e at he
    rw [ud2] at he
    split at he
    · cases he; cases ht
    · rename_i hc
      have hkm : k ≠ m := fun e1 => by subst e1; exact nt p e he ht
      obtain ⟨h1, h2, h3⟩ := h.td p k e he ht
      have eg : ∀ q, upd2 g who m (s.num who + 1) q k = g q k := fun q => by rw [ud2, if_neg (fun e1 => hkm e1.2)]
      simp only [eg]
      exact ⟨h1, h2, h3⟩
  · change upd2 s.ent who m _ p k = some e at he
    show e.n ≤ upd1 s.num who _ p
    rw [ud2] at he
    rw [ud1]
    split at he
    · rename_i hc
      cases he
      rw [if_pos hc.1]
      exact Nat.le_refl _
    · have := h.nu p k e he
      split
      · rename_i e1; rw [← e1]; omega
      · exact this
  · show upd2 g who m _ p k ≤ upd1 s.num who _ p
    rw [ud2, ud1]
    have := h.gn p k
    split
    · rename_i hc; rw [if_pos hc.1]; exact Nat.le_refl _
    · split
      · rename_i e1; rw [← e1]; omega
      · exact this
  · rw [ud2, ud2] at he
    rw [ud2] at hk
    have g1 := h.gn who k
    have g2 := h.gn who k'
    split at he
    · rename_i hc
      split at he
      · rename_i hc'; exact hc.2.trans hc'.2.symm
      · rename_i hc'; rw [hc.1] at he; omega
    · rename_i hc
      rw [if_neg hc] at hk
      split at he
      · rename_i hc'; rw [hc'.1] at he; omega
      · exact h.inj p k k' he hk
  · show k ∈ s.ls p ↔ ∃ e, upd2 s.ent who m _ p k = some e ∧ e.heard = true
    rw [ud2]
    split
    · rename_i hc
      rw [hc.1, hc.2]
      exact ⟨fun hx => absurd hx hnl, fun ⟨e, he, hh⟩ => by cases he; cases hh⟩
    · exact h.hd p k
  · show upd2 g who m _ p k = 0
    have hk' : s.sent ≤ k := hk
    rw [ud2, if_neg (fun e => by omega)]
    exact h.hi p k hk
  · show upd2 g who m _ p k = 0
    rw [ud2, if_neg (fun e => by omega)]
    exact h.pn p k hp
  · refine (h.srt p).imp_of_mem (fun {a b} ha hb hab => ?_)
    rw [hky p a ha, hky p b hb]
    exact hab
  · have ha' : a ∈ s.ls p := ha
    rw [hky p a ha']
    change upd2 s.ent who m _ p k = some e at he
    rw [ud2] at he
    split at he
    · rename_i hc
      cases he
      obtain ⟨e1, he1, _⟩ := (h.hd p a).1 ha'
      rw [ky_some he1]
      have h1 := h.nu p a e1 he1
      have h2 := (h.key he1).1
      rw [hc.1] at h1
      unfold kc
      simp only
      omega
    · exact h.ab p a k e ha' he hh

/-- The greatest key of those that have it. -/
theorem fin_max (s : TS) (m : Nat) (hp : ∀ q e, s.ent q m = some e → e.p < 1000) : ∀ k, (finTo s m k).2 < 1000 ∧ (∀ q e, q < k → s.ent q m = some e → kc e ≤ (finTo s m k).1 * 1000 + (finTo s m k).2) ∧ (finTo s m k = (0, 0) ∨ ∃ q e, q < k ∧ s.ent q m = some e ∧ finTo s m k = (e.n, e.p))
  | 0 => ⟨by simp [finTo], fun q e hq => by omega, .inl rfl⟩
  | k + 1 => by
    obtain ⟨i0, i1, i2⟩ := fin_max s m hp k
    unfold finTo
    cases hk : s.ent k m with
    | none =>
      simp only
      refine ⟨i0, fun q e hq he => ?_, ?_⟩
      · by_cases e1 : q = k
        · subst e1; rw [hk] at he; cases he
        · exact i1 q e (by omega) he
      · rcases i2 with i2 | ⟨q, e, hq, he, i2⟩
        · exact .inl i2
        · exact .inr ⟨q, e, by omega, he, i2⟩
    | some e0 =>
      simp only
      have p0 := hp k e0 hk
      have hc := klt_code (a := (finTo s m k).1) (b := (finTo s m k).2) (c := e0.n) (d := e0.p) i0 p0
      split
      · rename_i hl
        have hl2 := hc.1 hl
        refine ⟨p0, fun q e hq he => ?_, .inr ⟨k, e0, by omega, hk, rfl⟩⟩
        by_cases e1 : q = k
        · subst e1; rw [hk] at he; cases he; unfold kc; simp only; omega
        · have h5 := i1 q e (by omega) he
          simp only
          exact Nat.le_of_lt (Nat.lt_of_le_of_lt h5 hl2)
      · rename_i hl
        have hl2 : ¬ _ := fun h => hl (hc.2 h)
        refine ⟨i0, fun q e hq he => ?_, ?_⟩
        · by_cases e1 : q = k
          · subst e1; rw [hk] at he; cases he; unfold kc; omega
          · exact i1 q e (by omega) he
        · rcases i2 with i2 | ⟨q, e, hq, he, i2⟩
          · exact .inl i2
          · exact .inr ⟨q, e, by omega, he, i2⟩
theorem all_got (h : TInv n s g) {m : Nat} (ha : allB n s m = true) : ∀ q, q < n → g q m ≠ 0 := fun q hq e0 => by
  unfold allB at ha
  have := List.all_eq_true.1 ha q (List.mem_range.2 hq)
  rw [(h.g0 q m).2 e0] at this
  simp at this
theorem fin_of (h : TInv n s g) (hn : n ≤ 1000) (h0 : 0 < n) {m : Nat} (ha : allB n s m = true) : (∃ q, q < n ∧ (finTo s m n).1 = g q m ∧ (finTo s m n).2 = q) ∧ ∀ q, q < n → g q m * 1000 + q ≤ (finTo s m n).1 * 1000 + (finTo s m n).2 := by
  have hg := all_got h ha
  obtain ⟨i0, i1, i2⟩ := fin_max s m (fun q e he => by have := (h.key he).1; omega) n
  have hall : ∀ q, q < n → ∃ e, s.ent q m = some e := fun q hq => by
    cases he : s.ent q m with
    | none => exact absurd ((h.g0 q m).1 he) (hg q hq)
    | some e => exact ⟨e, rfl⟩
  refine ⟨?_, fun q hq => ?_⟩
  · rcases i2 with i2 | ⟨q, e, hq, he, i2⟩
    · obtain ⟨e, he⟩ := hall 0 h0
      have := i1 0 e h0 he
      have := (h.key he).2.2
      rw [i2] at i1
      have := i1 0 e h0 he
      unfold kc at this
      simp at this
      omega
    · rw [i2]
      obtain ⟨a1, a2, a3⟩ := h.key he
      exact ⟨e.p, a1, a2, rfl⟩
  · obtain ⟨e, he⟩ := hall q hq
    have := i1 q e hq he
    have := h.grow he
    omega

theorem inv_tell (h : TInv n s g) (hn : n ≤ 1000) {who m : Nat} (hw : who < n) (ha : allB n s m = true) (ht0 : toldB s who m = false) : TInv n (tellT n s who m) g := by
  have hg := all_got h ha
  obtain ⟨f1, f2⟩ := fin_of h hn (by omega) ha
  obtain ⟨e0, he0⟩ : ∃ e, s.ent who m = some e := by
    cases he : s.ent who m with
    | none => exact absurd ((h.g0 who m).1 he) (hg who hw)
    | some e => exact ⟨e, rfl⟩
  have hte : e0.told = false := by unfold toldB at ht0; rw [he0] at ht0; exact ht0
  obtain ⟨u1, u2, u3⟩ := h.un who m e0 he0 hte
  have hnl : m ∉ s.ls who := fun hx => by obtain ⟨e, he, hh⟩ := (h.hd who m).1 hx; rw [he0] at he; cases he; rw [u3] at hh; cases hh
  have hky : ∀ p a, a ∈ s.ls p → ky (tellT n s who m) p a = ky s p a := fun p a ha => by
    show (match upd2 s.ent who m _ p a with | some e => kc e | none => 0) = _
    rw [ud2, if_neg (fun e => hnl (by rw [← e.1, ← e.2]; exact ha))]
    rfl
  have hm : m < s.sent := (h.at_lt he0).2
  refine ⟨fun p k => ?_, fun p k e he ht => ?_, fun p k e he ht => ?_, fun p k e he => ?_, fun p k => ?_, h.inj, fun p k => ?_, h.nd, h.hi, h.pn, fun p => ?_, fun p a k e ha he hh => ?_⟩
  · show upd2 s.ent who m _ p k = none ↔ g p k = 0
    rw [ud2]
    split
    · rename_i hc
      rw [hc.1, hc.2]
      exact ⟨fun e => (by cases e), fun e => absurd e (hg who hw)⟩
    · exact h.g0 p k
  · change upd2 s.ent who m _ p k = some e at he
    rw [ud2] at he
    split at he
    · cases he; cases ht
    · exact h.un p k e he ht
  · change upd2 s.ent who m _ p k = some e at he
    rw [ud2] at he
    split at he
    · rename_i hc
      cases he
      rw [hc.2]
      exact ⟨hg, f1, f2⟩
    · exact h.td p k e he ht
  · change upd2 s.ent who m _ p k = some e at he
    show e.n ≤ upd1 s.num who _ p
    rw [ud2] at he
    rw [ud1]
    split at he
    · rename_i hc
      cases he
      rw [if_pos hc.1]
      simp only
      omega
    · have := h.nu p k e he
      split
      · rename_i e1; rw [← e1]; omega
      · exact this
  · show g p k ≤ upd1 s.num who _ p
    have := h.gn p k
    rw [ud1]
    split
    · rename_i e1; rw [← e1]; omega
    · exact this
  · show k ∈ s.ls p ↔ ∃ e, upd2 s.ent who m _ p k = some e ∧ e.heard = true
    rw [ud2]
    split
    · rename_i hc
      rw [hc.1, hc.2]
      exact ⟨fun hx => absurd hx hnl, fun ⟨e, he, hh⟩ => by cases he; cases hh⟩
    · exact h.hd p k
  · refine (h.srt p).imp_of_mem (fun {a b} ha hb hab => ?_)
    rw [hky p a ha, hky p b hb]
    exact hab
  · have ha' : a ∈ s.ls p := ha
    rw [hky p a ha']
    change upd2 s.ent who m _ p k = some e at he
    rw [ud2] at he
    split at he
    · rename_i hc
      cases he
      have h1 := h.ab p a m e0 ha' (by rw [hc.1]; exact he0) u3
      have h2 := f2 who hw
      have h3 : kc e0 = g who m * 1000 + who := by unfold kc; rw [u1, u2]
      rw [h3] at h1
      exact Nat.lt_of_lt_of_le h1 h2
    · exact h.ab p a k e ha' he hh

/-- The least of what is got and not heard. -/
theorem least_some {f : Nat → Option En} (hp : ∀ q e, f q = some e → e.p < 1000) : ∀ k, (leastTo f k = none → ∀ x e, x < k → f x = some e → e.heard = true) ∧ ∀ m e, leastTo f k = some (m, e) → m < k ∧ f m = some e ∧ e.heard = false ∧ ∀ x e', x < k → f x = some e' → e'.heard = false → kc e ≤ kc e'
  | 0 => ⟨fun _ x e hx => by omega, fun m e h => by simp [leastTo] at h⟩
  | k + 1 => by
    obtain ⟨i1, i2⟩ := least_some hp k
    unfold leastTo
    cases hk : f k with
    | none =>
      simp only
      refine ⟨fun hl x e hx he => ?_, fun m e hl => ?_⟩
      · by_cases e1 : x = k
        · subst e1; rw [hk] at he; cases he
        · exact i1 hl x e (by omega) he
      · obtain ⟨a1, a2, a3, a4⟩ := i2 m e hl
        refine ⟨by omega, a2, a3, fun x e' hx he hh => ?_⟩
        by_cases e1 : x = k
        · subst e1; rw [hk] at he; cases he
        · exact a4 x e' (by omega) he hh
    | some e0 =>
      simp only
      split
      · rename_i hb
        rw [Bool.and_eq_true] at hb
        have h0 : e0.heard = false := by simpa using hb.1
        refine ⟨fun hl => (by cases hl), fun m e hl => ?_⟩
        simp only [Option.some.injEq, Prod.mk.injEq] at hl
        obtain ⟨rfl, rfl⟩ := hl
        refine ⟨by omega, hk, h0, fun x e' hx he hh => ?_⟩
        by_cases e1 : x = k
        · subst e1; rw [hk] at he; cases he; exact Nat.le_refl _
        · cases hl : leastTo f k with
          | none => have := i1 hl x e' (by omega) he; rw [hh] at this; cases this
          | some q =>
            obtain ⟨m1, e1'⟩ := q
            obtain ⟨a1, a2, a3, a4⟩ := i2 m1 e1' hl
            have := a4 x e' (by omega) he hh
            have hb2 := hb.2
            rw [hl] at hb2
            have hb3 := (klt_code (hp k e0 hk) (hp m1 e1' a2)).1 hb2
            exact Nat.le_trans (Nat.le_of_lt hb3) this
      · rename_i hb
        refine ⟨fun hl x e hx he => ?_, fun m e hl => ?_⟩
        · by_cases e1 : x = k
          · subst e1
            rw [hk] at he
            cases he
            rw [hl] at hb
            cases hh : e0.heard with
            | true => rfl
            | false => exact absurd (by rw [hh]; rfl) hb
          · exact i1 hl x e (by omega) he
        · obtain ⟨a1, a2, a3, a4⟩ := i2 m e hl
          refine ⟨by omega, a2, a3, fun x e' hx he hh => ?_⟩
          by_cases e1 : x = k
          · subst e1
            rw [hk] at he
            cases he
            rw [hl] at hb
            have hb1 : ¬ klt e0.n e0.p e.n e.p = true := fun hq => hb (by rw [hh]; exact hq)
            rw [klt_code (hp _ _ hk) (hp _ _ a2)] at hb1
            unfold kc
            omega
          · exact a4 x e' (by omega) he hh

theorem inv_hear (h : TInv n s g) (hn : n ≤ 1000) {who m : Nat} {e0 : En} (hl : leastTo (s.ent who) s.sent = some (m, e0)) (ht : e0.told = true) : TInv n (hear1 s who m e0) g := by
  obtain ⟨l1, l2, l3, l4⟩ := (least_some (fun q e he => by have := (h.key (p := who) he).1; omega) s.sent).2 m e0 hl
  have hnl : m ∉ s.ls who := fun hx => by obtain ⟨e, he, hh⟩ := (h.hd who m).1 hx; rw [l2] at he; cases he; rw [l3] at hh; cases hh
  have hky : ∀ p a, ky (hear1 s who m e0) p a = ky s p a := fun p a => by
    show (match upd2 s.ent who m _ p a with | some e => kc e | none => 0) = _
    rw [ud2]
    by_cases hc : p = who ∧ a = m
    · rw [if_pos hc, hc.1, hc.2, ky_some l2]
      rfl
    · rw [if_neg hc]
      rfl
  refine ⟨fun p k => ?_, fun p k e he ht1 => ?_, fun p k e he ht1 => ?_, fun p k e he => ?_, h.gn, h.inj, fun p k => ?_, fun p => ?_, h.hi, h.pn, fun p => ?_, fun p a k e ha he hh => ?_⟩
  · show upd2 s.ent who m _ p k = none ↔ g p k = 0
    rw [ud2]
    split
    · rename_i hc
      rw [hc.1, hc.2]
      exact ⟨fun e => (by cases e), fun e => by rw [(h.g0 who m).2 e] at l2; cases l2⟩
    · exact h.g0 p k
  · change upd2 s.ent who m _ p k = some e at he
    rw [ud2] at he
    split at he
    · cases he; rw [ht] at ht1; cases ht1
    · exact h.un p k e he ht1
  · change upd2 s.ent who m _ p k = some e at he
    rw [ud2] at he
    split at he
    · rename_i hc
      cases he
      rw [hc.2]
      exact h.td who m e0 l2 ht
    · exact h.td p k e he ht1
  · change upd2 s.ent who m _ p k = some e at he
    rw [ud2] at he
    split at he
    · rename_i hc
      cases he
      rw [hc.1]
      exact h.nu who m e0 l2
    · exact h.nu p k e he
  · show k ∈ upd1 s.ls who _ p ↔ ∃ e, upd2 s.ent who m _ p k = some e ∧ e.heard = true
    rw [ud2, ud1]
    by_cases hp : p = who
    · rw [if_pos hp, List.mem_append]
      by_cases hk : k = m
      · rw [if_pos ⟨hp, hk⟩]
        exact ⟨fun _ => ⟨_, rfl, rfl⟩, fun _ => .inr (by rw [hk]; simp)⟩
      · rw [if_neg (fun e => hk e.2), hp]
        have := h.hd who k
        simp [hk, this]
    · rw [if_neg hp, if_neg (fun e => hp e.1)]
      exact h.hd p k
  · show (upd1 s.ls who _ p).Nodup
    rw [ud1]
    split
    · rw [List.nodup_append]
      exact ⟨h.nd who, by simp, fun a ha b hb e => by simp at hb; subst hb; subst e; exact hnl ha⟩
    · exact h.nd p
  · show (upd1 s.ls who _ p).Pairwise _
    simp only [hky]
    rw [ud1]
    split
    · rename_i e
      rw [List.pairwise_append]
      refine ⟨e ▸ h.srt p, by simp, fun a ha b hb => ?_⟩
      simp at hb
      subst hb
      rw [e, ky_some l2]
      exact h.ab who a b e0 ha l2 l3
    · exact h.srt p
  · rw [hky]
    change a ∈ upd1 s.ls who _ p at ha
    change upd2 s.ent who m _ p k = some e at he
    rw [ud2] at he
    rw [ud1] at ha
    split at he
    · cases he; cases hh
    · rename_i hc
      split at ha
      · rename_i hp
        rw [hp] at he hc ⊢
        rw [List.mem_append] at ha
        rcases ha with ha | ha
        · exact h.ab who a k e ha he hh
        · simp at ha
          subst ha
          rw [ky_some l2]
          have h1 := l4 k e (h.at_lt he).2 he hh
          have h2 : kc e0 ≠ kc e := fun e1 => hc ⟨rfl, (h.dist hn l2 he e1).symm⟩
          omega
      · exact h.ab p a k e ha he hh
end Go.Proofs.Ytipoopbkapgfiaa
