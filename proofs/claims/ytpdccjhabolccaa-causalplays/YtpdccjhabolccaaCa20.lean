/- The document's Causal in memory: a message more; what has come. -/
import Derived.Test.YtpdccjhabolccaaCa19
namespace Go.Proofs.Ytpdccjhabolccaa
open Go.RowKit
set_option linter.unusedVariables false

variable {n b5 L5 L8 : Nat} {s : CS} {come : Nat → List Nat} {codes : List Int} {v : RT → Value} {W W2 : World} {t t2 : Nat → Option RT}
theorem caus_msg (w : Nat) {m : Nat} (hm : m < s.msgs.length) : causC (msgC s w) m = causC s m := by
  unfold causC
  show (match (s.msgs ++ [(w, (s.ls w).length)])[m]? with | some q => (s.ls q.1).take q.2 | none => []) = _
  rw [List.getElem?_append_left hm]
  rfl
theorem caus_msg_new (w : Nat) : causC (msgC s w) s.msgs.length = s.ls w := by
  unfold causC
  show (match (s.msgs ++ [(w, (s.ls w).length)])[s.msgs.length]? with | some q => (s.ls q.1).take q.2 | none => []) = _
  simp
theorem rd_msg {w : Nat} {x y z : Value} (P : Pool W t (updD (updD (updD (RD n b5 L5 L8 s come codes v) (.ca s.msgs.length) ⟨3, 1, x, (s.ls w).length, natsL (s.ls w)⟩) .fr ⟨3, 1, y, s.msgs.length + 1, natsL (s.msgs.map fun q => q.1) ++ [.int .i64 (w : Int)]⟩) .cs ⟨22, 1, z, s.msgs.length + 1, ((List.range s.msgs.length).map fun m => v (.ca m)) ++ [x]⟩)) :
    Pool W t (RD n b5 L5 L8 (msgC s w) come codes (updV (updV (updV v (.ca s.msgs.length) x) .fr y) .cs z)) := by
  have e0 : (msgC s w).msgs = s.msgs ++ [(w, (s.ls w).length)] := rfl
  have e1 : (msgC s w).msgs.length = s.msgs.length + 1 := by rw [e0]; simp
  refine P.congr (fun y' q hy => ?_)
  cases y' with
  | cs =>
    rw [updD_same, ← hy]
    simp only [RD]
    rw [e1, updV_same]
    congr 2
    rw [List.range_succ, List.map_append, List.map_singleton]
    congr 1
    · apply List.map_congr_left
      intro m hm
      rw [List.mem_range] at hm
      rw [updV_other _ _ (by simp), updV_other _ _ (by simp), updV_other _ _ (by simp; omega)]
    · rw [updV_other _ _ (by simp), updV_other _ _ (by simp), updV_same]
  | fr =>
    rw [updD_other _ _ (by simp), updD_same, ← hy]
    simp only [RD]
    rw [e1, updV_other _ _ (by simp), updV_same, e0]
    congr 2
    simp [natsL]
  | ca i =>
    rw [updD_other _ _ (by simp), updD_other _ _ (by simp)]
    by_cases e : i = s.msgs.length
    · subst e
      rw [updD_same, ← hy]
      simp only [RD]
      rw [e1, if_pos (by omega), updV_other _ _ (by simp), updV_other _ _ (by simp), updV_same, caus_msg_new]
    · rw [updD_other _ _ (by simpa using e), ← hy]
      simp only [RD]
      rw [e1, updV_other _ _ (by simp), updV_other _ _ (by simp), updV_other _ _ (by simpa using e)]
      by_cases h : i < s.msgs.length
      · rw [if_pos h, if_pos (by omega), caus_msg w h]
      · rw [if_neg h, if_neg (by omega)]
  | out => rw [updD_other _ _ (by simp), updD_other _ _ (by simp), updD_other _ _ (by simp)]; exact hy
  | cd => rw [updD_other _ _ (by simp), updD_other _ _ (by simp), updD_other _ _ (by simp)]; exact hy
  | ol => rw [updD_other _ _ (by simp), updD_other _ _ (by simp), updD_other _ _ (by simp)]; exact hy
  | cm => rw [updD_other _ _ (by simp), updD_other _ _ (by simp), updD_other _ _ (by simp)]; exact hy
  | l i => rw [updD_other _ _ (by simp), updD_other _ _ (by simp), updD_other _ _ (by simp)]; exact hy
  | c i => rw [updD_other _ _ (by simp), updD_other _ _ (by simp), updD_other _ _ (by simp)]; exact hy
theorem updD_twice {ι : Type} [DecidableEq ι] {W : World} {t : Nat → Option ι} {d : ι → Option Slot} {τ : ι} {a b : Slot} (P : Pool W t (updD (updD d τ a) τ b)) : Pool W t (updD d τ b) :=
  P.congr (fun y q hy => by
    by_cases e : y = τ
    · subst e; rw [updD_same] at hy ⊢; exact hy
    · rw [updD_other _ _ e] at hy; rw [updD_other _ _ e, updD_other _ _ e]; exact hy)

theorem getD_app_left {l : List (Nat × Nat)} {q : Nat × Nat} {m : Nat} (h : m < l.length) : (l ++ [q]).getD m (0, 0) = l.getD m (0, 0) := by
  rw [List.getD_eq_getElem?_getD, List.getD_eq_getElem?_getD, List.getElem?_append_left h]
theorem come_send (h : CInv n s) {w i : Nat} {l : List Nat} (hc : ComeOf s i l) : ComeOf (sendC s w) i l := fun m => by
  rw [hc m]
  have e0 : (sendC s w).msgs = s.msgs ++ [(w, (s.ls w).length)] := rfl
  have e1 : (sendC s w).msgs.length = s.msgs.length + 1 := by rw [e0]; simp
  have e2 : (sendC s w).came i m = if i = w ∧ m = s.msgs.length then 2 else s.came i m := rfl
  rw [e1, e2, e0]
  by_cases hm : m < s.msgs.length
  · rw [getD_app_left hm, if_neg (by omega)]
    constructor
    · rintro ⟨a, b, c⟩; exact ⟨a, b, by omega⟩
    · rintro ⟨a, b, c⟩; exact ⟨a, b, hm⟩
  · constructor
    · rintro ⟨_, _, c⟩; omega
    · rintro ⟨a, b, c⟩
      obtain rfl : m = s.msgs.length := by omega
      by_cases e : i = w
      · exfalso
        apply b
        rw [e, List.getD_eq_getElem?_getD]
        simp
      · rw [if_neg (fun e3 => e e3.1), h.i5 i _ (Nat.le_refl _)] at a
        exact absurd rfl a
theorem come_come {w m i : Nat} (hm : m < s.msgs.length) (hs : (s.msgs.getD m (0, 0)).1 ≠ w) (hc : ComeOf s i (come i)) : ComeOf (comeC s w m) i (upd1 come w (come w ++ [m]) i) := fun k => by
  have e2 : (comeC s w m).came i k = if i = w ∧ k = m then 1 else s.came i k := rfl
  have e3 : (comeC s w m).msgs = s.msgs := rfl
  rw [e2, e3]
  by_cases e : i = w
  · subst e
    rw [upd1_same, List.mem_append, hc k]
    by_cases ek : k = m
    · subst ek
      refine ⟨fun _ => ⟨by simp, hs, hm⟩, fun _ => .inr (by simp)⟩
    · rw [if_neg (fun e5 => ek e5.2)]
      simp [ek]
  · rw [upd1_other _ _ e, hc k, if_neg (fun e5 => e e5.1)]
theorem come_take (h : CInv n s) {w m i : Nat} (hw : w < n) (hm : m < s.msgs.length) (h0 : s.came w m = 0) (hs : (s.msgs.getD m (0, 0)).1 ≠ w) (hc : ComeOf s i (come i)) : ComeOf (takeC s w m) i (upd1 come w (come w ++ [m]) i) := by
  have h1 := come_come hm hs hc
  have g := gone_to (inv_come h hm h0) hw s.msgs.length
  by_cases e : i = w
  · subst e
    exact come_gone g h1
  · intro k
    have h2 := h1 k
    have h3 := g.far i e
    show _ ↔ ((hearTo (comeC s w m) w s.msgs.length).came i k ≠ 0 ∧ _)
    rw [h2, h3.2 k]
    have h4 : (takeC s w m).msgs = s.msgs := g.msgs
    rw [h4]
    rfl
/-- What the document hears is what the program hears. -/
theorem hears_take (h : CInv n s) {w m : Nat} (hw : w < n) (hm : m < s.msgs.length) (h0 : s.came w m = 0) (hs : (s.msgs.getD m (0, 0)).1 ≠ w) (hc : ComeOf s w (come w)) :
    hearsTo (s.ls w) (causC s) (come w ++ [m]) (come w ++ [m]).length = (takeC s w m).ls w := by
  have h1 := come_come (come := come) hm hs hc
  rw [upd1_same] at h1
  exact hears_is (inv_come h hm h0) hw h1
theorem take_parts (h : CInv n s) {w m : Nat} (hw : w < n) (hm : m < s.msgs.length) (h0 : s.came w m = 0) : (takeC s w m).msgs = s.msgs ∧ (takeC s w m).ls = upd1 s.ls w ((takeC s w m).ls w) ∧ ∀ k, causC (takeC s w m) k = causC s k := by
  have g := gone_to (inv_come h hm h0) hw s.msgs.length
  refine ⟨g.msgs, funext fun i => ?_, fun k => g.caus k⟩
  by_cases e : i = w
  · subst e; rw [upd1_same]
  · rw [upd1_other _ _ e]; exact (g.far i e).1
end Go.Proofs.Ytpdccjhabolccaa
