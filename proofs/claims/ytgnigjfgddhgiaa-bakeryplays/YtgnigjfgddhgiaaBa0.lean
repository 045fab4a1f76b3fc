/- The bakery: plain; no program is named here. -/
import Derived.Test.YtgnigjfgddhgiaaCb0
namespace Go.Proofs.Ytgnigjfgddhgiaa
set_option linter.unusedVariables false

/-- A process: where it stands, its ticket, whether it chooses, and its two numbers. -/
structure Pb where
  pl : Nat
  tk : Nat
  ch : Bool
  k : Nat
  m : Nat
structure BS where
  pr : Nat → Pb
  ins : List Nat
def setB (s : BS) (i : Nat) (p : Pb) : BS := ⟨upd1 s.pr i p, s.ins⟩
/-- A ticket and its process are less. -/
def blt (a b c d : Nat) : Bool := decide (a < c ∨ (a = c ∧ b < d))
def barB (s : BS) (i : Nat) : Bool := decide ((s.pr (s.pr i).k).tk ≠ 0) && blt (s.pr (s.pr i).k).tk (s.pr i).k (s.pr i).tk i
def chooseB (s : BS) (i : Nat) : BS := setB s i ⟨1, (s.pr i).tk, true, 0, 0⟩
def drawB (n : Nat) (s : BS) (i : Nat) : BS :=
  if (s.pr i).k = n then setB s i ⟨2, (s.pr i).m + 1, (s.pr i).ch, (s.pr i).k, (s.pr i).m⟩
  else setB s i ⟨(s.pr i).pl, (s.pr i).tk, (s.pr i).ch, (s.pr i).k + 1, max (s.pr i).m (s.pr (s.pr i).k).tk⟩
def showB (s : BS) (i : Nat) : BS := setB s i ⟨3, (s.pr i).tk, false, 0, (s.pr i).m⟩
def meetB (n : Nat) (s : BS) (i : Nat) : BS :=
  if (s.pr i).k = n then ⟨upd1 s.pr i ⟨5, (s.pr i).tk, (s.pr i).ch, (s.pr i).k, (s.pr i).m⟩, s.ins ++ [i]⟩
  else if (s.pr (s.pr i).k).ch = true then s else setB s i ⟨4, (s.pr i).tk, (s.pr i).ch, (s.pr i).k, (s.pr i).m⟩
def yieldB (s : BS) (i : Nat) : BS :=
  if barB s i = true then s else setB s i ⟨3, (s.pr i).tk, (s.pr i).ch, (s.pr i).k + 1, (s.pr i).m⟩
def leaveB (s : BS) (i : Nat) : BS := setB s i ⟨0, 0, (s.pr i).ch, (s.pr i).k, (s.pr i).m⟩
def actB (n : Nat) (s : BS) (i : Nat) : BS :=
  if (s.pr i).pl = 0 then chooseB s i else if (s.pr i).pl = 1 then drawB n s i else if (s.pr i).pl = 2 then showB s i
  else if (s.pr i).pl = 3 then meetB n s i else if (s.pr i).pl = 4 then yieldB s i else leaveB s i
def codeB (n : Nat) (z : Int) : Int := if inP n z = true then 0 else 2
def stepB (n : Nat) (s : BS) (z : Int) : BS := if inP n z = true then actB n s z.toNat else s
def bs0 : BS := ⟨fun _ => ⟨0, 0, false, 0, 0⟩, []⟩
/-- How all stands behind k steps. -/
def bsAt (n : Nat) (zs : List Int) : Nat → BS
  | 0 => bs0
  | k + 1 => match zs[k]? with
    | some z => stepB n (bsAt n zs k) z
    | none => bsAt n zs k
def bcAt (n : Nat) (zs : List Int) (k : Nat) : Int := match zs[k]? with
  | some z => codeB n z
  | none => 0

def kl (i j : Nat) (p q : Pb) : Prop := p.tk < q.tk ∨ (p.tk = q.tk ∧ i < j)
/-- Who has passed another one, or is about to, has the lesser ticket, or the other one will see it. -/
def JJ (i j : Nat) (p q : Pb) : Prop :=
  ((((p.pl = 3 ∨ p.pl = 4) ∧ j < p.k) ∨ p.pl = 5) → (q.pl = 1 → i < q.k → p.tk ≤ q.m) ∧ (2 ≤ q.pl → kl i j p q)) ∧
  ((p.pl = 4 ∧ p.k = j) → (q.pl = 1 → i < q.k → p.tk ≤ q.m) ∧ (q.pl = 2 → kl i j p q))
/-- What holds of one. -/
structure Own (n t : Nat) (p : Pb) : Prop where
  pl : p.pl ≤ 5
  k : p.k ≤ n
  tk : p.tk ≤ t
  m : p.m ≤ t
  ch : p.ch = true ↔ (p.pl = 1 ∨ p.pl = 2)
  t0 : p.pl < 2 → p.tk = 0
  t1 : 2 ≤ p.pl → 1 ≤ p.tk
  k4 : p.pl = 4 → p.k < n
structure BInv (n t : Nat) (s : BS) : Prop where
  own : ∀ i, i < n → Own n t (s.pr i)
  two : ∀ i j, i < n → j < n → i ≠ j → JJ i j (s.pr i) (s.pr j)
  ins : s.ins.length ≤ t

variable {n t : Nat} {s : BS}
theorem binv_0 (n : Nat) : BInv n 0 bs0 := by
  refine ⟨fun i _ => ⟨?_, ?_, ?_, ?_, ?_, ?_, ?_, ?_⟩, fun i j _ _ _ => ⟨?_, ?_⟩, ?_⟩ <;> simp [bs0]
theorem Own.mono {t2 : Nat} {p : Pb} (h : Own n t p) (ht : t ≤ t2) : Own n t2 p := ⟨h.pl, h.k, Nat.le_trans h.tk ht, Nat.le_trans h.m ht, h.ch, h.t0, h.t1, h.k4⟩
theorem BInv.mono {t2 : Nat} (h : BInv n t s) (ht : t ≤ t2) : BInv n t2 s := ⟨fun i hi => (h.own i hi).mono ht, h.two, Nat.le_trans h.ins ht⟩
/-- One process is another one now. -/
theorem binv_set (h : BInv n t s) {i : Nat} (hi : i < n) {p : Pb} {l : List Nat} (hl : l.length ≤ t + 1) (ho : Own n (t + 1) p)
    (ha : ∀ j, j < n → j ≠ i → JJ i j p (s.pr j)) (hb : ∀ j, j < n → j ≠ i → JJ j i (s.pr j) p) : BInv n (t + 1) ⟨upd1 s.pr i p, l⟩ := by
  refine ⟨fun j hj => ?_, fun a b ha1 hb1 hab => ?_, hl⟩
  · show Own n (t + 1) (upd1 s.pr i p j)
    by_cases e : j = i
    · subst e; rw [upd1_same]; exact ho
    · rw [upd1_other _ _ e]; exact (h.own j hj).mono (by omega)
  · show JJ a b (upd1 s.pr i p a) (upd1 s.pr i p b)
    by_cases ea : a = i
    · subst ea
      rw [upd1_same, upd1_other _ _ (fun e => hab e.symm)]
      exact ha b hb1 (fun e => hab e.symm)
    · rw [upd1_other _ _ ea]
      by_cases eb : b = i
      · subst eb; rw [upd1_same]; exact hb a ha1 hab
      · rw [upd1_other _ _ eb]; exact h.two a b ha1 hb1 hab

theorem binv_act (h : BInv n t s) {i : Nat} (hi : i < n) : BInv n (t + 1) (actB n s i) := by
  obtain ⟨o1, o2, o3, o4, o5, o6, o7, o8⟩ := h.own i hi
  have hl := h.ins
  have two := h.two
  have own := h.own
  unfold actB
  split
  · rename_i e
    refine binv_set h hi (by omega) ⟨by simp, by simp, by simp; omega, by simp, by simp, fun _ => o6 (by omega), fun x => by simp at x, fun x => by simp at x⟩ (fun j hj hji => ?_) (fun j hj hji => ?_)
    · refine ⟨fun x => ?_, fun x => ?_⟩ <;> simp at x
    · refine ⟨fun x => ⟨fun _ y => ?_, fun y => ?_⟩, fun x => ⟨fun _ y => ?_, fun y => ?_⟩⟩ <;> simp at y
  split
  · rename_i e0 e
    unfold drawB
    split
    · rename_i ek
      refine binv_set h hi (by omega) ⟨by simp, by simp; omega, by simp; omega, by simp; omega, by simp; rw [o5]; omega, fun x => by simp at x, fun _ => by simp, fun x => by simp at x⟩ (fun j hj hji => ?_) (fun j hj hji => ?_)
      · refine ⟨fun x => ?_, fun x => ?_⟩ <;> simp at x
      · obtain ⟨x1, x2⟩ := two j i hj hi hji
        refine ⟨fun x => ⟨fun y => by simp at y, fun _ => ?_⟩, fun x => ⟨fun y => by simp at y, fun _ => ?_⟩⟩
        · have := (x1 x).1 e (by omega)
          left; show (s.pr j).tk < (s.pr i).m + 1; omega
        · have := (x2 x).1 e (by omega)
          left; show (s.pr j).tk < (s.pr i).m + 1; omega
    · rename_i ek
      have hk := own (s.pr i).k (by omega)
      refine binv_set h hi (by omega) ⟨by simpa using o1, by simp; omega, by simp; omega, ?_, by simpa using o5, by simpa using o6, by simpa using o7, fun x => by simp only at x; omega⟩ (fun j hj hji => ?_) (fun j hj hji => ?_)
      · have := hk.tk
        show max (s.pr i).m (s.pr (s.pr i).k).tk ≤ t + 1
        omega
      · refine ⟨fun x => ?_, fun x => ?_⟩ <;> simp only at x <;> omega
      · obtain ⟨x1, x2⟩ := two j i hj hi hji
        have key : ∀ (z : (s.pr i).pl = 1 → j < (s.pr i).k → (s.pr j).tk ≤ (s.pr i).m), j < (s.pr i).k + 1 → (s.pr j).tk ≤ max (s.pr i).m (s.pr (s.pr i).k).tk := fun z y => by
          by_cases ej : j = (s.pr i).k
          · rw [← ej]; omega
          · have := z e (by omega); omega
        refine ⟨fun x => ⟨fun _ y => key (x1 x).1 y, fun y => ?_⟩, fun x => ⟨fun _ y => key (x2 x).1 y, fun y => ?_⟩⟩ <;> simp only at y <;> omega
  split
  · rename_i e0 e1 e
    refine binv_set h hi (by omega) ⟨by simp, by simp, by simp; omega, by simp; omega, by simp, fun x => by simp at x, fun _ => o7 (by omega), fun x => by simp at x⟩ (fun j hj hji => ?_) (fun j hj hji => ?_)
    · refine ⟨fun x => ?_, fun x => ?_⟩ <;> simp at x
    · obtain ⟨x1, x2⟩ := two j i hj hi hji
      refine ⟨fun x => ⟨fun y => by simp at y, fun _ => (x1 x).2 (by omega)⟩, fun x => ⟨fun y => by simp at y, fun y => by simp at y⟩⟩
  split
  · rename_i e0 e1 e2 e
    unfold meetB
    split
    · rename_i ek
      refine binv_set h hi (by simp; omega) ⟨by simp, by simp; omega, by simp; omega, by simp; omega, by simp; rw [Bool.eq_false_iff]; intro x; have := o5.1 x; omega, fun x => by simp at x, fun _ => o7 (by omega), fun x => by simp at x⟩ (fun j hj hji => ?_) (fun j hj hji => ?_)
      · obtain ⟨x1, x2⟩ := two i j hi hj (Ne.symm hji)
        exact ⟨fun _ => x1 (.inl ⟨.inl e, by omega⟩), fun x => by simp at x⟩
      · obtain ⟨x1, x2⟩ := two j i hj hi hji
        exact ⟨fun x => ⟨fun y => by simp at y, fun _ => (x1 x).2 (by omega)⟩, fun x => ⟨fun y => by simp at y, fun y => by simp at y⟩⟩
    · rename_i ek
      split
      · exact h.mono (by omega)
      · rename_i ec
        have hk := own (s.pr i).k (by omega)
        refine binv_set h hi (by omega) ⟨by simp, by simp; omega, by simp; omega, by simp; omega, by simp; rw [Bool.eq_false_iff]; intro x; have := o5.1 x; omega, fun x => by simp at x, fun _ => o7 (by omega), fun _ => by simp; omega⟩ (fun j hj hji => ?_) (fun j hj hji => ?_)
        · obtain ⟨x1, x2⟩ := two i j hi hj (Ne.symm hji)
          refine ⟨fun x => x1 ?_, fun x => ?_⟩
          · simp at x; exact .inl ⟨.inl e, x⟩
          · have x3 : (s.pr i).k = j := by simpa using x
            rw [x3] at hk ec
            have := hk.ch
            exact ⟨fun y => absurd (this.2 (.inl y)) ec, fun y => absurd (this.2 (.inr y)) ec⟩
        · obtain ⟨x1, x2⟩ := two j i hj hi hji
          exact ⟨fun x => ⟨fun y => by simp at y, fun _ => (x1 x).2 (by omega)⟩, fun x => ⟨fun y => by simp at y, fun y => by simp at y⟩⟩
  split
  · rename_i e0 e1 e2 e3 e
    unfold yieldB
    split
    · exact h.mono (by omega)
    · rename_i eb
      have hkn := o8 e
      have hk := own (s.pr i).k hkn
      refine binv_set h hi (by omega) ⟨by simp, by simp; omega, by simp; omega, by simp; omega, by simp; rw [Bool.eq_false_iff]; intro x; have := o5.1 x; omega, fun x => by simp at x, fun _ => o7 (by omega), fun x => by simp at x⟩ (fun j hj hji => ?_) (fun j hj hji => ?_)
      · obtain ⟨x1, x2⟩ := two i j hi hj (Ne.symm hji)
        refine ⟨fun x => ?_, fun x => by simp at x⟩
        have x3 : j < (s.pr i).k + 1 := by simpa using x
        by_cases ej : j = (s.pr i).k
        · obtain ⟨y1, y2⟩ := x2 ⟨e, ej.symm⟩
          refine ⟨y1, fun y => ?_⟩
          rw [ej] at y hji ⊢
          have h1 := hk.t1 y
          unfold barB blt at eb
          simp only [Bool.and_eq_true, decide_eq_true_iff] at eb
          unfold kl
          show (s.pr i).tk < (s.pr (s.pr i).k).tk ∨ ((s.pr i).tk = (s.pr (s.pr i).k).tk ∧ i < (s.pr i).k)
          omega
        · exact x1 (.inl ⟨.inr e, by omega⟩)
      · obtain ⟨x1, x2⟩ := two j i hj hi hji
        exact ⟨fun x => ⟨fun y => by simp at y, fun _ => (x1 x).2 (by omega)⟩, fun x => ⟨fun y => by simp at y, fun y => by simp at y⟩⟩
  · rename_i e0 e1 e2 e3 e4
    refine binv_set h hi (by omega) ⟨by simp, by simp; omega, by simp, by simp; omega, by simp; rw [Bool.eq_false_iff]; intro x; have := o5.1 x; omega, fun _ => rfl, fun x => by simp at x, fun x => by simp at x⟩ (fun j hj hji => ?_) (fun j hj hji => ?_)
    · refine ⟨fun x => ?_, fun x => ?_⟩ <;> simp at x
    · refine ⟨fun x => ⟨fun y => ?_, fun y => ?_⟩, fun x => ⟨fun y => ?_, fun y => ?_⟩⟩ <;> simp at y
theorem inP_nat {z : Int} (h : inP n z = true) : z = (z.toNat : Int) ∧ z.toNat < n := by
  unfold inP at h
  simp at h
  omega
theorem binv_at (n : Nat) (zs : List Int) : ∀ k, BInv n k (bsAt n zs k)
  | 0 => binv_0 n
  | k + 1 => by
    show BInv n (k + 1) (match zs[k]? with | some z => stepB n (bsAt n zs k) z | none => bsAt n zs k)
    split
    · unfold stepB
      split
      · rename_i z _ hz
        exact binv_act (binv_at n zs k) (inP_nat hz).2
      · exact (binv_at n zs k).mono (by omega)
    · exact (binv_at n zs k).mono (by omega)
/-- LAMPORT: no two are in. -/
theorem in_one (h : BInv n t s) {i j : Nat} (hi : i < n) (hj : j < n) (h1 : (s.pr i).pl = 5) (h2 : (s.pr j).pl = 5) : i = j := by
  refine Classical.byContradiction fun e => ?_
  have a := ((h.two i j hi hj e).1 (.inr h1)).2 (by omega)
  have b := ((h.two j i hj hi (Ne.symm e)).1 (.inr h2)).2 (by omega)
  unfold kl at a b
  omega
end Go.Proofs.Ytgnigjfgddhgiaa
