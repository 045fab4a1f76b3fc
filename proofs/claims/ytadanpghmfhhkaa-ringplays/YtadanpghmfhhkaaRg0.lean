/- The ring: plain; no program is named here. -/
import Derived.Test.YtadanpghmfhhkaaCb0
namespace Go.Proofs.Ytadanpghmfhhkaa
set_option linter.unusedVariables false

/-- A turn of a script. -/
structure Tu where
  kind : Int
  who : Int
deriving Inhabited
/-- A process: whether it takes part, and what is on the way to it. -/
structure Gp where
  tp : Bool
  co : List Int
structure GS where
  pr : Nat → Gp
  ch : List Nat
  sent : Nat
def nx (n i : Nat) : Nat := (i + 1) % n
def tpG (s : GS) (i : Nat) : GS := ⟨upd1 s.pr i ⟨true, (s.pr i).co⟩, s.ch, s.sent⟩
def coG (s : GS) (i : Nat) (l : List Int) : GS := ⟨upd1 s.pr i ⟨(s.pr i).tp, l⟩, s.ch, s.sent⟩
def oneG (s : GS) : GS := ⟨s.pr, s.ch, s.sent + 1⟩
def chG (s : GS) (i : Nat) : GS := ⟨s.pr, s.ch ++ [i], s.sent⟩
def sendG (n : Nat) (s : GS) (i : Nat) (x : Int) : GS := oneG (coG (tpG s i) (nx n i) (((tpG s i).pr (nx n i)).co ++ [x]))
def takeG (n : Nat) (nm : Nat → Int) (s : GS) (i : Nat) : GS := match (s.pr i).co with
  | [] => s
  | x :: r => if nm i < x then sendG n (coG s i r) i x else if x = nm i then chG (coG s i r) i else if (s.pr i).tp = true then coG s i r else sendG n (coG s i r) i (nm i)
def codeG (n : Nat) (s : GS) (p : Tu) : Int :=
  if p.kind ≠ 1 ∧ p.kind ≠ 2 then 4
  else if inP n p.who = false then 2
  else if p.kind = 1 then (if (s.pr p.who.toNat).tp = true then 6 else 0)
  else if (s.pr p.who.toNat).co = [] then 5 else 0
def doG (n : Nat) (nm : Nat → Int) (s : GS) (p : Tu) : GS := if p.kind = 1 then sendG n s p.who.toNat (nm p.who.toNat) else takeG n nm s p.who.toNat
def stepG (n : Nat) (nm : Nat → Int) (s : GS) (p : Tu) : GS := if codeG n s p = 0 then doG n nm s p else s
def gs0 : GS := ⟨fun _ => ⟨false, []⟩, [], 0⟩
def gsAt (n : Nat) (nm : Nat → Int) (ps : List Tu) : Nat → GS
  | 0 => gs0
  | k + 1 => match ps[k]? with
    | some p => stepG n nm (gsAt n nm ps k) p
    | none => gsAt n nm ps k
def gcAt (n : Nat) (nm : Nat → Int) (ps : List Tu) (k : Nat) : Int := match ps[k]? with
  | some p => codeG n (gsAt n nm ps k) p
  | none => 0
/-- What is on the ways to the first m. -/
def awayG (s : GS) : Nat → Nat
  | 0 => 0
  | m + 1 => awayG s m + (s.pr m).co.length

theorem nx_lt {n i : Nat} (h : 0 < n) : nx n i < n := Nat.mod_lt _ h
/-- No more was sent, is on a way, or was chosen, than steps were done. -/
structure GB (t : Nat) (s : GS) : Prop where
  sent : s.sent ≤ t
  co : ∀ i, (s.pr i).co.length ≤ t
  ch : s.ch.length ≤ t
theorem GB.mono {t t2 : Nat} {s : GS} (h : GB t s) (ht : t ≤ t2) : GB t2 s := ⟨Nat.le_trans h.sent ht, fun i => Nat.le_trans (h.co i) ht, Nat.le_trans h.ch ht⟩
theorem coG_len (s : GS) (i : Nat) (l : List Int) (j : Nat) : ((coG s i l).pr j).co.length = if j = i then l.length else (s.pr j).co.length := by
  unfold coG
  by_cases e : j = i
  · subst e; simp [upd1_same]
  · simp [upd1_other _ _ e, e]
theorem tpG_co (s : GS) (i j : Nat) : ((tpG s i).pr j).co = (s.pr j).co := by
  unfold tpG
  by_cases e : j = i
  · subst e; simp [upd1_same]
  · simp [upd1_other _ _ e]
theorem gb_co {t i : Nat} {s : GS} {l : List Int} (h : GB t s) (hl : l.length ≤ t) : GB t (coG s i l) := ⟨h.sent, fun j => by
  rw [coG_len]
  split
  · exact hl
  · exact h.co j, h.ch⟩
theorem gb_send {t n i : Nat} {s : GS} {x : Int} (h : GB t s) : GB (t + 1) (sendG n s i x) := by
  refine ⟨by show s.sent + 1 ≤ t + 1; have := h.sent; omega, fun j => ?_, by show s.ch.length ≤ t + 1; have := h.ch; omega⟩
  unfold sendG oneG
  show ((coG (tpG s i) (nx n i) _).pr j).co.length ≤ t + 1
  rw [coG_len, tpG_co, tpG_co]
  have h1 := h.co j
  have h2 := h.co (nx n i)
  split
  · simp; omega
  · omega
theorem gb_step {t n : Nat} {nm : Nat → Int} {s : GS} {p : Tu} (h : GB t s) : GB (t + 1) (stepG n nm s p) := by
  unfold stepG
  split
  · unfold doG
    split
    · exact gb_send h
    · unfold takeG
      split
      · exact h.mono (by omega)
      · rename_i x r hr
        have h1 := h.co p.who.toNat
        rw [hr] at h1
        simp at h1
        have h2 := gb_co (i := p.who.toNat) (l := r) h (by omega)
        split
        · exact gb_send h2
        · split
          · exact ⟨by have := h2.sent; show _ ≤ t + 1; exact Nat.le_succ_of_le this, fun j => by have := h2.co j; exact Nat.le_succ_of_le this, by show (s.ch ++ [_]).length ≤ t + 1; have := h.ch; simp; omega⟩
          · split
            · exact h2.mono (by omega)
            · exact gb_send h2
  · exact h.mono (by omega)
theorem gb_at (n : Nat) (nm : Nat → Int) (ps : List Tu) : ∀ k, GB k (gsAt n nm ps k)
  | 0 => ⟨Nat.le_refl _, fun _ => Nat.le_refl _, Nat.le_refl _⟩
  | k + 1 => by
    show GB (k + 1) (match ps[k]? with | some p => stepG n nm (gsAt n nm ps k) p | none => gsAt n nm ps k)
    split
    · exact gb_step (gb_at n nm ps k)
    · exact (gb_at n nm ps k).mono (by omega)
theorem awayG_le {t : Nat} {s : GS} (h : GB t s) : ∀ m, awayG s m ≤ m * t
  | 0 => by simp [awayG]
  | m + 1 => by
    have := awayG_le h m
    have h2 := h.co m
    unfold awayG
    rw [Nat.succ_mul]
    omega
theorem inP_natG {n : Nat} {z : Int} (h : inP n z = true) : z = (z.toNat : Int) ∧ z.toNat < n := by
  unfold inP at h
  simp at h
  omega
end Go.Proofs.Ytadanpghmfhhkaa
