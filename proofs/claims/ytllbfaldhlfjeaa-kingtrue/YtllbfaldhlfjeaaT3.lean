/- Money that is passed on, and the picture of it: plain; no program is named here. -/
namespace Go.Proofs.Ytllbfaldhlfjeaa

/-- A step of a script. -/
structure Pass where
  kind : Int
  who : Int
  other : Int
  n : Int
deriving Inhabited
/-- A way: what is on it (0: a mark), what was noted of it, and whether the mark has come. -/
structure Wy where
  things : List Int
  noted : List Int
  marked : Bool
/-- What each has, what was noted of each (-1: nothing), and all ways. -/
structure St where
  money : Nat → Int
  own : Nat → Int
  ways : Nat → Nat → Wy
def upd1 {α : Type} (f : Nat → α) (i : Nat) (v : α) (k : Nat) : α := if k = i then v else f k
def upd2 {α : Type} (f : Nat → Nat → α) (i j : Nat) (v : α) (a b : Nat) : α := if a = i ∧ b = j then v else f a b
theorem upd1_same {α : Type} (f : Nat → α) (i : Nat) (v : α) : upd1 f i v i = v := by simp [upd1]
theorem upd1_other {α : Type} (f : Nat → α) {i k : Nat} (v : α) (h : k ≠ i) : upd1 f i v k = f k := by simp [upd1, h]
theorem upd2_same {α : Type} (f : Nat → Nat → α) (i j : Nat) (v : α) : upd2 f i j v i j = v := by simp [upd2]
theorem upd2_other {α : Type} (f : Nat → Nat → α) {i j a b : Nat} (v : α) (h : ¬ (a = i ∧ b = j)) : upd2 f i j v a b = f a b := by simp [upd2, h]

def pushW (w : Wy) (x : Int) : Wy := ⟨w.things ++ [x], w.noted, w.marked⟩
def putS (s : St) (i j : Nat) (x : Int) : St := ⟨s.money, s.own, upd2 s.ways i j (pushW (s.ways i j) x)⟩
/-- Marks from who to all others below m. -/
def noteTo (s : St) (who : Nat) : Nat → St
  | 0 => s
  | m + 1 => if m = who then noteTo s who m else putS (noteTo s who m) who m 0
def ownS (s : St) (who : Nat) : St := ⟨s.money, upd1 s.own who (s.money who), s.ways⟩
def noteS (n : Nat) (s : St) (who : Nat) : St := if s.own who ≠ -1 then s else noteTo (ownS s who) who n
def wayS (s : St) (i j : Nat) (w : Wy) : St := ⟨s.money, s.own, upd2 s.ways i j w⟩
def payS (s : St) (j : Nat) (x : Int) : St := ⟨upd1 s.money j (s.money j + x), s.own, s.ways⟩
def hearS (s : St) (i j : Nat) (x : Int) : List Int := if s.own j ≠ -1 ∧ (s.ways i j).marked = false then (s.ways i j).noted ++ [x] else (s.ways i j).noted
def takeS (n : Nat) (s : St) (i j : Nat) : St := match (s.ways i j).things with
  | [] => s
  | x :: r => if x = 0 then wayS (noteS n s j) i j ⟨r, (s.ways i j).noted, true⟩
    else wayS (payS s j x) i j ⟨r, hearS s i j x, (s.ways i j).marked⟩
def inP (n : Nat) (z : Int) : Bool := decide (0 ≤ z) && decide (z < (n : Int))
def codeS (n : Nat) (s : St) (p : Pass) : Int :=
  if p.kind = 1 ∨ p.kind = 2 then
    if inP n p.who = false ∨ inP n p.other = false ∨ p.who = p.other then 2
    else if p.kind = 1 then (if p.n < 1 ∨ s.money p.who.toNat < p.n then 2 else 0)
    else if (s.ways p.other.toNat p.who.toNat).things = [] then 5 else 0
  else if p.kind = 3 then (if inP n p.who = false then 2 else if s.own p.who.toNat ≠ -1 then 6 else 0)
  else 4
def doS (n : Nat) (s : St) (p : Pass) : St :=
  if p.kind = 1 then putS (payS s p.who.toNat (-p.n)) p.who.toNat p.other.toNat p.n
  else if p.kind = 2 then takeS n s p.other.toNat p.who.toNat
  else noteS n s p.who.toNat
def stepS (n : Nat) (s : St) (p : Pass) : St := if codeS n s p = 0 then doS n s p else s
/-- How all stands behind k steps. -/
def stAt (n : Nat) (s : St) (ps : List Pass) : Nat → St
  | 0 => s
  | k + 1 => match ps[k]? with
    | some p => stepS n (stAt n s ps k) p
    | none => stAt n s ps k
def codeAt (n : Nat) (s : St) (ps : List Pass) (k : Nat) : Int := match ps[k]? with
  | some p => codeS n (stAt n s ps k) p
  | none => 0
/-- At first. -/
def st0 (m : Nat → Int) : St := ⟨m, fun _ => -1, fun _ _ => ⟨[], [], false⟩⟩
/-- Errors of the whole. -/
def snapCode (ms : List Int) (len : Nat) : Int := if ms.length = 0 ∨ 6 < ms.length ∨ 120 < len then 1 else if ms.any (fun z => decide (z < 0) || decide (1000 < z)) then 2 else 0
def doneB (n : Nat) (s : St) : Bool := ((List.range n).all fun i => s.own i != -1) && (List.range n).all fun i => (List.range n).all fun j => i == j || (s.ways i j).marked
end Go.Proofs.Ytllbfaldhlfjeaa
