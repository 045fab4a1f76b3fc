/- Rows of numbers, as laws read them: position, once, inside, Ints, Codes, begins. -/
import Derived.Test.YtllbfaldhlfjeaaT1
import Derived.Test.YtllbfaldhlfjeaaChecked
import Derived.BigQuiet
namespace Go.Proofs.Ytllbfaldhlfjeaa
open Go.RowKit
set_option linter.unusedVariables false

/-- Nothing that was there has changed. -/
abbrev Stil (A B : World) : Prop := Keep (fun _ => False) A B
theorem Stil.tr {A B C : World} (x : Stil A B) (y : Stil B C) : Stil A C := x.trans y (fun _ _ e => e) (fun _ _ e => e)
theorem Stil.cell {A B : World} (hs : Stil A B) {g i : Nat} {v : Value} (hv : A.cell? ⟨g, i, none⟩ = some v) : B.cell? ⟨g, i, none⟩ = some v :=
  (World.cell?_of_block (hs.block g (World.block_lt_of_cell? _ _ hv) (fun e => e))).trans hv
theorem Stil.drewN (A : World) (q : Nat) : Stil A (A.drewN q) := (Keep.refl _ A).drewN q
theorem Stil.new (A : World) (o : Obj) : Stil A (A.alloc o) := (Keep.refl _ A).alloc o
theorem Stil.below {A B : World} (h : Stil A B) : Below A.heap.size A B := Keep.below h (Nat.le_refl _) (fun _ _ e => e)
theorem drewN_plus (w : World) (a b : Nat) : (w.drewN a).drewN b = w.drewN (a + b) := by simp [World.drewN, Nat.add_assoc]

/-- Numbers of a slice. -/
def RowI (w : World) (a : Option Addr) (len cap : Nat) (xs : List Int) : Prop :=
  xs.length = len ∧ len ≤ cap ∧ len ≤ maxLen ∧ (len = 0 ∨ ∃ b off, a = some ⟨b, off, none⟩ ∧ b < w.heap.size ∧ ∀ (j : Nat) (x : Int), xs[j]? = some x → w.cell? ⟨b, off + j, none⟩ = some (.int .i64 x))
theorem RowI.still {w w' : World} {a : Option Addr} {len cap : Nat} {xs : List Int} (h : RowI w a len cap xs) (hs : Stil w w') : RowI w' a len cap xs := by
  obtain ⟨h1, h2, h3, h4⟩ := h
  refine ⟨h1, h2, h3, ?_⟩
  rcases h4 with h4 | ⟨b, off, e, hr, hc⟩
  · exact .inl h4
  · exact .inr ⟨b, off, e, Nat.lt_of_lt_of_le hr hs.size, fun j x hx => hs.cell (hc j x hx)⟩
theorem RowI.take {w : World} {a : Option Addr} {len cap : Nat} {zs : List Int} (h : RowI w a len cap zs) {m : Nat} (hm : m ≤ len) : RowI w a m cap (zs.take m) := by
  obtain ⟨h1, h2, h3, h4⟩ := h
  refine ⟨by rw [List.length_take]; omega, by omega, by omega, ?_⟩
  rcases h4 with h4 | ⟨b, off, h5, h6, h7⟩
  · exact .inl (by omega)
  · exact .inr ⟨b, off, h5, h6, fun j z hz => h7 j z (by rw [List.getElem?_take] at hz; split at hz <;> simp_all)⟩
theorem RowI.nil (w : World) : RowI w none 0 0 [] := ⟨rfl, Nat.le_refl _, Nat.zero_le _, .inl rfl⟩

/-- Where a number stands first. -/
def posI (xs : List Int) (x : Int) : Int := match xs.findIdx? (fun y => y == x) with
  | some k => (k : Int)
  | none => -1
theorem posI_none {xs : List Int} {x : Int} (h : x ∉ xs) : posI xs x = -1 := by
  have : xs.findIdx? (fun y => y == x) = none := by
    rw [List.findIdx?_eq_none_iff]
    intro y hy
    simpa using fun e : y = x => h (e ▸ hy)
  unfold posI; rw [this]
theorem posI_hit {xs : List Int} {x : Int} {k : Nat} (hk : xs[k]? = some x) (hn : ∀ j, j < k → xs[j]? ≠ some x) : posI xs x = (k : Int) := by
  have hl := (List.getElem?_eq_some_iff.1 hk).1
  have : xs.findIdx? (fun y => y == x) = some k := by
    rw [List.findIdx?_eq_some_iff_getElem]
    refine ⟨hl, by simpa using (List.getElem?_eq_some_iff.1 hk).2, fun j hj => ?_⟩
    have := hn j hj
    rw [List.getElem?_eq_getElem (by omega)] at this
    simpa using this
  unfold posI; rw [this]
theorem nodup_at {α : Type} {xs : List α} (h : xs.Nodup) {i j : Nat} {x : α} (hi : xs[i]? = some x) (hj : xs[j]? = some x) : i = j := by
  obtain ⟨a1, a2⟩ := List.getElem?_eq_some_iff.1 hi
  obtain ⟨b1, b2⟩ := List.getElem?_eq_some_iff.1 hj
  have hp := List.pairwise_iff_getElem.1 h
  rcases Nat.lt_trichotomy i j with e | e | e
  · exact absurd (a2.trans b2.symm) (hp i j a1 b1 e)
  · exact e
  · exact absurd (b2.trans a2.symm) (hp j i b1 a1 e)
theorem posI_at {xs : List Int} (h : xs.Nodup) {x : Int} {k : Nat} (hk : xs[k]? = some x) : posI xs x = (k : Int) :=
  posI_hit hk (fun j hj e => by have := nodup_at h e hk; omega)
theorem ret_int' {a b : Int} (e : a = b) : Ending.returned (.int .i64 a) = Ending.returned (.int .i64 b) := by rw [e]






end Go.Proofs.Ytllbfaldhlfjeaa
