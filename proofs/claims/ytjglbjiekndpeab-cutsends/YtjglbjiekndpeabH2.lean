/- Contract of clocks.nearest and of its closure: each event comes once, in order, with those that are before it at first hand. -/
import Derived.Test.YtjglbjiekndpeabH0
import Derived.Test.YtjglbjiekndpeabH1
import Derived.Test.YtjglbjiekndpeabG3
import Derived.Maps.OwnIn
import Derived.Maps.AppendAt
import Derived.Shelf.Abstract
import Derived.Shelf.RegionOpen
import Derived.OwnWalkIn
import Derived.TacticsInMore
import Derived.LoopNIn
import Derived.LoopIn
namespace Go.Proofs.Ytjglbjiekndpeab
open Go.RowKit Go.Shelf
set_option linter.unusedVariables false

attribute [local go_sem] Oper.semAt_some

theorem Try.info3 : (Try.prog.info? 3).map (fun i => (i.zero, i.size, i.bytes)) = some (some (.int .i64 0), 1, 8) := by kernel_rfl
theorem zeroI (w : World) : (zeroValue 3).run Try.prog w = .ok (.int .i64 0) w := by kernel_rfl

/-- What a round keeps for the iterator: what lay below n₀, and the cells and maps from Bs on. -/
def KpN (n₀ Bs : Nat) (W W2 : World) : Prop := Below n₀ W W2 ∧ ∀ (k : Nat) (o : Obj), Bs ≤ k → W.heap[k]? = some o → (o.isCells || o.isWalk) = true → W2.heap[k]? = some o
theorem kpN_t {n₀ Bs : Nat} {A B C : World} (h : KpN n₀ Bs A B) (k : KpN n₀ Bs B C) : KpN n₀ Bs A C := ⟨h.1.trans k.1, fun i o hi ho hc => k.2 i o hi (h.2 i o hi ho hc) hc⟩
theorem kpN_b {n₀ Bs : Nat} {w : World} (hw : n₀ ≤ w.heap.size) (W : World) (l : Nat) (o o2 : Obj) (hl : w.heap.size ≤ l) (ho : W.heap[l]? = some o) (hc : o.isCells = false) (hi : o.isWalk = false) : KpN n₀ Bs W (W.putObj l o2) :=
  ⟨belowK_b hw W l o o2 hl ho hc hi, fun k x _ hk hx => (World.putObj_heap_other (fun e => by subst e; rw [ho] at hk; cases hk; rw [hc, hi] at hx; cases hx)).trans hk⟩
theorem kpN_cell {n₀ Bs : Nat} {W W2 : World} (h : KpN n₀ Bs W W2) {b i : Nat} {v : Value} (hb : Bs ≤ b) (hc : W.cell? ⟨b, i, none⟩ = some v) : W2.cell? ⟨b, i, none⟩ = some v := by
  have hlt : b < W.heap.size := World.block_lt_of_cell? _ _ hc
  have ho : W.heap[b]? = some W.heap[b] := Array.getElem?_eq_getElem hlt
  have hcl : W.heap[b].isCells = true := by
    generalize W.heap[b] = o at ho
    cases o <;> simp [World.cell?, ho] at hc <;> rfl
  have := h.2 b _ hb ho (by rw [hcl]; rfl)
  exact (World.cell?_of_block (a := ⟨b, i, none⟩) (this.trans ho.symm)).trans hc

/-- A number as a value. -/
def encN (z : Nat) : Value := .int .i64 (z : Int)
/-- What the iterator tells of a round. -/
def Told (es : List Ev) (n₁ : Nat) (pre : List (Nat × Value)) (x : Nat × Value) (W : World) : Prop :=
  x.1 = pre.length ∧ x.1 < es.length ∧ W.ownsRow n₁ 3 1 x.2 (nearOf es x.1).length ((nearOf es x.1).map encN)

theorem owns_own {β : Type} (B base : Nat) (e : TypeId) (size : Nat) (v : β → Value) (k : β → Nat) (xs : β → List Value) : OwnFrom B (fun (s : β) W => W.ownsRow base e size (v s) (k s) (xs s)) := by
  intro s A C row hs hg hr
  refine hs.kept hg ?_
  by_cases h : (v s).ownBlock = row
  · cases hrow : row with
    | none => left; rw [h, hrow]
    | some r =>
      obtain ⟨_, o, ho, hc⟩ := hr r hrow
      obtain ⟨_, h1 | ⟨g, cap, cur, h1, h2, h3, h4⟩⟩ := hs
      · left; rw [h1.1]; rfl
      · rw [h1, hrow] at h
        simp [Value.ownBlock] at h
        subst h
        rw [h3] at ho
        cases ho
        cases hc
  · exact .inr h

theorem told_own (es : List Ev) (n₁ B : Nat) (pre : List (Nat × Value)) (x : Nat × Value) : OwnFrom B (fun (_ : Unit) W => Told es n₁ pre x W) := by
  intro s A C row hs hg hr
  exact ⟨hs.1, hs.2.1, owns_own (β := Unit) B n₁ 3 1 (fun _ => x.2) (fun _ => (nearOf es x.1).length) (fun _ => (nearOf es x.1).map encN) () A C row hs.2.2 hg hr⟩

/-- The map holds each process's last event. -/
def Lasts (es : List Ev) (k : Nat) (D : DataW Unit) : Prop :=
  Maps.IsMap D ∧ ∀ p : Int, Maps.has D (.int .i64 p) = (lastAt es k p).isSome ∧ ∀ j, lastAt es k p = some j → D.atKey (.int .i64 p) (.lit (.int .i64 0)) = .lit (.int .i64 (j : Int))
theorem lasts_none (es : List Ev) : Lasts es 0 (.map []) := by
  refine ⟨⟨_, rfl⟩, fun p => ⟨rfl, fun j h => by cases h⟩⟩
theorem lasts_next {es : List Ev} {k : Nat} {D : DataW Unit} {e : Ev} (h : Lasts es k D) (he : es[k]? = some e) : Lasts es (k + 1) (D.put (.int .i64 e.who) (.lit (.int .i64 (k : Int)))) := by
  refine ⟨?_, fun p => ?_⟩
  · obtain ⟨m, rfl⟩ := h.1
    exact ⟨_, rfl⟩
  · by_cases hp : p = e.who
    · subst hp
      rw [lastAt_same he]
      refine ⟨Maps.has_put_same (k := .int .i64 e.who) h.1 trivial _, fun j hj => ?_⟩
      cases hj
      exact Maps.atKey_put_same (k := .int .i64 e.who) h.1 trivial _ _
    · have hne : Lit.int .i64 p ≠ Lit.int .i64 e.who := fun h => hp (by cases h; rfl)
      rw [lastAt_other he hp]
      refine ⟨(Maps.has_put_other hne _).trans (h.2 p).1, fun j hj => ?_⟩
      exact (Maps.atKey_put_other hne _ _).trans ((h.2 p).2 j hj)
end Go.Proofs.Ytjglbjiekndpeab
