/- A map of the call's own by pairs of small numbers: what it has at each pair, as a function. -/
import Derived.Test.YtllbfaldhlfjeaaT1
import Derived.Test.YtllbfaldhlfjeaaT3
import Derived.Test.YtllbfaldhlfjeaaChecked
import Derived.WideKeyPair
namespace Go.Proofs.Ytllbfaldhlfjeaa
open Go.RowKit Go.WideMaps
set_option linter.unusedVariables false

/-- Each value is read as itself. -/
def heldR (v : Value) : Option (DataW Value × List MemPlace) := some (.held v, [])
def pairV (i j : Nat) : Value := .agg #[.int .i64 (i : Int), .int .i64 (j : Int)]
def pairL (i j : Nat) : Lit := .string (keyBytes [.int .i64 (i : Int), .int .i64 (j : Int)])

structure PairMap (T K E : TypeId) (z : Value) : Prop where
  arr : ArrKey Try.prog K 3 2
  hT : Try.prog.underlying T = some (.map K E)
  zero : ∀ w, (zeroValue E).run Try.prog w = .ok z w

variable {T K E : TypeId} {z : Value}
theorem PairMap.keyed (h : PairMap T K E z) : Maps.Keyed Try.prog K := Maps.Keyed.of_law h.arr.law
theorem PairMap.key (h : PairMap T K E z) {i j : Nat} (hi : i < 1000) (hj : j < 1000) : keyOf Try.prog K (pairV i j) = some (pairL i j) :=
  keyOf_pair h.arr Try.underlying3 ⟨Try.prog.types.size - 1, by decide +kernel⟩ (wf_of ⟨by omega, by omega⟩) (wf_of ⟨by omega, by omega⟩)
theorem PairMap.inj (h : PairMap T K E z) {i j a b : Nat} (hi : i < 1000) (hj : j < 1000) (ha : a < 1000) (hb : b < 1000) (e : pairL i j = pairL a b) : i = a ∧ j = b := by
  have h1 := h.keyed.inj (h.key hi hj) (e ▸ h.key ha hb)
  unfold pairV at h1
  simp at h1
  omega

/-- Block M is a map of at most c entries that has f at each pair. -/
def Pairs (W : World) (K : TypeId) (z : Value) (M c : Nat) (f : Nat → Nat → Value) : Prop :=
  ∃ D, W.ownsMap Try.prog K heldR M c D ∧ ∀ i j, i < 1000 → j < 1000 → D.atKey (pairL i j) (.held z) = .held (f i j)
theorem Pairs.made (w : World) (K : TypeId) (z : Value) : Pairs (w.alloc (.map #[] 0)) K z w.heap.size 0 (fun _ _ => z) :=
  ⟨.map [], World.ownsMap_made w _ _ _, fun _ _ _ _ => rfl⟩
variable {W W2 : World} {M c : Nat} {f : Nat → Nat → Value}
theorem Pairs.lt (h : Pairs W K z M c f) : M < W.heap.size := let ⟨_, h1, _⟩ := h; h1.lt
theorem Pairs.keep {o : Nat → Prop} (h : Pairs W K z M c f) (hw : Keep o W W2) (hM : ¬ o M) : Pairs W2 K z M c f := by
  obtain ⟨D, ⟨es, clock, hb, r⟩, h2⟩ := h
  exact ⟨D, ⟨es, clock, (hw.block M (Array.getElem?_eq_some_iff.1 hb).1 hM).trans hb, r⟩, h2⟩
theorem Pairs.drewN (h : Pairs W K z M c f) (m : Nat) : Pairs (W.drewN m) K z M c f := h
theorem Pairs.look (h : Pairs W K z M c f) (p : PairMap T K E z) {i j : Nat} (hi : i < 1000) (hj : j < 1000) :
    (Instr.lookup T (.map (some M)) (pairV i j) false).run Try.prog W = .ok (f i j) W := by
  obtain ⟨D, h1, h2⟩ := h
  obtain ⟨v, ps, hr, hv⟩ := h1.lookup (zd := .held z) (zp := []) p.keyed p.hT (p.zero W) rfl (p.key hi hj)
  rw [h2 i j hi hj] at hv
  simp only [heldR, Option.some.injEq, Prod.mk.injEq, DataW.held.injEq] at hv
  rw [hr, hv.1]
theorem Pairs.store (h : Pairs W K z M c f) (p : PairMap T K E z) (hc : c < maxLen) {i j : Nat} (hi : i < 1000) (hj : j < 1000) (v : Value) :
    ∃ W2, (Instr.mapUpdate T (.map (some M)) (pairV i j) v).run Try.prog W = .ok () W2 ∧ Pairs W2 K z M (c + 1) (upd2 f i j v) ∧ W.grownBy W2 (some M) := by
  obtain ⟨D, h1, h2⟩ := h
  obtain ⟨W2, hr, h3, h4⟩ := h1.update (d := .held v) (ps := []) p.keyed p.hT hc (p.key hi hj) rfl
  refine ⟨W2, hr, ⟨_, h3, fun a b ha hb => ?_⟩, h4⟩
  by_cases e : a = i ∧ b = j
  · obtain ⟨rfl, rfl⟩ := e
    rw [upd2_same]
    exact Maps.atKey_put_same h1.isMap (p.keyed.key (p.key ha hb)) _ _
  · rw [upd2_other _ _ e, Maps.atKey_put_other (fun he => e (p.inj ha hb hi hj he))]
    exact h2 a b ha hb
end Go.Proofs.Ytllbfaldhlfjeaa
