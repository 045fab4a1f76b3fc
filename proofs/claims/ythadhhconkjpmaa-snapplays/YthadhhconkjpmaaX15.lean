/- The document's Snap: what was between, as it is told way by way. -/
import Derived.Test.YthadhhconkjpmaaX14
namespace Go.Proofs.Ythadhhconkjpmaa
open Go.RowKit Go.WideMaps
set_option linter.unusedVariables false

/-- A row of what was between, in blocks of its own. -/
def RowB (W : World) (ok : Nat → Prop) (v : Value) (xs : List Int) : Prop := Seg W ok 3 1 v xs.length (intsL xs)
/-- While what was between is told: w0 is the world ahead of it, q ways are told, d is what Done says so far; u tells Between's own blocks. -/
structure Btw (w0 W : World) (ob q : Nat) (cv mv ov bv : Value) (d : Bool) (u : Nat → Bool) (vals : List Value) (tl : Nat → List Int) : Prop where
  obl : ob < w0.heap.size
  keep : Keep (fun g => g = ob ∨ w0.heap.size ≤ g) w0 W
  blk : W.heap[ob]? = some (.cells #[cv, mv, ov, bv, .bool d] 27 (0, 0))
  bet : Seg W (fun g => w0.heap.size ≤ g ∧ u g = true) 22 1 bv q vals
  rows : ∀ t v, vals[t]? = some v → RowB W (fun g => w0.heap.size ≤ g ∧ u g = false) v (tl t)
variable {w0 W : World} {ob q : Nat} {cv mv ov bv : Value} {d : Bool} {u : Nat → Bool} {vals : List Value} {tl : Nat → List Int}
theorem Btw.cells (x : Btw w0 W ob q cv mv ov bv d u vals tl) : W.cell? ⟨ob, 2, none⟩ = some ov ∧ W.cell? ⟨ob, 3, none⟩ = some bv ∧ W.cell? ⟨ob, 4, none⟩ = some (.bool d) ∧ ∀ k, W.frozen? ⟨ob, k, none⟩ = false := by
  refine ⟨?_, ?_, ?_, fun k => frozen_of_row W ob k _ _ x.blk⟩ <;> rw [cell_of_row W ob _ _ _ _ x.blk] <;> rfl
/-- What lies beyond it changes nothing. -/
theorem Btw.still {W2 : World} (x : Btw w0 W ob q cv mv ov bv d u vals tl) (hk : Keep (fun g => W.heap.size ≤ g) W W2) : Btw w0 W2 ob q cv mv ov bv d u vals tl := by
  have hob := (Array.getElem?_eq_some_iff.1 x.blk).1
  refine ⟨x.obl, x.keep.trans hk (fun _ _ e => e) (fun g hg e => .inr (Nat.le_trans x.keep.size e)), (hk.block ob hob (by show ¬ W.heap.size ≤ ob; omega)).trans x.blk, ?_, fun t v hv => ?_⟩
  · exact ((x.bet.mono (ok2 := fun g => g < W.heap.size ∧ (w0.heap.size ≤ g ∧ u g = true)) (fun g hg e => ⟨hg, e⟩)).keep hk (fun g _ e e2 => by have e3 : W.heap.size ≤ g := e2; omega)).mono (fun g _ e => e.2)
  · exact (((x.rows t v hv).mono (ok2 := fun g => g < W.heap.size ∧ (w0.heap.size ≤ g ∧ u g = false)) (fun g hg e => ⟨hg, e⟩)).keep hk (fun g _ e e2 => by have e3 : W.heap.size ≤ g := e2; omega)).mono (fun g _ e => e.2)
/-- Done is told anew. -/
theorem Btw.setDone (x : Btw w0 W ob q cv mv ov bv d u vals tl) (d2 : Bool) : Btw w0 (W.setCell ⟨ob, 4, none⟩ (.bool d2)) ob q cv mv ov bv d2 u vals tl := by
  have hk : Keep (fun g => g = ob) W (W.setCell ⟨ob, 4, none⟩ (.bool d2)) := (Keep.refl _ W).setCell ob _ _ (fun _ => rfl)
  have ho := x.obl
  refine ⟨x.obl, x.keep.trans hk (fun _ _ e => e) (fun g hg e => .inl e), ?_, x.bet.keep hk (fun g _ e e2 => by have e3 : g = ob := e2; omega), fun t v hv => (x.rows t v hv).keep hk (fun g _ e e2 => by have e3 : g = ob := e2; omega)⟩
  rw [heap_setCell_same W ob _ _ _ _ x.blk]
  rfl
/-- A way more is told: the row l, laid in blocks of its own, is put behind the others. -/
theorem Btw.push (x : Btw w0 W ob q cv mv ov bv d u vals tl) (hq : vals.length = q) {lv : Value} {xs : List Int} (hl : RowB W (fun g => w0.heap.size ≤ g ∧ u g = false) lv xs) {w3 : World} {v : Value} (hk : Keep (fun g => bv.ownBlock = some g) W w3)
    (hs : Seg w3 (fun g => bv.ownBlock = some g ∨ W.heap.size ≤ g) 22 1 v (q + 1) (vals ++ [lv])) :
    ∃ u2, Btw w0 (w3.setCell ⟨ob, 3, none⟩ v) ob (q + 1) cv mv ov v d u2 (vals ++ [lv]) (fun t => if t = q then xs else tl t) ∧ ((∀ g, W.heap.size ≤ g → u g = false) → ∀ g, w3.heap.size ≤ g → u2 g = false) := by
  have ho := x.obl
  have hob := (Array.getElem?_eq_some_iff.1 x.blk).1
  have hbv : ∀ g, bv.ownBlock = some g → w0.heap.size ≤ g ∧ u g = true := fun g e => (x.bet.block e).1
  have hks : Keep (fun g => g = ob) w3 (w3.setCell ⟨ob, 3, none⟩ v) := (Keep.refl _ w3).setCell ob _ _ (fun _ => rfl)
  have h0 := x.keep.size
  have hk2 : Keep (fun g => bv.ownBlock = some g ∨ g = ob) W (w3.setCell ⟨ob, 3, none⟩ v) := (hk.mono (q := fun g => bv.ownBlock = some g ∨ g = ob) (fun _ _ e => .inl e)).trans hks (fun _ _ e => e) (fun g _ e => .inr e)
  have row : ∀ {y : Value} {ys : List Int}, RowB W (fun g => w0.heap.size ≤ g ∧ u g = false) y ys → RowB (w3.setCell ⟨ob, 3, none⟩ v) (fun g => w0.heap.size ≤ g ∧ (if v.ownBlock = some g then true else u g) = false) y ys := fun {y ys} h => by
    refine ((h.mono (ok2 := fun g => g < W.heap.size ∧ (w0.heap.size ≤ g ∧ u g = false)) (fun g hg e => ⟨hg, e⟩)).keep hk2 (fun g _ e e2 => ?_)).mono (fun g _ e => ⟨e.2.1, ?_⟩)
    · rcases e2 with e2 | e2
      · have := (hbv g e2).2; rw [e.2.2] at this; cases this
      · omega
    · rw [if_neg (fun e2 => by
        rcases (hs.block e2).1 with e3 | e3
        · have := (hbv g e3).2; rw [e.2.2] at this; cases this
        · omega)]
      exact e.2.2
  refine ⟨fun g => if v.ownBlock = some g then true else u g, ⟨x.obl, x.keep.trans hk2 (fun _ _ e => e) (fun g hg e => ?_), ?_, ?_, fun t y hy => ?_⟩, fun hu g hg => by
    show (if v.ownBlock = some g then true else u g) = false
    rw [if_neg (fun e => by have := (hs.block e).2; omega)]
    exact hu g (Nat.le_trans hk.size hg)⟩
  · rcases e with e | e
    · exact .inr (hbv g e).1
    · exact .inl e
  · rw [heap_setCell_same w3 ob _ _ _ _ ((hk.block ob hob (fun e => by have := (hbv ob e).1; omega)).trans x.blk)]
    rfl
  · have h1 := hs.keep hks (fun g _ e e2 => by
      have e3 : g = ob := e2
      rcases e with e | e
      · have := (hbv g e).1; omega
      · omega)
    obtain ⟨h3, h4 | ⟨g, off, cap, cur, h4, h5, h6⟩⟩ := h1
    · exact ⟨h3, .inl h4⟩
    · refine ⟨h3, .inr ⟨g, off, cap, cur, h4, ⟨?_, ?_⟩, h6⟩⟩
      · rcases h5 with e | e
        · exact (hbv g e).1
        · omega
      · show (if v.ownBlock = some g then true else u g) = true
        rw [if_pos (by rw [h4]; rfl)]
  · by_cases ht : t < q
    · rw [List.getElem?_append_left (by omega)] at hy
      rw [if_neg (by omega)]
      exact row (x.rows t y hy)
    · have htl : t < (vals ++ [lv]).length := (List.getElem?_eq_some_iff.1 hy).1
      have e : t = q := by simp at htl; omega
      subst e
      rw [if_pos rfl]
      rw [← hq, List.getElem?_append_right (Nat.le_refl _)] at hy
      simp at hy
      subst hy
      exact row hl
end Go.Proofs.Ythadhhconkjpmaa
