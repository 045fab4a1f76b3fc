/- A pool of slices of the call's own: whose each block is, and what each slice holds. -/
import Derived.Test.YtipoopbkapgfiaaCb0
namespace Go.Proofs.Ytipoopbkapgfiaa
open Go.RowKit
set_option linter.unusedVariables false

structure Slot where
  e : TypeId
  size : Nat
  v : Value
  n : Nat
  xs : List Value
variable {ι : Type} {W W2 : World} {t t2 : Nat → Option ι} {d : ι → Option Slot} {τ : ι} {s : Slot}
def updD [DecidableEq ι] (d : ι → Option Slot) (τ : ι) (s : Slot) (x : ι) : Option Slot := if x = τ then some s else d x
theorem updD_same [DecidableEq ι] (d : ι → Option Slot) (τ : ι) (s : Slot) : updD d τ s τ = some s := if_pos rfl
theorem updD_other [DecidableEq ι] (d : ι → Option Slot) {τ x : ι} (s : Slot) (h : x ≠ τ) : updD d τ s x = d x := if_neg h
structure Pool (W : World) (t : Nat → Option ι) (d : ι → Option Slot) : Prop where
  fresh : ∀ g, W.heap.size ≤ g → t g = none
  seg : ∀ τ s, d τ = some s → Seg W (fun g => t g = some τ) s.e s.size s.v s.n s.xs
theorem Pool.keep {o : Nat → Prop} (P : Pool W t d) (hk : Keep o W W2) (ho : ∀ g, g < W.heap.size → o g → t g = none) : Pool W2 t d :=
  ⟨fun g hg => P.fresh g (Nat.le_trans hk.size hg), fun τ s h => (P.seg τ s h).keep hk (fun g hg e o => by have := ho g hg o; rw [e] at this; cases this)⟩
theorem Pool.still (P : Pool W t d) (hk : Keep (fun _ => False) W W2) : Pool W2 t d := P.keep hk (fun _ _ e => e.elim)
theorem Pool.alloc (P : Pool W t d) (o : Obj) : Pool (W.alloc o) t d := P.still ((Keep.refl _ W).alloc o)
theorem Pool.drewN (P : Pool W t d) (q : Nat) : Pool (W.drewN q) t d := P.still ((Keep.refl _ W).drewN q)

/-- What is not the pool's stays. -/
structure PStep (W : World) (t : Nat → Option ι) (W2 : World) (t2 : Nat → Option ι) : Prop where
  keep : Keep (fun g => t g ≠ none) W W2
  tags : ∀ g, g < W.heap.size → t2 g = t g
theorem PStep.refl (W : World) (t : Nat → Option ι) : PStep W t W t := ⟨Keep.refl _ W, fun _ _ => rfl⟩
theorem PStep.of_still (t : Nat → Option ι) (h : Keep (fun _ => False) W W2) : PStep W t W2 t := ⟨h.mono (fun _ _ e => e.elim), fun _ _ => rfl⟩
theorem PStep.trans {A B C : World} {a b c : Nat → Option ι} (x : PStep A a B b) (y : PStep B b C c) : PStep A a C c :=
  ⟨x.keep.trans y.keep (fun _ _ e => e) (fun i hi e => by rw [x.tags i hi] at e; exact e), fun i hi => (y.tags i (Nat.lt_of_lt_of_le hi x.keep.size)).trans (x.tags i hi)⟩
theorem PStep.cell (x : PStep W t W2 t2) {b i : Nat} {v : Value} (ht : t b = none) (hv : W.cell? ⟨b, i, none⟩ = some v) : W2.cell? ⟨b, i, none⟩ = some v :=
  (World.cell?_of_block (x.keep.block b (World.block_lt_of_cell? _ _ hv) (fun e => e ht))).trans hv
theorem PStep.block (x : PStep W t W2 t2) {b : Nat} {o : Obj} (ht : t b = none) (hv : W.heap[b]? = some o) : W2.heap[b]? = some o :=
  (x.keep.block b (Array.getElem?_eq_some_iff.1 hv).1 (fun e => e ht)).trans hv
/-- What lies below all that is the pool's stays. -/
theorem PStep.low {lo : Nat} (x : PStep W t W2 t2) (h : ∀ g, t g ≠ none → lo ≤ g) (hl : lo ≤ W.heap.size) : ∀ g, t2 g ≠ none → lo ≤ g := fun g hg => by
  by_cases hgl : lo ≤ g
  · exact hgl
  · rw [x.tags g (by omega)] at hg
    exact h g hg

/-- A slice is another one now, in a block of its own or in a new one. -/
theorem Pool.repl [DecidableEq ι] (P : Pool W t d) (hτ : d τ = some s) {n2 : Nat} {w3 : World} {v3 : Value} {xs2 : List Value} (hk : Keep (fun g => t g = some τ) W w3)
    (hs : Seg w3 (fun g => t g = some τ ∨ W.heap.size ≤ g) s.e s.size v3 n2 xs2) :
    ∃ t2, Pool w3 t2 (updD d τ ⟨s.e, s.size, v3, n2, xs2⟩) ∧ PStep W t w3 t2 := by
  have hv3 : ∀ g, v3.ownBlock = some g → (g < W.heap.size → t g = some τ) ∧ g < w3.heap.size := fun g e => by
    obtain ⟨h1, h2⟩ := hs.block e
    refine ⟨fun hg => ?_, h2⟩
    rcases h1 with h1 | h1
    · exact h1
    · omega
  have old : ∀ g, g < W.heap.size → (if v3.ownBlock = some g then some τ else t g) = t g := fun g hg => by
    split
    · rename_i e; exact ((hv3 g e).1 hg).symm
    · rfl
  refine ⟨fun g => if v3.ownBlock = some g then some τ else t g, ⟨fun g hg => ?_, fun x q hx => ?_⟩, ⟨hk.mono (fun g _ e => by rw [e]; simp), old⟩⟩
  · show (if v3.ownBlock = some g then some τ else t g) = none
    rw [if_neg (fun e => by have := (hv3 g e).2; omega)]
    exact P.fresh g (Nat.le_trans hk.size hg)
  · by_cases e : x = τ
    · subst e
      rw [updD_same] at hx
      cases hx
      obtain ⟨q1, q2 | ⟨g, off, cap, cur, q2, q3, q4⟩⟩ := hs
      · exact ⟨q1, .inl q2⟩
      · exact ⟨q1, .inr ⟨g, off, cap, cur, q2, if_pos (by rw [q2]; rfl), q4⟩⟩
    · rw [updD_other _ _ e] at hx
      refine (((P.seg x q hx).mono (ok2 := fun g => g < W.heap.size ∧ t g = some x) (fun g hg e => ⟨hg, e⟩)).keep hk (fun g _ e1 e2 => ?_)).mono (fun g _ e1 => (old g e1.1).trans e1.2)
      rw [e1.2] at e2
      exact e (by simpa using e2)

/-- A slice grows. -/
theorem Pool.grow [DecidableEq ι] (P : Pool W t d) (hτ : d τ = some s) {X m : Nat} {w3 : World} {v3 : Value} {news : List Value} (hX : W.heap.size ≤ X) (hk : Keep (fun g => some g = s.v.ownBlock) W w3)
    (hs : Seg w3 (fun g => (s.v.ownBlock = some g ∧ t g = some τ) ∨ g = X) s.e s.size v3 (s.n + m) (s.xs ++ news)) :
    ∃ t2, Pool w3 t2 (updD d τ ⟨s.e, s.size, v3, s.n + m, s.xs ++ news⟩) ∧ PStep W t w3 t2 := by
  have hob : ∀ g, s.v.ownBlock = some g → t g = some τ ∧ g < W.heap.size := fun g e => (P.seg τ s hτ).block e
  have hv3 : ∀ g, v3.ownBlock = some g → (g < W.heap.size → t g = some τ) ∧ g < w3.heap.size := fun g e => by
    obtain ⟨h1, h2⟩ := hs.block e
    refine ⟨fun hg => ?_, h2⟩
    rcases h1 with h1 | h1
    · exact h1.2
    · omega
  have old : ∀ g, g < W.heap.size → (if v3.ownBlock = some g then some τ else t g) = t g := fun g hg => by
    split
    · rename_i e; exact ((hv3 g e).1 hg).symm
    · rfl
  refine ⟨fun g => if v3.ownBlock = some g then some τ else t g, ⟨fun g hg => ?_, fun x q hx => ?_⟩, ⟨hk.mono (fun g _ e => ?_), old⟩⟩
  · show (if v3.ownBlock = some g then some τ else t g) = none
    rw [if_neg (fun e => by have := (hv3 g e).2; omega)]
    exact P.fresh g (Nat.le_trans hk.size hg)
  · by_cases e : x = τ
    · subst e
      rw [updD_same] at hx
      cases hx
      obtain ⟨q1, q2 | ⟨g, off, cap, cur, q2, q3, q4⟩⟩ := hs
      · exact ⟨q1, .inl q2⟩
      · exact ⟨q1, .inr ⟨g, off, cap, cur, q2, if_pos (by rw [q2]; rfl), q4⟩⟩
    · rw [updD_other _ _ e] at hx
      refine (((P.seg x q hx).mono (ok2 := fun g => g < W.heap.size ∧ t g = some x) (fun g hg e => ⟨hg, e⟩)).keep hk (fun g _ e1 e2 => ?_)).mono (fun g _ e1 => (old g e1.1).trans e1.2)
      have := (hob g e2.symm).1
      rw [e1.2] at this
      exact e (by simpa using this)
  · rw [(hob g e.symm).1]; simp

/-- One cell of a slice is laid anew. -/
theorem Pool.set [DecidableEq ι] (P : Pool W t d) (hτ : d τ = some s) {g off cap i : Nat} {x : Value} (hv : s.v = .slice (some ⟨g, off, none⟩) s.n cap) (hi : i < s.n * s.size) :
    Pool (W.setCell ⟨g, off + i, none⟩ x) t (updD d τ { s with xs := s.xs.set i x }) ∧ PStep W t (W.setCell ⟨g, off + i, none⟩ x) t := by
  have hs := P.seg τ s hτ
  have hob : t g = some τ ∧ g < W.heap.size := hs.block (by rw [hv]; rfl)
  have hn : 0 < s.n := by
    rcases Nat.eq_zero_or_pos s.n with e | e
    · rw [e, Nat.zero_mul] at hi; omega
    · exact e
  obtain ⟨g', off', cap', e1, _, _, _, _, _, _, hset⟩ := hs.at hn
  rw [hv] at e1
  simp only [Value.slice.injEq, Option.some.injEq, Addr.mk.injEq] at e1
  obtain ⟨⟨rfl, rfl, _⟩, _, _⟩ := e1
  have hk : Keep (fun k => k = g) W (W.setCell ⟨g, off + i, none⟩ x) := (Keep.refl _ W).setCell g _ _ (fun _ => rfl)
  refine ⟨⟨fun k hk2 => P.fresh k (Nat.le_trans hk.size hk2), fun y q hy => ?_⟩, ⟨hk.mono (fun k _ e => by rw [e, hob.1]; simp), fun _ _ => rfl⟩⟩
  by_cases e : y = τ
  · subst e
    rw [updD_same] at hy
    cases hy
    exact hset i x hi
  · rw [updD_other _ _ e] at hy
    refine (P.seg y q hy).keep hk (fun k _ e1 e2 => ?_)
    rw [e2, hob.1] at e1
    exact e (by simpa using e1.symm)

/-- A new slice. -/
theorem Pool.new [DecidableEq ι] (P : Pool W t d) (τ : ι) (e : TypeId) (size n cap : Nat) (cur : Array Value) (xs : List Value) (hl : xs.length = n * size) (hn : n ≤ cap) (hc : cap ≤ maxLen) (hz : cap * size ≤ cur.size) (hx : ∀ (j : Nat) (x : Value), xs[j]? = some x → cur[j]? = some x) :
    ∃ t2, Pool (W.alloc (.cells cur e)) t2 (updD d τ ⟨e, size, .slice (some ⟨W.heap.size, 0, none⟩) n cap, n, xs⟩) ∧ PStep W t (W.alloc (.cells cur e)) t2 := by
  have hk : Keep (fun _ => False) W (W.alloc (.cells cur e)) := (Keep.refl _ W).alloc _
  refine ⟨fun g => if g = W.heap.size then some τ else t g, ⟨fun g hg => ?_, fun y q hy => ?_⟩, ⟨hk.mono (fun _ _ e => e.elim), fun g hg => if_neg (by omega)⟩⟩
  · show (if g = W.heap.size then some τ else t g) = none
    have hg2 : W.heap.size + 1 ≤ g := by simpa using hg
    rw [if_neg (by omega)]
    exact P.fresh g (by omega)
  · by_cases e1 : y = τ
    · subst e1
      rw [updD_same] at hy
      cases hy
      exact ⟨hl, .inr ⟨W.heap.size, 0, cap, cur, rfl, if_pos rfl, al_new _ _, hn, hc, by rw [Nat.zero_add]; exact hz, fun j x h => by rw [Nat.zero_add]; exact hx j x h⟩⟩
    · rw [updD_other _ _ e1] at hy
      refine ((P.seg y q hy).mono (ok2 := fun g => g < W.heap.size ∧ t g = some y) (fun g hg e => ⟨hg, e⟩)).keep hk (fun g _ _ e => e) |>.mono (fun g _ e2 => ?_)
      show (if g = W.heap.size then some τ else t g) = some y
      rw [if_neg (by omega)]
      exact e2.2
/-- A slice that is nil. -/
theorem Pool.newNil [DecidableEq ι] (P : Pool W t d) (τ : ι) (e : TypeId) (size : Nat) : Pool W t (updD d τ ⟨e, size, .slice none 0 0, 0, []⟩) := by
  refine ⟨P.fresh, fun y q hy => ?_⟩
  by_cases e1 : y = τ
  · subst e1
    rw [updD_same] at hy
    cases hy
    exact Seg.nil _ _ _ _
  · rw [updD_other _ _ e1] at hy
    exact P.seg y q hy
theorem Pool.congr {d2 : ι → Option Slot} (P : Pool W t d) (h : ∀ x q, d2 x = some q → d x = some q) : Pool W t d2 := ⟨P.fresh, fun x q hx => P.seg x q (h x q hx)⟩
theorem Pool.empty (W : World) : Pool W (fun _ => (none : Option ι)) (fun _ => none) := ⟨fun _ _ => rfl, fun _ _ h => by cases h⟩

/-- Where a slice lies, and what is there. -/
theorem Pool.form (P : Pool W t d) (hτ : d τ = some s) : ∃ a c, s.v = .slice a s.n c := segForm (P.seg τ s hτ)
theorem Pool.cells (P : Pool W t d) (hτ : d τ = some s) {g off n cap : Nat} (hv : s.v = .slice (some ⟨g, off, none⟩) n cap) :
    t g = some τ ∧ g < W.heap.size ∧ (∀ j x, s.xs[j]? = some x → W.cell? ⟨g, off + j, none⟩ = some x) ∧ ∀ j, W.frozen? ⟨g, j, none⟩ = false := by
  have hs := P.seg τ s hτ
  have hob : t g = some τ ∧ g < W.heap.size := hs.block (by rw [hv]; rfl)
  obtain ⟨h1, ⟨h2, h3⟩ | ⟨g', off', cap', cur, h2, h3, h4, h5, h6, h7, h8⟩⟩ := hs
  · rw [hv] at h2; cases h2
  · rw [hv] at h2
    simp only [Value.slice.injEq, Option.some.injEq, Addr.mk.injEq] at h2
    obtain ⟨⟨rfl, rfl, _⟩, _, _⟩ := h2
    exact ⟨hob.1, hob.2, fun j x hx => by rw [cell_of_row W g _ cur _ _ h4]; exact h8 j x hx, fun j => frozen_of_row W g j cur _ h4⟩
/-- Behind an append. -/
theorem Pool.app [DecidableEq ι] (P : Pool W t d) (hτ : d τ = some s) {wa w3 : World} {v3 : Value} {m : Nat} {news : List Value} (ha : Keep (fun _ => False) W wa)
    (hs : Seg w3 (fun g => (s.v.ownBlock = some g ∧ t g = some τ) ∨ g = wa.heap.size) s.e s.size v3 (s.n + m) (s.xs ++ news)) (hg : wa.grownBy w3 s.v.ownBlock) :
    ∃ t3, Pool w3 t3 (updD d τ ⟨s.e, s.size, v3, s.n + m, s.xs ++ news⟩) ∧ PStep W t w3 t3 := by
  refine P.repl hτ (ha.mono (fun _ _ e => e.elim) |>.grown hg (fun k e _ => ((P.seg τ s hτ).block e).1)) (hs.mono (fun g _ e => ?_))
  rcases e with ⟨_, e⟩ | e
  · exact .inl e
  · exact .inr (by rw [e]; exact ha.size)
/-- More slices, all of them nil. -/
theorem Pool.nils {d2 : ι → Option Slot} (P : Pool W t d) (h : ∀ x q, d2 x = some q → d x = some q ∨ (q.v = .slice none 0 0 ∧ q.n = 0 ∧ q.xs = [])) : Pool W t d2 := ⟨P.fresh, fun x q hx => by
  rcases h x q hx with h1 | ⟨h1, h2, h3⟩
  · exact P.seg x q h1
  · rw [h1, h2, h3]; exact Seg.nil _ _ _ _⟩
end Go.Proofs.Ytipoopbkapgfiaa
