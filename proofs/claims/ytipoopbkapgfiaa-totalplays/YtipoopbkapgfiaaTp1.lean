/- The document's Total in memory. -/
import Derived.Test.YtipoopbkapgfiaaTp0
import Derived.Test.YtipoopbkapgfiaaCp1
import Derived.Test.YtipoopbkapgfiaaCb1
namespace Go.Proofs.Ytipoopbkapgfiaa
open Go.RowKit
set_option linter.unusedVariables false

def intsZ (xs : List Int) : List Value := xs.map fun z => .int .i64 z
def numL (n : Nat) (f : Nat → Nat) : List Value := (List.range n).map fun p => .int .i64 (f p : Int)
theorem rowset {n i : Nat} (f h : Nat → Value) (x : Value) (hi : i < n) (h1 : h i = x) (h2 : ∀ j, j ≠ i → h j = f j) : ((List.range n).map f).set i x = (List.range n).map h := by
  apply List.ext_getElem?
  intro j
  rw [List.getElem?_set]
  by_cases e : i = j
  · subst e
    simp [hi, h1]
  · rw [if_neg e]
    by_cases hj : j < n
    · simp [hj, h2 j (Ne.symm e)]
    · simp [hj]
inductive ZT where
  | cd | nu | gt | ol
  | l (i : Nat)
deriving DecidableEq
structure ZSh where
  cdv : Value
  lv : Nat → Value
  ov : Nat → Value
  t : Nat → Option ZT
def ZSh.own (h : ZSh) (ob g : Nat) : Prop := h.t g ≠ none ∨ g = ob
def dZ (n many Nb Gb Lb : Nat) (s : TS) (cds : List Int) (h : ZSh) : ZT → Option Slot
  | .cd => some ⟨27, 1, h.cdv, cds.length, intsZ cds⟩
  | .nu => some ⟨3, 1, .slice (some ⟨Nb, 0, none⟩) n n, n, numL n s.num⟩
  | .gt => some ⟨47, 5, .slice (some ⟨Gb, 0, none⟩) (n * many) (n * many), n * many, gotL n many s.ent⟩
  | .ol => some ⟨34, 1, .slice (some ⟨Lb, 0, none⟩) n n, n, (List.range n).map h.ov⟩
  | .l i => if i < n then some ⟨3, 1, h.lv i, (s.ls i).length, natsL (s.ls i)⟩ else none
structure Zmv (W : World) (ob n many Nb Gb Lb : Nat) (s : TS) (cds : List Int) (h : ZSh) : Prop where
  pool : Pool W h.t (dZ n many Nb Gb Lb s cds h)
  tob : h.t ob = none
  blk : W.heap[ob]? = some (.cells #[h.cdv, .slice (some ⟨Lb, 0, none⟩) n n] 26 (0, 0))

variable {W W2 : World} {ob n many Nb Gb Lb : Nat} {s s2 : TS} {cds : List Int} {h h2 : ZSh}
theorem Zmv.ob_lt (m : Zmv W ob n many Nb Gb Lb s cds h) : ob < W.heap.size := (Array.getElem?_eq_some_iff.1 m.blk).1
theorem Zmv.keep {o : Nat → Prop} (m : Zmv W ob n many Nb Gb Lb s cds h) (hw : Keep o W W2) (ho : ∀ g, g < W.heap.size → o g → ¬ h.own ob g) : Zmv W2 ob n many Nb Gb Lb s cds h := by
  refine ⟨m.pool.keep hw (fun g hg e => ?_), m.tob, (hw.block ob m.ob_lt (fun e => ho ob m.ob_lt e (.inr rfl))).trans m.blk⟩
  cases ht : h.t g with
  | none => rfl
  | some x => exact absurd (.inl (by rw [ht]; simp)) (ho g hg e)
theorem Zmv.still (m : Zmv W ob n many Nb Gb Lb s cds h) (hw : Stil W W2) : Zmv W2 ob n many Nb Gb Lb s cds h := m.keep hw (fun _ _ e => e.elim)
theorem Zmv.fresh (m : Zmv W ob n many Nb Gb Lb s cds h) {g : Nat} (hg : W.heap.size ≤ g) : ¬ h.own ob g := by
  rintro (e | e)
  · exact e (m.pool.fresh g hg)
  · have := m.ob_lt; omega
theorem Zmv.cells (m : Zmv W ob n many Nb Gb Lb s cds h) : W.cell? ⟨ob, 0, none⟩ = some h.cdv ∧ W.cell? ⟨ob, 1, none⟩ = some (.slice (some ⟨Lb, 0, none⟩) n n) ∧ ∀ k, W.frozen? ⟨ob, k, none⟩ = false := by
  refine ⟨?_, ?_, fun k => frozen_of_row W _ _ _ _ m.blk⟩ <;> rw [cell_of_row W ob _ _ _ _ m.blk] <;> rfl
theorem Zmv.num (m : Zmv W ob n many Nb Gb Lb s cds h) {p : Nat} (hp : p < n) : W.cell? ⟨Nb, p, none⟩ = some (.int .i64 (s.num p : Int)) ∧ W.frozen? ⟨Nb, p, none⟩ = false := by
  obtain ⟨_, _, h1, h2⟩ := m.pool.cells (τ := .nu) (s := _) rfl rfl
  refine ⟨?_, h2 _⟩
  have := h1 p _ (show (numL n s.num)[p]? = some (.int .i64 (s.num p : Int)) by simp [numL, hp])
  simpa using this
theorem Zmv.got (m : Zmv W ob n many Nb Gb Lb s cds h) {p x f : Nat} (hp : p < n) (hx : x < many) (hf : f < 5) : W.cell? ⟨Gb, (p * many + x) * 5 + f, none⟩ = some (gv (s.ent p x) f) ∧ W.frozen? ⟨Gb, (p * many + x) * 5 + f, none⟩ = false := by
  obtain ⟨_, _, h1, h2⟩ := m.pool.cells (τ := .gt) (s := _) rfl rfl
  refine ⟨?_, h2 _⟩
  have := h1 _ _ (gotL_at s.ent hp hx hf)
  simpa using this
theorem Zmv.row (m : Zmv W ob n many Nb Gb Lb s cds h) {i : Nat} (hi : i < n) : W.cell? ⟨Lb, i, none⟩ = some (h.ov i) ∧ W.frozen? ⟨Lb, i, none⟩ = false := by
  obtain ⟨_, _, h1, h2⟩ := m.pool.cells (τ := .ol) (s := _) rfl rfl
  refine ⟨?_, h2 _⟩
  have := h1 i _ (show ((List.range n).map h.ov)[i]? = some (h.ov i) by simp [hi])
  simpa using this
theorem dZ_l {i : Nat} (hi : i < n) : dZ n many Nb Gb Lb s cds h (.l i) = some ⟨3, 1, h.lv i, (s.ls i).length, natsL (s.ls i)⟩ := if_pos hi
theorem Zmv.li (m : Zmv W ob n many Nb Gb Lb s cds h) {i : Nat} (hi : i < n) : Seg W (fun g => h.t g = some (.l i)) 3 1 (h.lv i) (s.ls i).length (natsL (s.ls i)) := m.pool.seg (.l i) _ (dZ_l hi)
theorem Zmv.code (m : Zmv W ob n many Nb Gb Lb s cds h) : Seg W (fun g => h.t g = some .cd) 27 1 h.cdv cds.length (intsZ cds) := m.pool.seg .cd _ rfl

/-- What a step leaves as it was. -/
structure ZStp (ob : Nat) (W : World) (h : ZSh) (W2 : World) (h2 : ZSh) : Prop where
  keep : Keep (h.own ob) W W2
  tags : ∀ g, g < W.heap.size → h2.t g = h.t g
theorem ZStp.refl (ob : Nat) (W : World) (h : ZSh) : ZStp ob W h W h := ⟨Keep.refl _ W, fun _ _ => rfl⟩
theorem ZStp.of_still (ob : Nat) {W W2 : World} (h : ZSh) (x : Stil W W2) : ZStp ob W h W2 h := ⟨x.mono (fun _ _ e => e.elim), fun _ _ => rfl⟩
theorem ZStp.trans {ob : Nat} {A B C : World} {f g h : ZSh} (x : ZStp ob A f B g) (y : ZStp ob B g C h) : ZStp ob A f C h :=
  ⟨x.keep.trans y.keep (fun _ _ e => e) (fun i hi e => by
    rcases e with e | e
    · exact .inl (by rw [x.tags i hi] at e; exact e)
    · exact .inr e), fun i hi => (y.tags i (Nat.lt_of_lt_of_le hi x.keep.size)).trans (x.tags i hi)⟩
theorem ZStp.block {ob : Nat} {A B : World} {f g : ZSh} (x : ZStp ob A f B g) {b : Nat} {o : Obj} (ht : ¬ f.own ob b) (hv : A.heap[b]? = some o) : B.heap[b]? = some o :=
  (x.keep.block b (Array.getElem?_eq_some_iff.1 hv).1 ht).trans hv
theorem ZStp.free {ob : Nat} {A B : World} {f g : ZSh} (x : ZStp ob A f B g) {b i : Nat} {v : Value} (ht : ¬ f.own ob b) (hv : A.cell? ⟨b, i, none⟩ = some v) : B.cell? ⟨b, i, none⟩ = some v :=
  (World.cell?_of_block (x.keep.block b (World.block_lt_of_cell? _ _ hv) ht)).trans hv
theorem ZStp.own {ob : Nat} {A B : World} {f g : ZSh} (x : ZStp ob A f B g) {k : Nat} (hk : k < A.heap.size) : g.own ob k ↔ f.own ob k := by
  unfold ZSh.own
  rw [x.tags k hk]
theorem ZStp.low {ob lo : Nat} {A B : World} {f g : ZSh} (x : ZStp ob A f B g) (h : ∀ k, f.own ob k → lo ≤ k) (hl : lo ≤ A.heap.size) : ∀ k, g.own ob k → lo ≤ k := fun k hk => by
  by_cases hkl : lo ≤ k
  · exact hkl
  · exact h k ((x.own (by omega)).1 hk)

/-- A number more. -/
theorem Zmv.setNum (m : Zmv W ob n many Nb Gb Lb s cds h) {w : Nat} (hw : w < n) (v : Nat) : Zmv (W.setCell ⟨Nb, w, none⟩ (.int .i64 (v : Int))) ob n many Nb Gb Lb { s with num := upd1 s.num w v } cds h ∧ ZStp ob W h (W.setCell ⟨Nb, w, none⟩ (.int .i64 (v : Int))) h := by
  obtain ⟨hpl, hs⟩ := m.pool.set (τ := .nu) (s := ⟨3, 1, .slice (some ⟨Nb, 0, none⟩) n n, n, numL n s.num⟩) rfl (x := .int .i64 (v : Int)) rfl (i := w) (by simp only; omega)
  rw [Nat.zero_add] at hpl hs
  refine ⟨⟨hpl.congr (fun y q hy => ?_), m.tob, hs.block m.tob m.blk⟩, ⟨hs.keep.mono (fun g _ e => .inl e), fun _ _ => rfl⟩⟩
  cases y with
  | nu =>
    rw [updD_same, ← hy]
    simp only [dZ, numL]
    rw [rowset (fun p => .int .i64 (s.num p : Int)) (fun p => .int .i64 ((upd1 s.num w v p : Nat) : Int)) _ hw (by rw [upd1_same]) (fun j hj => by rw [upd1_other _ _ hj])]
  | cd => rw [updD_other _ _ (by simp)]; exact hy
  | gt => rw [updD_other _ _ (by simp)]; exact hy
  | ol => rw [updD_other _ _ (by simp)]; exact hy
  | l i => rw [updD_other _ _ (by simp)]; exact hy
/-- A field of what is kept of a message. -/
theorem Zmv.setGot (m : Zmv W ob n many Nb Gb Lb s cds h) {w x f : Nat} (hw : w < n) (hx : x < many) (hf : f < 5) (e : En) (v : Value) (hv : gv (some e) f = v) (ho : ∀ f2, f2 < 5 → f2 ≠ f → gv (some e) f2 = gv (s.ent w x) f2) :
    Zmv (W.setCell ⟨Gb, (w * many + x) * 5 + f, none⟩ v) ob n many Nb Gb Lb { s with ent := upd2 s.ent w x (some e) } cds h ∧ ZStp ob W h (W.setCell ⟨Gb, (w * many + x) * 5 + f, none⟩ v) h := by
  obtain ⟨hpl, hs⟩ := m.pool.set (τ := .gt) (s := ⟨47, 5, .slice (some ⟨Gb, 0, none⟩) (n * many) (n * many), n * many, gotL n many s.ent⟩) rfl (x := v) rfl (i := (w * many + x) * 5 + f) (got_lt hw hx hf)
  rw [Nat.zero_add] at hpl hs
  refine ⟨⟨hpl.congr (fun y q hy => ?_), m.tob, hs.block m.tob m.blk⟩, ⟨hs.keep.mono (fun g _ e => .inl e), fun _ _ => rfl⟩⟩
  cases y with
  | gt =>
    rw [updD_same, ← hy]
    simp only [dZ]
    rw [gotL_set s.ent hw hx hf e v hv ho]
  | cd => rw [updD_other _ _ (by simp)]; exact hy
  | nu => rw [updD_other _ _ (by simp)]; exact hy
  | ol => rw [updD_other _ _ (by simp)]; exact hy
  | l i => rw [updD_other _ _ (by simp)]; exact hy
/-- One more is heard: behind the append. -/
theorem Zmv.pushL (m : Zmv W ob n many Nb Gb Lb s cds h) {w x : Nat} (hw : w < n) {wa w3 : World} {v3 : Value} (ha : Stil W wa)
    (hs : Seg w3 (fun g => ((h.lv w).ownBlock = some g ∧ h.t g = some (.l w)) ∨ g = wa.heap.size) 3 1 v3 ((s.ls w).length + 1) (natsL (s.ls w) ++ [.int .i64 (x : Int)])) (hg : wa.grownBy w3 (h.lv w).ownBlock) :
    ∃ t3, Zmv w3 ob n many Nb Gb Lb { s with ls := upd1 s.ls w (s.ls w ++ [x]) } cds { h with lv := upd1 h.lv w v3, t := t3 } ∧ ZStp ob W h w3 { h with lv := upd1 h.lv w v3, t := t3 } := by
  obtain ⟨t3, P3, S3⟩ := m.pool.app (τ := .l w) (s := ⟨3, 1, h.lv w, (s.ls w).length, natsL (s.ls w)⟩) (dZ_l hw) (m := 1) (news := [.int .i64 (x : Int)]) ha hs hg
  refine ⟨t3, ⟨P3.congr (fun y q hy => ?_), (S3.tags _ m.ob_lt).trans m.tob, S3.block m.tob m.blk⟩, ⟨S3.keep.mono (fun g _ e => .inl e), S3.tags⟩⟩
  cases y with
  | l i =>
    by_cases e : i = w
    · subst e
      rw [updD_same, ← hy, dZ_l hw]
      simp [upd1_same, natsL]
    · rw [updD_other _ _ (by simpa using e), ← hy]
      simp only [dZ]
      rw [upd1_other _ _ e, upd1_other _ _ e]
  | cd => rw [updD_other _ _ (by simp)]; exact hy
  | nu => rw [updD_other _ _ (by simp)]; exact hy
  | gt => rw [updD_other _ _ (by simp)]; exact hy
  | ol => rw [updD_other _ _ (by simp)]; exact hy
/-- What was heard is stored. -/
theorem Zmv.storeOl (m : Zmv W ob n many Nb Gb Lb s cds h) {w : Nat} (hw : w < n) (x : Value) : Zmv (W.setCell ⟨Lb, w, none⟩ x) ob n many Nb Gb Lb s cds { h with ov := upd1 h.ov w x } ∧ ZStp ob W h (W.setCell ⟨Lb, w, none⟩ x) { h with ov := upd1 h.ov w x } := by
  obtain ⟨hpl, hs⟩ := m.pool.set (τ := .ol) (s := ⟨34, 1, .slice (some ⟨Lb, 0, none⟩) n n, n, (List.range n).map h.ov⟩) rfl (x := x) rfl (i := w) (by simp only; omega)
  rw [Nat.zero_add] at hpl hs
  refine ⟨⟨hpl.congr (fun y q hy => ?_), m.tob, hs.block m.tob m.blk⟩, ⟨hs.keep.mono (fun g _ e => .inl e), fun _ _ => rfl⟩⟩
  cases y with
  | ol =>
    rw [updD_same, ← hy]
    simp only [dZ]
    rw [rowset h.ov (upd1 h.ov w x) _ hw (upd1_same _ _ _) (fun j hj => upd1_other _ _ hj)]
  | cd => rw [updD_other _ _ (by simp)]; exact hy
  | nu => rw [updD_other _ _ (by simp)]; exact hy
  | gt => rw [updD_other _ _ (by simp)]; exact hy
  | l i => rw [updD_other _ _ (by simp)]; exact hy
/-- One more code. -/
theorem Zmv.pushCd (m : Zmv W ob n many Nb Gb Lb s cds h) {x : Int} {wa w3 : World} {v3 : Value} (ha : Stil W wa)
    (hs : Seg w3 (fun g => (h.cdv.ownBlock = some g ∧ h.t g = some .cd) ∨ g = wa.heap.size) 27 1 v3 (cds.length + 1) (intsZ cds ++ [.int .i64 x])) (hg : wa.grownBy w3 h.cdv.ownBlock) :
    w3.cell? ⟨ob, 0, none⟩ = some h.cdv ∧ w3.frozen? ⟨ob, 0, none⟩ = false ∧ ∃ t3, Zmv (w3.setCell ⟨ob, 0, none⟩ v3) ob n many Nb Gb Lb s (cds ++ [x]) { h with cdv := v3, t := t3 } ∧ ZStp ob W h (w3.setCell ⟨ob, 0, none⟩ v3) { h with cdv := v3, t := t3 } := by
  obtain ⟨t3, P3, S3⟩ := m.pool.app (τ := .cd) (s := ⟨27, 1, h.cdv, cds.length, intsZ cds⟩) rfl (m := 1) (news := [.int .i64 x]) ha hs hg
  have b3 := S3.block m.tob m.blk
  have hk : Keep (fun g => g = ob) w3 (w3.setCell ⟨ob, 0, none⟩ v3) := (Keep.refl _ w3).setCell _ _ _ (fun _ => rfl)
  have t3ob : t3 ob = none := (S3.tags _ m.ob_lt).trans m.tob
  refine ⟨by rw [cell_of_row w3 _ _ _ _ _ b3]; rfl, frozen_of_row w3 _ _ _ _ b3, t3, ⟨(P3.keep hk (fun g _ e => by rw [e]; exact t3ob)).congr (fun y q hy => ?_), t3ob, ?_⟩,
    ⟨(S3.keep.mono (fun g _ e => .inl e)).trans (hk.mono (q := fun g => h.own ob g) (fun g _ e => .inr e)) (fun _ _ e => e) (fun _ _ e => e), S3.tags⟩⟩
  · cases y with
    | cd => rw [updD_same, ← hy]; simp [dZ, intsZ]
    | gt => rw [updD_other _ _ (by simp)]; exact hy
    | nu => rw [updD_other _ _ (by simp)]; exact hy
    | ol => rw [updD_other _ _ (by simp)]; exact hy
    | l i => rw [updD_other _ _ (by simp)]; exact hy
  · have h1 := heap_setCell_same w3 ob 0 _ _ v3 b3
    simpa using h1
end Go.Proofs.Ytipoopbkapgfiaa
