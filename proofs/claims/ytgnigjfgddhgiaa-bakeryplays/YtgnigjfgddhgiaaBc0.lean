/- The document's Bakery in memory. -/
import Derived.Test.YtgnigjfgddhgiaaBb4
namespace Go.Proofs.Ytgnigjfgddhgiaa
open Go.RowKit
set_option linter.unusedVariables false

inductive RTag where
  | at
  | tk
  | ch
  | k
  | m
  | codes
  | ins
deriving DecidableEq
/-- Where all lies. -/
structure RSh where
  A : Nat
  T : Nat
  C : Nat
  K : Nat
  M : Nat
  cv : Value
  iv : Value
  t : Nat → Option RTag
def rowN (n : Nat) (f : Nat → Nat) : List Value := (List.range n).map fun i => .int .i64 (f i : Int)
def rowBo (n : Nat) (f : Nat → Bool) : List Value := (List.range n).map fun i => .bool (f i)
theorem rowN_at {n i : Nat} (f : Nat → Nat) (hi : i < n) : (rowN n f)[i]? = some (.int .i64 (f i : Int)) := by simp [rowN, hi]
theorem rowBo_at {n i : Nat} (f : Nat → Bool) (hi : i < n) : (rowBo n f)[i]? = some (.bool (f i)) := by simp [rowBo, hi]
theorem rowN_len (n : Nat) (f : Nat → Nat) : (rowN n f).length = n := by simp [rowN]
theorem rowBo_len (n : Nat) (f : Nat → Bool) : (rowBo n f).length = n := by simp [rowBo]
theorem rowN_set {n i : Nat} (f : Nat → Nat) (v : Nat) : (rowN n f).set i (.int .i64 (v : Int)) = rowN n (upd1 f i v) := by
  apply List.ext_getElem?
  intro q
  rw [List.getElem?_set]
  by_cases hq : q < n
  · by_cases e : i = q
    · subst e
      rw [if_pos rfl, if_pos (by rw [rowN_len]; exact hq), rowN_at _ hq, upd1_same]
    · rw [if_neg e, rowN_at _ hq, rowN_at _ hq, upd1_other _ _ (fun e2 => e e2.symm)]
  · by_cases e : i = q
    · rw [if_pos e, if_neg (by rw [rowN_len]; omega), List.getElem?_eq_none (by rw [rowN_len]; omega)]
    · rw [if_neg e, List.getElem?_eq_none (by rw [rowN_len]; omega), List.getElem?_eq_none (by rw [rowN_len]; omega)]
theorem rowBo_set {n i : Nat} (f : Nat → Bool) (v : Bool) : (rowBo n f).set i (.bool v) = rowBo n (upd1 f i v) := by
  apply List.ext_getElem?
  intro q
  rw [List.getElem?_set]
  by_cases hq : q < n
  · by_cases e : i = q
    · subst e
      rw [if_pos rfl, if_pos (by rw [rowBo_len]; exact hq), rowBo_at _ hq, upd1_same]
    · rw [if_neg e, rowBo_at _ hq, rowBo_at _ hq, upd1_other _ _ (fun e2 => e e2.symm)]
  · by_cases e : i = q
    · rw [if_pos e, if_neg (by rw [rowBo_len]; omega), List.getElem?_eq_none (by rw [rowBo_len]; omega)]
    · rw [if_neg e, List.getElem?_eq_none (by rw [rowBo_len]; omega), List.getElem?_eq_none (by rw [rowBo_len]; omega)]
def dR (n : Nat) (s : BS) (cds : List Int) (h : RSh) : RTag → Option Slot
  | .at => some ⟨3, 1, .slice (some ⟨h.A, 0, none⟩) n n, n, rowN n fun i => (s.pr i).pl⟩
  | .tk => some ⟨3, 1, .slice (some ⟨h.T, 0, none⟩) n n, n, rowN n fun i => (s.pr i).tk⟩
  | .ch => some ⟨4, 1, .slice (some ⟨h.C, 0, none⟩) n n, n, rowBo n fun i => (s.pr i).ch⟩
  | .k => some ⟨3, 1, .slice (some ⟨h.K, 0, none⟩) n n, n, rowN n fun i => (s.pr i).k⟩
  | .m => some ⟨3, 1, .slice (some ⟨h.M, 0, none⟩) n n, n, rowN n fun i => (s.pr i).m⟩
  | .codes => some ⟨27, 1, h.cv, cds.length, intsV cds⟩
  | .ins => some ⟨3, 1, h.iv, s.ins.length, natsL s.ins⟩
structure Rmov (W : World) (o n : Nat) (s : BS) (cds : List Int) (h : RSh) : Prop where
  pool : Pool W h.t (dR n s cds h)
  tob : h.t o = none
  blk : W.heap[o]? = some (.cells #[h.cv, .slice (some ⟨h.A, 0, none⟩) n n, .slice (some ⟨h.T, 0, none⟩) n n, .slice (some ⟨h.C, 0, none⟩) n n, h.iv] 26 (0, 0))

variable {W W2 : World} {o n : Nat} {s : BS} {cds : List Int} {h h2 : RSh}
theorem Rmov.still (m : Rmov W o n s cds h) (hw : Stil W W2) : Rmov W2 o n s cds h := ⟨m.pool.still hw, m.tob, (hw.block _ (Array.getElem?_eq_some_iff.1 m.blk).1 (fun e => e)).trans m.blk⟩
theorem Rmov.cells (m : Rmov W o n s cds h) : W.cell? ⟨o, 0, none⟩ = some h.cv ∧ W.cell? ⟨o, 1, none⟩ = some (.slice (some ⟨h.A, 0, none⟩) n n) ∧ W.cell? ⟨o, 2, none⟩ = some (.slice (some ⟨h.T, 0, none⟩) n n) ∧ W.cell? ⟨o, 3, none⟩ = some (.slice (some ⟨h.C, 0, none⟩) n n) ∧ W.cell? ⟨o, 4, none⟩ = some h.iv ∧ ∀ k, W.frozen? ⟨o, k, none⟩ = false := by
  refine ⟨?_, ?_, ?_, ?_, ?_, fun k => frozen_of_row W _ _ _ _ m.blk⟩ <;> rw [cell_of_row W o _ _ _ _ m.blk] <;> rfl
theorem Rmov.row (m : Rmov W o n s cds h) {i : Nat} (hi : i < n) : W.cell? ⟨h.A, i, none⟩ = some (.int .i64 ((s.pr i).pl : Int)) ∧ W.cell? ⟨h.T, i, none⟩ = some (.int .i64 ((s.pr i).tk : Int)) ∧ W.cell? ⟨h.C, i, none⟩ = some (.bool (s.pr i).ch) ∧
    W.cell? ⟨h.K, i, none⟩ = some (.int .i64 ((s.pr i).k : Int)) ∧ W.cell? ⟨h.M, i, none⟩ = some (.int .i64 ((s.pr i).m : Int)) := by
  have e1 := (m.pool.cells (τ := .at) (s := _) rfl rfl).2.2.1 i _ (rowN_at _ hi)
  have e2 := (m.pool.cells (τ := .tk) (s := _) rfl rfl).2.2.1 i _ (rowN_at _ hi)
  have e3 := (m.pool.cells (τ := .ch) (s := _) rfl rfl).2.2.1 i _ (rowBo_at _ hi)
  have e4 := (m.pool.cells (τ := .k) (s := _) rfl rfl).2.2.1 i _ (rowN_at _ hi)
  have e5 := (m.pool.cells (τ := .m) (s := _) rfl rfl).2.2.1 i _ (rowN_at _ hi)
  rw [Nat.zero_add] at e1 e2 e3 e4 e5
  exact ⟨e1, e2, e3, e4, e5⟩
theorem Rmov.froz (m : Rmov W o n s cds h) : (∀ k, W.frozen? ⟨h.A, k, none⟩ = false) ∧ (∀ k, W.frozen? ⟨h.T, k, none⟩ = false) ∧ (∀ k, W.frozen? ⟨h.C, k, none⟩ = false) ∧ (∀ k, W.frozen? ⟨h.K, k, none⟩ = false) ∧ (∀ k, W.frozen? ⟨h.M, k, none⟩ = false) :=
  ⟨(m.pool.cells (τ := .at) (s := _) rfl rfl).2.2.2, (m.pool.cells (τ := .tk) (s := _) rfl rfl).2.2.2, (m.pool.cells (τ := .ch) (s := _) rfl rfl).2.2.2, (m.pool.cells (τ := .k) (s := _) rfl rfl).2.2.2, (m.pool.cells (τ := .m) (s := _) rfl rfl).2.2.2⟩
theorem Rmov.codesS (m : Rmov W o n s cds h) : Seg W (fun g => h.t g = some .codes) 27 1 h.cv cds.length (intsV cds) := m.pool.seg .codes _ rfl
theorem Rmov.insS (m : Rmov W o n s cds h) : Seg W (fun g => h.t g = some .ins) 3 1 h.iv s.ins.length (natsL s.ins) := m.pool.seg .ins _ rfl

/-- What a turn leaves as it was. -/
structure RStp (o : Nat) (W : World) (h : RSh) (W2 : World) (h2 : RSh) : Prop where
  keep : Keep (fun g => h.t g ≠ none ∨ g = o) W W2
  tags : ∀ g, g < W.heap.size → h2.t g = h.t g
  same : h2.A = h.A ∧ h2.T = h.T ∧ h2.C = h.C ∧ h2.K = h.K ∧ h2.M = h.M
theorem RStp.of_still (o : Nat) {W W2 : World} (h : RSh) (x : Stil W W2) : RStp o W h W2 h := ⟨x.mono (fun _ _ e => e.elim), fun _ _ => rfl, rfl, rfl, rfl, rfl, rfl⟩
theorem RStp.trans {o : Nat} {A B C : World} {f g h : RSh} (x : RStp o A f B g) (y : RStp o B g C h) : RStp o A f C h :=
  ⟨x.keep.trans y.keep (fun _ _ e => e) (fun i hi e => by
    rcases e with e | e
    · exact .inl (by rw [x.tags i hi] at e; exact e)
    · exact .inr e), fun i hi => (y.tags i (Nat.lt_of_lt_of_le hi x.keep.size)).trans (x.tags i hi), y.same.1.trans x.same.1, y.same.2.1.trans x.same.2.1, y.same.2.2.1.trans x.same.2.2.1, y.same.2.2.2.1.trans x.same.2.2.2.1, y.same.2.2.2.2.trans x.same.2.2.2.2⟩

theorem prSet (s : BS) (i : Nat) (p : Pb) {α : Type} (f : Pb → α) : (fun q => f ((setB s i p).pr q)) = upd1 (fun q => f (s.pr q)) i (f p) := by
  funext q
  show f (upd1 s.pr i p q) = _
  by_cases e : q = i
  · subst e; rw [upd1_same, upd1_same]
  · rw [upd1_other _ _ e, upd1_other _ _ e]
theorem updSame {α : Type} (f : Nat → α) (i : Nat) : upd1 f i (f i) = f := by
  funext q
  by_cases e : q = i
  · subst e; rw [upd1_same]
  · rw [upd1_other _ _ e]
theorem Rmov.setPl (m : Rmov W o n s cds h) {i : Nat} (hi : i < n) (v : Nat) : Rmov (W.setCell ⟨h.A, i, none⟩ (.int .i64 (v : Int))) o n (setB s i { s.pr i with pl := v }) cds h ∧ RStp o W h (W.setCell ⟨h.A, i, none⟩ (.int .i64 (v : Int))) h := by
  obtain ⟨hpl, hs⟩ := m.pool.set (τ := .at) (s := ⟨3, 1, .slice (some ⟨h.A, 0, none⟩) n n, n, rowN n fun i => (s.pr i).pl⟩) rfl (x := .int .i64 (v : Int)) rfl (i := i) (by simp only; omega)
  rw [Nat.zero_add] at hpl hs
  refine ⟨⟨hpl.congr (fun y q hy => ?_), m.tob, hs.block m.tob m.blk⟩, ⟨hs.keep.mono (fun g _ e => .inl e), fun _ _ => rfl, rfl, rfl, rfl, rfl, rfl⟩⟩
  cases y with
  | «at» => rw [updD_same, ← hy]; simp only [dR]; rw [rowN_set, prSet s i _ (fun p => p.pl)]
  | tk => rw [updD_other _ _ (by simp), ← hy]; simp only [dR]; rw [prSet s i _ (fun p => p.tk), updSame (fun q => (s.pr q).tk)]
  | ch => rw [updD_other _ _ (by simp), ← hy]; simp only [dR]; rw [prSet s i _ (fun p => p.ch), updSame (fun q => (s.pr q).ch)]
  | k => rw [updD_other _ _ (by simp), ← hy]; simp only [dR]; rw [prSet s i _ (fun p => p.k), updSame (fun q => (s.pr q).k)]
  | m => rw [updD_other _ _ (by simp), ← hy]; simp only [dR]; rw [prSet s i _ (fun p => p.m), updSame (fun q => (s.pr q).m)]
  | codes => rw [updD_other _ _ (by simp)]; exact hy
  | ins => rw [updD_other _ _ (by simp)]; exact hy
theorem Rmov.setTk (m : Rmov W o n s cds h) {i : Nat} (hi : i < n) (v : Nat) : Rmov (W.setCell ⟨h.T, i, none⟩ (.int .i64 (v : Int))) o n (setB s i { s.pr i with tk := v }) cds h ∧ RStp o W h (W.setCell ⟨h.T, i, none⟩ (.int .i64 (v : Int))) h := by
  obtain ⟨hpl, hs⟩ := m.pool.set (τ := .tk) (s := ⟨3, 1, .slice (some ⟨h.T, 0, none⟩) n n, n, rowN n fun i => (s.pr i).tk⟩) rfl (x := .int .i64 (v : Int)) rfl (i := i) (by simp only; omega)
  rw [Nat.zero_add] at hpl hs
  refine ⟨⟨hpl.congr (fun y q hy => ?_), m.tob, hs.block m.tob m.blk⟩, ⟨hs.keep.mono (fun g _ e => .inl e), fun _ _ => rfl, rfl, rfl, rfl, rfl, rfl⟩⟩
  cases y with
  | «at» => rw [updD_other _ _ (by simp), ← hy]; simp only [dR]; rw [prSet s i _ (fun p => p.pl), updSame (fun q => (s.pr q).pl)]
  | tk => rw [updD_same, ← hy]; simp only [dR]; rw [rowN_set, prSet s i _ (fun p => p.tk)]
  | ch => rw [updD_other _ _ (by simp), ← hy]; simp only [dR]; rw [prSet s i _ (fun p => p.ch), updSame (fun q => (s.pr q).ch)]
  | k => rw [updD_other _ _ (by simp), ← hy]; simp only [dR]; rw [prSet s i _ (fun p => p.k), updSame (fun q => (s.pr q).k)]
  | m => rw [updD_other _ _ (by simp), ← hy]; simp only [dR]; rw [prSet s i _ (fun p => p.m), updSame (fun q => (s.pr q).m)]
  | codes => rw [updD_other _ _ (by simp)]; exact hy
  | ins => rw [updD_other _ _ (by simp)]; exact hy
theorem Rmov.setCh (m : Rmov W o n s cds h) {i : Nat} (hi : i < n) (v : Bool) : Rmov (W.setCell ⟨h.C, i, none⟩ (.bool v)) o n (setB s i { s.pr i with ch := v }) cds h ∧ RStp o W h (W.setCell ⟨h.C, i, none⟩ (.bool v)) h := by
  obtain ⟨hpl, hs⟩ := m.pool.set (τ := .ch) (s := ⟨4, 1, .slice (some ⟨h.C, 0, none⟩) n n, n, rowBo n fun i => (s.pr i).ch⟩) rfl (x := .bool v) rfl (i := i) (by simp only; omega)
  rw [Nat.zero_add] at hpl hs
  refine ⟨⟨hpl.congr (fun y q hy => ?_), m.tob, hs.block m.tob m.blk⟩, ⟨hs.keep.mono (fun g _ e => .inl e), fun _ _ => rfl, rfl, rfl, rfl, rfl, rfl⟩⟩
  cases y with
  | «at» => rw [updD_other _ _ (by simp), ← hy]; simp only [dR]; rw [prSet s i _ (fun p => p.pl), updSame (fun q => (s.pr q).pl)]
  | tk => rw [updD_other _ _ (by simp), ← hy]; simp only [dR]; rw [prSet s i _ (fun p => p.tk), updSame (fun q => (s.pr q).tk)]
  | ch => rw [updD_same, ← hy]; simp only [dR]; rw [rowBo_set, prSet s i _ (fun p => p.ch)]
  | k => rw [updD_other _ _ (by simp), ← hy]; simp only [dR]; rw [prSet s i _ (fun p => p.k), updSame (fun q => (s.pr q).k)]
  | m => rw [updD_other _ _ (by simp), ← hy]; simp only [dR]; rw [prSet s i _ (fun p => p.m), updSame (fun q => (s.pr q).m)]
  | codes => rw [updD_other _ _ (by simp)]; exact hy
  | ins => rw [updD_other _ _ (by simp)]; exact hy
theorem Rmov.setK (m : Rmov W o n s cds h) {i : Nat} (hi : i < n) (v : Nat) : Rmov (W.setCell ⟨h.K, i, none⟩ (.int .i64 (v : Int))) o n (setB s i { s.pr i with k := v }) cds h ∧ RStp o W h (W.setCell ⟨h.K, i, none⟩ (.int .i64 (v : Int))) h := by
  obtain ⟨hpl, hs⟩ := m.pool.set (τ := .k) (s := ⟨3, 1, .slice (some ⟨h.K, 0, none⟩) n n, n, rowN n fun i => (s.pr i).k⟩) rfl (x := .int .i64 (v : Int)) rfl (i := i) (by simp only; omega)
  rw [Nat.zero_add] at hpl hs
  refine ⟨⟨hpl.congr (fun y q hy => ?_), m.tob, hs.block m.tob m.blk⟩, ⟨hs.keep.mono (fun g _ e => .inl e), fun _ _ => rfl, rfl, rfl, rfl, rfl, rfl⟩⟩
  cases y with
  | «at» => rw [updD_other _ _ (by simp), ← hy]; simp only [dR]; rw [prSet s i _ (fun p => p.pl), updSame (fun q => (s.pr q).pl)]
  | tk => rw [updD_other _ _ (by simp), ← hy]; simp only [dR]; rw [prSet s i _ (fun p => p.tk), updSame (fun q => (s.pr q).tk)]
  | ch => rw [updD_other _ _ (by simp), ← hy]; simp only [dR]; rw [prSet s i _ (fun p => p.ch), updSame (fun q => (s.pr q).ch)]
  | k => rw [updD_same, ← hy]; simp only [dR]; rw [rowN_set, prSet s i _ (fun p => p.k)]
  | m => rw [updD_other _ _ (by simp), ← hy]; simp only [dR]; rw [prSet s i _ (fun p => p.m), updSame (fun q => (s.pr q).m)]
  | codes => rw [updD_other _ _ (by simp)]; exact hy
  | ins => rw [updD_other _ _ (by simp)]; exact hy
theorem Rmov.setM (m : Rmov W o n s cds h) {i : Nat} (hi : i < n) (v : Nat) : Rmov (W.setCell ⟨h.M, i, none⟩ (.int .i64 (v : Int))) o n (setB s i { s.pr i with m := v }) cds h ∧ RStp o W h (W.setCell ⟨h.M, i, none⟩ (.int .i64 (v : Int))) h := by
  obtain ⟨hpl, hs⟩ := m.pool.set (τ := .m) (s := ⟨3, 1, .slice (some ⟨h.M, 0, none⟩) n n, n, rowN n fun i => (s.pr i).m⟩) rfl (x := .int .i64 (v : Int)) rfl (i := i) (by simp only; omega)
  rw [Nat.zero_add] at hpl hs
  refine ⟨⟨hpl.congr (fun y q hy => ?_), m.tob, hs.block m.tob m.blk⟩, ⟨hs.keep.mono (fun g _ e => .inl e), fun _ _ => rfl, rfl, rfl, rfl, rfl, rfl⟩⟩
  cases y with
  | «at» => rw [updD_other _ _ (by simp), ← hy]; simp only [dR]; rw [prSet s i _ (fun p => p.pl), updSame (fun q => (s.pr q).pl)]
  | tk => rw [updD_other _ _ (by simp), ← hy]; simp only [dR]; rw [prSet s i _ (fun p => p.tk), updSame (fun q => (s.pr q).tk)]
  | ch => rw [updD_other _ _ (by simp), ← hy]; simp only [dR]; rw [prSet s i _ (fun p => p.ch), updSame (fun q => (s.pr q).ch)]
  | k => rw [updD_other _ _ (by simp), ← hy]; simp only [dR]; rw [prSet s i _ (fun p => p.k), updSame (fun q => (s.pr q).k)]
  | m => rw [updD_same, ← hy]; simp only [dR]; rw [rowN_set, prSet s i _ (fun p => p.m)]
  | codes => rw [updD_other _ _ (by simp)]; exact hy
  | ins => rw [updD_other _ _ (by simp)]; exact hy
theorem Rmov.pushCode (m : Rmov W o n s cds h) {x : Int} {wa w3 : World} {v3 : Value} (ha : Stil W wa)
    (hs : Seg w3 (fun g => (h.cv.ownBlock = some g ∧ h.t g = some .codes) ∨ g = wa.heap.size) 27 1 v3 (cds.length + 1) (intsV cds ++ [.int .i64 x])) (hg : wa.grownBy w3 h.cv.ownBlock) :
    w3.cell? ⟨o, 0, none⟩ = some h.cv ∧ w3.frozen? ⟨o, 0, none⟩ = false ∧ ∃ t3, Rmov (w3.setCell ⟨o, 0, none⟩ v3) o n s (cds ++ [x]) ⟨h.A, h.T, h.C, h.K, h.M, v3, h.iv, t3⟩ ∧ RStp o W h (w3.setCell ⟨o, 0, none⟩ v3) ⟨h.A, h.T, h.C, h.K, h.M, v3, h.iv, t3⟩ := by
  obtain ⟨t3, P3, S3⟩ := m.pool.app (τ := .codes) (s := ⟨27, 1, h.cv, cds.length, intsV cds⟩) rfl (m := 1) (news := [.int .i64 x]) ha hs hg
  have b3 := S3.block m.tob m.blk
  have t4 : ∀ g, g < W.heap.size → t3 g = h.t g := S3.tags
  have hk : Keep (fun g => g = o) w3 (w3.setCell ⟨o, 0, none⟩ v3) := (Keep.refl _ w3).setCell _ _ _ (fun _ => rfl)
  have t3o : t3 o = none := (t4 _ (Array.getElem?_eq_some_iff.1 m.blk).1).trans m.tob
  refine ⟨by rw [cell_of_row w3 _ _ _ _ _ b3]; rfl, frozen_of_row w3 _ _ _ _ b3, t3, ⟨(P3.keep hk (fun g _ e => by rw [e]; exact t3o)).congr (fun y q hy => ?_), t3o, ?_⟩,
    ⟨(S3.keep.mono (fun g _ e => .inl e)).trans (hk.mono (q := fun g => h.t g ≠ none ∨ g = o) (fun g _ e => .inr e)) (fun _ _ e => e) (fun _ _ e => e), t4, rfl, rfl, rfl, rfl, rfl⟩⟩
  · cases y with
    | codes => rw [updD_same, ← hy]; simp [dR, intsV]
    | _ => rw [updD_other _ _ (by simp)]; exact hy
  · have h1 := heap_setCell_same w3 o 0 _ _ v3 b3
    simpa using h1
theorem Rmov.pushIns (m : Rmov W o n s cds h) {x : Nat} {wa w3 : World} {v3 : Value} (ha : Stil W wa)
    (hs : Seg w3 (fun g => (h.iv.ownBlock = some g ∧ h.t g = some .ins) ∨ g = wa.heap.size) 3 1 v3 (s.ins.length + 1) (natsL s.ins ++ [.int .i64 (x : Int)])) (hg : wa.grownBy w3 h.iv.ownBlock) :
    w3.cell? ⟨o, 4, none⟩ = some h.iv ∧ w3.frozen? ⟨o, 4, none⟩ = false ∧ ∃ t3, Rmov (w3.setCell ⟨o, 4, none⟩ v3) o n ⟨s.pr, s.ins ++ [x]⟩ cds ⟨h.A, h.T, h.C, h.K, h.M, h.cv, v3, t3⟩ ∧ RStp o W h (w3.setCell ⟨o, 4, none⟩ v3) ⟨h.A, h.T, h.C, h.K, h.M, h.cv, v3, t3⟩ := by
  obtain ⟨t3, P3, S3⟩ := m.pool.app (τ := .ins) (s := ⟨3, 1, h.iv, s.ins.length, natsL s.ins⟩) rfl (m := 1) (news := [.int .i64 (x : Int)]) ha hs hg
  have b3 := S3.block m.tob m.blk
  have t4 : ∀ g, g < W.heap.size → t3 g = h.t g := S3.tags
  have hk : Keep (fun g => g = o) w3 (w3.setCell ⟨o, 4, none⟩ v3) := (Keep.refl _ w3).setCell _ _ _ (fun _ => rfl)
  have t3o : t3 o = none := (t4 _ (Array.getElem?_eq_some_iff.1 m.blk).1).trans m.tob
  refine ⟨by rw [cell_of_row w3 _ _ _ _ _ b3]; rfl, frozen_of_row w3 _ _ _ _ b3, t3, ⟨(P3.keep hk (fun g _ e => by rw [e]; exact t3o)).congr (fun y q hy => ?_), t3o, ?_⟩,
    ⟨(S3.keep.mono (fun g _ e => .inl e)).trans (hk.mono (q := fun g => h.t g ≠ none ∨ g = o) (fun g _ e => .inr e)) (fun _ _ e => e) (fun _ _ e => e), t4, rfl, rfl, rfl, rfl, rfl⟩⟩
  · cases y with
    | ins => rw [updD_same, ← hy]; simp [dR, natsL]
    | _ => rw [updD_other _ _ (by simp)]; exact hy
  · have h1 := heap_setCell_same w3 o 4 _ _ v3 b3
    simpa using h1
theorem r_close {wr wF W : World} {r : Nat} {B : Obj} {hF : RSh} {s' : BS} {cds' : List Int} (M : Rmov wF o n s' cds' hF) (S : RStp o wr h wF hF) (hT : ∀ g, h.t g ≠ none → r < g) (hR : wr.heap[r]? = some B) (hK : Stil W wr) (hr : W.heap.size = r) (ho : r < o) :
    wF.heap[r]? = some B ∧ Stil W wF ∧ ∀ g, hF.t g ≠ none → r < g := by
  have hrl := (Array.getElem?_eq_some_iff.1 hR).1
  refine ⟨(S.keep.block r hrl (fun e => ?_)).trans hR, hK.trans S.keep (fun _ _ e => e) (fun g hg e => ?_), fun g hg => ?_⟩
  · rcases e with e | e
    · have := hT r e; omega
    · omega
  · rcases e with e | e
    · have := hT g e; omega
    · omega
  · by_cases e : g < wr.heap.size
    · rw [S.tags g e] at hg; exact hT g hg
    · omega
/-- How it begins, from the blocks. -/
theorem rmov_start {w : World} {A T C K M o : Nat} (n : Nat) (hn : n ≤ 4) (hA : w.heap[A]? = some (.cells (rowN n fun _ => 0).toArray 3 (0, 0))) (hT : w.heap[T]? = some (.cells (rowN n fun _ => 0).toArray 3 (0, 0))) (hC : w.heap[C]? = some (.cells (rowBo n fun _ => false).toArray 4 (0, 0)))
    (hK : w.heap[K]? = some (.cells (rowN n fun _ => 0).toArray 3 (0, 0))) (hM : w.heap[M]? = some (.cells (rowN n fun _ => 0).toArray 3 (0, 0)))
    (ho : w.heap[o]? = some (.cells #[.slice none 0 0, .slice (some ⟨A, 0, none⟩) n n, .slice (some ⟨T, 0, none⟩) n n, .slice (some ⟨C, 0, none⟩) n n, .slice none 0 0] 26 (0, 0)))
    (d1 : A ≠ T) (d2 : A ≠ C) (d3 : T ≠ C) (d4 : K ≠ A) (d5 : K ≠ T) (d6 : K ≠ C) (d7 : M ≠ A) (d8 : M ≠ T) (d9 : M ≠ C) (d10 : M ≠ K) (e1 : o ≠ A) (e2 : o ≠ T) (e3 : o ≠ C) (e4 : o ≠ K) (e5 : o ≠ M) :
    Rmov w o n bs0 [] ⟨A, T, C, K, M, .slice none 0 0, .slice none 0 0, fun g => if g = A then some .at else if g = T then some .tk else if g = C then some .ch else if g = K then some .k else if g = M then some .m else none⟩ := by
  have sg : ∀ (g : Nat) (e : TypeId) (xs : List Value) (tg : RTag), xs.length = n → w.heap[g]? = some (.cells xs.toArray e (0, 0)) → (if g = A then some RTag.at else if g = T then some .tk else if g = C then some .ch else if g = K then some .k else if g = M then some .m else none) = some tg →
      Seg w (fun g => (if g = A then some RTag.at else if g = T then some .tk else if g = C then some .ch else if g = K then some .k else if g = M then some .m else none) = some tg) e 1 (.slice (some ⟨g, 0, none⟩) n n) n xs := fun g e xs tg hl hg ht =>
    ⟨by omega, .inr ⟨g, 0, n, xs.toArray, rfl, ht, hg, Nat.le_refl _, by unfold maxLen; omega, by simp [hl], fun j x hx => by simpa using hx⟩⟩
  refine ⟨⟨fun g hg => ?_, fun τ q hq => ?_⟩, ?_, ho⟩
  · have l1 := (Array.getElem?_eq_some_iff.1 hA).1
    have l2 := (Array.getElem?_eq_some_iff.1 hT).1
    have l3 := (Array.getElem?_eq_some_iff.1 hC).1
    have l4 := (Array.getElem?_eq_some_iff.1 hK).1
    have l5 := (Array.getElem?_eq_some_iff.1 hM).1
    show (if g = A then some RTag.at else if g = T then some .tk else if g = C then some .ch else if g = K then some .k else if g = M then some .m else none) = none
    rw [if_neg (by omega), if_neg (by omega), if_neg (by omega), if_neg (by omega), if_neg (by omega)]
  · cases τ with
    | «at» => cases hq; exact sg A 3 (rowN n fun _ => 0) .at (rowN_len _ _) hA (if_pos rfl)
    | tk => cases hq; exact sg T 3 (rowN n fun _ => 0) .tk (rowN_len _ _) hT (by rw [if_neg (fun e => d1 e.symm), if_pos rfl])
    | ch => cases hq; exact sg C 4 (rowBo n fun _ => false) .ch (rowBo_len _ _) hC (by rw [if_neg (fun e => d2 e.symm), if_neg (fun e => d3 e.symm), if_pos rfl])
    | k => cases hq; exact sg K 3 (rowN n fun _ => 0) .k (rowN_len _ _) hK (by rw [if_neg d4, if_neg d5, if_neg d6, if_pos rfl])
    | m => cases hq; exact sg M 3 (rowN n fun _ => 0) .m (rowN_len _ _) hM (by rw [if_neg d7, if_neg d8, if_neg d9, if_neg d10, if_pos rfl])
    | codes => cases hq; exact Seg.nil _ _ _ _
    | ins => cases hq; exact Seg.nil _ _ _ _
  · show (if o = A then some RTag.at else if o = T then some .tk else if o = C then some .ch else if o = K then some .k else if o = M then some .m else none) = none
    rw [if_neg e1, if_neg e2, if_neg e3, if_neg e4, if_neg e5]
theorem rMakeInts (m : Nat) (hm : m ≤ 200) (W : World) : (Instr.makeSlice 22 (.int .i64 (m : Int)) (.int .i64 (m : Int))).run Try.prog W = .ok (.slice (some ⟨W.heap.size, 0, none⟩) m m) (W.alloc (.cells (rowN m fun _ => 0).toArray 3)) := by
  obtain ⟨i0, hi, hz0, hz1, hz2⟩ := info_parts cInfoInt
  have h := run_makeSlice (P := Try.prog) W 22 3 i0 _ Try.underlying22 hi hz0 .i64 .i64 (m : Int) (m : Int) (by omega) (Int.le_refl _) (by rw [hz1]; simp; omega) (by rw [hz2]; omega) (by omega)
  rw [hz1] at h
  have e : madeCells #[Value.int .i64 0] m = (rowN m fun _ => 0).toArray := by
    simp only [madeCells, rowN]
    apply Array.ext_getElem?
    intro k
    by_cases h : k < m
    · simp [h, Nat.mod_one]
    · simp [h]
  rw [← e]
  simpa [Value.cells] using h
theorem rMakeBools (m : Nat) (hm : m ≤ 200) (W : World) : (Instr.makeSlice 24 (.int .i64 (m : Int)) (.int .i64 (m : Int))).run Try.prog W = .ok (.slice (some ⟨W.heap.size, 0, none⟩) m m) (W.alloc (.cells (rowBo m fun _ => false).toArray 4)) := by
  obtain ⟨i0, hi, hz0, hz1, hz2⟩ := info_parts cInfoBool
  have h := run_makeSlice (P := Try.prog) W 24 4 i0 _ Try.underlying24 hi hz0 .i64 .i64 (m : Int) (m : Int) (by omega) (Int.le_refl _) (by rw [hz1]; simp; omega) (by rw [hz2]; omega) (by omega)
  rw [hz1] at h
  have e : madeCells #[Value.bool false] m = (rowBo m fun _ => false).toArray := by
    simp only [madeCells, rowBo]
    apply Array.ext_getElem?
    intro k
    by_cases h : k < m
    · simp [h, Nat.mod_one]
    · simp [h]
  rw [← e]
  simpa [Value.cells] using h
end Go.Proofs.Ytgnigjfgddhgiaa
