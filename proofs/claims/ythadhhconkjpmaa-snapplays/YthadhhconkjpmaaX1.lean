/- The document's lines in memory. -/
import Derived.Test.YthadhhconkjpmaaT6
import Derived.Test.YthadhhconkjpmaaU6
namespace Go.Proofs.Ythadhhconkjpmaa
open Go.RowKit Go.WideMaps
set_option linter.unusedVariables false

def lnCell (n : Nat) (f : Nat → Nat → Value) (L : Nat → Nat → Ln) (q : Nat) : Value :=
  if q % 3 = 0 then f (q / 3 / n) (q / 3 % n) else if q % 3 = 1 then .int .i64 ((L (q / 3 / n) (q / 3 % n)).come : Int) else .int .i64 ((L (q / 3 / n) (q / 3 % n)).ntd : Int)
def lnRow (n : Nat) (f : Nat → Nat → Value) (L : Nat → Nat → Ln) : List Value := (List.range (n * n * 3)).map (lnCell n f L)
theorem lnRow_len (n : Nat) (f : Nat → Nat → Value) (L : Nat → Nat → Ln) : (lnRow n f L).length = n * n * 3 := by simp [lnRow]
theorem lnRow_get {n : Nat} {f : Nat → Nat → Value} {L : Nat → Nat → Ln} {q : Nat} (h : q < n * n * 3) : (lnRow n f L)[q]? = some (lnCell n f L q) := by simp [lnRow, h]
theorem ln_div {n i j : Nat} (hj : j < n) : (i * n + j) / n = i ∧ (i * n + j) % n = j := by
  have hn : 0 < n := by omega
  constructor
  · rw [Nat.mul_comm, Nat.mul_add_div hn, Nat.div_eq_of_lt hj]; rfl
  · rw [Nat.mul_comm, Nat.mul_add_mod, Nat.mod_eq_of_lt hj]
theorem ln_lt {n i j : Nat} (hi : i < n) (hj : j < n) : i * n + j < n * n := by
  have : (i + 1) * n ≤ n * n := Nat.mul_le_mul_right n hi
  rw [Nat.add_mul] at this
  omega
theorem ln_back {n q : Nat} (hn : 0 < n) (h : q < n * n) : q / n < n ∧ q % n < n ∧ q / n * n + q % n = q :=
  ⟨Nat.div_lt_of_lt_mul h, Nat.mod_lt q hn, by rw [Nat.mul_comm]; exact Nat.div_add_mod q n⟩
theorem lnRow_at {n : Nat} {f : Nat → Nat → Value} {L : Nat → Nat → Ln} {i j : Nat} (hi : i < n) (hj : j < n) :
    (lnRow n f L)[(i * n + j) * 3]? = some (f i j) ∧ (lnRow n f L)[(i * n + j) * 3 + 1]? = some (.int .i64 ((L i j).come : Int)) ∧ (lnRow n f L)[(i * n + j) * 3 + 2]? = some (.int .i64 ((L i j).ntd : Int)) := by
  have hl := ln_lt hi hj
  obtain ⟨e1, e2⟩ := ln_div (i := i) hj
  refine ⟨?_, ?_, ?_⟩
  · rw [lnRow_get (by omega)]
    unfold lnCell
    rw [show (i * n + j) * 3 / 3 = i * n + j by omega, show (i * n + j) * 3 % 3 = 0 by omega, if_pos rfl, e1, e2]
  · rw [lnRow_get (by omega)]
    unfold lnCell
    rw [show ((i * n + j) * 3 + 1) / 3 = i * n + j by omega, show ((i * n + j) * 3 + 1) % 3 = 1 by omega, if_neg (by omega), if_pos rfl, e1, e2]
  · rw [lnRow_get (by omega)]
    unfold lnCell
    rw [show ((i * n + j) * 3 + 2) / 3 = i * n + j by omega, show ((i * n + j) * 3 + 2) % 3 = 2 by omega, if_neg (by omega), if_neg (by omega), e1, e2]
/-- One cell of one line is written. -/
theorem lnRow_set {n : Nat} {f f' : Nat → Nat → Value} {L L' : Nat → Nat → Ln} {i j c : Nat} {v : Value} (hi : i < n) (hj : j < n) (hc : c < 3)
    (ho : ∀ a b, ¬ (a = i ∧ b = j) → f' a b = f a b ∧ (L' a b).come = (L a b).come ∧ (L' a b).ntd = (L a b).ntd)
    (h0 : f' i j = if c = 0 then v else f i j) (h1 : Value.int .i64 ((L' i j).come : Int) = if c = 1 then v else .int .i64 ((L i j).come : Int)) (h2 : Value.int .i64 ((L' i j).ntd : Int) = if c = 2 then v else .int .i64 ((L i j).ntd : Int)) :
    (lnRow n f L).set ((i * n + j) * 3 + c) v = lnRow n f' L' := by
  have hl := ln_lt hi hj
  have hn : 0 < n := by omega
  apply List.ext_getElem?
  intro q
  rw [List.getElem?_set]
  by_cases hq : q < n * n * 3
  · rw [lnRow_get (f := f') (L := L') hq]
    have hq3 : q / 3 < n * n := by omega
    obtain ⟨b1, b2, b3⟩ := ln_back hn hq3
    by_cases hp : q / 3 / n = i ∧ q / 3 % n = j
    · have e3 : q / 3 = i * n + j := by rw [← b3, hp.1, hp.2]
      have hm : q % 3 < 3 := Nat.mod_lt _ (by omega)
      by_cases hk : (i * n + j) * 3 + c = q
      · have ec : q % 3 = c := by omega
        rw [if_pos hk, if_pos (by rw [lnRow_len]; omega)]
        unfold lnCell
        rw [hp.1, hp.2, ec]
        congr 1
        by_cases c0 : c = 0
        · rw [if_pos c0, h0, if_pos c0]
        · rw [if_neg c0]
          by_cases c1 : c = 1
          · rw [if_pos c1, h1, if_pos c1]
          · rw [if_neg c1, h2, if_pos (by omega)]
      · have ec : q % 3 ≠ c := by omega
        rw [if_neg hk, lnRow_get hq]
        unfold lnCell
        rw [hp.1, hp.2]
        congr 1
        by_cases c0 : q % 3 = 0
        · rw [if_pos c0, if_pos c0, h0, if_neg (by omega)]
        · rw [if_neg c0, if_neg c0]
          by_cases c1 : q % 3 = 1
          · rw [if_pos c1, if_pos c1, h1, if_neg (by omega)]
          · rw [if_neg c1, if_neg c1, h2, if_neg (by omega)]
    · have hk : ¬ ((i * n + j) * 3 + c = q) := fun e => hp (by
        have : q / 3 = i * n + j := by omega
        rw [this]
        exact ln_div hj)
      rw [if_neg hk, lnRow_get hq]
      unfold lnCell
      obtain ⟨o1, o2, o3⟩ := ho _ _ hp
      rw [o1, o2, o3]
  · rw [List.getElem?_eq_none (l := lnRow n f' L') (by rw [lnRow_len]; omega)]
    rw [if_neg (by omega), List.getElem?_eq_none (by rw [lnRow_len]; omega)]

structure RSh where
  cv : Value
  mv : Value
  ov : Value
  bv : Value
  dv : Value
  t : Nat → Tag
  f : Nat → Nat → Value
/-- How all stands, as the document keeps it, in memory. -/
structure RMov (W : World) (ob lb n : Nat) (r : Rf) (h : RSh) : Prop where
  fresh : ∀ g, W.heap.size ≤ g → h.t g = .no
  tob : h.t ob = .mb
  blk : W.heap[ob]? = some (.cells #[h.cv, h.mv, h.ov, h.bv, h.dv] 27 (0, 0))
  mon : Seg W (fun g => h.t g = .money) 3 1 h.mv n (rowF n r.money)
  own : Seg W (fun g => h.t g = .own) 3 1 h.ov n (rowF n r.own)
  tl : h.t lb = .map
  lin : W.heap[lb]? = some (.cells (lnRow n h.f r.lines).toArray 49 (0, 0))
  st : ∀ i j, i < n → j < n → Seg W (fun g => h.t g = .th i j) 3 1 (h.f i j) (r.lines i j).sent.length (intsL (r.lines i j).sent)
structure RStep (W : World) (h : RSh) (W2 : World) (h2 : RSh) : Prop where
  keep : Keep (fun g => h.t g ≠ .no) W W2
  tags : ∀ g, g < W.heap.size → h2.t g = h.t g
  cv : h2.cv = h.cv
  bv : h2.bv = h.bv
  dv : h2.dv = h.dv
theorem RStep.refl (W : World) (h : RSh) : RStep W h W h := ⟨Keep.refl _ W, fun _ _ => rfl, rfl, rfl, rfl⟩
theorem RStep.trans {A B C : World} {f g h : RSh} (x : RStep A f B g) (y : RStep B g C h) : RStep A f C h :=
  ⟨x.keep.trans y.keep (fun _ _ e => e) (fun i hi e => by rw [x.tags i hi] at e; exact e), fun i hi => (y.tags i (Nat.lt_of_lt_of_le hi x.keep.size)).trans (x.tags i hi), y.cv.trans x.cv, y.bv.trans x.bv, y.dv.trans x.dv⟩
variable {W W2 : World} {ob lb n : Nat} {r : Rf} {h h2 : RSh}
theorem RMov.keep {o : Nat → Prop} (m : RMov W ob lb n r h) (hw : Keep o W W2) (ho : ∀ g, g < W.heap.size → o g → h.t g = .no) : RMov W2 ob lb n r h := by
  have hob := (Array.getElem?_eq_some_iff.1 m.blk).1
  have hlb := (Array.getElem?_eq_some_iff.1 m.lin).1
  have no : ∀ {x : Tag} g, g < W.heap.size → h.t g = x → x ≠ .no → ¬ o g := fun {x} g hg e hx ho2 => hx (e ▸ ho g hg ho2)
  exact ⟨fun g hg => m.fresh g (Nat.le_trans hw.size hg), m.tob, (hw.block ob hob (no ob hob m.tob (by simp))).trans m.blk, m.mon.keep hw (fun g hg e => no g hg e (by simp)), m.own.keep hw (fun g hg e => no g hg e (by simp)), m.tl,
    (hw.block lb hlb (no lb hlb m.tl (by simp))).trans m.lin, fun i j hi hj => (m.st i j hi hj).keep hw (fun g hg e => no g hg e (by simp))⟩
theorem RMov.alloc (m : RMov W ob lb n r h) (o : Obj) : RMov (W.alloc o) ob lb n r h := m.keep ((Keep.refl (fun _ => False) W).alloc o) (fun _ _ e => e.elim)
theorem RMov.drewN (m : RMov W ob lb n r h) (k : Nat) : RMov (W.drewN k) ob lb n r h := m.keep ((Keep.refl (fun _ => False) W).drewN k) (fun _ _ e => e.elim)
theorem RMov.cells (m : RMov W ob lb n r h) : W.cell? ⟨ob, 0, none⟩ = some h.cv ∧ W.cell? ⟨ob, 1, none⟩ = some h.mv ∧ W.cell? ⟨ob, 2, none⟩ = some h.ov := by
  refine ⟨?_, ?_, ?_⟩ <;> rw [cell_of_row W ob _ _ _ _ m.blk] <;> rfl
theorem RMov.line (m : RMov W ob lb n r h) {i j : Nat} (hi : i < n) (hj : j < n) : W.cell? ⟨lb, (i * n + j) * 3, none⟩ = some (h.f i j) ∧ W.cell? ⟨lb, (i * n + j) * 3 + 1, none⟩ = some (.int .i64 ((r.lines i j).come : Int)) ∧
    W.cell? ⟨lb, (i * n + j) * 3 + 2, none⟩ = some (.int .i64 ((r.lines i j).ntd : Int)) ∧ ∀ k, W.frozen? ⟨lb, k, none⟩ = false := by
  obtain ⟨h1, h2, h3⟩ := lnRow_at (n := n) (f := h.f) (L := r.lines) hi hj
  refine ⟨?_, ?_, ?_, fun k => frozen_of_row W lb k _ _ m.lin⟩ <;> rw [cell_of_row W lb _ _ _ _ m.lin] <;> simpa using (by assumption)
/-- A number of a line is written. -/
theorem RMov.setLine (m : RMov W ob lb n r h) {i j c : Nat} (hi : i < n) (hj : j < n) (hc : c = 1 ∨ c = 2) (x : Nat) (l : Ln) (hl : l = if c = 1 then ⟨(r.lines i j).sent, x, (r.lines i j).ntd⟩ else ⟨(r.lines i j).sent, (r.lines i j).come, x⟩) :
    RMov (W.setCell ⟨lb, (i * n + j) * 3 + c, none⟩ (.int .i64 (x : Int))) ob lb n ⟨r.money, r.own, upd2 r.lines i j l⟩ h ∧ RStep W h (W.setCell ⟨lb, (i * n + j) * 3 + c, none⟩ (.int .i64 (x : Int))) h := by
  have hk : Keep (fun q => q = lb) W (W.setCell ⟨lb, (i * n + j) * 3 + c, none⟩ (.int .i64 (x : Int))) := (Keep.refl _ W).setCell lb _ _ (fun _ => rfl)
  have hob := (Array.getElem?_eq_some_iff.1 m.blk).1
  have no : ∀ {z : Tag} q, h.t q = z → z ≠ .map → ¬ (q = lb) := fun {z} q e h3 e2 => by subst e2; exact h3 (e.symm.trans m.tl)
  have hsent : l.sent = (r.lines i j).sent := by rw [hl]; split <;> rfl
  refine ⟨⟨fun g hg => m.fresh g (Nat.le_trans hk.size hg), m.tob, (hk.block ob hob (no ob m.tob (by simp))).trans m.blk, m.mon.keep hk (fun q _ e => no q e (by simp)), m.own.keep hk (fun q _ e => no q e (by simp)), m.tl, ?_, fun a b ha hb => ?_⟩,
    ⟨hk.mono (fun q _ e => by subst e; rw [m.tl]; simp), fun _ _ => rfl, rfl, rfl, rfl⟩⟩
  · rw [heap_setCell_same W lb _ _ _ _ m.lin]
    congr 2
    have := lnRow_set (f := h.f) (f' := h.f) (L := r.lines) (L' := upd2 r.lines i j l) (c := c) (v := .int .i64 (x : Int)) hi hj (by omega) (fun a b e => by rw [upd2_other _ _ e]; exact ⟨rfl, rfl, rfl⟩)
      (by rw [if_neg (by omega)]) (by
        rw [upd2_same, hl]
        rcases hc with rfl | rfl
        · rw [if_pos rfl, if_pos rfl]
        · rw [if_neg (by omega), if_neg (by omega)]) (by
        rw [upd2_same, hl]
        rcases hc with rfl | rfl
        · rw [if_pos rfl, if_neg (by omega)]
        · rw [if_neg (by omega), if_pos rfl])
    rw [← this]
    simp
  · have h1 := (m.st a b ha hb).keep hk (fun q _ e => no q e (by simp))
    show Seg _ _ _ 1 (h.f a b) (upd2 r.lines i j l a b).sent.length (intsL (upd2 r.lines i j l a b).sent)
    by_cases e : a = i ∧ b = j
    · obtain ⟨rfl, rfl⟩ := e; rw [upd2_same, hsent]; exact h1
    · rw [upd2_other _ _ e]; exact h1
end Go.Proofs.Ythadhhconkjpmaa
