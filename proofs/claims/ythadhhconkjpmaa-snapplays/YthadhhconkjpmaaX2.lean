/- The document's lines: what is sent on one; what each has; note. -/
import Derived.Test.YthadhhconkjpmaaX1
namespace Go.Proofs.Ythadhhconkjpmaa
open Go.RowKit Go.WideMaps
set_option linter.unusedVariables false

variable {W W2 : World} {ob lb n : Nat} {r : Rf} {h h2 : RSh}
def pushT (h : RSh) (i j : Nat) (v : Value) : RSh := ⟨h.cv, h.mv, h.ov, h.bv, h.dv, fun g => if v.ownBlock = some g then .th i j else h.t g, upd2 h.f i j v⟩
/-- One thing more is sent on a line. -/
theorem RMov.push (m : RMov W ob lb n r h) {i j : Nat} (hi : i < n) (hj : j < n) (x : Int) {w3 : World} {v : Value} (hk : Keep (fun g => h.t g = .th i j) W w3)
    (hs : Seg w3 (fun g => (g < W.heap.size ∧ h.t g = .th i j) ∨ W.heap.size ≤ g) 3 1 v ((r.lines i j).sent.length + 1) (intsL ((r.lines i j).sent ++ [x]))) :
    RMov (w3.setCell ⟨lb, (i * n + j) * 3, none⟩ v) ob lb n ⟨r.money, r.own, upd2 r.lines i j ⟨(r.lines i j).sent ++ [x], (r.lines i j).come, (r.lines i j).ntd⟩⟩ (pushT h i j v) ∧ RStep W h (w3.setCell ⟨lb, (i * n + j) * 3, none⟩ v) (pushT h i j v) := by
  have hob := (Array.getElem?_eq_some_iff.1 m.blk).1
  have hlb := (Array.getElem?_eq_some_iff.1 m.lin).1
  have old : ∀ g, g < W.heap.size → (pushT h i j v).t g = h.t g := fun g hg => by
    show (if v.ownBlock = some g then Tag.th i j else h.t g) = h.t g
    split
    · rename_i e
      rcases (hs.block e).1 with e2 | e2
      · exact e2.2.symm
      · omega
    · rfl
  have hk2 : Keep (fun g => h.t g = .th i j ∨ g = lb) W (w3.setCell ⟨lb, (i * n + j) * 3, none⟩ v) := (hk.mono (q := fun g => h.t g = .th i j ∨ g = lb) (fun _ _ e => .inl e)).setCell lb _ _ (fun _ => .inr rfl)
  have no : ∀ {z : Tag} (g : Nat), h.t g = z → z ≠ .th i j → z ≠ .map → ¬ (h.t g = .th i j ∨ g = lb) := by
    intro z g e h1 h2 h3
    rcases h3 with h3 | h3
    · exact h1 (e.symm.trans h3)
    · subst h3; exact h2 (e.symm.trans m.tl)
  have lin3 : w3.heap[lb]? = some (.cells (lnRow n h.f r.lines).toArray 49 (0, 0)) := (hk.block lb hlb (fun e => by rw [m.tl] at e; cases e)).trans m.lin
  refine ⟨⟨fun g hg => ?_, (old ob hob).trans m.tob, (hk2.block ob hob (no ob m.tob (by simp) (by simp))).trans m.blk, ?_, ?_, (old lb hlb).trans m.tl, ?_, fun a b ha hb => ?_⟩, ⟨hk2.mono (fun g _ e => ?_), old, rfl, rfl, rfl⟩⟩
  · have hsz : (w3.setCell ⟨lb, (i * n + j) * 3, none⟩ v).heap.size = w3.heap.size := by simp [World.setCell]
    rw [hsz] at hg
    show (if v.ownBlock = some g then Tag.th i j else h.t g) = .no
    rw [if_neg (fun e => by have := (hs.block e).2; omega)]
    exact m.fresh g (Nat.le_trans hk.size hg)
  · exact ((m.mon.mono (ok2 := fun g => g < W.heap.size ∧ h.t g = .money) (fun g hg e => ⟨hg, e⟩)).keep hk2 (fun g _ e => no g e.2 (by simp) (by simp))).mono (fun g _ e => (old g e.1).trans e.2)
  · exact ((m.own.mono (ok2 := fun g => g < W.heap.size ∧ h.t g = .own) (fun g hg e => ⟨hg, e⟩)).keep hk2 (fun g _ e => no g e.2 (by simp) (by simp))).mono (fun g _ e => (old g e.1).trans e.2)
  · rw [heap_setCell_same w3 lb _ _ _ _ lin3]
    congr 2
    have := lnRow_set (f := h.f) (f' := upd2 h.f i j v) (L := r.lines) (L' := upd2 r.lines i j ⟨(r.lines i j).sent ++ [x], (r.lines i j).come, (r.lines i j).ntd⟩) (c := 0) (v := v) hi hj (by omega)
      (fun a b e => by rw [upd2_other _ _ e, upd2_other _ _ e]; exact ⟨rfl, rfl, rfl⟩) (by rw [upd2_same, if_pos rfl]) (by rw [upd2_same]; rfl) (by rw [upd2_same]; rfl)
    rw [Nat.add_zero] at this
    show _ = (lnRow n (upd2 h.f i j v) _).toArray
    rw [← this]
    simp
  · show Seg _ (fun g => (pushT h i j v).t g = .th a b) _ 1 (upd2 h.f i j v a b) (upd2 r.lines i j _ a b).sent.length (intsL (upd2 r.lines i j _ a b).sent)
    by_cases e : a = i ∧ b = j
    · obtain ⟨rfl, rfl⟩ := e
      rw [upd2_same, upd2_same]
      have h1 := hs.keep ((Keep.refl (fun g => g = lb) w3).setCell lb ((a * n + b) * 3) v (fun _ => rfl)) (fun g _ e1 e2 => by
        subst e2
        rcases e1 with e1 | e1
        · rw [m.tl] at e1; cases e1.2
        · omega)
      obtain ⟨h3, h4 | ⟨g, off, cap, cur, h4, h5, h6⟩⟩ := h1
      · exact ⟨by simpa using h3, .inl ⟨h4.1, by have := h4.2; omega⟩⟩
      · refine ⟨by simpa using h3, .inr ⟨g, off, cap, cur, by simpa using h4, ?_, by simpa using h6⟩⟩
        show (if v.ownBlock = some g then Tag.th a b else h.t g) = .th a b
        rw [if_pos (by rw [h4]; rfl)]
    · rw [upd2_other _ _ e, upd2_other _ _ e]
      have e2 : Tag.th a b ≠ Tag.th i j := fun e3 => e (by simpa using e3)
      exact (((m.st a b ha hb).mono (ok2 := fun g => g < W.heap.size ∧ h.t g = .th a b) (fun g hg e => ⟨hg, e⟩)).keep hk2 (fun g _ e => no g e.2 e2 (by simp))).mono (fun g _ e => (old g e.1).trans e.2)
  · rcases e with e | e
    · rw [e]; simp
    · subst e; rw [m.tl]; simp
theorem RMov.congr {r2 : Rf} (m : RMov W ob lb n r h) (h1 : ∀ i, i < n → r2.money i = r.money i) (h2 : ∀ i, i < n → r2.own i = r.own i) (h3 : ∀ i j, i < n → j < n → r2.lines i j = r.lines i j) : RMov W ob lb n r2 h := by
  have e1 : rowF n r2.money = rowF n r.money := List.map_congr_left fun i hi => by rw [h1 i (List.mem_range.1 hi)]
  have e2 : rowF n r2.own = rowF n r.own := List.map_congr_left fun i hi => by rw [h2 i (List.mem_range.1 hi)]
  have e3 : lnRow n h.f r2.lines = lnRow n h.f r.lines := List.map_congr_left fun q hq => by
    have hq2 := List.mem_range.1 hq
    have hn : 0 < n := by
      rcases Nat.eq_zero_or_pos n with e | e
      · subst e; simp at hq2
      · exact e
    obtain ⟨b1, b2, _⟩ := ln_back hn (show q / 3 < n * n by omega)
    unfold lnCell
    rw [h3 _ _ b1 b2]
  exact ⟨m.fresh, m.tob, m.blk, by rw [e1]; exact m.mon, by rw [e2]; exact m.own, m.tl, by rw [e3]; exact m.lin, fun i j hi hj => by rw [h3 i j hi hj]; exact m.st i j hi hj⟩
theorem RMov.setCell {g k : Nat} {x : Value} (m : RMov W ob lb n r h) {mo ow : Nat → Int} (htag : h.t g = .money ∨ h.t g = .own)
    (h1 : Seg (W.setCell ⟨g, k, none⟩ x) (fun g => h.t g = .money) 3 1 h.mv n (rowF n mo)) (h2 : Seg (W.setCell ⟨g, k, none⟩ x) (fun g => h.t g = .own) 3 1 h.ov n (rowF n ow)) :
    RMov (W.setCell ⟨g, k, none⟩ x) ob lb n ⟨mo, ow, r.lines⟩ h := by
  have hk : Keep (fun q => q = g) W (W.setCell ⟨g, k, none⟩ x) := (Keep.refl _ W).setCell g k x (fun _ => rfl)
  have hob := (Array.getElem?_eq_some_iff.1 m.blk).1
  have hlb := (Array.getElem?_eq_some_iff.1 m.lin).1
  have no : ∀ {z : Tag} q, h.t q = z → z ≠ .money → z ≠ .own → ¬ (q = g) := fun {z} q e h3 h4 e2 => by
    subst e2
    rcases htag with h5 | h5
    · exact h3 (e.symm.trans h5)
    · exact h4 (e.symm.trans h5)
  exact ⟨fun g hg => m.fresh g (Nat.le_trans hk.size hg), m.tob, (hk.block ob hob (no ob m.tob (by simp) (by simp))).trans m.blk, h1, h2, m.tl, (hk.block lb hlb (no lb m.tl (by simp) (by simp))).trans m.lin,
    fun i j hi hj => (m.st i j hi hj).keep hk (fun q _ e => no q e (by simp) (by simp))⟩
theorem RMov.own_at (m : RMov W ob lb n r h) (hn : 0 < n) : ∃ g off cap, h.ov = .slice (some ⟨g, off, none⟩) n cap ∧ n ≤ cap ∧ h.t g = .own ∧ (∀ i, i < n → W.cell? ⟨g, off + i, none⟩ = some (.int .i64 (r.own i))) ∧ (∀ j, W.frozen? ⟨g, j, none⟩ = false) ∧
    (∀ i x, i < n → RMov (W.setCell ⟨g, off + i, none⟩ (.int .i64 x)) ob lb n ⟨r.money, upd1 r.own i x, r.lines⟩ h) := by
  obtain ⟨g, off, cap, e, h1, h2, h3, h4, h5, h6, h7⟩ := m.own.at hn
  refine ⟨g, off, cap, e, h3, h1, fun i hi => h5 i _ (rowF_at _ hi), h6, fun i x hi => ?_⟩
  have h8 := h7 i (.int .i64 x) (by omega)
  rw [rowF_set] at h8
  exact m.setCell (.inr h1) (m.mon.keep ((Keep.refl (fun q => q = g) W).setCell g _ _ (fun _ => rfl)) (fun q _ e1 e2 => by subst e2; rw [h1] at e1; cases e1)) h8
theorem RMov.mon_at (m : RMov W ob lb n r h) (hn : 0 < n) : ∃ g off cap, h.mv = .slice (some ⟨g, off, none⟩) n cap ∧ n ≤ cap ∧ h.t g = .money ∧ (∀ i, i < n → W.cell? ⟨g, off + i, none⟩ = some (.int .i64 (r.money i))) ∧ (∀ j, W.frozen? ⟨g, j, none⟩ = false) ∧
    (∀ i x, i < n → RMov (W.setCell ⟨g, off + i, none⟩ (.int .i64 x)) ob lb n ⟨upd1 r.money i x, r.own, r.lines⟩ h) := by
  obtain ⟨g, off, cap, e, h1, h2, h3, h4, h5, h6, h7⟩ := m.mon.at hn
  refine ⟨g, off, cap, e, h3, h1, fun i hi => h5 i _ (rowF_at _ hi), h6, fun i x hi => ?_⟩
  have h8 := h7 i (.int .i64 x) (by omega)
  rw [rowF_set] at h8
  exact m.setCell (.inl h1) h8 (m.own.keep ((Keep.refl (fun q => q = g) W).setCell g _ _ (fun _ => rfl)) (fun q _ e1 e2 => by subst e2; rw [h1] at e1; cases e1))
/-- So far: what note has done to a line behind k rounds. -/
def nLn (i k a b : Nat) (l : Ln) : Ln := ⟨if a = i ∧ b ≠ i ∧ b < k then l.sent ++ [-1] else l.sent, l.come, if b = i ∧ a < k then l.come else l.ntd⟩
theorem nLn_zero (i a b : Nat) (l : Ln) : nLn i 0 a b l = l := by unfold nLn; simp
theorem nLn_all {i a b k : Nat} (ha : a < k) (hb : b < k) (l : Ln) : nLn i k a b l = noteLn i a b l := by unfold nLn noteLn; simp [ha, hb]
theorem nLn_come (i k a b : Nat) (l : Ln) : (nLn i k a b l).come = l.come := rfl
end Go.Proofs.Ythadhhconkjpmaa
