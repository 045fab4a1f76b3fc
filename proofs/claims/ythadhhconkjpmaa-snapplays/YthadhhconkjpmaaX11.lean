/- The document's Snap: how it begins. -/
import Derived.Test.YthadhhconkjpmaaX10
namespace Go.Proofs.Ythadhhconkjpmaa
open Go.RowKit Go.WideMaps
set_option linter.unusedVariables false

def nlS : Value := .slice none 0 0
def zLn : Array Value := #[nlS, .int .i64 0, .int .i64 0]
/-- The document's Snap while its first loop goes: a moneys and b owns are laid. -/
structure RIni (W : World) (ob lb n a b : Nat) (m : Nat → Int) (mv ov : Value) (t : Nat → Tag) : Prop where
  fresh : ∀ g, W.heap.size ≤ g → t g = .no
  tob : t ob = .mb
  blk : W.heap[ob]? = some (.cells #[nlS, mv, ov, nlS, .bool false] 27 (0, 0))
  mon : Seg W (fun g => t g = .money) 3 1 mv a (rowF a m)
  own : Seg W (fun g => t g = .own) 3 1 ov b (rowF b fun _ => -1)
  tl : t lb = .map
  lin : W.heap[lb]? = some (.cells (lnRow n (fun _ _ => nlS) fun _ _ => ⟨[], 0, 0⟩).toArray 49 (0, 0))
variable {W : World} {ob lb n a b : Nat} {m : Nat → Int} {mv ov : Value} {t : Nat → Tag}
theorem RIni.keep {W2 : World} {o : Nat → Prop} (x : RIni W ob lb n a b m mv ov t) (hw : Keep o W W2) (ho : ∀ g, g < W.heap.size → o g → t g = .no) : RIni W2 ob lb n a b m mv ov t := by
  have hob := (Array.getElem?_eq_some_iff.1 x.blk).1
  have hlb := (Array.getElem?_eq_some_iff.1 x.lin).1
  have no : ∀ {y : Tag} g, g < W.heap.size → t g = y → y ≠ .no → ¬ o g := fun {y} g hg e hx ho2 => hx (e ▸ ho g hg ho2)
  exact ⟨fun g hg => x.fresh g (Nat.le_trans hw.size hg), x.tob, (hw.block ob hob (no ob hob x.tob (by simp))).trans x.blk, x.mon.keep hw (fun g hg e => no g hg e (by simp)), x.own.keep hw (fun g hg e => no g hg e (by simp)), x.tl,
    (hw.block lb hlb (no lb hlb x.tl (by simp))).trans x.lin⟩
theorem RIni.alloc (x : RIni W ob lb n a b m mv ov t) (o : Obj) : RIni (W.alloc o) ob lb n a b m mv ov t := x.keep ((Keep.refl (fun _ => False) W).alloc o) (fun _ _ e => e.elim)
theorem RIni.cells (x : RIni W ob lb n a b m mv ov t) : W.cell? ⟨ob, 1, none⟩ = some mv ∧ W.cell? ⟨ob, 2, none⟩ = some ov ∧ ∀ k, W.frozen? ⟨ob, k, none⟩ = false := by
  refine ⟨?_, ?_, fun k => frozen_of_row W ob k _ _ x.blk⟩ <;> rw [cell_of_row W ob _ _ _ _ x.blk] <;> rfl
theorem RIni.pushM (x : RIni W ob lb n a b m mv ov t) {w3 : World} {v : Value} (hk : Keep (fun g => t g = .money) W w3)
    (hs : Seg w3 (fun g => (g < W.heap.size ∧ t g = .money) ∨ W.heap.size ≤ g) 3 1 v (a + 1) (rowF (a + 1) m)) :
    RIni (w3.setCell ⟨ob, 1, none⟩ v) ob lb n (a + 1) b m v ov (fun g => if v.ownBlock = some g then .money else t g) ∧ Keep (fun g => t g ≠ .no) W (w3.setCell ⟨ob, 1, none⟩ v) ∧ ∀ g, g < W.heap.size → (if v.ownBlock = some g then Tag.money else t g) = t g := by
  have hob := (Array.getElem?_eq_some_iff.1 x.blk).1
  have hlb := (Array.getElem?_eq_some_iff.1 x.lin).1
  have old : ∀ g, g < W.heap.size → (if v.ownBlock = some g then Tag.money else t g) = t g := fun g hg => by
    split
    · rename_i e
      rcases (hs.block e).1 with e2 | e2
      · exact e2.2.symm
      · omega
    · rfl
  have hk2 : Keep (fun g => t g = .money ∨ g = ob) W (w3.setCell ⟨ob, 1, none⟩ v) := (hk.mono (q := fun g => t g = .money ∨ g = ob) (fun _ _ e => .inl e)).setCell ob _ _ (fun _ => .inr rfl)
  have no : ∀ {z : Tag} (g : Nat), t g = z → z ≠ .money → z ≠ .mb → ¬ (t g = .money ∨ g = ob) := by
    intro z g e h1 h2 h3
    rcases h3 with h3 | h3
    · exact h1 (e.symm.trans h3)
    · subst h3; exact h2 (e.symm.trans x.tob)
  have blk3 := (hk.block ob hob (fun e => by rw [x.tob] at e; cases e)).trans x.blk
  refine ⟨⟨fun g hg => ?_, (old ob hob).trans x.tob, ?_, ?_, ?_, (old lb hlb).trans x.tl, (hk2.block lb hlb (no lb x.tl (by simp) (by simp))).trans x.lin⟩, hk2.mono (fun g _ e => ?_), old⟩
  · have hsz : (w3.setCell ⟨ob, 1, none⟩ v).heap.size = w3.heap.size := by simp [World.setCell]
    rw [hsz] at hg
    show (if v.ownBlock = some g then Tag.money else t g) = .no
    rw [if_neg (fun e => by have := (hs.block e).2; omega)]
    exact x.fresh g (Nat.le_trans hk.size hg)
  · rw [heap_setCell_same w3 ob _ _ _ _ blk3]
    rfl
  · have h1 := hs.keep ((Keep.refl (fun g => g = ob) w3).setCell ob 1 v (fun _ => rfl)) (fun g _ e1 e2 => by
      subst e2
      rcases e1 with e1 | e1
      · rw [x.tob] at e1; cases e1.2
      · omega)
    obtain ⟨h3, h4 | ⟨g, off, cap, cur, h4, h5, h6⟩⟩ := h1
    · exact ⟨h3, .inl h4⟩
    · refine ⟨h3, .inr ⟨g, off, cap, cur, h4, ?_, h6⟩⟩
      show (if v.ownBlock = some g then Tag.money else t g) = .money
      rw [if_pos (by rw [h4]; rfl)]
  · exact ((x.own.mono (ok2 := fun g => g < W.heap.size ∧ t g = .own) (fun g hg e => ⟨hg, e⟩)).keep hk2 (fun g _ e => no g e.2 (by simp) (by simp))).mono (fun g _ e => (old g e.1).trans e.2)
  · rcases e with e | e
    · rw [e]; simp
    · subst e; rw [x.tob]; simp
theorem RIni.pushO (x : RIni W ob lb n a b m mv ov t) {w3 : World} {v : Value} (hk : Keep (fun g => t g = .own) W w3)
    (hs : Seg w3 (fun g => (g < W.heap.size ∧ t g = .own) ∨ W.heap.size ≤ g) 3 1 v (b + 1) (rowF (b + 1) fun _ => -1)) :
    RIni (w3.setCell ⟨ob, 2, none⟩ v) ob lb n a (b + 1) m mv v (fun g => if v.ownBlock = some g then .own else t g) ∧ Keep (fun g => t g ≠ .no) W (w3.setCell ⟨ob, 2, none⟩ v) ∧ ∀ g, g < W.heap.size → (if v.ownBlock = some g then Tag.own else t g) = t g := by
  have hob := (Array.getElem?_eq_some_iff.1 x.blk).1
  have hlb := (Array.getElem?_eq_some_iff.1 x.lin).1
  have old : ∀ g, g < W.heap.size → (if v.ownBlock = some g then Tag.own else t g) = t g := fun g hg => by
    split
    · rename_i e
      rcases (hs.block e).1 with e2 | e2
      · exact e2.2.symm
      · omega
    · rfl
  have hk2 : Keep (fun g => t g = .own ∨ g = ob) W (w3.setCell ⟨ob, 2, none⟩ v) := (hk.mono (q := fun g => t g = .own ∨ g = ob) (fun _ _ e => .inl e)).setCell ob _ _ (fun _ => .inr rfl)
  have no : ∀ {z : Tag} (g : Nat), t g = z → z ≠ .own → z ≠ .mb → ¬ (t g = .own ∨ g = ob) := by
    intro z g e h1 h2 h3
    rcases h3 with h3 | h3
    · exact h1 (e.symm.trans h3)
    · subst h3; exact h2 (e.symm.trans x.tob)
  have blk3 := (hk.block ob hob (fun e => by rw [x.tob] at e; cases e)).trans x.blk
  refine ⟨⟨fun g hg => ?_, (old ob hob).trans x.tob, ?_, ?_, ?_, (old lb hlb).trans x.tl, (hk2.block lb hlb (no lb x.tl (by simp) (by simp))).trans x.lin⟩, hk2.mono (fun g _ e => ?_), old⟩
  · have hsz : (w3.setCell ⟨ob, 2, none⟩ v).heap.size = w3.heap.size := by simp [World.setCell]
    rw [hsz] at hg
    show (if v.ownBlock = some g then Tag.own else t g) = .no
    rw [if_neg (fun e => by have := (hs.block e).2; omega)]
    exact x.fresh g (Nat.le_trans hk.size hg)
  · rw [heap_setCell_same w3 ob _ _ _ _ blk3]
    rfl
  · exact ((x.mon.mono (ok2 := fun g => g < W.heap.size ∧ t g = .money) (fun g hg e => ⟨hg, e⟩)).keep hk2 (fun g _ e => no g e.2 (by simp) (by simp))).mono (fun g _ e => (old g e.1).trans e.2)
  · have h1 := hs.keep ((Keep.refl (fun g => g = ob) w3).setCell ob 2 v (fun _ => rfl)) (fun g _ e1 e2 => by
      subst e2
      rcases e1 with e1 | e1
      · rw [x.tob] at e1; cases e1.2
      · omega)
    obtain ⟨h3, h4 | ⟨g, off, cap, cur, h4, h5, h6⟩⟩ := h1
    · exact ⟨h3, .inl h4⟩
    · refine ⟨h3, .inr ⟨g, off, cap, cur, h4, ?_, h6⟩⟩
      show (if v.ownBlock = some g then Tag.own else t g) = .own
      rw [if_pos (by rw [h4]; rfl)]
  · rcases e with e | e
    · rw [e]; simp
    · subst e; rw [x.tob]; simp
/-- All moneys and owns are laid. -/
theorem RIni.done (x : RIni W ob lb n n n m mv ov t) : RMov W ob lb n (rf0 m) ⟨nlS, mv, ov, nlS, .bool false, t, fun _ _ => nlS⟩ :=
  ⟨x.fresh, x.tob, x.blk, x.mon, x.own, x.tl, x.lin, fun i j _ _ => ⟨by simp [rf0, intsL], .inl ⟨rfl, rfl⟩⟩⟩
theorem rowF_succ (k : Nat) (f : Nat → Int) : rowF (k + 1) f = rowF k f ++ [.int .i64 (f k)] := by simp [rowF, List.range_succ]
end Go.Proofs.Ythadhhconkjpmaa
