/- How all stands, in memory; put. -/
import Derived.Test.YthadhhconkjpmaaT2
import Derived.Test.YthadhhconkjpmaaR3
namespace Go.Proofs.Ythadhhconkjpmaa
open Go.RowKit Go.WideMaps
set_option linter.unusedVariables false

/-- Whose a block is. -/
inductive Tag where
  | no | mb | money | own | map
  | th (i j : Nat)
  | nt (i j : Nat)
structure WV where
  tv : Value
  nv : Value
  bm : Bool
def WV.val (x : WV) : Value := .agg #[x.tv, x.nv, .bool x.bm]
structure Sh where
  mv : Value
  ov : Value
  M : Nat
  c : Nat
  t : Nat → Tag
  f : Nat → Nat → WV
def intsL (xs : List Int) : List Value := xs.map fun z => .int .i64 z
def rowF (n : Nat) (f : Nat → Int) : List Value := (List.range n).map fun i => .int .i64 (f i)
theorem intsL_len (xs : List Int) : (intsL xs).length = xs.length := by simp [intsL]
theorem rowF_len (n : Nat) (f : Nat → Int) : (rowF n f).length = n := by simp [rowF]
theorem rowF_at {n i : Nat} (f : Nat → Int) (h : i < n) : (rowF n f)[i]? = some (.int .i64 (f i)) := by simp [rowF, h]
theorem rowF_set (n i : Nat) (f : Nat → Int) (x : Int) : (rowF n f).set i (.int .i64 x) = rowF n (upd1 f i x) := by
  apply List.ext_getElem?
  intro k
  rw [List.getElem?_set]
  by_cases hk : k < n
  · by_cases e : i = k
    · subst e; rw [if_pos rfl, if_pos (by rw [rowF_len]; exact hk), rowF_at _ hk, upd1_same]
    · rw [if_neg e, rowF_at _ hk, rowF_at _ hk, upd1_other _ _ (Ne.symm e)]
  · rw [List.getElem?_eq_none (l := rowF n f) (by rw [rowF_len]; omega), List.getElem?_eq_none (l := rowF n (upd1 f i x)) (by rw [rowF_len]; omega)]
    by_cases e : i = k
    · subst e; rw [if_pos rfl, if_neg (by rw [rowF_len]; omega)]
    · rw [if_neg e]
def zeroWay : Value := .agg #[.slice none 0 0, .slice none 0 0, .bool false]

theorem wayMap : PairMap 37 61 59 zeroWay :=
  ⟨⟨Try.underlying61, by kernel_rfl, by kernel_rfl, by kernel_rfl⟩, Try.underlying37, fun w => by kernel_rfl⟩

structure Mov (W : World) (mb n : Nat) (s : St) (h : Sh) : Prop where
  fresh : ∀ g, W.heap.size ≤ g → h.t g = .no
  tmb : h.t mb = .mb
  blk : W.heap[mb]? = some (.cells #[h.mv, h.ov, .map (some h.M)] 39 (0, 0))
  mon : Seg W (fun g => h.t g = .money) 3 1 h.mv n (rowF n s.money)
  own : Seg W (fun g => h.t g = .own) 3 1 h.ov n (rowF n s.own)
  tM : h.t h.M = .map
  map : Pairs W 61 zeroWay h.M h.c (fun i j => (h.f i j).val)
  th : ∀ i j, i < n → j < n → Seg W (fun g => h.t g = .th i j) 3 1 (h.f i j).tv (s.ways i j).things.length (intsL (s.ways i j).things)
  nt : ∀ i j, i < n → j < n → Seg W (fun g => h.t g = .nt i j) 3 1 (h.f i j).nv (s.ways i j).noted.length (intsL (s.ways i j).noted)
  bm : ∀ i j, i < n → j < n → (h.f i j).bm = (s.ways i j).marked

variable {W W2 : World} {mb n : Nat} {s : St} {h : Sh}
theorem Mov.keep {o : Nat → Prop} (m : Mov W mb n s h) (hw : Keep o W W2) (ho : ∀ g, g < W.heap.size → o g → h.t g = .no) : Mov W2 mb n s h := by
  have hmb := (Array.getElem?_eq_some_iff.1 m.blk).1
  have no : ∀ {x : Tag} g, g < W.heap.size → h.t g = x → x ≠ .no → ¬ o g := fun {x} g hg e hx ho2 => hx (e ▸ ho g hg ho2)
  exact ⟨fun g hg => m.fresh g (Nat.le_trans hw.size hg), m.tmb, (hw.block mb hmb (no mb hmb m.tmb (by simp))).trans m.blk, m.mon.keep hw (fun g hg e => no g hg e (by simp)), m.own.keep hw (fun g hg e => no g hg e (by simp)), m.tM,
    m.map.keep hw (no _ m.map.lt m.tM (by simp)), fun i j hi hj => (m.th i j hi hj).keep hw (fun g hg e => no g hg e (by simp)), fun i j hi hj => (m.nt i j hi hj).keep hw (fun g hg e => no g hg e (by simp)), m.bm⟩
theorem Mov.alloc (m : Mov W mb n s h) (o : Obj) : Mov (W.alloc o) mb n s h := m.keep ((Keep.refl (fun _ => False) W).alloc o) (fun _ _ e => e.elim)
theorem Mov.drewN (m : Mov W mb n s h) (k : Nat) : Mov (W.drewN k) mb n s h := m.keep ((Keep.refl (fun _ => False) W).drewN k) (fun _ _ e => e.elim)
theorem Mov.cells (m : Mov W mb n s h) : W.cell? ⟨mb, 0, none⟩ = some h.mv ∧ W.cell? ⟨mb, 1, none⟩ = some h.ov ∧ W.cell? ⟨mb, 2, none⟩ = some (.map (some h.M)) := by
  refine ⟨?_, ?_, ?_⟩ <;> rw [cell_of_row W mb _ _ _ _ m.blk] <;> rfl

/-- What a turn of all leaves as it was. -/
structure Step (W : World) (h : Sh) (W2 : World) (h2 : Sh) (k : Nat) : Prop where
  keep : Keep (fun g => h.t g ≠ .no) W W2
  tags : ∀ g, g < W.heap.size → h2.t g = h.t g
  count : h2.c ≤ h.c + k

theorem Step.refl (W : World) (h : Sh) : Step W h W h 0 := ⟨Keep.refl _ W, fun _ _ => rfl, Nat.le_refl _⟩
theorem Step.trans {A B C : World} {f g h : Sh} {a b : Nat} (x : Step A f B g a) (y : Step B g C h b) : Step A f C h (a + b) :=
  ⟨x.keep.trans y.keep (fun _ _ e => e) (fun i hi e => by rw [x.tags i hi] at e; exact e), fun i hi => (y.tags i (Nat.lt_of_lt_of_le hi x.keep.size)).trans (x.tags i hi), by have := x.count; have := y.count; omega⟩

def wayTag (t : Nat → Tag) (i j : Nat) (x : WV) (g : Nat) : Tag := if x.tv.ownBlock = some g then .th i j else if x.nv.ownBlock = some g then .nt i j else t g
def wayH (h : Sh) (i j : Nat) (x : WV) : Sh := ⟨h.mv, h.ov, h.M, h.c + 1, wayTag h.t i j x, upd2 h.f i j x⟩

/-- One way is laid anew. -/
theorem Mov.way (m : Mov W mb n s h) {i j : Nat} (hi : i < n) (hj : j < n) (x : WV) (y : Wy)
    (hk : Keep (fun g => h.t g = .th i j ∨ h.t g = .nt i j ∨ g = h.M) W W2)
    (hp : Pairs W2 61 zeroWay h.M (h.c + 1) (upd2 (fun i j => (h.f i j).val) i j x.val))
    (ht : Seg W2 (fun g => (g < W.heap.size ∧ h.t g = .th i j) ∨ W.heap.size ≤ g) 3 1 x.tv y.things.length (intsL y.things))
    (hn : Seg W2 (fun g => (g < W.heap.size ∧ h.t g = .nt i j) ∨ W.heap.size ≤ g) 3 1 x.nv y.noted.length (intsL y.noted))
    (hd : ∀ g, x.tv.ownBlock = some g → x.nv.ownBlock ≠ some g) (hm : x.bm = y.marked) :
    Mov W2 mb n (wayS s i j y) (wayH h i j x) ∧ Step W h W2 (wayH h i j x) 1 := by
  have hmb := (Array.getElem?_eq_some_iff.1 m.blk).1
  have old : ∀ g, g < W.heap.size → wayTag h.t i j x g = h.t g := fun g hg => by
    unfold wayTag
    split
    · rename_i e
      obtain ⟨h1, _⟩ := ht.block e
      rcases h1 with h1 | h1
      · exact h1.2.symm
      · omega
    · split
      · rename_i e
        obtain ⟨h1, _⟩ := hn.block e
        rcases h1 with h1 | h1
        · exact h1.2.symm
        · omega
      · rfl
  have hfr : ∀ g, W2.heap.size ≤ g → wayTag h.t i j x g = .no := fun g hg => by
    unfold wayTag
    split
    · rename_i e; have := (ht.block e).2; omega
    · split
      · rename_i e; have := (hn.block e).2; omega
      · exact m.fresh g (Nat.le_trans hk.size hg)
  have no : ∀ {z : Tag} (g : Nat), g < W.heap.size → h.t g = z → z ≠ .th i j → z ≠ .nt i j → z ≠ .map → ¬ (h.t g = .th i j ∨ h.t g = .nt i j ∨ g = h.M) := by
    intro z g hg e h1 h2 h3 h4
    rcases h4 with h4 | h4 | h4
    · exact h1 (e.symm.trans h4)
    · exact h2 (e.symm.trans h4)
    · subst h4; exact h3 (e.symm.trans m.tM)
  have hp2 : (fun a b => ((upd2 h.f i j x) a b).val) = upd2 (fun i j => (h.f i j).val) i j x.val := by
    funext a b
    by_cases e : a = i ∧ b = j
    · obtain ⟨rfl, rfl⟩ := e; rw [upd2_same, upd2_same]
    · rw [upd2_other _ _ e, upd2_other _ _ e]
  refine ⟨⟨hfr, (old mb hmb).trans m.tmb, (hk.block mb hmb (no mb hmb m.tmb (by simp) (by simp) (by simp))).trans m.blk, ?_, ?_, (old _ m.map.lt).trans m.tM, ?_, ?_, ?_, ?_⟩, ⟨hk.mono ?_, old, Nat.le_refl _⟩⟩
  · refine ((m.mon.mono (ok2 := fun g => g < W.heap.size ∧ h.t g = .money) (fun g hg e => ⟨hg, e⟩)).keep hk (fun g hg e => no g hg e.2 (by simp) (by simp) (by simp))).mono (fun g _ e => (old g e.1).trans e.2)
  · refine ((m.own.mono (ok2 := fun g => g < W.heap.size ∧ h.t g = .own) (fun g hg e => ⟨hg, e⟩)).keep hk (fun g hg e => no g hg e.2 (by simp) (by simp) (by simp))).mono (fun g _ e => (old g e.1).trans e.2)
  · show Pairs W2 _ zeroWay h.M (h.c + 1) (fun a b => ((upd2 h.f i j x) a b).val)
    rw [hp2]; exact hp
  · intro a b ha hb
    show Seg W2 (fun g => wayTag h.t i j x g = .th a b) _ 1 (upd2 h.f i j x a b).tv (upd2 s.ways i j y a b).things.length (intsL (upd2 s.ways i j y a b).things)
    by_cases e : a = i ∧ b = j
    · obtain ⟨rfl, rfl⟩ := e
      rw [upd2_same, upd2_same]
      obtain ⟨h1, h2 | ⟨g, off, cap, cur, h2, h3, h4⟩⟩ := ht
      · exact ⟨h1, .inl h2⟩
      · exact ⟨h1, .inr ⟨g, off, cap, cur, h2, by show wayTag h.t a b x g = _; unfold wayTag; rw [if_pos (by rw [h2]; rfl)], h4⟩⟩
    · rw [upd2_other _ _ e, upd2_other _ _ e]
      have e2 : Tag.th a b ≠ Tag.th i j := fun e3 => e (by simpa using e3)
      exact (((m.th a b ha hb).mono (ok2 := fun g => g < W.heap.size ∧ h.t g = .th a b) (fun g hg e => ⟨hg, e⟩)).keep hk (fun g hg e => no g hg e.2 e2 (by simp) (by simp))).mono (fun g _ e => (old g e.1).trans e.2)
  · intro a b ha hb
    show Seg W2 (fun g => wayTag h.t i j x g = .nt a b) _ 1 (upd2 h.f i j x a b).nv (upd2 s.ways i j y a b).noted.length (intsL (upd2 s.ways i j y a b).noted)
    by_cases e : a = i ∧ b = j
    · obtain ⟨rfl, rfl⟩ := e
      rw [upd2_same, upd2_same]
      obtain ⟨h1, h2 | ⟨g, off, cap, cur, h2, h3, h4⟩⟩ := hn
      · exact ⟨h1, .inl h2⟩
      · exact ⟨h1, .inr ⟨g, off, cap, cur, h2, by show wayTag h.t a b x g = _; unfold wayTag; rw [if_neg (fun e => hd g e (by rw [h2]; rfl)), if_pos (by rw [h2]; rfl)], h4⟩⟩
    · rw [upd2_other _ _ e, upd2_other _ _ e]
      have e2 : Tag.nt a b ≠ Tag.nt i j := fun e3 => e (by simpa using e3)
      exact (((m.nt a b ha hb).mono (ok2 := fun g => g < W.heap.size ∧ h.t g = .nt a b) (fun g hg e => ⟨hg, e⟩)).keep hk (fun g hg e => no g hg e.2 (by simp) e2 (by simp))).mono (fun g _ e => (old g e.1).trans e.2)
  · intro a b ha hb
    show (upd2 h.f i j x a b).bm = (upd2 s.ways i j y a b).marked
    by_cases e : a = i ∧ b = j
    · obtain ⟨rfl, rfl⟩ := e
      rw [upd2_same, upd2_same]; exact hm
    · rw [upd2_other _ _ e, upd2_other _ _ e]; exact m.bm a b ha hb
  · rintro g hg (e | e | e)
    · rw [e]; simp
    · rw [e]; simp
    · rw [e, m.tM]; simp
end Go.Proofs.Ythadhhconkjpmaa
