/- The document's Ring in memory. -/
import Derived.Test.YtadanpghmfhhkaaRk0
import Derived.Test.YtadanpghmfhhkaaRp0
namespace Go.Proofs.Ytadanpghmfhhkaa
open Go.RowKit
set_option linter.unusedVariables false

def boolsG (xs : List Bool) : List Value := xs.map fun x => .bool x
def rowP (n : Nat) (f : Nat → Bool) : List Value := (List.range n).map fun q => .bool (f q)
theorem rowP_at {n i : Nat} (f : Nat → Bool) (h : i < n) : (rowP n f)[i]? = some (.bool (f i)) := by simp [rowP, h]
theorem rowP_set {n i : Nat} (f : Nat → Bool) (h : i < n) (b : Bool) : (rowP n f).set i (.bool b) = rowP n (upd1 f i b) := by
  apply List.ext_getElem?
  intro q
  rw [List.getElem?_set]
  by_cases hq : q < n
  · by_cases e : i = q
    · subst e
      rw [if_pos rfl, if_pos (by simp [rowP]; omega), rowP_at _ hq, upd1_same]
    · rw [if_neg e, rowP_at _ hq, rowP_at _ hq, upd1_other _ _ (fun e2 => e e2.symm)]
  · rw [if_neg (by omega), List.getElem?_eq_none (by simp [rowP]; omega), List.getElem?_eq_none (by simp [rowP]; omega)]
theorem boolsG_set (l : List Bool) (k : Nat) (b : Bool) : (boolsG l).set k (.bool b) = boolsG (l.set k b) := by
  unfold boolsG; rw [List.map_set]
theorem cInfoBool : (Try.prog.info? 4).map (fun i => (i.zero, i.size, i.bytes)) = some (some (.bool false), 1, 1) := by kernel_rfl
theorem cOneB (x : Bool) : ∀ u ∈ [Value.bool x], u.oneCell' = true := by intro u hu; simp at hu; subst hu; rfl

inductive DTag where
  | cd | ch | pt | dst | wh | cm
deriving DecidableEq
structure DSh where
  cdv : Value
  chv : Value
  tv : Value
  wv : Value
  mv : Value
  t : Nat → Option DTag
def DSh.own (h : DSh) (ob g : Nat) : Prop := h.t g ≠ none ∨ g = ob
def dD (n Pb : Nat) (st : DS) (h : DSh) : DTag → Option Slot
  | .cd => some ⟨27, 1, h.cdv, st.cds.length, intsG st.cds⟩
  | .ch => some ⟨3, 1, h.chv, st.ch.length, natsL st.ch⟩
  | .pt => some ⟨4, 1, .slice (some ⟨Pb, 0, none⟩) n n, n, rowP n st.part⟩
  | .dst => some ⟨3, 1, h.tv, st.dst.length, natsL st.dst⟩
  | .wh => some ⟨3, 1, h.wv, st.wh.length, intsG st.wh⟩
  | .cm => some ⟨4, 1, h.mv, st.cm.length, boolsG st.cm⟩
structure Dmv (W : World) (ob n Pb : Nat) (st : DS) (h : DSh) : Prop where
  pool : Pool W h.t (dD n Pb st h)
  tob : h.t ob = none
  blk : W.heap[ob]? = some (.cells #[h.cdv, h.chv, .int .i64 0, .int .i64 0] 26 (0, 0))

variable {W W2 : World} {ob n Pb : Nat} {st : DS} {h h2 : DSh}
theorem Dmv.ob_lt (m : Dmv W ob n Pb st h) : ob < W.heap.size := (Array.getElem?_eq_some_iff.1 m.blk).1
theorem Dmv.keep {o : Nat → Prop} (m : Dmv W ob n Pb st h) (hw : Keep o W W2) (ho : ∀ g, g < W.heap.size → o g → ¬ h.own ob g) : Dmv W2 ob n Pb st h := by
  refine ⟨m.pool.keep hw (fun g hg e => ?_), m.tob, (hw.block ob m.ob_lt (fun e => ho ob m.ob_lt e (.inr rfl))).trans m.blk⟩
  cases ht : h.t g with
  | none => rfl
  | some x => exact absurd (.inl (by rw [ht]; simp)) (ho g hg e)
theorem Dmv.still (m : Dmv W ob n Pb st h) (hw : Stil W W2) : Dmv W2 ob n Pb st h := m.keep hw (fun _ _ e => e.elim)
theorem Dmv.cells (m : Dmv W ob n Pb st h) : W.cell? ⟨ob, 0, none⟩ = some h.cdv ∧ W.cell? ⟨ob, 1, none⟩ = some h.chv ∧ W.cell? ⟨ob, 2, none⟩ = some (.int .i64 0) ∧ W.cell? ⟨ob, 3, none⟩ = some (.int .i64 0) ∧ ∀ k, W.frozen? ⟨ob, k, none⟩ = false := by
  refine ⟨?_, ?_, ?_, ?_, fun k => frozen_of_row W _ _ _ _ m.blk⟩ <;> rw [cell_of_row W ob _ _ _ _ m.blk] <;> rfl
theorem Dmv.part (m : Dmv W ob n Pb st h) {i : Nat} (hi : i < n) : W.cell? ⟨Pb, i, none⟩ = some (.bool (st.part i)) ∧ W.frozen? ⟨Pb, i, none⟩ = false := by
  obtain ⟨_, _, h1, h2⟩ := m.pool.cells (τ := .pt) (s := _) rfl rfl
  refine ⟨?_, h2 _⟩
  have := h1 i _ (rowP_at _ hi)
  simpa using this
theorem Dmv.segs (m : Dmv W ob n Pb st h) : Seg W (fun g => h.t g = some .cd) 27 1 h.cdv st.cds.length (intsG st.cds) ∧ Seg W (fun g => h.t g = some .ch) 3 1 h.chv st.ch.length (natsL st.ch) ∧
    Seg W (fun g => h.t g = some .dst) 3 1 h.tv st.dst.length (natsL st.dst) ∧ Seg W (fun g => h.t g = some .wh) 3 1 h.wv st.wh.length (intsG st.wh) ∧ Seg W (fun g => h.t g = some .cm) 4 1 h.mv st.cm.length (boolsG st.cm) :=
  ⟨m.pool.seg .cd _ rfl, m.pool.seg .ch _ rfl, m.pool.seg .dst _ rfl, m.pool.seg .wh _ rfl, m.pool.seg .cm _ rfl⟩

/-- What a turn leaves as it was. -/
structure DStp (ob : Nat) (W : World) (h : DSh) (W2 : World) (h2 : DSh) : Prop where
  keep : Keep (h.own ob) W W2
  tags : ∀ g, g < W.heap.size → h2.t g = h.t g
theorem DStp.refl (ob : Nat) (W : World) (h : DSh) : DStp ob W h W h := ⟨Keep.refl _ W, fun _ _ => rfl⟩
theorem DStp.of_still (ob : Nat) {W W2 : World} (h : DSh) (x : Stil W W2) : DStp ob W h W2 h := ⟨x.mono (fun _ _ e => e.elim), fun _ _ => rfl⟩
theorem DStp.trans {ob : Nat} {A B C : World} {f g h : DSh} (x : DStp ob A f B g) (y : DStp ob B g C h) : DStp ob A f C h :=
  ⟨x.keep.trans y.keep (fun _ _ e => e) (fun i hi e => by
    rcases e with e | e
    · exact .inl (by rw [x.tags i hi] at e; exact e)
    · exact .inr e), fun i hi => (y.tags i (Nat.lt_of_lt_of_le hi x.keep.size)).trans (x.tags i hi)⟩
theorem DStp.block {ob : Nat} {A B : World} {f g : DSh} (x : DStp ob A f B g) {b : Nat} {o : Obj} (ht : ¬ f.own ob b) (hv : A.heap[b]? = some o) : B.heap[b]? = some o :=
  (x.keep.block b (Array.getElem?_eq_some_iff.1 hv).1 ht).trans hv
theorem DStp.free {ob : Nat} {A B : World} {f g : DSh} (x : DStp ob A f B g) {b i : Nat} {v : Value} (ht : ¬ f.own ob b) (hv : A.cell? ⟨b, i, none⟩ = some v) : B.cell? ⟨b, i, none⟩ = some v :=
  (World.cell?_of_block (x.keep.block b (World.block_lt_of_cell? _ _ hv) ht)).trans hv
theorem DStp.own {ob : Nat} {A B : World} {f g : DSh} (x : DStp ob A f B g) {k : Nat} (hk : k < A.heap.size) : g.own ob k ↔ f.own ob k := by
  unfold DSh.own
  rw [x.tags k hk]
theorem Dmv.setPart (m : Dmv W ob n Pb st h) {i : Nat} (hi : i < n) : Dmv (W.setCell ⟨Pb, i, none⟩ (.bool true)) ob n Pb (partD st i) h ∧ DStp ob W h (W.setCell ⟨Pb, i, none⟩ (.bool true)) h := by
  obtain ⟨hpl, hs⟩ := m.pool.set (τ := .pt) (s := ⟨4, 1, .slice (some ⟨Pb, 0, none⟩) n n, n, rowP n st.part⟩) rfl (x := .bool true) rfl (i := i) (by simp only; omega)
  rw [Nat.zero_add] at hpl hs
  refine ⟨⟨hpl.congr (fun y q hy => ?_), m.tob, hs.block m.tob m.blk⟩, ⟨hs.keep.mono (fun g _ e => .inl e), fun _ _ => rfl⟩⟩
  cases y with
  | pt =>
    rw [updD_same, ← hy]
    simp only [dD]
    rw [rowP_set _ hi]; rfl
  | cd => rw [updD_other _ _ (by simp)]; exact hy
  | ch => rw [updD_other _ _ (by simp)]; exact hy
  | dst => rw [updD_other _ _ (by simp)]; exact hy
  | wh => rw [updD_other _ _ (by simp)]; exact hy
  | cm => rw [updD_other _ _ (by simp)]; exact hy
theorem Dmv.setCome (m : Dmv W ob n Pb st h) {k g off cap len : Nat} (hv : h.mv = .slice (some ⟨g, off, none⟩) len cap) (hk : k < st.cm.length) : Dmv (W.setCell ⟨g, off + k, none⟩ (.bool true)) ob n Pb (comeD st k) h ∧ DStp ob W h (W.setCell ⟨g, off + k, none⟩ (.bool true)) h := by
  have hl : len = st.cm.length := by
    obtain ⟨a, c, e⟩ := segForm m.segs.2.2.2.2
    rw [hv] at e
    simp only [Value.slice.injEq] at e
    exact e.2.1
  subst hl
  obtain ⟨hpl, hs⟩ := m.pool.set (τ := .cm) (s := ⟨4, 1, h.mv, st.cm.length, boolsG st.cm⟩) rfl (x := .bool true) hv (i := k) (by simp only; omega)
  refine ⟨⟨hpl.congr (fun y q hy => ?_), m.tob, hs.block m.tob m.blk⟩, ⟨hs.keep.mono (fun g _ e => .inl e), fun _ _ => rfl⟩⟩
  cases y with
  | cm =>
    rw [updD_same, ← hy]
    simp only [dD]
    rw [boolsG_set]
    simp [comeD]
  | cd => rw [updD_other _ _ (by simp)]; exact hy
  | ch => rw [updD_other _ _ (by simp)]; exact hy
  | dst => rw [updD_other _ _ (by simp)]; exact hy
  | wh => rw [updD_other _ _ (by simp)]; exact hy
  | pt => rw [updD_other _ _ (by simp)]; exact hy
theorem Dmv.pushTo (m : Dmv W ob n Pb st h) {x : Nat} {wa w3 : World} {v3 : Value} (ha : Stil W wa)
    (hs : Seg w3 (fun g => (h.tv.ownBlock = some g ∧ h.t g = some .dst) ∨ g = wa.heap.size) 3 1 v3 (st.dst.length + 1) (natsL st.dst ++ [.int .i64 (x : Int)])) (hg : wa.grownBy w3 h.tv.ownBlock) :
    ∃ t3, Dmv w3 ob n Pb { st with dst := st.dst ++ [x] } { h with tv := v3, t := t3 } ∧ DStp ob W h w3 { h with tv := v3, t := t3 } := by
  obtain ⟨t3, P3, S3⟩ := m.pool.app (τ := .dst) (s := ⟨3, 1, h.tv, st.dst.length, natsL st.dst⟩) rfl (m := 1) (news := [.int .i64 (x : Int)]) ha hs hg
  refine ⟨t3, ⟨P3.congr (fun y q hy => ?_), (S3.tags _ m.ob_lt).trans m.tob, S3.block m.tob m.blk⟩, ⟨S3.keep.mono (fun g _ e => .inl e), S3.tags⟩⟩
  cases y with
  | dst => rw [updD_same, ← hy]; simp [dD, natsL]
  | cd => rw [updD_other _ _ (by simp)]; exact hy
  | ch => rw [updD_other _ _ (by simp)]; exact hy
  | cm => rw [updD_other _ _ (by simp)]; exact hy
  | wh => rw [updD_other _ _ (by simp)]; exact hy
  | pt => rw [updD_other _ _ (by simp)]; exact hy
theorem Dmv.pushWh (m : Dmv W ob n Pb st h) {x : Int} {wa w3 : World} {v3 : Value} (ha : Stil W wa)
    (hs : Seg w3 (fun g => (h.wv.ownBlock = some g ∧ h.t g = some .wh) ∨ g = wa.heap.size) 3 1 v3 (st.wh.length + 1) (intsG st.wh ++ [.int .i64 x])) (hg : wa.grownBy w3 h.wv.ownBlock) :
    ∃ t3, Dmv w3 ob n Pb { st with wh := st.wh ++ [x] } { h with wv := v3, t := t3 } ∧ DStp ob W h w3 { h with wv := v3, t := t3 } := by
  obtain ⟨t3, P3, S3⟩ := m.pool.app (τ := .wh) (s := ⟨3, 1, h.wv, st.wh.length, intsG st.wh⟩) rfl (m := 1) (news := [.int .i64 x]) ha hs hg
  refine ⟨t3, ⟨P3.congr (fun y q hy => ?_), (S3.tags _ m.ob_lt).trans m.tob, S3.block m.tob m.blk⟩, ⟨S3.keep.mono (fun g _ e => .inl e), S3.tags⟩⟩
  cases y with
  | wh => rw [updD_same, ← hy]; simp [dD, intsG]
  | cd => rw [updD_other _ _ (by simp)]; exact hy
  | ch => rw [updD_other _ _ (by simp)]; exact hy
  | cm => rw [updD_other _ _ (by simp)]; exact hy
  | dst => rw [updD_other _ _ (by simp)]; exact hy
  | pt => rw [updD_other _ _ (by simp)]; exact hy
theorem Dmv.pushCm (m : Dmv W ob n Pb st h) {x : Bool} {wa w3 : World} {v3 : Value} (ha : Stil W wa)
    (hs : Seg w3 (fun g => (h.mv.ownBlock = some g ∧ h.t g = some .cm) ∨ g = wa.heap.size) 4 1 v3 (st.cm.length + 1) (boolsG st.cm ++ [.bool x])) (hg : wa.grownBy w3 h.mv.ownBlock) :
    ∃ t3, Dmv w3 ob n Pb { st with cm := st.cm ++ [x] } { h with mv := v3, t := t3 } ∧ DStp ob W h w3 { h with mv := v3, t := t3 } := by
  obtain ⟨t3, P3, S3⟩ := m.pool.app (τ := .cm) (s := ⟨4, 1, h.mv, st.cm.length, boolsG st.cm⟩) rfl (m := 1) (news := [.bool x]) ha hs hg
  refine ⟨t3, ⟨P3.congr (fun y q hy => ?_), (S3.tags _ m.ob_lt).trans m.tob, S3.block m.tob m.blk⟩, ⟨S3.keep.mono (fun g _ e => .inl e), S3.tags⟩⟩
  cases y with
  | cm => rw [updD_same, ← hy]; simp [dD, boolsG]
  | cd => rw [updD_other _ _ (by simp)]; exact hy
  | ch => rw [updD_other _ _ (by simp)]; exact hy
  | wh => rw [updD_other _ _ (by simp)]; exact hy
  | dst => rw [updD_other _ _ (by simp)]; exact hy
  | pt => rw [updD_other _ _ (by simp)]; exact hy
/-- One more is chosen: behind the append, and behind the store. -/
theorem Dmv.pushCh (m : Dmv W ob n Pb st h) {x : Nat} {wa w3 : World} {v3 : Value} (ha : Stil W wa)
    (hs : Seg w3 (fun g => (h.chv.ownBlock = some g ∧ h.t g = some .ch) ∨ g = wa.heap.size) 3 1 v3 (st.ch.length + 1) (natsL st.ch ++ [.int .i64 (x : Int)])) (hg : wa.grownBy w3 h.chv.ownBlock) :
    w3.cell? ⟨ob, 1, none⟩ = some h.chv ∧ w3.frozen? ⟨ob, 1, none⟩ = false ∧ ∃ t3, Dmv (w3.setCell ⟨ob, 1, none⟩ v3) ob n Pb (chosD st x) { h with chv := v3, t := t3 } ∧ DStp ob W h (w3.setCell ⟨ob, 1, none⟩ v3) { h with chv := v3, t := t3 } := by
  obtain ⟨t3, P3, S3⟩ := m.pool.app (τ := .ch) (s := ⟨3, 1, h.chv, st.ch.length, natsL st.ch⟩) rfl (m := 1) (news := [.int .i64 (x : Int)]) ha hs hg
  have b3 := S3.block m.tob m.blk
  have hk : Keep (fun g => g = ob) w3 (w3.setCell ⟨ob, 1, none⟩ v3) := (Keep.refl _ w3).setCell _ _ _ (fun _ => rfl)
  have t3ob : t3 ob = none := (S3.tags _ m.ob_lt).trans m.tob
  refine ⟨by rw [cell_of_row w3 _ _ _ _ _ b3]; rfl, frozen_of_row w3 _ _ _ _ b3, t3, ⟨(P3.keep hk (fun g _ e => by rw [e]; exact t3ob)).congr (fun y q hy => ?_), t3ob, ?_⟩,
    ⟨(S3.keep.mono (fun g _ e => .inl e)).trans (hk.mono (q := fun g => h.own ob g) (fun g _ e => .inr e)) (fun _ _ e => e) (fun _ _ e => e), S3.tags⟩⟩
  · cases y with
    | ch => rw [updD_same, ← hy]; simp [dD, natsL, chosD]
    | cd => rw [updD_other _ _ (by simp)]; exact hy
    | cm => rw [updD_other _ _ (by simp)]; exact hy
    | wh => rw [updD_other _ _ (by simp)]; exact hy
    | dst => rw [updD_other _ _ (by simp)]; exact hy
    | pt => rw [updD_other _ _ (by simp)]; exact hy
  · have h1 := heap_setCell_same w3 ob 1 _ _ v3 b3
    simpa using h1
/-- One more code. -/
theorem Dmv.pushCd (m : Dmv W ob n Pb st h) {x : Int} {wa w3 : World} {v3 : Value} (ha : Stil W wa)
    (hs : Seg w3 (fun g => (h.cdv.ownBlock = some g ∧ h.t g = some .cd) ∨ g = wa.heap.size) 27 1 v3 (st.cds.length + 1) (intsG st.cds ++ [.int .i64 x])) (hg : wa.grownBy w3 h.cdv.ownBlock) :
    w3.cell? ⟨ob, 0, none⟩ = some h.cdv ∧ w3.frozen? ⟨ob, 0, none⟩ = false ∧ ∃ t3, Dmv (w3.setCell ⟨ob, 0, none⟩ v3) ob n Pb (lastD st x) { h with cdv := v3, t := t3 } ∧ DStp ob W h (w3.setCell ⟨ob, 0, none⟩ v3) { h with cdv := v3, t := t3 } := by
  obtain ⟨t3, P3, S3⟩ := m.pool.app (τ := .cd) (s := ⟨27, 1, h.cdv, st.cds.length, intsG st.cds⟩) rfl (m := 1) (news := [.int .i64 x]) ha hs hg
  have b3 := S3.block m.tob m.blk
  have hk : Keep (fun g => g = ob) w3 (w3.setCell ⟨ob, 0, none⟩ v3) := (Keep.refl _ w3).setCell _ _ _ (fun _ => rfl)
  have t3ob : t3 ob = none := (S3.tags _ m.ob_lt).trans m.tob
  refine ⟨by rw [cell_of_row w3 _ _ _ _ _ b3]; rfl, frozen_of_row w3 _ _ _ _ b3, t3, ⟨(P3.keep hk (fun g _ e => by rw [e]; exact t3ob)).congr (fun y q hy => ?_), t3ob, ?_⟩,
    ⟨(S3.keep.mono (fun g _ e => .inl e)).trans (hk.mono (q := fun g => h.own ob g) (fun g _ e => .inr e)) (fun _ _ e => e) (fun _ _ e => e), S3.tags⟩⟩
  · cases y with
    | cd => rw [updD_same, ← hy]; simp [dD, intsG, lastD]
    | ch => rw [updD_other _ _ (by simp)]; exact hy
    | cm => rw [updD_other _ _ (by simp)]; exact hy
    | wh => rw [updD_other _ _ (by simp)]; exact hy
    | dst => rw [updD_other _ _ (by simp)]; exact hy
    | pt => rw [updD_other _ _ (by simp)]; exact hy
  · have h1 := heap_setCell_same w3 ob 0 _ _ v3 b3
    simpa using h1
/-- How it begins. -/
theorem dmv_start (w : World) (n : Nat) (hn : n ≤ 6) : ∃ h, h.tv = .slice none 0 0 ∧ h.wv = .slice none 0 0 ∧ h.mv = .slice none 0 0 ∧ Dmv ((w.alloc (.cells ringZ 26)).alloc (.cells (rowP n fun _ => false).toArray 4)) w.heap.size n (w.heap.size + 1) ds0 h ∧ ∀ g, h.own w.heap.size g → w.heap.size ≤ g := by
  have z1 : (w.alloc (.cells ringZ 26)).heap.size = w.heap.size + 1 := by simp
  obtain ⟨t1, P1, S1⟩ := (Pool.empty (ι := DTag) (w.alloc (.cells ringZ 26))).new .pt 4 1 n n (rowP n fun _ => false).toArray (rowP n fun _ => false) (by simp [rowP]) (Nat.le_refl _) (by unfold maxLen; omega) (by simp [rowP]) (fun j x h => by simpa using h)
  rw [z1] at P1
  have hb : ((w.alloc (.cells ringZ 26)).alloc (.cells (rowP n fun _ => false).toArray 4)).heap[w.heap.size]? = some (.cells ringZ 26 (0, 0)) := by
    rw [al_old _ _ _ (by rw [z1]; omega)]
    exact al_new _ _
  have t1b : t1 w.heap.size = none := by
    have := S1.tags w.heap.size (by rw [z1]; omega)
    simpa using this
  refine ⟨⟨.slice none 0 0, .slice none 0 0, .slice none 0 0, .slice none 0 0, .slice none 0 0, t1⟩, rfl, rfl, rfl, ⟨P1.nils (fun y q hy => ?_), t1b, hb⟩, fun g hg => ?_⟩
  · cases y with
    | pt => left; rw [updD_same, ← hy]; rfl
    | cd => right; simp only [dD, Option.some.injEq] at hy; subst hy; exact ⟨rfl, rfl, rfl⟩
    | ch => right; simp only [dD, Option.some.injEq] at hy; subst hy; exact ⟨rfl, rfl, rfl⟩
    | dst => right; simp only [dD, Option.some.injEq] at hy; subst hy; exact ⟨rfl, rfl, rfl⟩
    | wh => right; simp only [dD, Option.some.injEq] at hy; subst hy; exact ⟨rfl, rfl, rfl⟩
    | cm => right; simp only [dD, Option.some.injEq] at hy; subst hy; exact ⟨rfl, rfl, rfl⟩
  · rcases hg with hg | hg
    · apply Nat.le_of_not_lt
      intro hlt
      exact hg (S1.tags g (by rw [z1]; omega))
    · omega
theorem mMakeBools (m : Nat) (hm : m ≤ 200) (W : World) : (Instr.makeSlice 49 (.int .i64 (m : Int)) (.int .i64 (m : Int))).run Try.prog W = .ok (.slice (some ⟨W.heap.size, 0, none⟩) m m) (W.alloc (.cells (rowP m fun _ => false).toArray 4)) := by
  obtain ⟨i0, hi, hz0, hz1, hz2⟩ := info_parts cInfoBool
  have h := run_makeSlice (P := Try.prog) W 49 4 i0 _ Try.underlying49 hi hz0 .i64 .i64 (m : Int) (m : Int) (by omega) (Int.le_refl _) (by rw [hz1]; simp; omega) (by rw [hz2]; omega) (by omega)
  rw [hz1] at h
  have e : madeCells #[Value.bool false] m = (rowP m fun _ => false).toArray := by
    simp only [madeCells, rowP]
    apply Array.ext_getElem?
    intro k
    by_cases h : k < m
    · simp [h, Nat.mod_one]
    · simp [h]
  rw [← e]
  simpa [Value.cells] using h
end Go.Proofs.Ytadanpghmfhhkaa
