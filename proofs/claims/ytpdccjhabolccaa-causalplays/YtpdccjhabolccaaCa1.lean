/- How all stands, in memory: messages, what has come, what was heard. -/
import Derived.Test.YtpdccjhabolccaaCb0
import Derived.Test.YtpdccjhabolccaaR3
import Derived.Test.YtpdccjhabolccaaCa0
import Derived.DeepKeys3
import Derived.WalkLawsBesides
import Derived.Outline
import Derived.Deep.RegionLaw
namespace Go.Proofs.Ytpdccjhabolccaa
open Go.RowKit Go.WideMaps
set_option linter.unusedVariables false

variable {T K E : TypeId} {z : Value} {W W2 : World} {M c : Nat} {f : Nat → Nat → Value}
theorem key_arrival {i j : Nat} (hi : i < 1000) (hj : j < 1000) : keyOf Try.prog 95 (pairV i j) = some (pairL i j) := by
  have wi : (Lit.int .i64 (i : Int)).wf = true := wf_of ⟨by omega, by omega⟩
  have wj : (Lit.int .i64 (j : Int)).wf = true := wf_of ⟨by omega, by omega⟩
  have hk : Try.prog.keyType 95 = true := by kernel_rfl
  have hc : Try.prog.cellsOf 95 = 2 := by kernel_rfl
  have h1 : Try.prog.cellsOf 3 = 1 := by kernel_rfl
  obtain ⟨m, hm⟩ : ∃ m, Try.prog.types.size = m + 1 := ⟨Try.prog.types.size - 1, by decide +kernel⟩
  unfold keyOf pairV pairL
  simp only [Try.underlying95]
  rw [if_pos (by simp [hk, Value.formed, Try.underlying95, hc]), hm]
  unfold Program.keyLits
  simp only [Try.underlying95, Value.cells]
  rw [if_pos (by rw [hc]; exact ⟨rfl, by simp⟩)]
  simp [List.mapM_cons, h1, Program.keyLits, Try.underlying3, wi, wj]
theorem cameMap : PairKey 69 95 3 (.int .i64 0) :=
  ⟨deep_law (m := 2) (by omega) (by kernel_rfl) (by kernel_rfl) (by kernel_rfl), Try.underlying69, fun w => by kernel_rfl, fun hi hj => key_arrival hi hj⟩

theorem cInfoMsg : (Try.prog.info? 93).map (fun i => (i.zero, i.size, i.bytes)) = some (some (.agg #[.int .i64 0, .int .i64 0]), 2, 16) := by kernel_rfl

inductive CTag where
  | no | mb | ms | map | ls
  | li (i : Nat)
structure CSh where
  mv : Value
  M : Nat
  c : Nat
  L : Nat
  t : Nat → CTag
  f : Nat → Value
def msgL : List (Nat × Nat) → List Value
  | [] => []
  | q :: r => .int .i64 (q.1 : Int) :: .int .i64 (q.2 : Int) :: msgL r
theorem msgL_len : ∀ l, (msgL l).length = l.length * 2
  | [] => rfl
  | q :: r => by simp [msgL, msgL_len r, Nat.add_mul]
theorem msgL_app : ∀ l q, msgL (l ++ [q]) = msgL l ++ [.int .i64 (q.1 : Int), .int .i64 (q.2 : Int)]
  | [], q => rfl
  | p :: r, q => by simp [msgL, msgL_app r q]
theorem msgL_at : ∀ {l : List (Nat × Nat)} {m : Nat} {q : Nat × Nat}, l[m]? = some q → (msgL l)[m * 2]? = some (.int .i64 (q.1 : Int)) ∧ (msgL l)[m * 2 + 1]? = some (.int .i64 (q.2 : Int))
  | [], m, q, h => by simp at h
  | p :: r, 0, q, h => by simp at h; subst h; exact ⟨rfl, rfl⟩
  | p :: r, m + 1, q, h => by
    have := msgL_at (l := r) (m := m) (q := q) (by simpa using h)
    rw [show (m + 1) * 2 = m * 2 + 2 from by omega]
    simpa [msgL] using this
structure Cmov (W : World) (mb n : Nat) (s : CS) (h : CSh) : Prop where
  fresh : ∀ g, W.heap.size ≤ g → h.t g = .no
  tmb : h.t mb = .mb
  blk : W.heap[mb]? = some (.cells #[h.mv, .map (some h.M), .slice (some ⟨h.L, 0, none⟩) n n] 72 (0, 0))
  ms : Seg W (fun g => h.t g = .ms) 93 2 h.mv s.msgs.length (msgL s.msgs)
  tM : h.t h.M = .map
  map : Pairs W 95 (.int .i64 0) h.M h.c (fun i j => .int .i64 (s.came i j : Int))
  tL : h.t h.L = .ls
  rows : W.heap[h.L]? = some (.cells ((List.range n).map h.f).toArray 22 (0, 0))
  li : ∀ i, i < n → Seg W (fun g => h.t g = .li i) 3 1 (h.f i) (s.ls i).length (natsL (s.ls i))

variable {mb n : Nat} {s : CS} {h h2 : CSh}
theorem Cmov.keep {o : Nat → Prop} (m : Cmov W mb n s h) (hw : Keep o W W2) (ho : ∀ g, g < W.heap.size → o g → h.t g = .no) : Cmov W2 mb n s h := by
  have hmb := (Array.getElem?_eq_some_iff.1 m.blk).1
  have hL := (Array.getElem?_eq_some_iff.1 m.rows).1
  have no : ∀ {x : CTag} g, g < W.heap.size → h.t g = x → x ≠ .no → ¬ o g := fun {x} g hg e hx ho2 => hx (e ▸ ho g hg ho2)
  exact ⟨fun g hg => m.fresh g (Nat.le_trans hw.size hg), m.tmb, (hw.block mb hmb (no mb hmb m.tmb (by simp))).trans m.blk, m.ms.keep hw (fun g hg e => no g hg e (by simp)), m.tM,
    m.map.keep hw (no _ m.map.lt m.tM (by simp)), m.tL, (hw.block _ hL (no _ hL m.tL (by simp))).trans m.rows, fun i hi => (m.li i hi).keep hw (fun g hg e => no g hg e (by simp))⟩
theorem Cmov.alloc (m : Cmov W mb n s h) (o : Obj) : Cmov (W.alloc o) mb n s h := m.keep ((Keep.refl (fun _ => False) W).alloc o) (fun _ _ e => e.elim)
theorem Cmov.drewN (m : Cmov W mb n s h) (k : Nat) : Cmov (W.drewN k) mb n s h := m.keep ((Keep.refl (fun _ => False) W).drewN k) (fun _ _ e => e.elim)
theorem Cmov.cells (m : Cmov W mb n s h) : W.cell? ⟨mb, 0, none⟩ = some h.mv ∧ W.cell? ⟨mb, 1, none⟩ = some (.map (some h.M)) ∧ W.cell? ⟨mb, 2, none⟩ = some (.slice (some ⟨h.L, 0, none⟩) n n) := by
  refine ⟨?_, ?_, ?_⟩ <;> rw [cell_of_row W mb _ _ _ _ m.blk] <;> rfl
theorem Cmov.row (m : Cmov W mb n s h) {i : Nat} (hi : i < n) : W.cell? ⟨h.L, i, none⟩ = some (h.f i) ∧ W.frozen? ⟨h.L, i, none⟩ = false := by
  refine ⟨?_, frozen_of_row W _ _ _ _ m.rows⟩
  rw [cell_of_row W _ _ _ _ _ m.rows]
  simp [hi]

/-- What a turn leaves as it was. -/
structure CStp (W : World) (h : CSh) (W2 : World) (h2 : CSh) (k : Nat) : Prop where
  keep : Keep (fun g => h.t g ≠ .no) W W2
  tags : ∀ g, g < W.heap.size → h2.t g = h.t g
  count : h2.c ≤ h.c + k
  same : h2.L = h.L ∧ h2.M = h.M
theorem CStp.refl (W : World) (h : CSh) : CStp W h W h 0 := ⟨Keep.refl _ W, fun _ _ => rfl, Nat.le_refl _, rfl, rfl⟩
theorem CStp.trans {A B C : World} {f g h : CSh} {a b : Nat} (x : CStp A f B g a) (y : CStp B g C h b) : CStp A f C h (a + b) :=
  ⟨x.keep.trans y.keep (fun _ _ e => e) (fun i hi e => by rw [x.tags i hi] at e; exact e), fun i hi => (y.tags i (Nat.lt_of_lt_of_le hi x.keep.size)).trans (x.tags i hi), by have := x.count; have := y.count; omega, y.same.1.trans x.same.1, y.same.2.trans x.same.2⟩
theorem CStp.mono {A B : World} {f g : CSh} {a b : Nat} (x : CStp A f B g a) (hab : a ≤ b) : CStp A f B g b := ⟨x.keep, x.tags, by have := x.count; omega, x.same⟩
theorem CStp.alloc {ob : Obj} {k : Nat} (x : CStp (W.alloc ob) h W2 h2 k) : CStp W h W2 h2 k :=
  ⟨((Keep.refl (fun _ => False) W).alloc ob).trans x.keep (fun _ _ e => e.elim) (fun i _ e => e), fun g hg => x.tags g (by simp; omega), x.count, x.same⟩
theorem CStp.drewN {q k : Nat} (x : CStp (W.drewN q) h W2 h2 k) : CStp W h W2 h2 k :=
  ⟨((Keep.refl (fun _ => False) W).drewN q).trans x.keep (fun _ _ e => e.elim) (fun i _ e => e), x.tags, x.count, x.same⟩

/-- What has come to whom is laid anew. -/
theorem Cmov.came (m : Cmov W mb n s h) {i j v : Nat} (hi : i < 1000) (hj : j < 1000) (hc : h.c < 100000) :
    ∃ W2, (Instr.mapUpdate 69 (.map (some h.M)) (.agg #[.int .i64 (i : Int), .int .i64 (j : Int)]) (.int .i64 (v : Int))).run Try.prog W = .ok () W2 ∧
      Cmov W2 mb n ⟨s.msgs, upd2 s.came i j v, s.ls⟩ { h with c := h.c + 1 } ∧ CStp W h W2 { h with c := h.c + 1 } 1 := by
  obtain ⟨W2, hr, hp, hg⟩ := m.map.storeK cameMap (show h.c < maxLen by unfold maxLen; omega) hi hj (.int .i64 (v : Int))
  have hk : Keep (fun g => g = h.M) W W2 := (Keep.of_grown hg).mono (fun i _ e => by cases e; rfl)
  have hmb := (Array.getElem?_eq_some_iff.1 m.blk).1
  have hL := (Array.getElem?_eq_some_iff.1 m.rows).1
  have no : ∀ {x : CTag} g, h.t g = x → x ≠ .map → ¬ (g = h.M) := fun {x} g e hx e2 => hx (by subst e2; exact e.symm.trans m.tM)
  refine ⟨W2, hr, ⟨fun g hg => m.fresh g (Nat.le_trans hk.size hg), m.tmb, (hk.block mb hmb (no mb m.tmb (by simp))).trans m.blk, m.ms.keep hk (fun g _ e => no g e (by simp)), m.tM, ?_, m.tL, (hk.block _ hL (no _ m.tL (by simp))).trans m.rows, fun i hi => (m.li i hi).keep hk (fun g _ e => no g e (by simp))⟩,
    ⟨hk.mono (fun g _ e => by rw [e, m.tM]; simp), fun _ _ => rfl, Nat.le_refl _, rfl, rfl⟩⟩
  have e : (fun a b => Value.int .i64 ((upd2 s.came i j v a b : Nat) : Int)) = upd2 (fun i j => Value.int .i64 (s.came i j : Int)) i j (.int .i64 (v : Int)) := by
    funext a b
    rw [upd2_eq, upd2_eq]
    split <;> rfl
  show Pairs W2 _ _ h.M (h.c + 1) (fun a b => .int .i64 ((upd2 s.came i j v a b : Nat) : Int))
  rw [e]
  exact hp

/-- A list grows by one. -/
theorem Cmov.push (m : Cmov W mb n s h) {i x X : Nat} {w3 : World} {v3 : Value} (hi : i < n) (hX : W.heap.size ≤ X) (hk : Keep (fun g => some g = (h.f i).ownBlock) W w3)
    (hs : Seg w3 (fun g => ((h.f i).ownBlock = some g ∧ h.t g = .li i) ∨ g = X) 3 1 v3 ((s.ls i).length + 1) (natsL (s.ls i) ++ [.int .i64 (x : Int)])) :
    ∃ h2, Cmov (w3.setCell ⟨h.L, i, none⟩ v3) mb n ⟨s.msgs, s.came, upd1 s.ls i (s.ls i ++ [x])⟩ h2 ∧ CStp W h (w3.setCell ⟨h.L, i, none⟩ v3) h2 0 := by
  have hmb := (Array.getElem?_eq_some_iff.1 m.blk).1
  have hL := (Array.getElem?_eq_some_iff.1 m.rows).1
  have hob : ∀ g, (h.f i).ownBlock = some g → h.t g = .li i ∧ g < W.heap.size := fun g e => (m.li i hi).block e
  have hrow3 : w3.heap[h.L]? = some (.cells ((List.range n).map h.f).toArray 22 (0, 0)) := (hk.block _ hL (fun e => by have := (hob _ e.symm).1; rw [m.tL] at this; cases this)).trans m.rows
  have hv3 : ∀ g, v3.ownBlock = some g → (g < W.heap.size → h.t g = .li i) ∧ g < w3.heap.size := fun g e => by
    obtain ⟨h1, h2⟩ := hs.block e
    refine ⟨fun hg => ?_, h2⟩
    rcases h1 with h1 | h1
    · exact h1.2
    · omega
  have hk2 : Keep (fun g => h.t g = .li i ∨ g = h.L) W (w3.setCell ⟨h.L, i, none⟩ v3) := (hk.mono (q := fun g => h.t g = .li i ∨ g = h.L) (fun g _ e => .inl (hob g e.symm).1)).setCell h.L i v3 (fun _ => .inr rfl)
  have old : ∀ g, g < W.heap.size → (if v3.ownBlock = some g then CTag.li i else h.t g) = h.t g := fun g hg => by
    split
    · rename_i e; exact ((hv3 g e).1 hg).symm
    · rfl
  have no : ∀ {x : CTag} g, h.t g = x → x ≠ .li i → x ≠ .ls → ¬ (h.t g = .li i ∨ g = h.L) := fun {x} g e h1 h2 e2 => by
    rcases e2 with e2 | e2
    · exact h1 (e.symm.trans e2)
    · subst e2; exact h2 (e.symm.trans m.tL)
  have hsz : (w3.setCell ⟨h.L, i, none⟩ v3).heap.size = w3.heap.size := by simp [World.setCell]
  refine ⟨⟨h.mv, h.M, h.c, h.L, fun g => if v3.ownBlock = some g then .li i else h.t g, upd1 h.f i v3⟩, ⟨fun g hg => ?_, ?_, ?_, ?_, ?_, ?_, ?_, ?_, fun k hk3 => ?_⟩, ⟨hk2.mono (fun g _ e => ?_), old, Nat.le_refl _, rfl, rfl⟩⟩
  · show (if v3.ownBlock = some g then CTag.li i else h.t g) = .no
    rw [hsz] at hg
    rw [if_neg (fun e => by have := (hv3 g e).2; omega)]
    exact m.fresh g (Nat.le_trans hk.size hg)
  · exact (old mb hmb).trans m.tmb
  · exact (hk2.block mb hmb (no mb m.tmb (by simp) (by simp))).trans m.blk
  · exact ((m.ms.mono (ok2 := fun g => g < W.heap.size ∧ h.t g = .ms) (fun g hg e => ⟨hg, e⟩)).keep hk2 (fun g _ e => no g e.2 (by simp) (by simp))).mono (fun g _ e => (old g e.1).trans e.2)
  · exact (old _ m.map.lt).trans m.tM
  · exact m.map.keep hk2 (no _ m.tM (by simp) (by simp))
  · exact (old _ hL).trans m.tL
  · have h1 := heap_setCell_same w3 h.L i _ _ v3 hrow3
    show (w3.setCell ⟨h.L, i, none⟩ v3).heap[h.L]? = _
    rw [h1]
    congr 2
    apply Array.ext_getElem?
    intro q
    rw [Array.getElem?_setIfInBounds]
    by_cases hq : i = q
    · subst hq
      simp [hi, upd1_same]
    · rw [if_neg hq]
      by_cases hqn : q < n
      · simp [hqn, upd1_other _ _ (Ne.symm hq)]
      · simp [hqn]
  · show Seg _ (fun g => (if v3.ownBlock = some g then CTag.li i else h.t g) = .li k) _ 1 (upd1 h.f i v3 k) (upd1 s.ls i (s.ls i ++ [x]) k).length (natsL (upd1 s.ls i (s.ls i ++ [x]) k))
    by_cases e : k = i
    · subst e
      rw [upd1_same, upd1_same]
      have h1 := hs.keep ((Keep.refl (fun g => g = h.L) w3).setCell h.L k v3 (fun _ => rfl)) (fun g _ e1 e2 => by
        subst e2
        rcases e1 with ⟨_, e1⟩ | e1
        · rw [m.tL] at e1; cases e1
        · omega)
      obtain ⟨q1, q2 | ⟨g, off, cap, cur, q2, q3, q4⟩⟩ := h1
      · have := q2.2; omega
      · refine ⟨by simp [natsL], .inr ⟨g, off, cap, cur, by rw [q2]; simp, if_pos (by rw [q2]; rfl), ?_⟩⟩
        simpa [natsL] using q4
    · rw [upd1_other _ _ e, upd1_other _ _ e]
      have e2 : CTag.li k ≠ CTag.li i := fun e3 => e (by simpa using e3)
      exact (((m.li k hk3).mono (ok2 := fun g => g < W.heap.size ∧ h.t g = .li k) (fun g hg e => ⟨hg, e⟩)).keep hk2 (fun g _ e => no g e.2 e2 (by simp))).mono (fun g _ e => (old g e.1).trans e.2)
  · rcases e with e | e
    · rw [e]; simp
    · rw [e, m.tL]; simp

/-- A message more. -/
theorem Cmov.pushMsg (m : Cmov W mb n s h) {q : Nat × Nat} {X : Nat} {w3 : World} {v3 : Value} (hX : W.heap.size ≤ X) (hk : Keep (fun g => some g = h.mv.ownBlock) W w3)
    (hs : Seg w3 (fun g => (h.mv.ownBlock = some g ∧ h.t g = .ms) ∨ g = X) 93 2 v3 (s.msgs.length + 1) (msgL s.msgs ++ [.int .i64 (q.1 : Int), .int .i64 (q.2 : Int)])) :
    ∃ h2, Cmov (w3.setCell ⟨mb, 0, none⟩ v3) mb n ⟨s.msgs ++ [q], s.came, s.ls⟩ h2 ∧ CStp W h (w3.setCell ⟨mb, 0, none⟩ v3) h2 0 ∧ h2.mv = v3 ∧ h2.c = h.c := by
  have hmb := (Array.getElem?_eq_some_iff.1 m.blk).1
  have hL := (Array.getElem?_eq_some_iff.1 m.rows).1
  have hob : ∀ g, h.mv.ownBlock = some g → h.t g = .ms ∧ g < W.heap.size := fun g e => m.ms.block e
  have hblk3 : w3.heap[mb]? = some (.cells #[h.mv, .map (some h.M), .slice (some ⟨h.L, 0, none⟩) n n] 72 (0, 0)) := (hk.block _ hmb (fun e => by have := (hob _ e.symm).1; rw [m.tmb] at this; cases this)).trans m.blk
  have hv3 : ∀ g, v3.ownBlock = some g → (g < W.heap.size → h.t g = .ms) ∧ g < w3.heap.size := fun g e => by
    obtain ⟨h1, h2⟩ := hs.block e
    refine ⟨fun hg => ?_, h2⟩
    rcases h1 with h1 | h1
    · exact h1.2
    · omega
  have hk2 : Keep (fun g => h.t g = .ms ∨ g = mb) W (w3.setCell ⟨mb, 0, none⟩ v3) := (hk.mono (q := fun g => h.t g = .ms ∨ g = mb) (fun g _ e => .inl (hob g e.symm).1)).setCell mb 0 v3 (fun _ => .inr rfl)
  have old : ∀ g, g < W.heap.size → (if v3.ownBlock = some g then CTag.ms else h.t g) = h.t g := fun g hg => by
    split
    · rename_i e; exact ((hv3 g e).1 hg).symm
    · rfl
  have no : ∀ {x : CTag} g, h.t g = x → x ≠ .ms → x ≠ .mb → ¬ (h.t g = .ms ∨ g = mb) := fun {x} g e h1 h2 e2 => by
    rcases e2 with e2 | e2
    · exact h1 (e.symm.trans e2)
    · subst e2; exact h2 (e.symm.trans m.tmb)
  have hsz : (w3.setCell ⟨mb, 0, none⟩ v3).heap.size = w3.heap.size := by simp [World.setCell]
  refine ⟨⟨v3, h.M, h.c, h.L, fun g => if v3.ownBlock = some g then .ms else h.t g, h.f⟩, ⟨fun g hg => ?_, ?_, ?_, ?_, ?_, ?_, ?_, ?_, fun k hk3 => ?_⟩, ⟨hk2.mono (fun g _ e => ?_), old, Nat.le_refl _, rfl, rfl⟩, rfl, rfl⟩
  · show (if v3.ownBlock = some g then CTag.ms else h.t g) = .no
    rw [hsz] at hg
    rw [if_neg (fun e => by have := (hv3 g e).2; omega)]
    exact m.fresh g (Nat.le_trans hk.size hg)
  · exact (old mb hmb).trans m.tmb
  · have h1 := heap_setCell_same w3 mb 0 _ _ v3 hblk3
    simpa using h1
  · have h1 := hs.keep ((Keep.refl (fun g => g = mb) w3).setCell mb 0 v3 (fun _ => rfl)) (fun g _ e1 e2 => by
      subst e2
      rcases e1 with ⟨_, e1⟩ | e1
      · rw [m.tmb] at e1; cases e1
      · omega)
    show Seg _ (fun g => (if v3.ownBlock = some g then CTag.ms else h.t g) = .ms) _ 2 v3 (s.msgs ++ [q]).length (msgL (s.msgs ++ [q]))
    rw [msgL_app, List.length_append]
    obtain ⟨q1, q2 | ⟨g, off, cap, cur, q2, q3, q4⟩⟩ := h1
    · exact ⟨q1, .inl q2⟩
    · exact ⟨q1, .inr ⟨g, off, cap, cur, q2, if_pos (by rw [q2]; rfl), q4⟩⟩
  · exact (old _ m.map.lt).trans m.tM
  · exact m.map.keep hk2 (no _ m.tM (by simp) (by simp))
  · exact (old _ hL).trans m.tL
  · exact (hk2.block _ hL (no _ m.tL (by simp) (by simp))).trans m.rows
  · exact (((m.li k hk3).mono (ok2 := fun g => g < W.heap.size ∧ h.t g = .li k) (fun g hg e => ⟨hg, e⟩)).keep hk2 (fun g _ e => no g e.2 (by simp) (by simp))).mono (fun g _ e => (old g e.1).trans e.2)
  · rcases e with e | e
    · rw [e]; simp
    · rw [e, m.tmb]; simp
end Go.Proofs.Ytpdccjhabolccaa
