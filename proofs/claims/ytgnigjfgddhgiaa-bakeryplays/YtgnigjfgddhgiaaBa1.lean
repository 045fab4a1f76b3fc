/- The bakery in memory. -/
import Derived.Test.YtgnigjfgddhgiaaBa0
import Derived.Test.YtgnigjfgddhgiaaCp1
import Derived.Test.YtgnigjfgddhgiaaCb1
namespace Go.Proofs.Ytgnigjfgddhgiaa
open Go.RowKit
set_option linter.unusedVariables false

inductive BTag where
  | procs
  | ins
deriving DecidableEq
/-- Where all lies: the processes' block, the list of who went in, whose each block is. -/
structure BSh where
  P : Nat
  iv : Value
  t : Nat → Option BTag
def BSh.own (h : BSh) (mb g : Nat) : Prop := h.t g ≠ none ∨ g = mb
def pcB (s : BS) (i k : Nat) : Value := match k with
  | 0 => .int .i64 ((s.pr i).pl : Int)
  | 1 => .int .i64 ((s.pr i).tk : Int)
  | 2 => .bool (s.pr i).ch
  | 3 => .int .i64 ((s.pr i).k : Int)
  | 4 => .int .i64 ((s.pr i).m : Int)
  | _ => .bool false
def procB (n : Nat) (F : Nat → Nat → Value) : List Value := (List.range (n * 5)).map fun q => F (q / 5) (q % 5)
theorem procB_at {n i k : Nat} (F : Nat → Nat → Value) (hi : i < n) (hk : k < 5) : (procB n F)[i * 5 + k]? = some (F i k) := by
  unfold procB
  rw [List.getElem?_map, List.getElem?_range (by omega)]
  simp only [Option.map_some]
  congr 2 <;> omega
theorem procB_set {n i k : Nat} (F : Nat → Nat → Value) (hi : i < n) (hk : k < 5) (x : Value) : (procB n F).set (i * 5 + k) x = procB n (upd2 F i k x) := by
  apply List.ext_getElem?
  intro q
  rw [List.getElem?_set]
  by_cases hq : q < n * 5
  · by_cases e : i * 5 + k = q
    · subst e
      rw [if_pos rfl, if_pos (by simp [procB]; omega), procB_at _ hi hk, upd2_same]
    · rw [if_neg e]
      unfold procB
      rw [List.getElem?_map, List.getElem?_map, List.getElem?_range hq]
      simp only [Option.map_some]
      rw [upd2_other _ _ (by omega)]
  · rw [if_neg (by omega), List.getElem?_eq_none (by simp [procB]; omega), List.getElem?_eq_none (by simp [procB]; omega)]
def dB (n : Nat) (s : BS) (h : BSh) : BTag → Option Slot
  | .procs => some ⟨54, 5, .slice (some ⟨h.P, 0, none⟩) n n, n, procB n (pcB s)⟩
  | .ins => some ⟨3, 1, h.iv, s.ins.length, natsL s.ins⟩
structure Bmov (W : World) (mb n : Nat) (s : BS) (h : BSh) : Prop where
  pool : Pool W h.t (dB n s h)
  tmb : h.t mb = none
  blk : W.heap[mb]? = some (.cells #[.slice (some ⟨h.P, 0, none⟩) n n, h.iv] 42 (0, 0))

variable {W W2 : World} {mb n : Nat} {s : BS} {h h2 : BSh}
theorem Bmov.mb_lt (m : Bmov W mb n s h) : mb < W.heap.size := (Array.getElem?_eq_some_iff.1 m.blk).1
theorem Bmov.fresh (m : Bmov W mb n s h) {g : Nat} (hg : W.heap.size ≤ g) : ¬ h.own mb g := by
  rintro (e | e)
  · exact e (m.pool.fresh g hg)
  · have := m.mb_lt; omega
theorem Bmov.keep {o : Nat → Prop} (m : Bmov W mb n s h) (hw : Keep o W W2) (ho : ∀ g, g < W.heap.size → o g → ¬ h.own mb g) : Bmov W2 mb n s h := by
  refine ⟨m.pool.keep hw (fun g hg e => ?_), m.tmb, (hw.block mb m.mb_lt (fun e => ho mb m.mb_lt e (.inr rfl))).trans m.blk⟩
  cases ht : h.t g with
  | none => rfl
  | some x => exact absurd (.inl (by rw [ht]; simp)) (ho g hg e)
theorem Bmov.still (m : Bmov W mb n s h) (hw : Stil W W2) : Bmov W2 mb n s h := m.keep hw (fun _ _ e => e.elim)
theorem Bmov.alloc (m : Bmov W mb n s h) (o : Obj) : Bmov (W.alloc o) mb n s h := m.still (Stil.new W o)
theorem Bmov.drewN (m : Bmov W mb n s h) (k : Nat) : Bmov (W.drewN k) mb n s h := m.still (Stil.drewN W k)
theorem Bmov.cells (m : Bmov W mb n s h) : W.cell? ⟨mb, 0, none⟩ = some (.slice (some ⟨h.P, 0, none⟩) n n) ∧ W.cell? ⟨mb, 1, none⟩ = some h.iv ∧ ∀ k, W.frozen? ⟨mb, k, none⟩ = false := by
  refine ⟨?_, ?_, fun k => frozen_of_row W _ _ _ _ m.blk⟩ <;> rw [cell_of_row W mb _ _ _ _ m.blk] <;> rfl
theorem Bmov.pr_at (m : Bmov W mb n s h) {i k : Nat} (hi : i < n) (hk : k < 5) : W.cell? ⟨h.P, i * 5 + k, none⟩ = some (pcB s i k) := by
  obtain ⟨_, _, h1, h2⟩ := m.pool.cells (τ := .procs) (s := _) rfl rfl
  have := h1 (i * 5 + k) _ (procB_at _ hi hk)
  simpa using this
/-- All cells of a process, as the walk writes them. -/
theorem Bmov.proc (m : Bmov W mb n s h) {i : Nat} (hi : i < n) : W.cell? ⟨h.P, i * 5, none⟩ = some (.int .i64 ((s.pr i).pl : Int)) ∧ W.cell? ⟨h.P, i * 5 + 1, none⟩ = some (.int .i64 ((s.pr i).tk : Int)) ∧ W.cell? ⟨h.P, i * 5 + 2, none⟩ = some (.bool (s.pr i).ch) ∧
    W.cell? ⟨h.P, i * 5 + 3, none⟩ = some (.int .i64 ((s.pr i).k : Int)) ∧ W.cell? ⟨h.P, i * 5 + 4, none⟩ = some (.int .i64 ((s.pr i).m : Int)) ∧ ∀ k, W.frozen? ⟨h.P, k, none⟩ = false :=
  ⟨m.pr_at hi (k := 0) (by omega), m.pr_at hi (k := 1) (by omega), m.pr_at hi (k := 2) (by omega), m.pr_at hi (k := 3) (by omega), m.pr_at hi (k := 4) (by omega),
    (m.pool.cells (τ := .procs) (s := _) rfl rfl).2.2.2⟩
theorem Bmov.ins (m : Bmov W mb n s h) : Seg W (fun g => h.t g = some .ins) 3 1 h.iv s.ins.length (natsL s.ins) := m.pool.seg .ins ⟨3, 1, h.iv, s.ins.length, natsL s.ins⟩ rfl

/-- What a turn leaves as it was. -/
structure BStp (mb : Nat) (W : World) (h : BSh) (W2 : World) (h2 : BSh) : Prop where
  keep : Keep (h.own mb) W W2
  tags : ∀ g, g < W.heap.size → h2.t g = h.t g
  same : h2.P = h.P
theorem BStp.refl (mb : Nat) (W : World) (h : BSh) : BStp mb W h W h := ⟨Keep.refl _ W, fun _ _ => rfl, rfl⟩
theorem BStp.of_still (mb : Nat) {W W2 : World} (h : BSh) (x : Stil W W2) : BStp mb W h W2 h := ⟨x.mono (fun _ _ e => e.elim), fun _ _ => rfl, rfl⟩
theorem BStp.trans {mb : Nat} {A B C : World} {f g h : BSh} (x : BStp mb A f B g) (y : BStp mb B g C h) : BStp mb A f C h :=
  ⟨x.keep.trans y.keep (fun _ _ e => e) (fun i hi e => by
    rcases e with e | e
    · exact .inl (by rw [x.tags i hi] at e; exact e)
    · exact .inr e), fun i hi => (y.tags i (Nat.lt_of_lt_of_le hi x.keep.size)).trans (x.tags i hi), y.same.trans x.same⟩
theorem BStp.own {mb : Nat} {A B : World} {f g : BSh} (x : BStp mb A f B g) {k : Nat} (hk : k < A.heap.size) : g.own mb k ↔ f.own mb k := by
  unfold BSh.own
  rw [x.tags k hk]
theorem BStp.block {mb : Nat} {A B : World} {f g : BSh} (x : BStp mb A f B g) {b : Nat} {o : Obj} (ht : ¬ f.own mb b) (hv : A.heap[b]? = some o) : B.heap[b]? = some o :=
  (x.keep.block b (Array.getElem?_eq_some_iff.1 hv).1 ht).trans hv

/-- A field of a process is another one. -/
theorem Bmov.setF (m : Bmov W mb n s h) {i k : Nat} (hi : i < n) (hk : k < 5) {x : Value} {p : Pb} (hp : pcB (setB s i p) = upd2 (pcB s) i k x) :
    Bmov (W.setCell ⟨h.P, i * 5 + k, none⟩ x) mb n (setB s i p) h ∧ BStp mb W h (W.setCell ⟨h.P, i * 5 + k, none⟩ x) h := by
  obtain ⟨hpl, hs⟩ := m.pool.set (τ := .procs) (s := ⟨54, 5, .slice (some ⟨h.P, 0, none⟩) n n, n, procB n (pcB s)⟩) rfl (x := x) rfl (i := i * 5 + k) (by simp only; omega)
  rw [Nat.zero_add] at hpl hs
  refine ⟨⟨hpl.congr (fun y q hy => ?_), m.tmb, hs.block m.tmb m.blk⟩, ⟨hs.keep.mono (fun g _ e => .inl e), fun _ _ => rfl, rfl⟩⟩
  cases y with
  | procs =>
    rw [updD_same, ← hy]
    simp only [dB]
    rw [procB_set _ hi hk, hp]
  | ins => rw [updD_other _ _ (by simp)]; exact hy
theorem pcB_set (s : BS) (i : Nat) (p : Pb) (k : Nat) (x : Value) (h : ∀ q, q ≠ k → pcB (setB s i p) i q = pcB s i q) (hk : pcB (setB s i p) i k = x) : pcB (setB s i p) = upd2 (pcB s) i k x := by
  funext a q
  by_cases e : a = i ∧ q = k
  · obtain ⟨rfl, rfl⟩ := e; rw [upd2_same]; exact hk
  · rw [upd2_other _ _ e]
    by_cases ea : a = i
    · subst ea; exact h q (fun e2 => e ⟨rfl, e2⟩)
    · unfold pcB setB
      simp only [upd1_other _ _ ea]
theorem Bmov.setPl (m : Bmov W mb n s h) {i : Nat} (hi : i < n) (v : Nat) : Bmov (W.setCell ⟨h.P, i * 5, none⟩ (.int .i64 (v : Int))) mb n (setB s i { s.pr i with pl := v }) h ∧ BStp mb W h (W.setCell ⟨h.P, i * 5, none⟩ (.int .i64 (v : Int))) h :=
  m.setF hi (k := 0) (by omega) (p := { s.pr i with pl := v }) (pcB_set s i _ 0 _ (fun q hq => by
    unfold pcB setB
    simp only [upd1_same]
    split <;> first | rfl | (exact absurd rfl hq)) (by unfold pcB setB; simp only [upd1_same]))
theorem Bmov.setTk (m : Bmov W mb n s h) {i : Nat} (hi : i < n) (v : Nat) : Bmov (W.setCell ⟨h.P, i * 5 + 1, none⟩ (.int .i64 (v : Int))) mb n (setB s i { s.pr i with tk := v }) h ∧ BStp mb W h (W.setCell ⟨h.P, i * 5 + 1, none⟩ (.int .i64 (v : Int))) h :=
  m.setF hi (k := 1) (by omega) (p := { s.pr i with tk := v }) (pcB_set s i _ 1 _ (fun q hq => by
    unfold pcB setB
    simp only [upd1_same]
    split <;> first | rfl | (exact absurd rfl hq)) (by unfold pcB setB; simp only [upd1_same]))
theorem Bmov.setCh (m : Bmov W mb n s h) {i : Nat} (hi : i < n) (v : Bool) : Bmov (W.setCell ⟨h.P, i * 5 + 2, none⟩ (.bool v)) mb n (setB s i { s.pr i with ch := v }) h ∧ BStp mb W h (W.setCell ⟨h.P, i * 5 + 2, none⟩ (.bool v)) h :=
  m.setF hi (k := 2) (by omega) (p := { s.pr i with ch := v }) (pcB_set s i _ 2 _ (fun q hq => by
    unfold pcB setB
    simp only [upd1_same]
    split <;> first | rfl | (exact absurd rfl hq)) (by unfold pcB setB; simp only [upd1_same]))
theorem Bmov.setK (m : Bmov W mb n s h) {i : Nat} (hi : i < n) (v : Nat) : Bmov (W.setCell ⟨h.P, i * 5 + 3, none⟩ (.int .i64 (v : Int))) mb n (setB s i { s.pr i with k := v }) h ∧ BStp mb W h (W.setCell ⟨h.P, i * 5 + 3, none⟩ (.int .i64 (v : Int))) h :=
  m.setF hi (k := 3) (by omega) (p := { s.pr i with k := v }) (pcB_set s i _ 3 _ (fun q hq => by
    unfold pcB setB
    simp only [upd1_same]
    split <;> first | rfl | (exact absurd rfl hq)) (by unfold pcB setB; simp only [upd1_same]))
theorem Bmov.setM (m : Bmov W mb n s h) {i : Nat} (hi : i < n) (v : Nat) : Bmov (W.setCell ⟨h.P, i * 5 + 4, none⟩ (.int .i64 (v : Int))) mb n (setB s i { s.pr i with m := v }) h ∧ BStp mb W h (W.setCell ⟨h.P, i * 5 + 4, none⟩ (.int .i64 (v : Int))) h :=
  m.setF hi (k := 4) (by omega) (p := { s.pr i with m := v }) (pcB_set s i _ 4 _ (fun q hq => by
    unfold pcB setB
    simp only [upd1_same]
    split <;> first | rfl | (exact absurd rfl hq)) (by unfold pcB setB; simp only [upd1_same]))
theorem setB_setB (s : BS) (i : Nat) (p q : Pb) : setB (setB s i p) i q = setB s i q := by
  unfold setB
  congr 1
  funext a
  show upd1 (upd1 s.pr i p) i q a = upd1 s.pr i q a
  by_cases e : a = i
  · subst e; rw [upd1_same, upd1_same]
  · rw [upd1_other _ _ e, upd1_other _ _ e, upd1_other _ _ e]
theorem setB_at (s : BS) (i : Nat) (p : Pb) : (setB s i p).pr i = p := upd1_same _ _ _

/-- One more went in: behind the append, and behind the store. -/
theorem Bmov.pushIn (m : Bmov W mb n s h) {x : Nat} {wa w3 : World} {v3 : Value} (ha : Stil W wa)
    (hs : Seg w3 (fun g => (h.iv.ownBlock = some g ∧ h.t g = some .ins) ∨ g = wa.heap.size) 3 1 v3 (s.ins.length + 1) (natsL s.ins ++ [.int .i64 (x : Int)])) (hg : wa.grownBy w3 h.iv.ownBlock) :
    w3.cell? ⟨mb, 1, none⟩ = some h.iv ∧ w3.frozen? ⟨mb, 1, none⟩ = false ∧ ∃ h2, Bmov (w3.setCell ⟨mb, 1, none⟩ v3) mb n ⟨s.pr, s.ins ++ [x]⟩ h2 ∧ BStp mb W h (w3.setCell ⟨mb, 1, none⟩ v3) h2 := by
  obtain ⟨t3, P3, S3⟩ := m.pool.app (τ := .ins) (s := ⟨3, 1, h.iv, s.ins.length, natsL s.ins⟩) rfl (m := 1) (news := [.int .i64 (x : Int)]) ha hs hg
  have b3 := S3.block m.tmb m.blk
  have t4 : ∀ g, g < W.heap.size → t3 g = h.t g := S3.tags
  have hk : Keep (fun g => g = mb) w3 (w3.setCell ⟨mb, 1, none⟩ v3) := (Keep.refl _ w3).setCell _ _ _ (fun _ => rfl)
  have t3mb : t3 mb = none := (t4 _ m.mb_lt).trans m.tmb
  refine ⟨by rw [cell_of_row w3 _ _ _ _ _ b3]; rfl, frozen_of_row w3 _ _ _ _ b3, ⟨h.P, v3, t3⟩, ⟨(P3.keep hk (fun g _ e => by rw [e]; exact t3mb)).congr (fun y q hy => ?_), t3mb, ?_⟩,
    ⟨(S3.keep.mono (fun g _ e => .inl e)).trans (hk.mono (q := fun g => h.own mb g) (fun g _ e => .inr e)) (fun _ _ e => e) (fun _ _ e => e), t4, rfl⟩⟩
  · cases y with
    | procs => rw [updD_other _ _ (by simp)]; exact hy
    | ins => rw [updD_same, ← hy]; simp [dB, natsL]
  · have h1 := heap_setCell_same w3 mb 1 _ _ v3 b3
    simpa using h1
end Go.Proofs.Ytgnigjfgddhgiaa
