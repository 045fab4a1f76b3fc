/- How all stands, in memory: processes, ways, who came inside. -/
import Derived.Test.YtaojmbebkggafaaMa0
import Derived.Test.YtaojmbebkggafaaCp1
import Derived.Test.YtaojmbebkggafaaCb1
import Derived.Maps.RangeWalk
namespace Go.Proofs.Ytaojmbebkggafaa
open Go.RowKit Go.WideMaps
set_option linter.unusedVariables false

theorem wrap_of {z : Int} (h : I64 z) : IntKind.i64.wrap z = z := by
  obtain ⟨h0, h1⟩ := h
  simp [IntKind.wrap, IntKind.bits, IntKind.signed]
  split <;> omega
def nilV : Value := .slice none 0 0
theorem wayMap : PairMap 35 63 24 nilV :=
  ⟨⟨Try.underlying63, by kernel_rfl, by kernel_rfl, by kernel_rfl⟩, Try.underlying35, fun w => by kernel_rfl⟩

variable {W W2 : World} {M c n : Nat} {f : Nat → Nat → Value}
/-- Block M is a map by pairs of numbers below n, at most; f says what it has at each. -/
def PairsN (W : World) (M c n : Nat) (f : Nat → Nat → Value) : Prop :=
  ∃ D, W.ownsMap Try.prog 63 heldR M c D ∧ (∀ i j, i < 1000 → j < 1000 → D.atKey (pairL i j) (.held nilV) = .held (f i j)) ∧ ∀ kl, Maps.has D kl = true → ∃ i j, i < n ∧ j < n ∧ kl = pairL i j
theorem PairsN.pairs (h : PairsN W M c n f) : Pairs W 63 nilV M c f := let ⟨D, h1, h2, _⟩ := h; ⟨D, h1, h2⟩
theorem PairsN.made (w : World) (n : Nat) : PairsN (w.alloc (.map #[] 0)) w.heap.size 0 n (fun _ _ => nilV) :=
  ⟨.map [], World.ownsMap_made w _ _ _, fun _ _ _ _ => rfl, fun kl h => by simp [Maps.has] at h⟩
theorem PairsN.lt (h : PairsN W M c n f) : M < W.heap.size := h.pairs.lt
theorem PairsN.keep {o : Nat → Prop} (h : PairsN W M c n f) (hw : Keep o W W2) (hM : ¬ o M) : PairsN W2 M c n f := by
  obtain ⟨D, ⟨es, clock, hb, r⟩, h2⟩ := h
  exact ⟨D, ⟨es, clock, (hw.block M (Array.getElem?_eq_some_iff.1 hb).1 hM).trans hb, r⟩, h2⟩
theorem PairsN.store (h : PairsN W M c n f) (hc : c < maxLen) (hn : n ≤ 1000) {i j : Nat} (hi : i < n) (hj : j < n) (v : Value) :
    ∃ W2, (Instr.mapUpdate 35 (.map (some M)) (pairV i j) v).run Try.prog W = .ok () W2 ∧ PairsN W2 M (c + 1) n (upd2 f i j v) ∧ W.grownBy W2 (some M) := by
  obtain ⟨D, h1, h2, h3⟩ := h
  obtain ⟨W2, hr, h4, h5⟩ := h1.update (d := .held v) (ps := []) wayMap.keyed wayMap.hT hc (wayMap.key (show i < 1000 by omega) (show j < 1000 by omega)) rfl
  refine ⟨W2, hr, ⟨_, h4, fun a b ha hb => ?_, fun kl hk => ?_⟩, h5⟩
  · by_cases e : a = i ∧ b = j
    · obtain ⟨rfl, rfl⟩ := e
      rw [upd2_same]
      exact Maps.atKey_put_same h1.isMap (wayMap.keyed.key (wayMap.key ha hb)) _ _
    · rw [upd2_other _ _ e, Maps.atKey_put_other (fun he => e (wayMap.inj ha hb (by omega) (by omega) he))]
      exact h2 a b ha hb
  · by_cases e : kl = pairL i j
    · exact ⟨i, j, hi, hj, e⟩
    · rw [Maps.has_put_other e] at hk
      exact h3 kl hk

inductive MTag where
  | procs | ins
  | wt (i : Nat)
  | wy (i j : Nat)
deriving DecidableEq
structure MSh where
  M : Nat
  c : Nat
  P : Nat
  iv : Value
  wv : Nat → Value
  f : Nat → Nat → Value
  t : Nat → Option MTag
def MSh.own (h : MSh) (mb g : Nat) : Prop := h.t g ≠ none ∨ g = mb ∨ g = h.M
/-- A process's cells. -/
def pc (s : MS) (wv : Nat → Value) (i k : Nat) : Value := match k with
  | 0 => .int .i64 ((s.pr i).num : Int)
  | 1 => .int .i64 ((s.pr i).st : Int)
  | 2 => .int .i64 ((s.pr i).kn : Int)
  | 3 => .int .i64 ((s.pr i).kp : Int)
  | 4 => .int .i64 ((s.pr i).yes : Int)
  | 5 => wv i
  | _ => .bool false
def procL (n : Nat) (F : Nat → Nat → Value) : List Value := (List.range (n * 6)).map fun q => F (q / 6) (q % 6)
theorem procL_at {n i k : Nat} (F : Nat → Nat → Value) (hi : i < n) (hk : k < 6) : (procL n F)[i * 6 + k]? = some (F i k) := by
  unfold procL
  rw [List.getElem?_map, List.getElem?_range (by omega)]
  simp only [Option.map_some]
  congr 2 <;> omega
theorem procL_set {n i k : Nat} (F : Nat → Nat → Value) (hi : i < n) (hk : k < 6) (x : Value) : (procL n F).set (i * 6 + k) x = procL n (upd2 F i k x) := by
  apply List.ext_getElem?
  intro q
  rw [List.getElem?_set]
  by_cases hq : q < n * 6
  · by_cases e : i * 6 + k = q
    · subst e
      rw [if_pos rfl, if_pos (by simp [procL]; omega), procL_at _ hi hk, upd2_same]
    · rw [if_neg e]
      unfold procL
      rw [List.getElem?_map, List.getElem?_map, List.getElem?_range hq]
      simp only [Option.map_some]
      rw [upd2_other _ _ (by omega)]
  · rw [if_neg (by omega), List.getElem?_eq_none (by simp [procL]; omega), List.getElem?_eq_none (by simp [procL]; omega)]
def dM (n : Nat) (s : MS) (h : MSh) : MTag → Option Slot
  | .procs => some ⟨61, 6, .slice (some ⟨h.P, 0, none⟩) n n, n, procL n (pc s h.wv)⟩
  | .ins => some ⟨3, 1, h.iv, s.ins.length, natsL s.ins⟩
  | .wt i => if i < n then some ⟨3, 1, h.wv i, (s.pr i).wait.length, natsL (s.pr i).wait⟩ else none
  | .wy i j => if i < n ∧ j < n then some ⟨3, 1, h.f i j, (s.ways i j).length, natsL (s.ways i j)⟩ else none
structure Mmov (W : World) (mb n : Nat) (s : MS) (h : MSh) : Prop where
  pool : Pool W h.t (dM n s h)
  tmb : h.t mb = none
  tM : h.t h.M = none
  ne : mb ≠ h.M
  blk : W.heap[mb]? = some (.cells #[.slice (some ⟨h.P, 0, none⟩) n n, .map (some h.M), h.iv] 37 (0, 0))
  map : PairsN W h.M h.c n h.f

variable {mb : Nat} {s : MS} {h h2 : MSh}
theorem Mmov.mb_lt (m : Mmov W mb n s h) : mb < W.heap.size := (Array.getElem?_eq_some_iff.1 m.blk).1
theorem Mmov.fresh (m : Mmov W mb n s h) {g : Nat} (hg : W.heap.size ≤ g) : ¬ h.own mb g := by
  rintro (e | e | e)
  · exact e (m.pool.fresh g hg)
  · have := m.mb_lt; omega
  · have := m.map.lt; omega
theorem Mmov.keep {o : Nat → Prop} (m : Mmov W mb n s h) (hw : Keep o W W2) (ho : ∀ g, g < W.heap.size → o g → ¬ h.own mb g) : Mmov W2 mb n s h := by
  refine ⟨m.pool.keep hw (fun g hg e => ?_), m.tmb, m.tM, m.ne, (hw.block mb m.mb_lt (fun e => ho mb m.mb_lt e (.inr (.inl rfl)))).trans m.blk, m.map.keep hw (fun e => ho _ m.map.lt e (.inr (.inr rfl)))⟩
  cases ht : h.t g with
  | none => rfl
  | some x => exact absurd (.inl (by rw [ht]; simp)) (ho g hg e)
theorem Mmov.still (m : Mmov W mb n s h) (hw : Stil W W2) : Mmov W2 mb n s h := m.keep hw (fun _ _ e => e.elim)
theorem Mmov.alloc (m : Mmov W mb n s h) (o : Obj) : Mmov (W.alloc o) mb n s h := m.still (Stil.new W o)
theorem Mmov.drewN (m : Mmov W mb n s h) (k : Nat) : Mmov (W.drewN k) mb n s h := m.still (Stil.drewN W k)
theorem Mmov.cells (m : Mmov W mb n s h) : W.cell? ⟨mb, 0, none⟩ = some (.slice (some ⟨h.P, 0, none⟩) n n) ∧ W.cell? ⟨mb, 1, none⟩ = some (.map (some h.M)) ∧ W.cell? ⟨mb, 2, none⟩ = some h.iv ∧ ∀ k, W.frozen? ⟨mb, k, none⟩ = false := by
  refine ⟨?_, ?_, ?_, fun k => frozen_of_row W _ _ _ _ m.blk⟩ <;> rw [cell_of_row W mb _ _ _ _ m.blk] <;> rfl
theorem Mmov.pr_at (m : Mmov W mb n s h) {i k : Nat} (hi : i < n) (hk : k < 6) : W.cell? ⟨h.P, i * 6 + k, none⟩ = some (pc s h.wv i k) ∧ W.frozen? ⟨h.P, i * 6 + k, none⟩ = false := by
  obtain ⟨_, _, h1, h2⟩ := m.pool.cells (τ := .procs) (s := _) rfl rfl
  refine ⟨?_, h2 _⟩
  have := h1 (i * 6 + k) _ (procL_at _ hi hk)
  simpa using this
/-- All cells of a process, as the walk writes them. -/
theorem Mmov.proc (m : Mmov W mb n s h) {i : Nat} (hi : i < n) : W.cell? ⟨h.P, i * 6, none⟩ = some (.int .i64 ((s.pr i).num : Int)) ∧ W.cell? ⟨h.P, i * 6 + 1, none⟩ = some (.int .i64 ((s.pr i).st : Int)) ∧ W.cell? ⟨h.P, i * 6 + 2, none⟩ = some (.int .i64 ((s.pr i).kn : Int)) ∧
    W.cell? ⟨h.P, i * 6 + 3, none⟩ = some (.int .i64 ((s.pr i).kp : Int)) ∧ W.cell? ⟨h.P, i * 6 + 4, none⟩ = some (.int .i64 ((s.pr i).yes : Int)) ∧ W.cell? ⟨h.P, i * 6 + 5, none⟩ = some (h.wv i) ∧ ∀ k, W.frozen? ⟨h.P, k, none⟩ = false :=
  ⟨(m.pr_at hi (k := 0) (by omega)).1, (m.pr_at hi (k := 1) (by omega)).1, (m.pr_at hi (k := 2) (by omega)).1, (m.pr_at hi (k := 3) (by omega)).1, (m.pr_at hi (k := 4) (by omega)).1, (m.pr_at hi (k := 5) (by omega)).1,
    (m.pool.cells (τ := .procs) (s := _) rfl rfl).2.2.2⟩
theorem Mmov.wt (m : Mmov W mb n s h) {i : Nat} (hi : i < n) : Seg W (fun g => h.t g = some (.wt i)) 3 1 (h.wv i) (s.pr i).wait.length (natsL (s.pr i).wait) := m.pool.seg (.wt i) ⟨3, 1, h.wv i, (s.pr i).wait.length, natsL (s.pr i).wait⟩ (if_pos hi)
theorem Mmov.wy (m : Mmov W mb n s h) {i j : Nat} (hi : i < n) (hj : j < n) : Seg W (fun g => h.t g = some (.wy i j)) 3 1 (h.f i j) (s.ways i j).length (natsL (s.ways i j)) := m.pool.seg (.wy i j) ⟨3, 1, h.f i j, (s.ways i j).length, natsL (s.ways i j)⟩ (if_pos ⟨hi, hj⟩)
theorem Mmov.ins (m : Mmov W mb n s h) : Seg W (fun g => h.t g = some .ins) 3 1 h.iv s.ins.length (natsL s.ins) := m.pool.seg .ins ⟨3, 1, h.iv, s.ins.length, natsL s.ins⟩ rfl
theorem Mmov.look (m : Mmov W mb n s h) {i j : Nat} (hi : i < n) (hj : j < n) (hn : n ≤ 1000) : (Instr.lookup 35 (.map (some h.M)) (.agg #[.int .i64 (i : Int), .int .i64 (j : Int)]) false).run Try.prog W = .ok (h.f i j) W := m.map.pairs.look wayMap (by omega) (by omega)

/-- What a turn leaves as it was. -/
structure MStp (mb : Nat) (W : World) (h : MSh) (W2 : World) (h2 : MSh) (k : Nat) : Prop where
  keep : Keep (h.own mb) W W2
  tags : ∀ g, g < W.heap.size → h2.t g = h.t g
  count : h2.c ≤ h.c + k
  same : h2.P = h.P ∧ h2.M = h.M
theorem MStp.refl (mb : Nat) (W : World) (h : MSh) : MStp mb W h W h 0 := ⟨Keep.refl _ W, fun _ _ => rfl, Nat.le_refl _, rfl, rfl⟩
theorem MStp.of_still (mb : Nat) {W W2 : World} (h : MSh) (x : Stil W W2) : MStp mb W h W2 h 0 := ⟨x.mono (fun _ _ e => e.elim), fun _ _ => rfl, Nat.le_refl _, rfl, rfl⟩
theorem MStp.trans {mb : Nat} {A B C : World} {f g h : MSh} {a b : Nat} (x : MStp mb A f B g a) (y : MStp mb B g C h b) : MStp mb A f C h (a + b) :=
  ⟨x.keep.trans y.keep (fun _ _ e => e) (fun i hi e => by
    rcases e with e | e | e
    · exact .inl (by rw [x.tags i hi] at e; exact e)
    · exact .inr (.inl e)
    · exact .inr (.inr (by rw [← x.same.2]; exact e))), fun i hi => (y.tags i (Nat.lt_of_lt_of_le hi x.keep.size)).trans (x.tags i hi), by have := x.count; have := y.count; omega, y.same.1.trans x.same.1, y.same.2.trans x.same.2⟩
theorem MStp.mono {mb : Nat} {A B : World} {f g : MSh} {a b : Nat} (x : MStp mb A f B g a) (hab : a ≤ b) : MStp mb A f B g b := ⟨x.keep, x.tags, by have := x.count; omega, x.same⟩
theorem MStp.own {mb : Nat} {A B : World} {f g : MSh} {a : Nat} (x : MStp mb A f B g a) {k : Nat} (hk : k < A.heap.size) : g.own mb k ↔ f.own mb k := by
  unfold MSh.own
  rw [x.tags k hk, x.same.2]
theorem MStp.free {mb : Nat} {A B : World} {f g : MSh} {k : Nat} (x : MStp mb A f B g k) {b i : Nat} {v : Value} (ht : ¬ f.own mb b) (hv : A.cell? ⟨b, i, none⟩ = some v) : B.cell? ⟨b, i, none⟩ = some v :=
  (World.cell?_of_block (x.keep.block b (World.block_lt_of_cell? _ _ hv) ht)).trans hv
theorem MStp.block {mb : Nat} {A B : World} {f g : MSh} {k : Nat} (x : MStp mb A f B g k) {b : Nat} {o : Obj} (ht : ¬ f.own mb b) (hv : A.heap[b]? = some o) : B.heap[b]? = some o :=
  (x.keep.block b (Array.getElem?_eq_some_iff.1 hv).1 ht).trans hv

/-- A field of a process is another one. -/
theorem Mmov.setF (m : Mmov W mb n s h) {i k : Nat} (hi : i < n) (hk : k < 6) {x : Value} {p : Pr} (hp : pc (prM s i p) h.wv = upd2 (pc s h.wv) i k x) (hw : p.wait = (s.pr i).wait) :
    Mmov (W.setCell ⟨h.P, i * 6 + k, none⟩ x) mb n (prM s i p) h ∧ MStp mb W h (W.setCell ⟨h.P, i * 6 + k, none⟩ x) h 0 := by
  obtain ⟨hpl, hs⟩ := m.pool.set (τ := .procs) (s := ⟨61, 6, .slice (some ⟨h.P, 0, none⟩) n n, n, procL n (pc s h.wv)⟩) rfl (x := x) rfl (i := i * 6 + k) (by simp only; omega)
  rw [Nat.zero_add] at hpl hs
  refine ⟨⟨hpl.congr (fun y q hy => ?_), m.tmb, m.tM, m.ne, hs.block m.tmb m.blk, m.map.keep hs.keep (fun e => e m.tM)⟩, ⟨hs.keep.mono (fun g _ e => .inl e), fun _ _ => rfl, Nat.le_refl _, rfl, rfl⟩⟩
  cases y with
  | procs =>
    rw [updD_same, ← hy]
    simp only [dM]
    rw [procL_set _ hi hk, hp]
  | ins => rw [updD_other _ _ (by simp)]; exact hy
  | wt a =>
    rw [updD_other _ _ (by simp), ← hy]
    simp only [dM, prM]
    by_cases e : a = i
    · subst e; rw [upd1_same, hw]
    · rw [upd1_other _ _ e]
  | wy a b => rw [updD_other _ _ (by simp)]; exact hy
theorem pc_set (s : MS) (wv : Nat → Value) (i : Nat) (p : Pr) (k : Nat) (x : Value) (h : ∀ q, q ≠ k → pc (prM s i p) wv i q = pc s wv i q) (hk : pc (prM s i p) wv i k = x) : pc (prM s i p) wv = upd2 (pc s wv) i k x := by
  funext a q
  by_cases e : a = i ∧ q = k
  · obtain ⟨rfl, rfl⟩ := e; rw [upd2_same]; exact hk
  · rw [upd2_other _ _ e]
    by_cases ea : a = i
    · subst ea; exact h q (fun e2 => e ⟨rfl, e2⟩)
    · unfold pc prM
      simp only [upd1_other _ _ ea]

theorem Mmov.setNum (m : Mmov W mb n s h) {i : Nat} (hi : i < n) (v : Nat) : Mmov (W.setCell ⟨h.P, i * 6, none⟩ (.int .i64 (v : Int))) mb n (prM s i { s.pr i with num := v }) h ∧ MStp mb W h (W.setCell ⟨h.P, i * 6, none⟩ (.int .i64 (v : Int))) h 0 :=
  m.setF hi (k := 0) (by omega) (p := { s.pr i with num := v }) (pc_set s h.wv i _ 0 _ (fun q hq => by
    unfold pc prM
    simp only [upd1_same]
    split <;> first | rfl | (exact absurd rfl hq)) (by unfold pc prM; simp only [upd1_same])) rfl
theorem Mmov.setSt (m : Mmov W mb n s h) {i : Nat} (hi : i < n) (v : Nat) : Mmov (W.setCell ⟨h.P, i * 6 + 1, none⟩ (.int .i64 (v : Int))) mb n (prM s i { s.pr i with st := v }) h ∧ MStp mb W h (W.setCell ⟨h.P, i * 6 + 1, none⟩ (.int .i64 (v : Int))) h 0 :=
  m.setF hi (k := 1) (by omega) (p := { s.pr i with st := v }) (pc_set s h.wv i _ 1 _ (fun q hq => by
    unfold pc prM
    simp only [upd1_same]
    split <;> first | rfl | (exact absurd rfl hq)) (by unfold pc prM; simp only [upd1_same])) rfl
theorem Mmov.setKn (m : Mmov W mb n s h) {i : Nat} (hi : i < n) (v : Nat) : Mmov (W.setCell ⟨h.P, i * 6 + 2, none⟩ (.int .i64 (v : Int))) mb n (prM s i { s.pr i with kn := v }) h ∧ MStp mb W h (W.setCell ⟨h.P, i * 6 + 2, none⟩ (.int .i64 (v : Int))) h 0 :=
  m.setF hi (k := 2) (by omega) (p := { s.pr i with kn := v }) (pc_set s h.wv i _ 2 _ (fun q hq => by
    unfold pc prM
    simp only [upd1_same]
    split <;> first | rfl | (exact absurd rfl hq)) (by unfold pc prM; simp only [upd1_same])) rfl
theorem Mmov.setKp (m : Mmov W mb n s h) {i : Nat} (hi : i < n) (v : Nat) : Mmov (W.setCell ⟨h.P, i * 6 + 3, none⟩ (.int .i64 (v : Int))) mb n (prM s i { s.pr i with kp := v }) h ∧ MStp mb W h (W.setCell ⟨h.P, i * 6 + 3, none⟩ (.int .i64 (v : Int))) h 0 :=
  m.setF hi (k := 3) (by omega) (p := { s.pr i with kp := v }) (pc_set s h.wv i _ 3 _ (fun q hq => by
    unfold pc prM
    simp only [upd1_same]
    split <;> first | rfl | (exact absurd rfl hq)) (by unfold pc prM; simp only [upd1_same])) rfl
theorem Mmov.setYes (m : Mmov W mb n s h) {i : Nat} (hi : i < n) (v : Nat) : Mmov (W.setCell ⟨h.P, i * 6 + 4, none⟩ (.int .i64 (v : Int))) mb n (prM s i { s.pr i with yes := v }) h ∧ MStp mb W h (W.setCell ⟨h.P, i * 6 + 4, none⟩ (.int .i64 (v : Int))) h 0 :=
  m.setF hi (k := 4) (by omega) (p := { s.pr i with yes := v }) (pc_set s h.wv i _ 4 _ (fun q hq => by
    unfold pc prM
    simp only [upd1_same]
    split <;> first | rfl | (exact absurd rfl hq)) (by unfold pc prM; simp only [upd1_same])) rfl

/-- One more came inside: behind the append, and behind the store. -/
theorem Mmov.pushIn (m : Mmov W mb n s h) {x : Nat} {wa w3 : World} {v3 : Value} (ha : Stil W wa)
    (hs : Seg w3 (fun g => (h.iv.ownBlock = some g ∧ h.t g = some .ins) ∨ g = wa.heap.size) 3 1 v3 (s.ins.length + 1) (natsL s.ins ++ [.int .i64 (x : Int)])) (hg : wa.grownBy w3 h.iv.ownBlock) :
    w3.cell? ⟨mb, 2, none⟩ = some h.iv ∧ w3.frozen? ⟨mb, 2, none⟩ = false ∧ ∃ h2, Mmov (w3.setCell ⟨mb, 2, none⟩ v3) mb n ⟨s.pr, s.ways, s.ins ++ [x]⟩ h2 ∧ MStp mb W h (w3.setCell ⟨mb, 2, none⟩ v3) h2 0 := by
  obtain ⟨t3, P3, S3⟩ := m.pool.app (τ := .ins) (s := ⟨3, 1, h.iv, s.ins.length, natsL s.ins⟩) rfl (m := 1) (news := [.int .i64 (x : Int)]) ha hs hg
  have b3 := S3.block m.tmb m.blk
  have t4 : ∀ g, g < W.heap.size → t3 g = h.t g := S3.tags
  have hk : Keep (fun g => g = mb) w3 (w3.setCell ⟨mb, 2, none⟩ v3) := (Keep.refl _ w3).setCell _ _ _ (fun _ => rfl)
  have t3mb : t3 mb = none := (t4 _ m.mb_lt).trans m.tmb
  refine ⟨by rw [cell_of_row w3 _ _ _ _ _ b3]; rfl, frozen_of_row w3 _ _ _ _ b3, ⟨h.M, h.c, h.P, v3, h.wv, h.f, t3⟩, ⟨(P3.keep hk (fun g _ e => by rw [e]; exact t3mb)).congr (fun y q hy => ?_), t3mb, (t4 _ m.map.lt).trans m.tM, m.ne, ?_, (m.map.keep S3.keep (fun e => e m.tM)).keep hk (fun e => m.ne e.symm)⟩,
    ⟨(S3.keep.mono (fun g _ e => .inl e)).trans (hk.mono (q := fun g => h.own mb g) (fun g _ e => .inr (.inl e))) (fun _ _ e => e) (fun _ _ e => e), t4, Nat.le_refl _, rfl, rfl⟩⟩
  · cases y with
    | procs => rw [updD_other _ _ (by simp)]; exact hy
    | ins => rw [updD_same, ← hy]; simp [dM, natsL]
    | wt a => rw [updD_other _ _ (by simp)]; exact hy
    | wy a b => rw [updD_other _ _ (by simp)]; exact hy
  · have h1 := heap_setCell_same w3 mb 2 _ _ v3 b3
    simpa using h1

/-- What a process's waiting list is, is another one: it is laid in memory already. -/
theorem Mmov.setWait (m : Mmov W mb n s h) {i : Nat} {w3 : World} {v3 : Value} {l : List Nat} {t3 : Nat → Option MTag} (hi : i < n)
    (P3 : Pool w3 t3 (updD (dM n s h) (.wt i) ⟨3, 1, v3, l.length, natsL l⟩)) (S3 : PStep W h.t w3 t3) :
    (∀ k, k < 6 → w3.cell? ⟨h.P, i * 6 + k, none⟩ = some (pc s h.wv i k)) ∧ (∀ k, w3.frozen? ⟨h.P, k, none⟩ = false) ∧ (∀ b k v, h.t b = none → W.cell? ⟨b, k, none⟩ = some v → w3.cell? ⟨b, k, none⟩ = some v) ∧
    ∃ h2, Mmov (w3.setCell ⟨h.P, i * 6 + 5, none⟩ v3) mb n (prM s i { s.pr i with wait := l }) h2 ∧ MStp mb W h (w3.setCell ⟨h.P, i * 6 + 5, none⟩ v3) h2 0 := by
  have hls : updD (dM n s h) (.wt i) ⟨3, 1, v3, l.length, natsL l⟩ .procs = some ⟨61, 6, .slice (some ⟨h.P, 0, none⟩) n n, n, procL n (pc s h.wv)⟩ := by rw [updD_other _ _ (by simp)]; rfl
  obtain ⟨_, _, c1, c2⟩ := P3.cells hls rfl
  obtain ⟨P4, S4⟩ := P3.set hls (x := v3) rfl (i := i * 6 + 5) (by simp only; omega)
  rw [Nat.zero_add] at P4 S4
  have S5 := S3.trans S4
  have t4 : ∀ g, g < W.heap.size → t3 g = h.t g := S3.tags
  refine ⟨fun k hk => by have := c1 _ _ (procL_at (pc s h.wv) hi hk); simpa using this, c2, fun b k v hb hv => S3.cell hb hv, ⟨h.M, h.c, h.P, h.iv, upd1 h.wv i v3, h.f, t3⟩, ⟨P4.congr (fun y q hy => ?_), (t4 _ m.mb_lt).trans m.tmb, (t4 _ m.map.lt).trans m.tM, m.ne, S5.block m.tmb m.blk, m.map.keep S5.keep (fun e => e m.tM)⟩,
    ⟨S5.keep.mono (fun g _ e => .inl e), t4, Nat.le_refl _, rfl, rfl⟩⟩
  cases y with
  | procs =>
    rw [updD_same, ← hy]
    simp only [dM]
    rw [procL_set _ hi (by omega)]
    congr 3
    funext a q
    by_cases e : a = i ∧ q = 5
    · obtain ⟨rfl, rfl⟩ := e; rw [upd2_same]; show v3 = upd1 h.wv a v3 a; rw [upd1_same]
    · rw [upd2_other _ _ e]
      unfold pc prM
      by_cases ea : a = i
      · subst ea
        simp only [upd1_same]
        split <;> first | rfl | (exact absurd ⟨rfl, rfl⟩ e)
      · simp only [upd1_other _ _ ea]
  | ins => rw [updD_other _ _ (by simp), updD_other _ _ (by simp)]; exact hy
  | wt a =>
    rw [updD_other _ _ (by simp)]
    by_cases e : a = i
    · subst e
      rw [updD_same, ← hy]
      simp only [dM, prM]
      rw [if_pos hi, upd1_same, upd1_same]
    · rw [updD_other _ _ (by simpa using e), ← hy]
      simp only [dM, prM]
      rw [upd1_other _ _ e, upd1_other _ _ e]
  | wy a b => rw [updD_other _ _ (by simp), updD_other _ _ (by simp)]; exact hy
theorem Mmov.pushWait (m : Mmov W mb n s h) {i x : Nat} {wa w3 : World} {v3 : Value} (hi : i < n) (ha : Stil W wa)
    (hs : Seg w3 (fun g => ((h.wv i).ownBlock = some g ∧ h.t g = some (.wt i)) ∨ g = wa.heap.size) 3 1 v3 ((s.pr i).wait.length + 1) (natsL (s.pr i).wait ++ [.int .i64 (x : Int)])) (hg : wa.grownBy w3 (h.wv i).ownBlock) :
    (∀ k, k < 6 → w3.cell? ⟨h.P, i * 6 + k, none⟩ = some (pc s h.wv i k)) ∧ (∀ k, w3.frozen? ⟨h.P, k, none⟩ = false) ∧ (∀ b k v, h.t b = none → W.cell? ⟨b, k, none⟩ = some v → w3.cell? ⟨b, k, none⟩ = some v) ∧
    ∃ h2, Mmov (w3.setCell ⟨h.P, i * 6 + 5, none⟩ v3) mb n (prM s i { s.pr i with wait := (s.pr i).wait ++ [x] }) h2 ∧ MStp mb W h (w3.setCell ⟨h.P, i * 6 + 5, none⟩ v3) h2 0 := by
  obtain ⟨t3, P3, S3⟩ := m.pool.app (τ := .wt i) (s := ⟨3, 1, h.wv i, (s.pr i).wait.length, natsL (s.pr i).wait⟩) (show dM n s h (.wt i) = some ⟨3, 1, h.wv i, (s.pr i).wait.length, natsL (s.pr i).wait⟩ from if_pos hi) (m := 1) (news := [.int .i64 (x : Int)]) ha hs hg
  exact m.setWait hi (by simpa [natsL] using P3) S3
theorem Mmov.nilWait (m : Mmov W mb n s h) {i : Nat} (hi : i < n) : ∃ h2, Mmov (W.setCell ⟨h.P, i * 6 + 5, none⟩ (.slice none 0 0)) mb n (noneS s i) h2 ∧ MStp mb W h (W.setCell ⟨h.P, i * 6 + 5, none⟩ (.slice none 0 0)) h2 0 :=
  (m.setWait (l := []) hi (m.pool.newNil (.wt i) 3 1) (PStep.refl W h.t)).2.2.2

/-- A way is another one: it is laid in memory already; the map's store. -/
theorem Mmov.setWay (m : Mmov W mb n s h) {i j : Nat} {w3 : World} {v3 : Value} {l : List Nat} {t3 : Nat → Option MTag} (hi : i < n) (hj : j < n) (hn : n ≤ 1000) (hc : h.c < 100000)
    (P3 : Pool w3 t3 (updD (dM n s h) (.wy i j) ⟨3, 1, v3, l.length, natsL l⟩)) (S3 : PStep W h.t w3 t3) :
    ∃ W2 h2, (Instr.mapUpdate 35 (.map (some h.M)) (.agg #[.int .i64 (i : Int), .int .i64 (j : Int)]) v3).run Try.prog w3 = .ok () W2 ∧ Mmov W2 mb n (wayM s i j l) h2 ∧ MStp mb W h W2 h2 1 ∧ h2.wv = h.wv ∧ Keep (fun g => g = h.M) w3 W2 := by
  have t4 : ∀ g, g < W.heap.size → t3 g = h.t g := S3.tags
  have t3M : t3 h.M = none := (t4 _ m.map.lt).trans m.tM
  obtain ⟨W2, hr, hp, hg⟩ := (m.map.keep S3.keep (fun e => e m.tM)).store (show h.c < maxLen by unfold maxLen; omega) hn hi hj v3
  have hk : Keep (fun g => g = h.M) w3 W2 := (Keep.of_grown hg).mono (fun i _ e => by cases e; rfl)
  refine ⟨W2, ⟨h.M, h.c + 1, h.P, h.iv, h.wv, upd2 h.f i j v3, t3⟩, hr, ⟨(P3.keep hk (fun g _ e => by rw [e]; exact t3M)).congr (fun y q hy => ?_), (t4 _ m.mb_lt).trans m.tmb, t3M, m.ne, ?_, hp⟩,
    ⟨(S3.keep.mono (fun g _ e => .inl e)).trans (hk.mono (q := fun g => h.own mb g) (fun g _ e => .inr (.inr e))) (fun _ _ e => e) (fun _ _ e => e), t4, Nat.le_refl _, rfl, rfl⟩, rfl, hk⟩
  · cases y with
    | procs => rw [updD_other _ _ (by simp)]; exact hy
    | ins => rw [updD_other _ _ (by simp)]; exact hy
    | wt a => rw [updD_other _ _ (by simp)]; exact hy
    | wy a b =>
      by_cases e : a = i ∧ b = j
      · obtain ⟨rfl, rfl⟩ := e
        rw [updD_same, ← hy]
        simp only [dM, wayM]
        rw [if_pos ⟨hi, hj⟩, upd2_same, upd2_same]
      · rw [updD_other _ _ (by simpa using e), ← hy]
        simp only [dM, wayM]
        rw [upd2_other _ _ e, upd2_other _ _ e]
  · have b3 := S3.block m.tmb m.blk
    exact (hk.block mb (Array.getElem?_eq_some_iff.1 b3).1 m.ne).trans b3
theorem Mmov.pushWay (m : Mmov W mb n s h) {i j x : Nat} {wa w3 : World} {v3 : Value} (hi : i < n) (hj : j < n) (hn : n ≤ 1000) (hc : h.c < 100000) (ha : Stil W wa)
    (hs : Seg w3 (fun g => ((h.f i j).ownBlock = some g ∧ h.t g = some (.wy i j)) ∨ g = wa.heap.size) 3 1 v3 ((s.ways i j).length + 1) (natsL (s.ways i j) ++ [.int .i64 (x : Int)])) (hg : wa.grownBy w3 (h.f i j).ownBlock) :
    w3.cell? ⟨mb, 1, none⟩ = some (.map (some h.M)) ∧ (Instr.lookup 35 (.map (some h.M)) (.agg #[.int .i64 (i : Int), .int .i64 (j : Int)]) false).run Try.prog w3 = .ok (h.f i j) w3 ∧
    ∃ W2 h2, (Instr.mapUpdate 35 (.map (some h.M)) (.agg #[.int .i64 (i : Int), .int .i64 (j : Int)]) v3).run Try.prog w3 = .ok () W2 ∧ Mmov W2 mb n (putM s i j x) h2 ∧ MStp mb W h W2 h2 1 ∧ h2.wv = h.wv := by
  obtain ⟨t3, P3, S3⟩ := m.pool.app (τ := .wy i j) (s := ⟨3, 1, h.f i j, (s.ways i j).length, natsL (s.ways i j)⟩) (show dM n s h (.wy i j) = some ⟨3, 1, h.f i j, (s.ways i j).length, natsL (s.ways i j)⟩ from if_pos ⟨hi, hj⟩) (m := 1) (news := [.int .i64 (x : Int)]) ha hs hg
  refine ⟨?_, (m.map.keep S3.keep (fun e => e m.tM)).pairs.look wayMap (show i < 1000 by omega) (show j < 1000 by omega), let ⟨W2, h2, a1, a2, a3, a4, _⟩ := m.setWay (l := s.ways i j ++ [x]) hi hj hn hc (by simpa [natsL] using P3) S3; ⟨W2, h2, a1, a2, a3, a4⟩⟩
  rw [cell_of_row w3 _ _ _ _ _ (S3.block m.tmb m.blk)]; rfl
end Go.Proofs.Ytaojmbebkggafaa
