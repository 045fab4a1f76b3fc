/- How all stands, in memory: numbers, entries, what was heard. -/
import Derived.Test.YtipoopbkapgfiaaTa0
import Derived.Test.YtipoopbkapgfiaaCp1
import Derived.Test.YtipoopbkapgfiaaCb1
namespace Go.Proofs.Ytipoopbkapgfiaa
open Go.RowKit Go.WideMaps
set_option linter.unusedVariables false

theorem wrap_of {z : Int} (h : I64 z) : IntKind.i64.wrap z = z := by
  obtain ⟨h0, h1⟩ := h
  simp [IntKind.wrap, IntKind.bits, IntKind.signed]
  split <;> omega
variable {T K E : TypeId} {z : Value} {W W2 : World} {M c : Nat} {f : Nat → Nat → Option Value}
/-- Block M is a map by pairs; f says what it has at each. -/
def PairsO (W : World) (K : TypeId) (M c : Nat) (f : Nat → Nat → Option Value) : Prop :=
  ∃ D, W.ownsMap Try.prog K heldR M c D ∧ ∀ i j, i < 1000 → j < 1000 → ∀ zd, D.atKey (pairL i j) zd = match f i j with | some v => .held v | none => zd
theorem PairsO.made (w : World) (K : TypeId) : PairsO (w.alloc (.map #[] 0)) K w.heap.size 0 (fun _ _ => none) :=
  ⟨.map [], World.ownsMap_made w _ _ _, fun _ _ _ _ _ => rfl⟩
theorem PairsO.lt (h : PairsO W K M c f) : M < W.heap.size := let ⟨_, h1, _⟩ := h; h1.lt
theorem PairsO.keep {o : Nat → Prop} (h : PairsO W K M c f) (hw : Keep o W W2) (hM : ¬ o M) : PairsO W2 K M c f := by
  obtain ⟨D, ⟨es, clock, hb, r⟩, h2⟩ := h
  exact ⟨D, ⟨es, clock, (hw.block M (Array.getElem?_eq_some_iff.1 hb).1 hM).trans hb, r⟩, h2⟩
theorem PairsO.look (h : PairsO W K M c f) (p : PairKey T K E z) (ok : Bool) {i j : Nat} (hi : i < 1000) (hj : j < 1000) :
    (Instr.lookup T (.map (some M)) (pairV i j) ok).run Try.prog W = .ok (if ok then .tuple #[(f i j).getD z, .bool (f i j).isSome] else (f i j).getD z) W := by
  obtain ⟨D, h1, h2⟩ := h
  obtain ⟨es, clock, hb, F, _, rfl⟩ := h1
  have h3 := h2 i j hi hj
  rcases Maps.fit_look ok p.keyed p.hT (p.zero W) hb F (p.key hi hj) with ⟨hrun, _, hat⟩ | ⟨e0, y, _, _, hrun, hR, hat, _⟩
  · cases hf : f i j with
    | none => rw [hrun]; rfl
    | some v =>
      have a1 := hat .nil
      rw [h3 .nil, hf] at a1
      cases a1
  · cases hf : f i j with
    | none =>
      have a1 := hat .nil
      have a2 := hat (.held z)
      rw [h3, hf] at a1 a2
      rw [← a1] at a2
      cases a2
    | some v =>
      have a1 := hat .nil
      rw [h3, hf] at a1
      simp only [heldR, Option.some.injEq] at hR
      rw [← hR] at a1
      simp only [DataW.held.injEq] at a1
      rw [hrun, a1]
      rfl
theorem PairsO.store (h : PairsO W K M c f) (p : PairKey T K E z) (hc : c < maxLen) {i j : Nat} (hi : i < 1000) (hj : j < 1000) (v : Value) :
    ∃ W2, (Instr.mapUpdate T (.map (some M)) (pairV i j) v).run Try.prog W = .ok () W2 ∧ PairsO W2 K M (c + 1) (upd2 f i j (some v)) ∧ W.grownBy W2 (some M) := by
  obtain ⟨D, h1, h2⟩ := h
  obtain ⟨W2, hr, h3, h4⟩ := h1.update (d := .held v) (ps := []) p.keyed p.hT hc (p.key hi hj) rfl
  refine ⟨W2, hr, ⟨_, h3, fun a b ha hb zd => ?_⟩, h4⟩
  by_cases e : a = i ∧ b = j
  · obtain ⟨rfl, rfl⟩ := e
    rw [upd2_same]
    exact Maps.atKey_put_same h1.isMap (p.keyed.key (p.key ha hb)) _ _
  · rw [upd2_other _ _ e, Maps.atKey_put_other (fun he => e (p.inj ha hb hi hj he))]
    exact h2 a b ha hb zd

theorem key_place {i j : Nat} (hi : i < 1000) (hj : j < 1000) : keyOf Try.prog 59 (pairV i j) = some (pairL i j) := by
  have wi : (Lit.int .i64 (i : Int)).wf = true := wf_of ⟨by omega, by omega⟩
  have wj : (Lit.int .i64 (j : Int)).wf = true := wf_of ⟨by omega, by omega⟩
  have hk : Try.prog.keyType 59 = true := by kernel_rfl
  have hc : Try.prog.cellsOf 59 = 2 := by kernel_rfl
  have h1 : Try.prog.cellsOf 3 = 1 := by kernel_rfl
  obtain ⟨m, hm⟩ : ∃ m, Try.prog.types.size = m + 1 := ⟨Try.prog.types.size - 1, by decide +kernel⟩
  unfold keyOf pairV pairL
  simp only [Try.underlying59]
  rw [if_pos (by simp [hk, Value.formed, Try.underlying59, hc]), hm]
  unfold Program.keyLits
  simp only [Try.underlying59, Value.cells]
  rw [if_pos (by rw [hc]; exact ⟨rfl, by simp⟩)]
  simp [List.mapM_cons, h1, Program.keyLits, Try.underlying3, wi, wj]
def entZ : Value := .agg #[.int .i64 0, .int .i64 0, .bool false, .bool false]
theorem entMap : PairKey 35 59 56 entZ :=
  ⟨deep_law (m := 2) (by omega) (by kernel_rfl) (by kernel_rfl) (by kernel_rfl), Try.underlying35, fun w => by kernel_rfl, fun hi hj => key_place hi hj⟩
def entV (e : En) : Value := .agg #[.int .i64 (e.n : Int), .int .i64 (e.p : Int), .bool e.told, .bool e.heard]

inductive TTag where
  | num | ls
  | li (i : Nat)
deriving DecidableEq
structure TSh where
  M : Nat
  c : Nat
  N : Nat
  L : Nat
  t : Nat → Option TTag
  f : Nat → Value
def TSh.own (h : TSh) (mb g : Nat) : Prop := h.t g ≠ none ∨ g = mb ∨ g = h.M
def dT (n : Nat) (s : TS) (h : TSh) : TTag → Option Slot
  | .num => some ⟨3, 1, .slice (some ⟨h.N, 0, none⟩) n n, n, (List.range n).map fun (i : Nat) => .int .i64 (s.num i : Int)⟩
  | .ls => some ⟨34, 1, .slice (some ⟨h.L, 0, none⟩) n n, n, (List.range n).map h.f⟩
  | .li i => if i < n then some ⟨3, 1, h.f i, (s.ls i).length, natsL (s.ls i)⟩ else none
structure Tmov (W : World) (mb n : Nat) (s : TS) (h : TSh) : Prop where
  pool : Pool W h.t (dT n s h)
  tmb : h.t mb = none
  tM : h.t h.M = none
  ne : mb ≠ h.M
  blk : W.heap[mb]? = some (.cells #[.int .i64 (s.sent : Int), .slice (some ⟨h.N, 0, none⟩) n n, .map (some h.M), .slice (some ⟨h.L, 0, none⟩) n n] 37 (0, 0))
  map : PairsO W 59 h.M h.c (fun i j => (s.ent i j).map entV)

variable {mb n : Nat} {s : TS} {h h2 : TSh}
theorem Tmov.mb_lt (m : Tmov W mb n s h) : mb < W.heap.size := (Array.getElem?_eq_some_iff.1 m.blk).1
theorem Tmov.fresh (m : Tmov W mb n s h) {g : Nat} (hg : W.heap.size ≤ g) : ¬ h.own mb g := by
  rintro (e | e | e)
  · exact e (m.pool.fresh g hg)
  · have := m.mb_lt; omega
  · have := m.map.lt; omega
theorem Tmov.keep {o : Nat → Prop} (m : Tmov W mb n s h) (hw : Keep o W W2) (ho : ∀ g, g < W.heap.size → o g → ¬ h.own mb g) : Tmov W2 mb n s h := by
  refine ⟨m.pool.keep hw (fun g hg e => ?_), m.tmb, m.tM, m.ne, (hw.block mb m.mb_lt (fun e => ho mb m.mb_lt e (.inr (.inl rfl)))).trans m.blk, m.map.keep hw (fun e => ho _ m.map.lt e (.inr (.inr rfl)))⟩
  cases ht : h.t g with
  | none => rfl
  | some x => exact absurd (.inl (by rw [ht]; simp)) (ho g hg e)
theorem Tmov.still (m : Tmov W mb n s h) (hw : Stil W W2) : Tmov W2 mb n s h := m.keep hw (fun _ _ e => e.elim)
theorem Tmov.alloc (m : Tmov W mb n s h) (o : Obj) : Tmov (W.alloc o) mb n s h := m.still (Stil.new W o)
theorem Tmov.drewN (m : Tmov W mb n s h) (k : Nat) : Tmov (W.drewN k) mb n s h := m.still (Stil.drewN W k)
theorem Tmov.cells (m : Tmov W mb n s h) : W.cell? ⟨mb, 0, none⟩ = some (.int .i64 (s.sent : Int)) ∧ W.cell? ⟨mb, 1, none⟩ = some (.slice (some ⟨h.N, 0, none⟩) n n) ∧ W.cell? ⟨mb, 2, none⟩ = some (.map (some h.M)) ∧ W.cell? ⟨mb, 3, none⟩ = some (.slice (some ⟨h.L, 0, none⟩) n n) := by
  refine ⟨?_, ?_, ?_, ?_⟩ <;> rw [cell_of_row W mb _ _ _ _ m.blk] <;> rfl
theorem Tmov.num_at (m : Tmov W mb n s h) {i : Nat} (hi : i < n) : W.cell? ⟨h.N, i, none⟩ = some (.int .i64 (s.num i : Int)) ∧ W.frozen? ⟨h.N, i, none⟩ = false := by
  obtain ⟨_, _, h1, h2⟩ := m.pool.cells (τ := .num) (s := _) rfl rfl
  refine ⟨?_, h2 i⟩
  have := h1 i (.int .i64 (s.num i : Int)) (by simp [hi])
  simpa using this
theorem Tmov.row (m : Tmov W mb n s h) {i : Nat} (hi : i < n) : W.cell? ⟨h.L, i, none⟩ = some (h.f i) ∧ W.frozen? ⟨h.L, i, none⟩ = false := by
  obtain ⟨_, _, h1, h2⟩ := m.pool.cells (τ := .ls) (s := _) rfl rfl
  refine ⟨?_, h2 i⟩
  have := h1 i (h.f i) (by simp [hi])
  simpa using this
theorem Tmov.li (m : Tmov W mb n s h) {i : Nat} (hi : i < n) : Seg W (fun g => h.t g = some (.li i)) 3 1 (h.f i) (s.ls i).length (natsL (s.ls i)) := m.pool.seg (.li i) ⟨3, 1, h.f i, (s.ls i).length, natsL (s.ls i)⟩ (if_pos hi)
theorem Tmov.look (m : Tmov W mb n s h) {i k : Nat} (hi : i < 1000) (hk : k < 1000) : (Instr.lookup 35 (.map (some h.M)) (.agg #[.int .i64 (i : Int), .int .i64 (k : Int)]) false).run Try.prog W = .ok (((s.ent i k).map entV).getD entZ) W := m.map.look entMap false hi hk
theorem Tmov.look2 (m : Tmov W mb n s h) {i k : Nat} (hi : i < 1000) (hk : k < 1000) : (Instr.lookup 35 (.map (some h.M)) (.agg #[.int .i64 (i : Int), .int .i64 (k : Int)]) true).run Try.prog W = .ok (.tuple #[((s.ent i k).map entV).getD entZ, .bool (s.ent i k).isSome]) W := by
  have := m.map.look entMap true hi hk
  rw [Option.isSome_map] at this
  exact this

/-- What a turn leaves as it was. -/
structure TStp (mb : Nat) (W : World) (h : TSh) (W2 : World) (h2 : TSh) (k : Nat) : Prop where
  keep : Keep (h.own mb) W W2
  tags : ∀ g, g < W.heap.size → h2.t g = h.t g
  count : h2.c ≤ h.c + k
  same : h2.L = h.L ∧ h2.M = h.M ∧ h2.N = h.N
theorem TStp.refl (mb : Nat) (W : World) (h : TSh) : TStp mb W h W h 0 := ⟨Keep.refl _ W, fun _ _ => rfl, Nat.le_refl _, rfl, rfl, rfl⟩
theorem TStp.of_still (mb : Nat) {W W2 : World} (h : TSh) (x : Stil W W2) : TStp mb W h W2 h 0 := ⟨x.mono (fun _ _ e => e.elim), fun _ _ => rfl, Nat.le_refl _, rfl, rfl, rfl⟩
theorem TStp.trans {mb : Nat} {A B C : World} {f g h : TSh} {a b : Nat} (x : TStp mb A f B g a) (y : TStp mb B g C h b) : TStp mb A f C h (a + b) :=
  ⟨x.keep.trans y.keep (fun _ _ e => e) (fun i hi e => by
    rcases e with e | e | e
    · exact .inl (by rw [x.tags i hi] at e; exact e)
    · exact .inr (.inl e)
    · exact .inr (.inr (by rw [← x.same.2.1]; exact e))), fun i hi => (y.tags i (Nat.lt_of_lt_of_le hi x.keep.size)).trans (x.tags i hi), by have := x.count; have := y.count; omega, y.same.1.trans x.same.1, y.same.2.1.trans x.same.2.1, y.same.2.2.trans x.same.2.2⟩
theorem TStp.mono {mb : Nat} {A B : World} {f g : TSh} {a b : Nat} (x : TStp mb A f B g a) (hab : a ≤ b) : TStp mb A f B g b := ⟨x.keep, x.tags, by have := x.count; omega, x.same⟩
theorem TStp.own {mb : Nat} {A B : World} {f g : TSh} {a : Nat} (x : TStp mb A f B g a) {k : Nat} (hk : k < A.heap.size) : g.own mb k ↔ f.own mb k := by
  unfold TSh.own
  rw [x.tags k hk, x.same.2.1]
theorem TStp.free {mb : Nat} {A B : World} {f g : TSh} {k : Nat} (x : TStp mb A f B g k) {b i : Nat} {v : Value} (ht : ¬ f.own mb b) (hv : A.cell? ⟨b, i, none⟩ = some v) : B.cell? ⟨b, i, none⟩ = some v :=
  (World.cell?_of_block (x.keep.block b (World.block_lt_of_cell? _ _ hv) ht)).trans hv
theorem TStp.block {mb : Nat} {A B : World} {f g : TSh} {k : Nat} (x : TStp mb A f B g k) {b : Nat} {o : Obj} (ht : ¬ f.own mb b) (hv : A.heap[b]? = some o) : B.heap[b]? = some o :=
  (x.keep.block b (Array.getElem?_eq_some_iff.1 hv).1 ht).trans hv

/-- One more was sent. -/
theorem Tmov.setSent (m : Tmov W mb n s h) (v : Nat) : Tmov (W.setCell ⟨mb, 0, none⟩ (.int .i64 (v : Int))) mb n ⟨v, s.num, s.ent, s.ls⟩ h ∧ TStp mb W h (W.setCell ⟨mb, 0, none⟩ (.int .i64 (v : Int))) h 0 := by
  have hk : Keep (fun g => g = mb) W (W.setCell ⟨mb, 0, none⟩ (.int .i64 (v : Int))) := (Keep.refl _ W).setCell _ _ _ (fun _ => rfl)
  refine ⟨⟨m.pool.keep hk (fun g _ e => by rw [e]; exact m.tmb), m.tmb, m.tM, m.ne, ?_, m.map.keep hk (fun e => m.ne e.symm)⟩, ⟨hk.mono (fun g _ e => .inr (.inl e)), fun _ _ => rfl, Nat.le_refl _, rfl, rfl, rfl⟩⟩
  have h1 := heap_setCell_same W mb 0 _ _ (.int .i64 (v : Int)) m.blk
  simpa using h1
/-- A number is another one. -/
theorem Tmov.setNum (m : Tmov W mb n s h) {i : Nat} (hi : i < n) (v : Nat) : Tmov (W.setCell ⟨h.N, i, none⟩ (.int .i64 (v : Int))) mb n ⟨s.sent, upd1 s.num i v, s.ent, s.ls⟩ h ∧ TStp mb W h (W.setCell ⟨h.N, i, none⟩ (.int .i64 (v : Int))) h 0 := by
  obtain ⟨hp, hs⟩ := m.pool.set (τ := .num) (s := ⟨3, 1, .slice (some ⟨h.N, 0, none⟩) n n, n, (List.range n).map fun (i : Nat) => .int .i64 (s.num i : Int)⟩) rfl (x := .int .i64 (v : Int)) rfl (i := i) (by simpa using hi)
  rw [Nat.zero_add] at hp hs
  refine ⟨⟨hp.congr (fun x q hx => ?_), m.tmb, m.tM, m.ne, hs.block m.tmb m.blk, m.map.keep hs.keep (fun e => e m.tM)⟩, ⟨hs.keep.mono (fun g _ e => .inl e), fun _ _ => rfl, Nat.le_refl _, rfl, rfl, rfl⟩⟩
  cases x with
  | num =>
    rw [updD_same, ← hx]
    simp only [dT]
    congr 2
    apply List.ext_getElem?
    intro k
    rw [List.getElem?_set]
    by_cases e : i = k
    · subst e
      simp [hi, upd1_same]
    · rw [if_neg e]
      by_cases hk : k < n
      · simp [hk, upd1_other _ _ (Ne.symm e)]
      · simp [hk]
  | ls => rw [updD_other _ _ (by simp)]; exact hx
  | li k => rw [updD_other _ _ (by simp)]; exact hx
/-- An entry is another one. -/
theorem Tmov.setEnt (m : Tmov W mb n s h) {i j : Nat} (hi : i < 1000) (hj : j < 1000) (hc : h.c < 100000) (e : En) :
    ∃ W2, (Instr.mapUpdate 35 (.map (some h.M)) (.agg #[.int .i64 (i : Int), .int .i64 (j : Int)]) (.agg #[.int .i64 (e.n : Int), .int .i64 (e.p : Int), .bool e.told, .bool e.heard])).run Try.prog W = .ok () W2 ∧
      Tmov W2 mb n ⟨s.sent, s.num, upd2 s.ent i j (some e), s.ls⟩ { h with c := h.c + 1 } ∧ TStp mb W h W2 { h with c := h.c + 1 } 1 := by
  obtain ⟨W2, hr, hp, hg⟩ := m.map.store entMap (show h.c < maxLen by unfold maxLen; omega) hi hj (entV e)
  have hk : Keep (fun g => g = h.M) W W2 := (Keep.of_grown hg).mono (fun i _ e => by cases e; rfl)
  refine ⟨W2, hr, ⟨m.pool.keep hk (fun g _ e => by rw [e]; exact m.tM), m.tmb, m.tM, m.ne, (hk.block mb m.mb_lt m.ne).trans m.blk, ?_⟩, ⟨hk.mono (fun g _ e => .inr (.inr e)), fun _ _ => rfl, Nat.le_refl _, rfl, rfl, rfl⟩⟩
  have e1 : (fun a b => (upd2 s.ent i j (some e) a b).map entV) = upd2 (fun i j => (s.ent i j).map entV) i j (some (entV e)) := by
    funext a b
    rw [ud2, ud2]
    split <;> rfl
  show PairsO W2 _ h.M (h.c + 1) (fun a b => (upd2 s.ent i j (some e) a b).map entV)
  rw [e1]
  exact hp

/-- A list grows by one: behind the append, and behind the store. -/
theorem Tmov.push (m : Tmov W mb n s h) {i x : Nat} {wa w3 : World} {v3 : Value} (hi : i < n) (ha : Stil W wa)
    (hs : Seg w3 (fun g => ((h.f i).ownBlock = some g ∧ h.t g = some (.li i)) ∨ g = wa.heap.size) 3 1 v3 ((s.ls i).length + 1) (natsL (s.ls i) ++ [.int .i64 (x : Int)])) (hg : wa.grownBy w3 (h.f i).ownBlock) :
    w3.cell? ⟨mb, 3, none⟩ = some (.slice (some ⟨h.L, 0, none⟩) n n) ∧ w3.cell? ⟨h.L, i, none⟩ = some (h.f i) ∧ w3.frozen? ⟨h.L, i, none⟩ = false ∧
    ∃ h2, Tmov (w3.setCell ⟨h.L, i, none⟩ v3) mb n ⟨s.sent, s.num, s.ent, upd1 s.ls i (s.ls i ++ [x])⟩ h2 ∧ TStp mb W h (w3.setCell ⟨h.L, i, none⟩ v3) h2 0 := by
  obtain ⟨t3, P3, S3⟩ := m.pool.app (τ := .li i) (s := ⟨3, 1, h.f i, (s.ls i).length, natsL (s.ls i)⟩) (show dT n s h (.li i) = some ⟨3, 1, h.f i, (s.ls i).length, natsL (s.ls i)⟩ from if_pos hi) (m := 1) (news := [.int .i64 (x : Int)]) ha hs hg
  have hls : updD (dT n s h) (.li i) ⟨3, 1, v3, (s.ls i).length + 1, natsL (s.ls i) ++ [.int .i64 (x : Int)]⟩ .ls = some ⟨34, 1, .slice (some ⟨h.L, 0, none⟩) n n, n, (List.range n).map h.f⟩ := by rw [updD_other _ _ (by simp)]; rfl
  obtain ⟨_, _, c1, c2⟩ := P3.cells hls rfl
  have b3 := S3.block m.tmb m.blk
  refine ⟨by rw [cell_of_row w3 _ _ _ _ _ b3]; rfl, by have := c1 i (h.f i) (by simp [hi]); simpa using this, c2 i, ?_⟩
  obtain ⟨P4, S4⟩ := P3.set hls (x := v3) rfl (i := i) (by simpa using hi)
  rw [Nat.zero_add] at P4 S4
  have S5 := S3.trans S4
  have t4 : ∀ g, g < W.heap.size → t3 g = h.t g := S3.tags
  refine ⟨⟨h.M, h.c, h.N, h.L, t3, upd1 h.f i v3⟩, ⟨P4.congr (fun y q hy => ?_), (t4 _ m.mb_lt).trans m.tmb, (t4 _ m.map.lt).trans m.tM, m.ne, S5.block m.tmb m.blk, m.map.keep S5.keep (fun e => e m.tM)⟩, ⟨S5.keep.mono (fun g _ e => .inl e), t4, Nat.le_refl _, rfl, rfl, rfl⟩⟩
  cases y with
  | num => rw [updD_other _ _ (by simp), updD_other _ _ (by simp)]; exact hy
  | ls =>
    rw [updD_same, ← hy]
    simp only [dT]
    congr 2
    apply List.ext_getElem?
    intro k
    rw [List.getElem?_set]
    by_cases e : i = k
    · subst e
      simp [hi, upd1_same]
    · rw [if_neg e]
      by_cases hk : k < n
      · simp [hk, upd1_other _ _ (Ne.symm e)]
      · simp [hk]
  | li k =>
    rw [updD_other _ _ (by simp)]
    by_cases e : k = i
    · subst e
      rw [updD_same, ← hy]
      simp only [dT]
      rw [if_pos hi, upd1_same, upd1_same]
      simp [natsL]
    · rw [updD_other _ _ (by simpa using e), ← hy]
      simp only [dT]
      rw [upd1_other _ _ e, upd1_other _ _ e]
end Go.Proofs.Ytipoopbkapgfiaa
