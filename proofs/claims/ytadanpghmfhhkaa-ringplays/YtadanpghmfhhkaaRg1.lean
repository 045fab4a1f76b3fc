/- The ring in memory. -/
import Derived.Test.YtadanpghmfhhkaaRg0
import Derived.Test.YtadanpghmfhhkaaCp1
import Derived.Test.YtadanpghmfhhkaaCb1
namespace Go.Proofs.Ytadanpghmfhhkaa
open Go.RowKit
set_option linter.unusedVariables false

theorem wrap_of {z : Int} (h : I64 z) : IntKind.i64.wrap z = z := by
  obtain ⟨h0, h1⟩ := h
  simp [IntKind.wrap, IntKind.bits, IntKind.signed]
  split <;> omega
theorem stilDrew (A : World) : Stil A A.drew := (Keep.refl _ A).drew
def intsG (xs : List Int) : List Value := xs.map fun z => .int .i64 z
/-- All but the first. -/
theorem Seg.tailG {W : World} {ok : Nat → Prop} {e : TypeId} {v : Value} {k : Nat} {x : Value} {xs : List Value} (h : Seg W ok e 1 v (k + 1) (x :: xs)) : ∃ g off cap, v = .slice (some ⟨g, off, none⟩) (k + 1) cap ∧ k + 1 ≤ cap ∧ cap ≤ maxLen ∧ ok g ∧ W.cell? ⟨g, off, none⟩ = some x ∧
    Seg W ok e 1 (.slice (some (if cap = 1 then ⟨g, off, none⟩ else ⟨g, off + 1, none⟩)) k (cap - 1)) k xs := by
  obtain ⟨h1, ⟨_, h0⟩ | ⟨g, off, cap, cur, rfl, h3, h4, h5, h6, h7, h8⟩⟩ := h
  · omega
  · refine ⟨g, off, cap, rfl, h5, h6, h3, ?_, by simpa using h1, .inr ?_⟩
    · rw [cell_of_row W g _ cur e (0, 0) h4]
      exact h8 0 x rfl
    · by_cases hc : cap = 1
      · rw [if_pos hc]
        refine ⟨g, off, cap - 1, cur, rfl, h3, h4, by omega, by omega, by omega, fun j y hy => ?_⟩
        have := (List.getElem?_eq_some_iff.1 hy).1
        simp at h1
        omega
      · rw [if_neg hc]
        refine ⟨g, off + 1, cap - 1, cur, rfl, h3, h4, by omega, by omega, by omega, fun j y hy => ?_⟩
        have := h8 (j + 1) y (by simpa using hy)
        rw [← this]
        congr 1
        omega

inductive GTag where
  | procs
  | chosen
  | co (i : Nat)
deriving DecidableEq
/-- Where all lies: the processes' block, the list of who was chosen, what comes to each; whose each block is. -/
structure GSh where
  P : Nat
  cv : Value
  qv : Nat → Value
  t : Nat → Option GTag
def GSh.own (h : GSh) (mb g : Nat) : Prop := h.t g ≠ none ∨ g = mb
def pcG (nm : Nat → Int) (s : GS) (qv : Nat → Value) (i k : Nat) : Value := match k with
  | 0 => .int .i64 (nm i)
  | 1 => .bool (s.pr i).tp
  | 2 => qv i
  | _ => .bool false
def procG (n : Nat) (F : Nat → Nat → Value) : List Value := (List.range (n * 3)).map fun q => F (q / 3) (q % 3)
theorem procG_at {n i k : Nat} (F : Nat → Nat → Value) (hi : i < n) (hk : k < 3) : (procG n F)[i * 3 + k]? = some (F i k) := by
  unfold procG
  rw [List.getElem?_map, List.getElem?_range (by omega)]
  simp only [Option.map_some]
  congr 2 <;> omega
theorem procG_set {n i k : Nat} (F : Nat → Nat → Value) (hi : i < n) (hk : k < 3) (x : Value) : (procG n F).set (i * 3 + k) x = procG n (upd2 F i k x) := by
  apply List.ext_getElem?
  intro q
  rw [List.getElem?_set]
  by_cases hq : q < n * 3
  · by_cases e : i * 3 + k = q
    · subst e
      rw [if_pos rfl, if_pos (by simp [procG]; omega), procG_at _ hi hk, upd2_same]
    · rw [if_neg e]
      unfold procG
      rw [List.getElem?_map, List.getElem?_map, List.getElem?_range hq]
      simp only [Option.map_some]
      rw [upd2_other _ _ (by omega)]
  · rw [if_neg (by omega), List.getElem?_eq_none (by simp [procG]; omega), List.getElem?_eq_none (by simp [procG]; omega)]
def dG (n : Nat) (nm : Nat → Int) (s : GS) (h : GSh) : GTag → Option Slot
  | .procs => some ⟨45, 3, .slice (some ⟨h.P, 0, none⟩) n n, n, procG n (pcG nm s h.qv)⟩
  | .chosen => some ⟨3, 1, h.cv, s.ch.length, natsL s.ch⟩
  | .co i => if i < n then some ⟨3, 1, h.qv i, (s.pr i).co.length, intsG (s.pr i).co⟩ else none
structure Gmv (W : World) (mb n : Nat) (nm : Nat → Int) (s : GS) (h : GSh) : Prop where
  pool : Pool W h.t (dG n nm s h)
  tmb : h.t mb = none
  blk : W.heap[mb]? = some (.cells #[.slice (some ⟨h.P, 0, none⟩) n n, h.cv, .int .i64 (s.sent : Int)] 43 (0, 0))

variable {W W2 : World} {mb n : Nat} {nm : Nat → Int} {s : GS} {h h2 : GSh}
theorem Gmv.mb_lt (m : Gmv W mb n nm s h) : mb < W.heap.size := (Array.getElem?_eq_some_iff.1 m.blk).1
theorem Gmv.fresh (m : Gmv W mb n nm s h) {g : Nat} (hg : W.heap.size ≤ g) : ¬ h.own mb g := by
  rintro (e | e)
  · exact e (m.pool.fresh g hg)
  · have := m.mb_lt; omega
theorem Gmv.keep {o : Nat → Prop} (m : Gmv W mb n nm s h) (hw : Keep o W W2) (ho : ∀ g, g < W.heap.size → o g → ¬ h.own mb g) : Gmv W2 mb n nm s h := by
  refine ⟨m.pool.keep hw (fun g hg e => ?_), m.tmb, (hw.block mb m.mb_lt (fun e => ho mb m.mb_lt e (.inr rfl))).trans m.blk⟩
  cases ht : h.t g with
  | none => rfl
  | some x => exact absurd (.inl (by rw [ht]; simp)) (ho g hg e)
theorem Gmv.still (m : Gmv W mb n nm s h) (hw : Stil W W2) : Gmv W2 mb n nm s h := m.keep hw (fun _ _ e => e.elim)
theorem Gmv.alloc (m : Gmv W mb n nm s h) (o : Obj) : Gmv (W.alloc o) mb n nm s h := m.still (Stil.new W o)
theorem Gmv.drewN (m : Gmv W mb n nm s h) (k : Nat) : Gmv (W.drewN k) mb n nm s h := m.still (Stil.drewN W k)
theorem Gmv.cells (m : Gmv W mb n nm s h) : W.cell? ⟨mb, 0, none⟩ = some (.slice (some ⟨h.P, 0, none⟩) n n) ∧ W.cell? ⟨mb, 1, none⟩ = some h.cv ∧ W.cell? ⟨mb, 2, none⟩ = some (.int .i64 (s.sent : Int)) ∧ ∀ k, W.frozen? ⟨mb, k, none⟩ = false := by
  refine ⟨?_, ?_, ?_, fun k => frozen_of_row W _ _ _ _ m.blk⟩ <;> rw [cell_of_row W mb _ _ _ _ m.blk] <;> rfl
theorem Gmv.pr_at (m : Gmv W mb n nm s h) {i k : Nat} (hi : i < n) (hk : k < 3) : W.cell? ⟨h.P, i * 3 + k, none⟩ = some (pcG nm s h.qv i k) := by
  obtain ⟨_, _, h1, h2⟩ := m.pool.cells (τ := .procs) (s := _) rfl rfl
  have := h1 (i * 3 + k) _ (procG_at _ hi hk)
  simpa using this
/-- All cells of a process, as the walk writes them. -/
theorem Gmv.proc (m : Gmv W mb n nm s h) {i : Nat} (hi : i < n) : W.cell? ⟨h.P, i * 3, none⟩ = some (.int .i64 (nm i)) ∧ W.cell? ⟨h.P, i * 3 + 1, none⟩ = some (.bool (s.pr i).tp) ∧ W.cell? ⟨h.P, i * 3 + 2, none⟩ = some (h.qv i) ∧ ∀ k, W.frozen? ⟨h.P, k, none⟩ = false :=
  ⟨m.pr_at hi (k := 0) (by omega), m.pr_at hi (k := 1) (by omega), m.pr_at hi (k := 2) (by omega), (m.pool.cells (τ := .procs) (s := _) rfl rfl).2.2.2⟩
theorem Gmv.co (m : Gmv W mb n nm s h) {i : Nat} (hi : i < n) : Seg W (fun g => h.t g = some (.co i)) 3 1 (h.qv i) (s.pr i).co.length (intsG (s.pr i).co) := m.pool.seg (.co i) ⟨3, 1, h.qv i, (s.pr i).co.length, intsG (s.pr i).co⟩ (if_pos hi)
theorem Gmv.chosen (m : Gmv W mb n nm s h) : Seg W (fun g => h.t g = some .chosen) 3 1 h.cv s.ch.length (natsL s.ch) := m.pool.seg .chosen ⟨3, 1, h.cv, s.ch.length, natsL s.ch⟩ rfl

/-- What a turn leaves as it was. -/
structure GStp (mb : Nat) (W : World) (h : GSh) (W2 : World) (h2 : GSh) : Prop where
  keep : Keep (h.own mb) W W2
  tags : ∀ g, g < W.heap.size → h2.t g = h.t g
  same : h2.P = h.P
theorem GStp.refl (mb : Nat) (W : World) (h : GSh) : GStp mb W h W h := ⟨Keep.refl _ W, fun _ _ => rfl, rfl⟩
theorem GStp.of_still (mb : Nat) {W W2 : World} (h : GSh) (x : Stil W W2) : GStp mb W h W2 h := ⟨x.mono (fun _ _ e => e.elim), fun _ _ => rfl, rfl⟩
theorem GStp.trans {mb : Nat} {A B C : World} {f g h : GSh} (x : GStp mb A f B g) (y : GStp mb B g C h) : GStp mb A f C h :=
  ⟨x.keep.trans y.keep (fun _ _ e => e) (fun i hi e => by
    rcases e with e | e
    · exact .inl (by rw [x.tags i hi] at e; exact e)
    · exact .inr e), fun i hi => (y.tags i (Nat.lt_of_lt_of_le hi x.keep.size)).trans (x.tags i hi), y.same.trans x.same⟩
theorem GStp.own {mb : Nat} {A B : World} {f g : GSh} (x : GStp mb A f B g) {k : Nat} (hk : k < A.heap.size) : g.own mb k ↔ f.own mb k := by
  unfold GSh.own
  rw [x.tags k hk]
theorem GStp.block {mb : Nat} {A B : World} {f g : GSh} (x : GStp mb A f B g) {b : Nat} {o : Obj} (ht : ¬ f.own mb b) (hv : A.heap[b]? = some o) : B.heap[b]? = some o :=
  (x.keep.block b (Array.getElem?_eq_some_iff.1 hv).1 ht).trans hv
theorem GStp.free {mb : Nat} {A B : World} {f g : GSh} (x : GStp mb A f B g) {b i : Nat} {v : Value} (ht : ¬ f.own mb b) (hv : A.cell? ⟨b, i, none⟩ = some v) : B.cell? ⟨b, i, none⟩ = some v :=
  (World.cell?_of_block (x.keep.block b (World.block_lt_of_cell? _ _ hv) ht)).trans hv

/-- It takes part. -/
theorem Gmv.setTp (m : Gmv W mb n nm s h) {i : Nat} (hi : i < n) : Gmv (W.setCell ⟨h.P, i * 3 + 1, none⟩ (.bool true)) mb n nm (tpG s i) h ∧ GStp mb W h (W.setCell ⟨h.P, i * 3 + 1, none⟩ (.bool true)) h := by
  obtain ⟨hpl, hs⟩ := m.pool.set (τ := .procs) (s := ⟨45, 3, .slice (some ⟨h.P, 0, none⟩) n n, n, procG n (pcG nm s h.qv)⟩) rfl (x := .bool true) rfl (i := i * 3 + 1) (by simp only; omega)
  rw [Nat.zero_add] at hpl hs
  refine ⟨⟨hpl.congr (fun y q hy => ?_), m.tmb, hs.block m.tmb m.blk⟩, ⟨hs.keep.mono (fun g _ e => .inl e), fun _ _ => rfl, rfl⟩⟩
  cases y with
  | procs =>
    rw [updD_same, ← hy]
    simp only [dG]
    rw [procG_set _ hi (by omega)]
    congr 3
    funext a q
    by_cases e : a = i ∧ q = 1
    · obtain ⟨rfl, rfl⟩ := e; rw [upd2_same]; simp [pcG, tpG, upd1_same]
    · rw [upd2_other _ _ e]
      unfold pcG tpG
      by_cases ea : a = i
      · subst ea
        simp only [upd1_same]
        split <;> first | rfl | (exact absurd ⟨rfl, rfl⟩ e)
      · simp only [upd1_other _ _ ea]
  | chosen => rw [updD_other _ _ (by simp)]; exact hy
  | co a =>
    rw [updD_other _ _ (by simp), ← hy]
    simp only [dG]
    rw [tpG_co]
/-- What comes to one is another list, which is laid in memory already. -/
theorem Gmv.setCo (m : Gmv W mb n nm s h) {i : Nat} {w3 : World} {v3 : Value} {l : List Int} {t3 : Nat → Option GTag} (hi : i < n)
    (P3 : Pool w3 t3 (updD (dG n nm s h) (.co i) ⟨3, 1, v3, l.length, intsG l⟩)) (S3 : PStep W h.t w3 t3) :
    (∀ k, k < 3 → w3.cell? ⟨h.P, i * 3 + k, none⟩ = some (pcG nm s h.qv i k)) ∧ (∀ k, w3.frozen? ⟨h.P, k, none⟩ = false) ∧ (∀ b k v, h.t b = none → W.cell? ⟨b, k, none⟩ = some v → w3.cell? ⟨b, k, none⟩ = some v) ∧
    ∃ h2, h2.P = h.P ∧ Gmv (w3.setCell ⟨h.P, i * 3 + 2, none⟩ v3) mb n nm (coG s i l) h2 ∧ GStp mb W h (w3.setCell ⟨h.P, i * 3 + 2, none⟩ v3) h2 := by
  have hls : updD (dG n nm s h) (.co i) ⟨3, 1, v3, l.length, intsG l⟩ .procs = some ⟨45, 3, .slice (some ⟨h.P, 0, none⟩) n n, n, procG n (pcG nm s h.qv)⟩ := by rw [updD_other _ _ (by simp)]; rfl
  obtain ⟨_, _, c1, c2⟩ := P3.cells hls rfl
  obtain ⟨P4, S4⟩ := P3.set hls (x := v3) rfl (i := i * 3 + 2) (by simp only; omega)
  rw [Nat.zero_add] at P4 S4
  have S5 := S3.trans S4
  have t4 : ∀ g, g < W.heap.size → t3 g = h.t g := S3.tags
  refine ⟨fun k hk => by have := c1 _ _ (procG_at (pcG nm s h.qv) hi hk); simpa using this, c2, fun b k v hb hv => S3.cell hb hv, ⟨h.P, h.cv, upd1 h.qv i v3, t3⟩, rfl, ⟨P4.congr (fun y q hy => ?_), (t4 _ m.mb_lt).trans m.tmb, S5.block m.tmb m.blk⟩,
    ⟨S5.keep.mono (fun g _ e => .inl e), t4, rfl⟩⟩
  cases y with
  | procs =>
    rw [updD_same, ← hy]
    simp only [dG]
    rw [procG_set _ hi (by omega)]
    congr 3
    funext a q
    by_cases e : a = i ∧ q = 2
    · obtain ⟨rfl, rfl⟩ := e; rw [upd2_same]; show v3 = upd1 h.qv a v3 a; rw [upd1_same]
    · rw [upd2_other _ _ e]
      unfold pcG coG
      by_cases ea : a = i
      · subst ea
        simp only [upd1_same]
        split <;> first | rfl | (exact absurd ⟨rfl, rfl⟩ e)
      · simp only [upd1_other _ _ ea]
  | chosen => rw [updD_other _ _ (by simp), updD_other _ _ (by simp)]; exact hy
  | co a =>
    rw [updD_other _ _ (by simp)]
    by_cases e : a = i
    · subst e
      rw [updD_same, ← hy]
      simp only [dG, coG]
      rw [if_pos hi, upd1_same, upd1_same]
    · rw [updD_other _ _ (by simpa using e), ← hy]
      simp only [dG, coG]
      rw [upd1_other _ _ e, upd1_other _ _ e]
theorem Gmv.pushCo (m : Gmv W mb n nm s h) {i : Nat} {x : Int} {wa w3 : World} {v3 : Value} (hi : i < n) (ha : Stil W wa)
    (hs : Seg w3 (fun g => ((h.qv i).ownBlock = some g ∧ h.t g = some (.co i)) ∨ g = wa.heap.size) 3 1 v3 ((s.pr i).co.length + 1) (intsG (s.pr i).co ++ [.int .i64 x])) (hg : wa.grownBy w3 (h.qv i).ownBlock) :
    (∀ k, k < 3 → w3.cell? ⟨h.P, i * 3 + k, none⟩ = some (pcG nm s h.qv i k)) ∧ (∀ k, w3.frozen? ⟨h.P, k, none⟩ = false) ∧ (∀ b k v, h.t b = none → W.cell? ⟨b, k, none⟩ = some v → w3.cell? ⟨b, k, none⟩ = some v) ∧
    ∃ h2, h2.P = h.P ∧ Gmv (w3.setCell ⟨h.P, i * 3 + 2, none⟩ v3) mb n nm (coG s i ((s.pr i).co ++ [x])) h2 ∧ GStp mb W h (w3.setCell ⟨h.P, i * 3 + 2, none⟩ v3) h2 := by
  obtain ⟨t3, P3, S3⟩ := m.pool.app (τ := .co i) (s := ⟨3, 1, h.qv i, (s.pr i).co.length, intsG (s.pr i).co⟩) (show dG n nm s h (.co i) = some ⟨3, 1, h.qv i, (s.pr i).co.length, intsG (s.pr i).co⟩ from if_pos hi) (m := 1) (news := [.int .i64 x]) ha hs hg
  exact m.setCo hi (by simpa [intsG] using P3) S3
theorem Gmv.popCo (m : Gmv W mb n nm s h) {i : Nat} {r : List Int} {TV : Value} (hi : i < n) (hs : Seg W (fun g => h.t g = some (.co i)) 3 1 TV r.length (intsG r)) :
    ∃ h2, h2.P = h.P ∧ Gmv (W.setCell ⟨h.P, i * 3 + 2, none⟩ TV) mb n nm (coG s i r) h2 ∧ GStp mb W h (W.setCell ⟨h.P, i * 3 + 2, none⟩ TV) h2 := by
  obtain ⟨t2, P2, S2⟩ := m.pool.repl (τ := .co i) (s := ⟨3, 1, h.qv i, (s.pr i).co.length, intsG (s.pr i).co⟩) (show dG n nm s h (.co i) = some ⟨3, 1, h.qv i, (s.pr i).co.length, intsG (s.pr i).co⟩ from if_pos hi) (n2 := r.length) (v3 := TV) (xs2 := intsG r)
    (Keep.refl _ W) (hs.mono (fun _ _ e => .inl e))
  exact (m.setCo hi P2 S2).2.2.2
/-- One more was sent. -/
theorem Gmv.setSent (m : Gmv W mb n nm s h) : Gmv (W.setCell ⟨mb, 2, none⟩ (.int .i64 ((s.sent + 1 : Nat) : Int))) mb n nm (oneG s) h ∧ GStp mb W h (W.setCell ⟨mb, 2, none⟩ (.int .i64 ((s.sent + 1 : Nat) : Int))) h := by
  have hk : Keep (fun g => g = mb) W (W.setCell ⟨mb, 2, none⟩ (.int .i64 ((s.sent + 1 : Nat) : Int))) := (Keep.refl _ W).setCell _ _ _ (fun _ => rfl)
  refine ⟨⟨(m.pool.keep hk (fun g _ e => by rw [e]; exact m.tmb)).congr (fun y q hy => ?_), m.tmb, ?_⟩, ⟨hk.mono (fun g _ e => .inr e), fun _ _ => rfl, rfl⟩⟩
  · cases y <;> exact hy
  · have h1 := heap_setCell_same W mb 2 _ _ (.int .i64 ((s.sent + 1 : Nat) : Int)) m.blk
    simpa [oneG] using h1
/-- One more is chosen: behind the append, and behind the store. -/
theorem Gmv.pushCh (m : Gmv W mb n nm s h) {x : Nat} {wa w3 : World} {v3 : Value} (ha : Stil W wa)
    (hs : Seg w3 (fun g => (h.cv.ownBlock = some g ∧ h.t g = some .chosen) ∨ g = wa.heap.size) 3 1 v3 (s.ch.length + 1) (natsL s.ch ++ [.int .i64 (x : Int)])) (hg : wa.grownBy w3 h.cv.ownBlock) :
    w3.cell? ⟨mb, 1, none⟩ = some h.cv ∧ w3.frozen? ⟨mb, 1, none⟩ = false ∧ ∃ h2, Gmv (w3.setCell ⟨mb, 1, none⟩ v3) mb n nm (chG s x) h2 ∧ GStp mb W h (w3.setCell ⟨mb, 1, none⟩ v3) h2 := by
  obtain ⟨t3, P3, S3⟩ := m.pool.app (τ := .chosen) (s := ⟨3, 1, h.cv, s.ch.length, natsL s.ch⟩) rfl (m := 1) (news := [.int .i64 (x : Int)]) ha hs hg
  have b3 := S3.block m.tmb m.blk
  have t4 : ∀ g, g < W.heap.size → t3 g = h.t g := S3.tags
  have hk : Keep (fun g => g = mb) w3 (w3.setCell ⟨mb, 1, none⟩ v3) := (Keep.refl _ w3).setCell _ _ _ (fun _ => rfl)
  have t3mb : t3 mb = none := (t4 _ m.mb_lt).trans m.tmb
  refine ⟨by rw [cell_of_row w3 _ _ _ _ _ b3]; rfl, frozen_of_row w3 _ _ _ _ b3, ⟨h.P, v3, h.qv, t3⟩, ⟨(P3.keep hk (fun g _ e => by rw [e]; exact t3mb)).congr (fun y q hy => ?_), t3mb, ?_⟩,
    ⟨(S3.keep.mono (fun g _ e => .inl e)).trans (hk.mono (q := fun g => h.own mb g) (fun g _ e => .inr e)) (fun _ _ e => e) (fun _ _ e => e), t4, rfl⟩⟩
  · cases y with
    | procs => rw [updD_other _ _ (by simp)]; exact hy
    | chosen => rw [updD_same, ← hy]; simp [dG, natsL, chG]
    | co a => rw [updD_other _ _ (by simp)]; exact hy
  · have h1 := heap_setCell_same w3 mb 1 _ _ v3 b3
    simpa [chG] using h1
end Go.Proofs.Ytadanpghmfhhkaa
