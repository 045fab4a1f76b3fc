/- The bakery: how all stands, as it is told. -/
import Derived.Test.YtgnigjfgddhgiaaBa5
import Derived.Test.YtgnigjfgddhgiaaCb2n
namespace Go.Proofs.Ytgnigjfgddhgiaa
open Go.RowKit
set_option linter.unusedVariables false

variable {W W2 : World} {mb n t : Nat} {s : BS} {h h2 : BSh}
/-- Bools of a slice. -/
def RowO (w : World) (a : Option Addr) (len cap : Nat) (xs : List Bool) : Prop :=
  xs.length = len ∧ len ≤ cap ∧ len ≤ maxLen ∧ (len = 0 ∨ ∃ b off, a = some ⟨b, off, none⟩ ∧ b < w.heap.size ∧ ∀ (j : Nat) (x : Bool), xs[j]? = some x → w.cell? ⟨b, off + j, none⟩ = some (.bool x))
theorem RowO.still {w w' : World} {a : Option Addr} {len cap : Nat} {xs : List Bool} (h : RowO w a len cap xs) (hs : Stil w w') : RowO w' a len cap xs := by
  obtain ⟨h1, h2, h3, h4⟩ := h
  refine ⟨h1, h2, h3, ?_⟩
  rcases h4 with h4 | ⟨b, off, e, hr, hc⟩
  · exact .inl h4
  · exact .inr ⟨b, off, e, Nat.lt_of_lt_of_le hr hs.size, fun j x hx => hs.cell (hc j x hx)⟩
def boolsL (xs : List Bool) : List Value := xs.map fun x => .bool x
theorem seg_rowO {W : World} {ok : Nat → Prop} {e : TypeId} {a : Option Addr} {n c : Nat} {l : List Bool} (h : Seg W ok e 1 (.slice a n c) n (boolsL l)) : RowO W a n c l := by
  obtain ⟨h1, ⟨h2, h3⟩ | ⟨g, off, cap, cur, h2, h3, h4, h5, h6, h7, h8⟩⟩ := h
  · subst h3
    cases h2
    exact ⟨by simpa [boolsL] using h1, Nat.le_refl _, Nat.zero_le _, .inl rfl⟩
  · cases h2
    refine ⟨by simpa [boolsL] using h1, h5, by omega, .inr ⟨g, off, rfl, (Array.getElem?_eq_some_iff.1 h4).1, fun j x hx => ?_⟩⟩
    rw [cell_of_row W _ _ _ _ _ h4]
    exact h8 j _ (by simp [boolsL, hx])
theorem cInfoBool : (Try.prog.info? 4).map (fun i => (i.zero, i.size, i.bytes)) = some (some (.bool false), 1, 1) := by kernel_rfl
theorem cOneB (x : Bool) : ∀ u ∈ [Value.bool x], u.oneCell' = true := by intro u hu; simp at hu; subst hu; rfl

def plL (s : BS) (k : Nat) : List Nat := (List.range k).map fun i => (s.pr i).pl
def tkL (s : BS) (k : Nat) : List Nat := (List.range k).map fun i => (s.pr i).tk
def chL (s : BS) (k : Nat) : List Bool := (List.range k).map fun i => (s.pr i).ch
theorem plL_succ (s : BS) (k : Nat) : natsL (plL s (k + 1)) = natsL (plL s k) ++ [.int .i64 ((s.pr k).pl : Int)] := by simp [natsL, plL, List.range_succ]
theorem tkL_succ (s : BS) (k : Nat) : natsL (tkL s (k + 1)) = natsL (tkL s k) ++ [.int .i64 ((s.pr k).tk : Int)] := by simp [natsL, tkL, List.range_succ]
theorem chL_succ (s : BS) (k : Nat) : boolsL (chL s (k + 1)) = boolsL (chL s k) ++ [.bool (s.pr k).ch] := by simp [boolsL, chL, List.range_succ]

inductive OTag where
  | at
  | tk
  | ch
deriving DecidableEq
def dO (s : BS) (k1 k2 k3 : Nat) (v1 v2 v3 : Value) : OTag → Option Slot
  | .at => some ⟨3, 1, v1, k1, natsL (plL s k1)⟩
  | .tk => some ⟨3, 1, v2, k2, natsL (tkL s k2)⟩
  | .ch => some ⟨4, 1, v3, k3, boolsL (chL s k3)⟩
/-- What is told so far, in memory: the answer's block o, and its three lists. -/
structure Omov (w : World) (o : Nat) (s : BS) (cv iv : Value) (k1 k2 k3 : Nat) (v1 v2 v3 : Value) (t : Nat → Option OTag) : Prop where
  pool : Pool w t (dO s k1 k2 k3 v1 v2 v3)
  to : t o = none
  blk : w.heap[o]? = some (.cells #[cv, v1, v2, v3, iv] 26 (0, 0))
theorem Omov.still {w w' : World} {o : Nat} {cv iv v1 v2 v3 : Value} {k1 k2 k3 : Nat} {t : Nat → Option OTag} (m : Omov w o s cv iv k1 k2 k3 v1 v2 v3 t) (hw : Stil w w') : Omov w' o s cv iv k1 k2 k3 v1 v2 v3 t :=
  ⟨m.pool.still hw, m.to, (hw.block _ (Array.getElem?_eq_some_iff.1 m.blk).1 (fun e => e)).trans m.blk⟩
theorem Omov.cells {w : World} {o : Nat} {cv iv v1 v2 v3 : Value} {k1 k2 k3 : Nat} {t : Nat → Option OTag} (m : Omov w o s cv iv k1 k2 k3 v1 v2 v3 t) :
    w.cell? ⟨o, 1, none⟩ = some v1 ∧ w.cell? ⟨o, 2, none⟩ = some v2 ∧ w.cell? ⟨o, 3, none⟩ = some v3 ∧ ∀ k, w.frozen? ⟨o, k, none⟩ = false := by
  refine ⟨?_, ?_, ?_, fun k => frozen_of_row w _ _ _ _ m.blk⟩ <;> rw [cell_of_row w o _ _ _ _ m.blk] <;> rfl

/-- What a push leaves. -/
structure OStp (o : Nat) (w : World) (t : Nat → Option OTag) (w2 : World) (t2 : Nat → Option OTag) : Prop where
  keep : Keep (fun g => t g ≠ none ∨ g = o) w w2
  tags : ∀ g, g < w.heap.size → t2 g = t g
theorem o_push {w wa w3 : World} {o j : Nat} {cur : Array Value} {T : TypeId} {t : Nat → Option OTag} {d : OTag → Option Slot} {τ : OTag} {sl : Slot} {v3 : Value} {news : List Value} (P : Pool w t d) (to : t o = none) (hb : w.heap[o]? = some (.cells cur T (0, 0)))
    (hτ : d τ = some sl) (ha : Stil w wa) (hs : Seg w3 (fun g => (sl.v.ownBlock = some g ∧ t g = some τ) ∨ g = wa.heap.size) sl.e sl.size v3 (sl.n + 1) (sl.xs ++ news)) (hg : wa.grownBy w3 sl.v.ownBlock) :
    w3.heap[o]? = some (.cells cur T (0, 0)) ∧ ∃ t3, Pool (w3.setCell ⟨o, j, none⟩ v3) t3 (updD d τ ⟨sl.e, sl.size, v3, sl.n + 1, sl.xs ++ news⟩) ∧ t3 o = none ∧ (w3.setCell ⟨o, j, none⟩ v3).heap[o]? = some (.cells (cur.setIfInBounds j v3) T (0, 0)) ∧ OStp o w t (w3.setCell ⟨o, j, none⟩ v3) t3 := by
  obtain ⟨t3, P3, S3⟩ := P.app hτ ha hs hg
  have b3 := S3.block to hb
  have hk : Keep (fun g => g = o) w3 (w3.setCell ⟨o, j, none⟩ v3) := (Keep.refl _ w3).setCell _ _ _ (fun _ => rfl)
  have t3o : t3 o = none := (S3.tags _ (Array.getElem?_eq_some_iff.1 hb).1).trans to
  exact ⟨b3, t3, P3.keep hk (fun g _ e => by rw [e]; exact t3o), t3o, heap_setCell_same w3 o j _ _ v3 b3, (S3.keep.mono (fun g _ e => .inl e)).trans (hk.mono (q := fun g => t g ≠ none ∨ g = o) (fun g _ e => .inr e)) (fun _ _ e => e) (fun _ _ e => e), S3.tags⟩
variable {w wa w3 : World} {o : Nat} {cv iv v1 v2 v3 v4 : Value} {k1 k2 k3 : Nat} {tt : Nat → Option OTag}
theorem Omov.push1 (m : Omov w o s cv iv k1 k2 k3 v1 v2 v3 tt) (ha : Stil w wa) (hs : Seg w3 (fun g => (v1.ownBlock = some g ∧ tt g = some .at) ∨ g = wa.heap.size) 3 1 v4 (k1 + 1) (natsL (plL s k1) ++ [.int .i64 ((s.pr k1).pl : Int)])) (hg : wa.grownBy w3 v1.ownBlock) :
    w3.cell? ⟨o, 1, none⟩ = some v1 ∧ w3.frozen? ⟨o, 1, none⟩ = false ∧ ∃ t3, Omov (w3.setCell ⟨o, 1, none⟩ v4) o s cv iv (k1 + 1) k2 k3 v4 v2 v3 t3 ∧ OStp o w tt (w3.setCell ⟨o, 1, none⟩ v4) t3 := by
  obtain ⟨b3, t3, P3, t3o, hb3, S3⟩ := o_push (j := 1) m.pool m.to m.blk (τ := .at) (sl := ⟨3, 1, v1, k1, natsL (plL s k1)⟩) rfl ha hs hg
  refine ⟨by rw [cell_of_row w3 _ _ _ _ _ b3]; rfl, frozen_of_row w3 _ _ _ _ b3, t3, ⟨P3.congr (fun y q hy => ?_), t3o, hb3⟩, S3⟩
  cases y with
  | «at» => rw [updD_same, ← hy]; simp only [dO]; rw [plL_succ]
  | tk => rw [updD_other _ _ (by simp)]; exact hy
  | ch => rw [updD_other _ _ (by simp)]; exact hy
theorem Omov.push2 (m : Omov w o s cv iv k1 k2 k3 v1 v2 v3 tt) (ha : Stil w wa) (hs : Seg w3 (fun g => (v2.ownBlock = some g ∧ tt g = some .tk) ∨ g = wa.heap.size) 3 1 v4 (k2 + 1) (natsL (tkL s k2) ++ [.int .i64 ((s.pr k2).tk : Int)])) (hg : wa.grownBy w3 v2.ownBlock) :
    w3.cell? ⟨o, 2, none⟩ = some v2 ∧ w3.frozen? ⟨o, 2, none⟩ = false ∧ ∃ t3, Omov (w3.setCell ⟨o, 2, none⟩ v4) o s cv iv k1 (k2 + 1) k3 v1 v4 v3 t3 ∧ OStp o w tt (w3.setCell ⟨o, 2, none⟩ v4) t3 := by
  obtain ⟨b3, t3, P3, t3o, hb3, S3⟩ := o_push (j := 2) m.pool m.to m.blk (τ := .tk) (sl := ⟨3, 1, v2, k2, natsL (tkL s k2)⟩) rfl ha hs hg
  refine ⟨by rw [cell_of_row w3 _ _ _ _ _ b3]; rfl, frozen_of_row w3 _ _ _ _ b3, t3, ⟨P3.congr (fun y q hy => ?_), t3o, hb3⟩, S3⟩
  cases y with
  | «at» => rw [updD_other _ _ (by simp)]; exact hy
  | tk => rw [updD_same, ← hy]; simp only [dO]; rw [tkL_succ]
  | ch => rw [updD_other _ _ (by simp)]; exact hy
theorem Omov.push3 (m : Omov w o s cv iv k1 k2 k3 v1 v2 v3 tt) (ha : Stil w wa) (hs : Seg w3 (fun g => (v3.ownBlock = some g ∧ tt g = some .ch) ∨ g = wa.heap.size) 4 1 v4 (k3 + 1) (boolsL (chL s k3) ++ [.bool (s.pr k3).ch])) (hg : wa.grownBy w3 v3.ownBlock) :
    w3.cell? ⟨o, 3, none⟩ = some v3 ∧ w3.frozen? ⟨o, 3, none⟩ = false ∧ ∃ t3, Omov (w3.setCell ⟨o, 3, none⟩ v4) o s cv iv k1 k2 (k3 + 1) v1 v2 v4 t3 ∧ OStp o w tt (w3.setCell ⟨o, 3, none⟩ v4) t3 := by
  obtain ⟨b3, t3, P3, t3o, hb3, S3⟩ := o_push (j := 3) m.pool m.to m.blk (τ := .ch) (sl := ⟨4, 1, v3, k3, boolsL (chL s k3)⟩) rfl ha hs hg
  refine ⟨by rw [cell_of_row w3 _ _ _ _ _ b3]; rfl, frozen_of_row w3 _ _ _ _ b3, t3, ⟨P3.congr (fun y q hy => ?_), t3o, hb3⟩, S3⟩
  cases y with
  | «at» => rw [updD_other _ _ (by simp)]; exact hy
  | tk => rw [updD_other _ _ (by simp)]; exact hy
  | ch => rw [updD_same, ← hy]; simp only [dO]; rw [chL_succ]

theorem Omov.segs (m : Omov w o s cv iv k1 k2 k3 v1 v2 v3 tt) : Seg w (fun g => tt g = some .at) 3 1 v1 k1 (natsL (plL s k1)) ∧ Seg w (fun g => tt g = some .tk) 3 1 v2 k2 (natsL (tkL s k2)) ∧ Seg w (fun g => tt g = some .ch) 4 1 v3 k3 (boolsL (chL s k3)) :=
  ⟨m.pool.seg .at _ rfl, m.pool.seg .tk _ rfl, m.pool.seg .ch _ rfl⟩
end Go.Proofs.Ytgnigjfgddhgiaa
