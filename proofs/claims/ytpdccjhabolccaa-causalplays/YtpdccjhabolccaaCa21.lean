/- The document's Causal: behind each append; how it begins. -/
import Derived.Test.YtpdccjhabolccaaCa20
import Derived.Test.YtpdccjhabolccaaCa8
import Derived.Test.YtpdccjhabolccaaR4
namespace Go.Proofs.Ytpdccjhabolccaa
open Go.RowKit
set_option linter.unusedVariables false

variable {n b5 L5 L8 : Nat} {s : CS} {come : Nat → List Nat} {codes : List Int} {v : RT → Value} {W W2 : World} {t t2 : Nat → Option RT}
theorem rd_out (P : Pool W t (RD n b5 L5 L8 s come codes v)) : W.cell? ⟨b5, 0, none⟩ = some (v .cd) ∧ W.cell? ⟨b5, 1, none⟩ = some (.slice (some ⟨L5, 0, none⟩) n n) ∧ W.frozen? ⟨b5, 0, none⟩ = false := by
  obtain ⟨_, _, h1, h2⟩ := P.cells (τ := .out) rfl rfl
  exact ⟨h1 0 _ rfl, h1 1 _ rfl, h2 0⟩
theorem rd_ol (P : Pool W t (RD n b5 L5 L8 s come codes v)) {i : Nat} (hi : i < n) : W.cell? ⟨L5, i, none⟩ = some (v (.l i)) ∧ W.frozen? ⟨L5, i, none⟩ = false := by
  obtain ⟨_, _, h1, h2⟩ := P.cells (τ := .ol) rfl rfl
  exact ⟨by have := h1 i (v (.l i)) (by simp [hi]); simpa using this, h2 i⟩
theorem rd_cm (P : Pool W t (RD n b5 L5 L8 s come codes v)) {i : Nat} (hi : i < n) : W.cell? ⟨L8, i, none⟩ = some (v (.c i)) ∧ W.frozen? ⟨L8, i, none⟩ = false := by
  obtain ⟨_, _, h1, h2⟩ := P.cells (τ := .cm) rfl rfl
  exact ⟨by have := h1 i (v (.c i)) (by simp [hi]); simpa using this, h2 i⟩
theorem rd_at_c {w : Nat} (hw : w < n) : RD n b5 L5 L8 s come codes v (.c w) = some ⟨3, 1, v (.c w), (come w).length, natsL (come w)⟩ := if_pos hw
theorem rd_at_l {w : Nat} (hw : w < n) : RD n b5 L5 L8 s come codes v (.l w) = some ⟨3, 1, v (.l w), (s.ls w).length, natsL (s.ls w)⟩ := if_pos hw
theorem rd_l (P : Pool W t (RD n b5 L5 L8 s come codes v)) {i : Nat} (hi : i < n) : Seg W (fun g => t g = some (.l i)) 3 1 (v (.l i)) (s.ls i).length (natsL (s.ls i)) :=
  P.seg (.l i) _ (rd_at_l hi)
theorem rd_c (P : Pool W t (RD n b5 L5 L8 s come codes v)) {i : Nat} (hi : i < n) : Seg W (fun g => t g = some (.c i)) 3 1 (v (.c i)) (come i).length (natsL (come i)) :=
  P.seg (.c i) _ (rd_at_c hi)

theorem code_mid (P : Pool W t (RD n b5 L5 L8 s come codes v)) {wa w3 : World} {v3 : Value} {e : Int} (ha : Keep (fun _ => False) W wa)
    (hs : Seg w3 (fun g => ((v .cd).ownBlock = some g ∧ t g = some .cd) ∨ g = wa.heap.size) 28 1 v3 (codes.length + 1) (intsV codes ++ [.int .i64 e])) (hg : wa.grownBy w3 (v .cd).ownBlock) :
    w3.cell? ⟨b5, 0, none⟩ = some (v .cd) ∧ w3.frozen? ⟨b5, 0, none⟩ = false ∧ Hid (∃ t5, Pool (w3.setCell ⟨b5, 0, none⟩ v3) t5 (RD n b5 L5 L8 s come (codes ++ [e]) (updV v .cd v3)) ∧ PStep W t (w3.setCell ⟨b5, 0, none⟩ v3) t5) := by
  obtain ⟨t3, P3, S3⟩ := P.app (τ := .cd) rfl ha hs hg
  have ho : updD (RD n b5 L5 L8 s come codes v) .cd ⟨28, 1, v3, codes.length + 1, intsV codes ++ [.int .i64 e]⟩ .out = some ⟨36, 2, .slice (some ⟨b5, 0, none⟩) 1 1, 1, [v .cd, .slice (some ⟨L5, 0, none⟩) n n]⟩ := rfl
  obtain ⟨_, _, h1, h2⟩ := P3.cells (τ := .out) ho rfl
  obtain ⟨P4, S4⟩ := P3.set (τ := .out) (i := 0) (x := v3) ho rfl (by simp)
  exact ⟨h1 0 _ rfl, h2 0, t3, rd_code P4, S3.trans S4⟩
theorem come_mid (P : Pool W t (RD n b5 L5 L8 s come codes v)) {w m : Nat} (hw : w < n) {wa w3 : World} {v3 : Value} (ha : Keep (fun _ => False) W wa)
    (hs : Seg w3 (fun g => ((v (.c w)).ownBlock = some g ∧ t g = some (.c w)) ∨ g = wa.heap.size) 3 1 v3 ((come w).length + 1) (natsL (come w) ++ [.int .i64 (m : Int)])) (hg : wa.grownBy w3 (v (.c w)).ownBlock) :
    w3.cell? ⟨L8, w, none⟩ = some (v (.c w)) ∧ w3.frozen? ⟨L8, w, none⟩ = false ∧ (∀ b i x, t b = none → W.cell? ⟨b, i, none⟩ = some x → w3.cell? ⟨b, i, none⟩ = some x) ∧ Hid (∃ t5, Pool (w3.setCell ⟨L8, w, none⟩ v3) t5 (RD n b5 L5 L8 s (upd1 come w (come w ++ [m])) codes (updV v (.c w) v3)) ∧ PStep W t (w3.setCell ⟨L8, w, none⟩ v3) t5) := by
  obtain ⟨t3, P3, S3⟩ := P.app (rd_at_c hw) ha hs hg
  have ho : updD (RD n b5 L5 L8 s come codes v) (.c w) ⟨3, 1, v3, (come w).length + 1, natsL (come w) ++ [.int .i64 (m : Int)]⟩ .cm = some ⟨22, 1, .slice (some ⟨L8, 0, none⟩) n n, n, (List.range n).map fun i => v (.c i)⟩ := rfl
  obtain ⟨_, _, h1, h2⟩ := P3.cells (τ := .cm) ho rfl
  obtain ⟨P4, S4⟩ := P3.set (τ := .cm) (i := w) (x := v3) ho rfl (by simpa using hw)
  rw [Nat.zero_add] at P4 S4
  exact ⟨by have := h1 w (v (.c w)) (by simp [hw]); simpa using this, h2 w, fun b i x hb hx => S3.cell hb hx, t3, rd_come hw P4, S3.trans S4⟩
/-- What one has heard is another list, and lies in its row. -/
theorem list_mid {s2 : CS} (P : Pool W t (RD n b5 L5 L8 s come codes v)) {w : Nat} (hw : w < n) {w3 : World} {v3 : Value} {L : List Nat} (hm : s2.msgs = s.msgs) (hl : s2.ls = upd1 s.ls w L) (hc : ∀ m, m < s.msgs.length → causC s2 m = causC s m)
    (hk : Keep (fun g => t g = some (.l w)) W w3) (hs : Seg w3 (fun g => t g = some (.l w) ∨ W.heap.size ≤ g) 3 1 v3 L.length (natsL L)) :
    w3.cell? ⟨b5, 1, none⟩ = some (.slice (some ⟨L5, 0, none⟩) n n) ∧ w3.cell? ⟨L5, w, none⟩ = some (v (.l w)) ∧ w3.frozen? ⟨L5, w, none⟩ = false ∧ w3.cell? ⟨L8, w, none⟩ = some (v (.c w)) ∧ (∀ b i x, t b = none → W.cell? ⟨b, i, none⟩ = some x → w3.cell? ⟨b, i, none⟩ = some x) ∧ Hid (∃ t5, Pool (w3.setCell ⟨L5, w, none⟩ v3) t5 (RD n b5 L5 L8 s2 come codes (updV v (.l w) v3)) ∧ PStep W t (w3.setCell ⟨L5, w, none⟩ v3) t5) := by
  obtain ⟨t3, P3, S3⟩ := P.repl (rd_at_l hw) hk hs
  have ho : updD (RD n b5 L5 L8 s come codes v) (.l w) ⟨3, 1, v3, L.length, natsL L⟩ .ol = some ⟨22, 1, .slice (some ⟨L5, 0, none⟩) n n, n, (List.range n).map fun i => v (.l i)⟩ := rfl
  have ho2 : updD (RD n b5 L5 L8 s come codes v) (.l w) ⟨3, 1, v3, L.length, natsL L⟩ .out = some ⟨36, 2, .slice (some ⟨b5, 0, none⟩) 1 1, 1, [v .cd, .slice (some ⟨L5, 0, none⟩) n n]⟩ := rfl
  have ho3 : updD (RD n b5 L5 L8 s come codes v) (.l w) ⟨3, 1, v3, L.length, natsL L⟩ .cm = some ⟨22, 1, .slice (some ⟨L8, 0, none⟩) n n, n, (List.range n).map fun i => v (.c i)⟩ := rfl
  obtain ⟨_, _, h1, h2⟩ := P3.cells (τ := .ol) ho rfl
  obtain ⟨_, _, h3, _⟩ := P3.cells (τ := .out) ho2 rfl
  obtain ⟨_, _, h4, _⟩ := P3.cells (τ := .cm) ho3 rfl
  obtain ⟨P4, S4⟩ := P3.set (τ := .ol) (i := w) (x := v3) ho rfl (by simpa using hw)
  rw [Nat.zero_add] at P4 S4
  exact ⟨h3 1 _ rfl, by have := h1 w (v (.l w)) (by simp [hw]); simpa using this, h2 w, by have := h4 w (v (.c w)) (by simp [hw]); simpa using this, fun b i x hb hx => S3.cell hb hx, t3, rd_list hw hm hl hc P4, S3.trans S4⟩

theorem rd_at_ca {i : Nat} (hi : i < s.msgs.length) : RD n b5 L5 L8 s come codes v (.ca i) = some ⟨3, 1, v (.ca i), (causC s i).length, natsL (causC s i)⟩ := if_pos hi
/-- What hears reads, as long as it changes nothing else. -/
theorem hrows_of (P : Pool W t (RD n b5 L5 L8 s come codes v)) {w : Nat} {w2 : World} (hk : Keep (fun g => t g = some (.l w)) W w2) (hw : w < n) (hcm : ∀ m, m ∈ come w → m < s.msgs.length) {ya ka : Option Addr} {yc kc : Nat} (hc : v (.c w) = .slice ya (come w).length yc) (hcs : v .cs = .slice ka s.msgs.length kc) :
    HRows w2 ya ka yc s.msgs.length (come w) (causC s) := by
  have no : ∀ {x : RT} (g : Nat), t g = some x → x ≠ .l w → ¬ (t g = some (.l w)) := fun {x} g e hx e2 => hx (by rw [e] at e2; simpa using e2)
  have h1 := (rd_c P hw).keep hk (fun g _ e => no g e (by simp))
  rw [hc] at h1
  refine ⟨seg_row h1, fun m hm => ?_⟩
  have hml := hcm m hm
  have h2 := (P.seg .cs _ rfl).keep hk (fun g _ e => no g e (by simp))
  have h3 := (P.seg (.ca m) _ (rd_at_ca hml)).keep hk (fun g _ e => no g e (by simp))
  obtain ⟨g, off, cap, e1, _, _, _, _, hcl, _⟩ := h2.at (by show 0 < s.msgs.length; omega)
  have e2 : Value.slice ka s.msgs.length kc = .slice (some ⟨g, off, none⟩) s.msgs.length cap := hcs.symm.trans e1
  simp only [Value.slice.injEq, true_and] at e2
  obtain ⟨rfl, rfl⟩ := e2
  obtain ⟨a, c, e3⟩ := segForm h3
  have h4 := hcl m (v (.ca m)) (by simp [hml])
  simp only at e3
  rw [e3] at h4
  simp only at h3
  rw [e3] at h3
  exact ⟨hml, g, off, a, c, rfl, h4, seg_row h3⟩

theorem results_cell_row {P : Program} {fn : Func} {p : Tmp} {ty : TypeId} (h : fn.results = #[.cell p ty]) (tmps : Array Value) (w : World) (g : Nat) (t : TypeId) (cs : Array Value) (fr : Nat × Nat) (d : TypeDesc)
    (hp : tmps.getD p undef = .pointer (some ⟨g, 0, none⟩)) (hg : w.heap[g]? = some (.cells cs t fr))
    (hu : P.underlying ty = some d) (hd : (match d with | .struct _ | .array _ _ => true | _ => false) = true) (hi : (P.info? ty).map (·.size) = some cs.size) :
    (results fn tmps).run P w = .ok (.agg cs) w := by
  have hp2 : tmps[p]?.getD undef = .pointer (some ⟨g, 0, none⟩) := by rw [← Array.getD_eq_getD_getElem?]; exact hp
  simp [results, h, hp2, asAddr, run_loadVar_row w g t ty cs fr d hg hu hd hi]
def nilV (_ : RT) : Value := .slice none 0 0
/-- How it begins. -/
theorem rd_start (W : World) (hn : n ≤ 6) (o : Obj) : ∃ t, Pool ((((W.alloc o).alloc (.cells ((List.range n).map noList).toArray 22)).alloc (.cells #[.slice none 0 0, .slice (some ⟨W.heap.size + 1, 0, none⟩) n n] 36)).alloc (.cells ((List.range n).map noList).toArray 22)) t
      (RD n (W.heap.size + 1 + 1) (W.heap.size + 1) (W.heap.size + 1 + 1 + 1) cs0 (fun _ => []) [] nilV) ∧ t W.heap.size = none ∧ ∀ g, t g ≠ none → W.heap.size ≤ g := by
  have z1 : (W.alloc o).heap.size = W.heap.size + 1 := by simp
  obtain ⟨t1, P1, S1⟩ := (Pool.empty (ι := RT) (W.alloc o)).new .ol 22 1 n n ((List.range n).map noList).toArray ((List.range n).map noList) (by simp) (Nat.le_refl _) (by unfold maxLen; omega) (by simp) (fun j x h => by simpa using h)
  obtain ⟨t2, P2, S2⟩ := P1.new .out 36 2 1 1 #[.slice none 0 0, .slice (some ⟨W.heap.size + 1, 0, none⟩) n n] [.slice none 0 0, .slice (some ⟨W.heap.size + 1, 0, none⟩) n n] rfl (Nat.le_refl _) (by unfold maxLen; omega) (by simp) (fun j x h => by simpa using h)
  obtain ⟨t3, P3, S3⟩ := P2.new .cm 22 1 n n ((List.range n).map noList).toArray ((List.range n).map noList) (by simp) (Nat.le_refl _) (by unfold maxLen; omega) (by simp) (fun j x h => by simpa using h)
  have S := (S1.trans S2).trans S3
  refine ⟨t3, P3.nils (fun x q hx => ?_), S.tags _ (by simp), S.low (lo := W.heap.size) (fun g hg => absurd rfl hg) (by simp)⟩
  have z2 : ((W.alloc o).alloc (.cells ((List.range n).map noList).toArray 22)).heap.size = W.heap.size + 1 + 1 := by simp
  have z3 : (((W.alloc o).alloc (.cells ((List.range n).map noList).toArray 22)).alloc (.cells #[.slice none 0 0, .slice (some ⟨W.heap.size + 1, 0, none⟩) n n] 36)).heap.size = W.heap.size + 1 + 1 + 1 := by simp
  cases x with
  | cm =>
    left
    rw [updD_same, ← hx, z3]; rfl
  | out =>
    left
    rw [updD_other _ _ (by simp), updD_same, ← hx, z2]; rfl
  | ol =>
    left
    rw [updD_other _ _ (by simp), updD_other _ _ (by simp), updD_same, ← hx, z1]; rfl
  | cd => right; simp [RD, intsV] at hx; subst hx; exact ⟨rfl, rfl, rfl⟩
  | fr => right; simp [RD, cs0, natsL] at hx; subst hx; exact ⟨rfl, rfl, rfl⟩
  | cs => right; simp [RD, cs0] at hx; subst hx; exact ⟨rfl, rfl, rfl⟩
  | l i => right; simp [RD, cs0, natsL] at hx; obtain ⟨_, hx⟩ := hx; subst hx; exact ⟨rfl, rfl, rfl⟩
  | ca i => simp [RD, cs0] at hx
  | c i => right; simp [RD, natsL] at hx; obtain ⟨_, hx⟩ := hx; subst hx; exact ⟨rfl, rfl, rfl⟩
end Go.Proofs.Ytpdccjhabolccaa
