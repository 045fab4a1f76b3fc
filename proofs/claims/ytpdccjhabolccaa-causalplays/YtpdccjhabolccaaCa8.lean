/- Play: how it begins, what is wrong, and how it goes. -/
import Derived.Test.YtpdccjhabolccaaCa7
import Derived.Laws.ResultCell
namespace Go.Proofs.Ytpdccjhabolccaa
open Go.RowKit Go.WideMaps
set_option linter.unusedVariables false

theorem results_cell_tmp_rowC {P : Program} {fn : Func} {p u : Tmp} {ty : TypeId} (h : fn.results = #[.cell p ty, .tmp u]) (tmps : Array Value) (w : World) (g : Nat) (t : TypeId) (cs : Array Value) (fr : Nat × Nat) (d : TypeDesc)
    (hp : tmps.getD p undef = .pointer (some ⟨g, 0, none⟩)) (hg : w.heap[g]? = some (.cells cs t fr))
    (hu : P.underlying ty = some d) (hd : (match d with | .struct _ | .array _ _ => true | _ => false) = true) (hi : (P.info? ty).map (·.size) = some cs.size) :
    (results fn tmps).run P w = .ok (.tuple #[.agg cs, tmps.getD u undef]) w := by
  rw [results_cell_tmp h, hp]
  simp [asAddr, run_loadVar_row w g t ty cs fr d hg hu hd hi, Result.andThen]

/-- The codes of the first k steps. -/
def ccRow (n : Nat) (ps : List Cst) (len k : Nat) : List Value := (List.range len).map fun q => .int .i64 (if q < k then ccAt n ps q else 0)
theorem ccRow_len (n : Nat) (ps : List Cst) (len k : Nat) : (ccRow n ps len k).length = len := by simp [ccRow]
theorem ccRow_at {n : Nat} {ps : List Cst} {len k q : Nat} (h : q < len) : (ccRow n ps len k)[q]? = some (.int .i64 (if q < k then ccAt n ps q else 0)) := by simp [ccRow, h]
theorem ccRow_set {n : Nat} {ps : List Cst} {len k : Nat} (h : k < len) : (ccRow n ps len k).set k (.int .i64 (ccAt n ps k)) = ccRow n ps len (k + 1) := by
  apply List.ext_getElem?
  intro q
  rw [List.getElem?_set]
  by_cases hq : q < len
  · by_cases e : k = q
    · subst e
      rw [if_pos rfl, if_pos (by rw [ccRow_len]; exact hq), ccRow_at hq, if_pos (by omega)]
    · rw [if_neg e, ccRow_at hq, ccRow_at hq]
      by_cases h1 : q < k
      · rw [if_pos h1, if_pos (by omega)]
      · rw [if_neg h1, if_neg (by omega)]
  · rw [if_neg (by omega), List.getElem?_eq_none (by rw [ccRow_len]; omega), List.getElem?_eq_none (by rw [ccRow_len]; omega)]
theorem cInfoErr : (Try.prog.info? 28).map (fun i => (i.zero, i.size, i.bytes)) = some (some (.int .i64 0), 1, 8) := by kernel_rfl
theorem cInfoInts : (Try.prog.info? 22).map (fun i => (i.zero, i.size, i.bytes)) = some (some (.slice none 0 0), 1, 24) := by kernel_rfl
theorem cMakeCodes (m : Nat) (hm : m ≤ 200) (W : World) : (Instr.makeSlice 24 (.int .i64 (m : Int)) (.int .i64 (m : Int))).run Try.prog W = .ok (.slice (some ⟨W.heap.size, 0, none⟩) m m) (W.alloc (.cells (madeCells #[.int .i64 0] m) 28)) := by
  obtain ⟨i0, hi, hz0, hz1, hz2⟩ := info_parts cInfoErr
  have h := run_makeSlice (P := Try.prog) W 24 28 i0 _ Try.underlying24 hi hz0 .i64 .i64 (m : Int) (m : Int) (by omega) (Int.le_refl _) (by rw [hz1]; simp; omega) (by rw [hz2]; omega) (by omega)
  rw [hz1] at h
  simpa [Value.cells] using h
theorem cMakeRows (m : Nat) (hm : m ≤ 200) (W : World) : (Instr.makeSlice 25 (.int .i64 (m : Int)) (.int .i64 (m : Int))).run Try.prog W = .ok (.slice (some ⟨W.heap.size, 0, none⟩) m m) (W.alloc (.cells (madeCells #[.slice none 0 0] m) 22)) := by
  obtain ⟨i0, hi, hz0, hz1, hz2⟩ := info_parts cInfoInts
  have h := run_makeSlice (P := Try.prog) W 25 22 i0 _ Try.underlying25 hi hz0 .i64 .i64 (m : Int) (m : Int) (by omega) (Int.le_refl _) (by rw [hz1]; simp; omega) (by rw [hz2]; omega) (by omega)
  rw [hz1] at h
  simpa [Value.cells] using h
theorem cMadeCodes (n : Nat) (ps : List Cst) (m : Nat) : madeCells #[Value.int .i64 0] m = (ccRow n ps m 0).toArray := by
  simp only [madeCells, ccRow]
  apply Array.ext_getElem?
  intro k
  by_cases h : k < m
  · simp [h, Nat.mod_one]
  · simp [h]
def noList (_ : Nat) : Value := .slice none 0 0
theorem cMadeRows (m : Nat) : madeCells #[Value.slice none 0 0] m = ((List.range m).map noList).toArray := by
  simp only [madeCells]
  apply Array.ext_getElem?
  intro k
  by_cases h : k < m
  · simp [h, Nat.mod_one, noList]
  · simp [h]

def ctag0 (r g : Nat) : CTag := if g = r + 3 then .mb else if g = r + 2 then .ls else if g = r + 1 then .map else .no
theorem cmov_start {w : World} {r n : Nat} (hw : r + 3 < w.heap.size) (hL : w.heap[r + 2]? = some (.cells ((List.range n).map noList).toArray 22 (0, 0)))
    (hM : Pairs w 95 (.int .i64 0) (r + 1) 0 (fun _ _ => .int .i64 0)) (hmb : w.heap[r + 3]? = some (.cells #[.slice none 0 0, .map (some (r + 1)), .slice (some ⟨r + 2, 0, none⟩) n n] 72 (0, 0))) :
    Cmov w (r + 3) n cs0 ⟨.slice none 0 0, r + 1, 0, r + 2, ctag0 r, noList⟩ := by
  refine ⟨fun g hg => ?_, ?_, hmb, Seg.nil _ _ _ _, ?_, hM, ?_, hL, fun i hi => Seg.nil _ _ _ _⟩
  · show ctag0 r g = .no
    unfold ctag0
    rw [if_neg (by omega), if_neg (by omega), if_neg (by omega)]
  · show ctag0 r (r + 3) = .mb
    unfold ctag0
    rw [if_pos rfl]
  · show ctag0 r (r + 1) = .map
    unfold ctag0
    rw [if_neg (by omega), if_neg (by omega), if_pos rfl]
  · show ctag0 r (r + 2) = .ls
    unfold ctag0
    rw [if_neg (by omega), if_pos rfl]

set_option maxRecDepth 100000 in
set_option maxHeartbeats 4000000 in
theorem play_badC {W : World} {pa : Option Addr} {pl pc : Nat} {z : Int} (hz : castCode z pl ≠ 0) (hpl : pl ≤ maxLen) :
    Calls Try.prog 12 #[.int .i64 z, .slice pa pl pc] W fun e W2 => e = .returned (.tuple #[.agg #[.slice none 0 0, .slice none 0 0], .int .i64 1]) ∧ Still W W2 := by
  have hb : z < 1 ∨ (¬ z < 1 ∧ 6 < z) ∨ (¬ z < 1 ∧ ¬ 6 < z ∧ 120 < (pl : Int)) := by
    unfold castCode at hz
    split at hz
    · omega
    · omega
  clear hz
  rcases hb with hb | ⟨hb, hb2⟩ | ⟨hb, hb2, hb3⟩
  · have q1 : decide (z < 1) = true := decide_eq_true hb
    go_enter Try.func12, Try.ntmps12
    go_wp2
    refine bodyPost_ret (results_cell_tmp_rowC (P := Try.prog) rfl _ _ W.heap.size 36 #[.slice none 0 0, .slice none 0 0] (0, 0) _ rfl (al_new _ _) Try.underlying36 rfl (by kernel_rfl)) rfl ?_
    exact ⟨rfl, (Keep.refl _ W).alloc _⟩
  · have q1 : decide (z < 1) = false := decide_eq_false hb
    have q2 : decide (6 < z) = true := decide_eq_true hb2
    go_enter Try.func12, Try.ntmps12
    go_wp2
    refine bodyPost_ret (results_cell_tmp_rowC (P := Try.prog) rfl _ _ W.heap.size 36 #[.slice none 0 0, .slice none 0 0] (0, 0) _ rfl (al_new _ _) Try.underlying36 rfl (by kernel_rfl)) rfl ?_
    exact ⟨rfl, (Keep.refl _ W).alloc _⟩
  · have q1 : decide (z < 1) = false := decide_eq_false hb
    have q2 : decide (6 < z) = false := decide_eq_false hb2
    have q3 : decide (120 < (pl : Int)) = true := decide_eq_true hb3
    clear hpl
    go_enter Try.func12, Try.ntmps12
    go_wp2
    refine bodyPost_ret (results_cell_tmp_rowC (P := Try.prog) rfl _ _ W.heap.size 36 #[.slice none 0 0, .slice none 0 0] (0, 0) _ rfl (al_new _ _) Try.underlying36 rfl (by kernel_rfl)) rfl ?_
    exact ⟨rfl, (Keep.refl _ W).alloc _⟩
end Go.Proofs.Ytpdccjhabolccaa
