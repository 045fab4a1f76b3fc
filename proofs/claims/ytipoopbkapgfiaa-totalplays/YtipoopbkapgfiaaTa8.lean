/- Play: how it begins, and what is wrong. -/
import Derived.Test.YtipoopbkapgfiaaTa6
import Derived.Laws.ResultCell
namespace Go.Proofs.Ytipoopbkapgfiaa
open Go.RowKit Go.WideMaps
set_option linter.unusedVariables false

theorem results_cell_tmp_rowC {P : Program} {fn : Func} {p u : Tmp} {ty : TypeId} (h : fn.results = #[.cell p ty, .tmp u]) (tmps : Array Value) (w : World) (g : Nat) (t : TypeId) (cs : Array Value) (fr : Nat × Nat) (d : TypeDesc)
    (hp : tmps.getD p undef = .pointer (some ⟨g, 0, none⟩)) (hg : w.heap[g]? = some (.cells cs t fr))
    (hu : P.underlying ty = some d) (hd : (match d with | .struct _ | .array _ _ => true | _ => false) = true) (hi : (P.info? ty).map (·.size) = some cs.size) :
    (results fn tmps).run P w = .ok (.tuple #[.agg cs, tmps.getD u undef]) w := by
  rw [results_cell_tmp h, hp]
  simp [asAddr, run_loadVar_row w g t ty cs fr d hg hu hd hi, Result.andThen]

/-- The codes of the first k steps. -/
def tcRow (n : Nat) (ps : List Cst) (len k : Nat) : List Value := (List.range len).map fun q => .int .i64 (if q < k then tcAt n ps q else 0)
theorem tcRow_len (n : Nat) (ps : List Cst) (len k : Nat) : (tcRow n ps len k).length = len := by simp [tcRow]
theorem tcRow_at {n : Nat} {ps : List Cst} {len k q : Nat} (h : q < len) : (tcRow n ps len k)[q]? = some (.int .i64 (if q < k then tcAt n ps q else 0)) := by simp [tcRow, h]
theorem tcRow_set {n : Nat} {ps : List Cst} {len k : Nat} (h : k < len) : (tcRow n ps len k).set k (.int .i64 (tcAt n ps k)) = tcRow n ps len (k + 1) := by
  apply List.ext_getElem?
  intro q
  rw [List.getElem?_set]
  by_cases hq : q < len
  · by_cases e : k = q
    · subst e
      rw [if_pos rfl, if_pos (by rw [tcRow_len]; exact hq), tcRow_at hq, if_pos (by omega)]
    · rw [if_neg e, tcRow_at hq, tcRow_at hq]
      by_cases h1 : q < k
      · rw [if_pos h1, if_pos (by omega)]
      · rw [if_neg h1, if_neg (by omega)]
  · rw [if_neg (by omega), List.getElem?_eq_none (by rw [tcRow_len]; omega), List.getElem?_eq_none (by rw [tcRow_len]; omega)]
theorem cInfoErr : (Try.prog.info? 27).map (fun i => (i.zero, i.size, i.bytes)) = some (some (.int .i64 0), 1, 8) := by kernel_rfl
theorem cInfoInts : (Try.prog.info? 34).map (fun i => (i.zero, i.size, i.bytes)) = some (some (.slice none 0 0), 1, 24) := by kernel_rfl
theorem cMakeCodes (m : Nat) (hm : m ≤ 200) (W : World) : (Instr.makeSlice 23 (.int .i64 (m : Int)) (.int .i64 (m : Int))).run Try.prog W = .ok (.slice (some ⟨W.heap.size, 0, none⟩) m m) (W.alloc (.cells (madeCells #[.int .i64 0] m) 27)) := by
  obtain ⟨i0, hi, hz0, hz1, hz2⟩ := info_parts cInfoErr
  have h := run_makeSlice (P := Try.prog) W 23 27 i0 _ Try.underlying23 hi hz0 .i64 .i64 (m : Int) (m : Int) (by omega) (Int.le_refl _) (by rw [hz1]; simp; omega) (by rw [hz2]; omega) (by omega)
  rw [hz1] at h
  simpa [Value.cells] using h
theorem cMakeRows (m : Nat) (hm : m ≤ 200) (W : World) : (Instr.makeSlice 24 (.int .i64 (m : Int)) (.int .i64 (m : Int))).run Try.prog W = .ok (.slice (some ⟨W.heap.size, 0, none⟩) m m) (W.alloc (.cells (madeCells #[.slice none 0 0] m) 34)) := by
  obtain ⟨i0, hi, hz0, hz1, hz2⟩ := info_parts cInfoInts
  have h := run_makeSlice (P := Try.prog) W 24 34 i0 _ Try.underlying24 hi hz0 .i64 .i64 (m : Int) (m : Int) (by omega) (Int.le_refl _) (by rw [hz1]; simp; omega) (by rw [hz2]; omega) (by omega)
  rw [hz1] at h
  simpa [Value.cells] using h
theorem cMadeCodes (n : Nat) (ps : List Cst) (m : Nat) : madeCells #[Value.int .i64 0] m = (tcRow n ps m 0).toArray := by
  simp only [madeCells, tcRow]
  apply Array.ext_getElem?
  intro k
  by_cases h : k < m
  · simp [h, Nat.mod_one]
  · simp [h]
def noList (_ : Nat) : Value := .slice none 0 0
theorem cMadeRows (m : Nat) : madeCells #[Value.slice none 0 0] m = ((List.range m).map noList).toArray := by
  simp only [madeCells]
  apply Array.ext_getElem?
  intro k
  by_cases h : k < m
  · simp [h, Nat.mod_one, noList]
  · simp [h]

theorem cMakeInts (m : Nat) (hm : m ≤ 200) (W : World) : (Instr.makeSlice 34 (.int .i64 (m : Int)) (.int .i64 (m : Int))).run Try.prog W = .ok (.slice (some ⟨W.heap.size, 0, none⟩) m m) (W.alloc (.cells (madeCells #[.int .i64 0] m) 3)) := by
  obtain ⟨i0, hi, hz0, hz1, hz2⟩ := info_parts cInfoInt
  have h := run_makeSlice (P := Try.prog) W 34 3 i0 _ Try.underlying34 hi hz0 .i64 .i64 (m : Int) (m : Int) (by omega) (Int.le_refl _) (by rw [hz1]; simp; omega) (by rw [hz2]; omega) (by omega)
  rw [hz1] at h
  simpa [Value.cells] using h
def zeroI (_ : Nat) : Value := .int .i64 0
theorem cMadeInts (m : Nat) : madeCells #[Value.int .i64 0] m = ((List.range m).map zeroI).toArray := by
  simp only [madeCells]
  apply Array.ext_getElem?
  intro k
  by_cases h : k < m
  · simp [h, Nat.mod_one, zeroI]
  · simp [h]

/-- How it begins: numbers, the map, lists, and the casting itself. -/
theorem tmov_start (w : World) (n : Nat) (hn : n ≤ 6) : ∃ h, Tmov ((((w.alloc (.cells ((List.range n).map zeroI).toArray 3)).alloc (.map #[] 0)).alloc (.cells ((List.range n).map noList).toArray 34)).alloc (.cells #[.int .i64 0, .slice (some ⟨w.heap.size, 0, none⟩) n n, .map (some (w.heap.size + 1)), .slice (some ⟨w.heap.size + 2, 0, none⟩) n n] 37)) (w.heap.size + 3) n ts0 h ∧ h.c = 0 ∧ ∀ g, h.own (w.heap.size + 3) g → w.heap.size ≤ g := by
  have z1 : (w.alloc (.cells ((List.range n).map zeroI).toArray 3)).heap.size = w.heap.size + 1 := by simp
  have z2 : ((w.alloc (.cells ((List.range n).map zeroI).toArray 3)).alloc (.map #[] 0)).heap.size = w.heap.size + 2 := by simp
  have z3 : (((w.alloc (.cells ((List.range n).map zeroI).toArray 3)).alloc (.map #[] 0)).alloc (.cells ((List.range n).map noList).toArray 34)).heap.size = w.heap.size + 3 := by simp
  obtain ⟨t1, P1, S1⟩ := (Pool.empty (ι := TTag) w).new .num 3 1 n n ((List.range n).map zeroI).toArray ((List.range n).map zeroI) (by simp) (Nat.le_refl _) (by unfold maxLen; omega) (by simp) (fun j x h => by simpa using h)
  have P2 := P1.alloc (.map #[] 0)
  obtain ⟨t3, P3, S3⟩ := P2.new .ls 34 1 n n ((List.range n).map noList).toArray ((List.range n).map noList) (by simp) (Nat.le_refl _) (by unfold maxLen; omega) (by simp) (fun j x h => by simpa using h)
  have P4 := P3.alloc (.cells #[.int .i64 0, .slice (some ⟨w.heap.size, 0, none⟩) n n, .map (some (w.heap.size + 1)), .slice (some ⟨w.heap.size + 2, 0, none⟩) n n] 37)
  have hM := ((PairsO.made (w.alloc (.cells ((List.range n).map zeroI).toArray 3)) 59).keep (((Keep.refl (fun _ => False) _).alloc (.cells ((List.range n).map noList).toArray 34)).alloc (.cells #[.int .i64 0, .slice (some ⟨w.heap.size, 0, none⟩) n n, .map (some (w.heap.size + 1)), .slice (some ⟨w.heap.size + 2, 0, none⟩) n n] 37)) (fun e => e))
  rw [z1] at hM
  rw [z2] at P4
  have hb := al_new (((w.alloc (.cells ((List.range n).map zeroI).toArray 3)).alloc (.map #[] 0)).alloc (.cells ((List.range n).map noList).toArray 34)) (.cells #[.int .i64 0, .slice (some ⟨w.heap.size, 0, none⟩) n n, .map (some (w.heap.size + 1)), .slice (some ⟨w.heap.size + 2, 0, none⟩) n n] 37)
  rw [z3] at hb
  have t1n : t1 (w.heap.size + 1) = none := P1.fresh _ (by rw [z1]; exact Nat.le_refl _)
  have tm : t3 (w.heap.size + 1) = none := (S3.tags _ (by rw [z2]; omega)).trans t1n
  have tb : t3 (w.heap.size + 3) = none := P3.fresh _ (by rw [z3]; exact Nat.le_refl _)
  refine ⟨⟨w.heap.size + 1, 0, w.heap.size, w.heap.size + 2, t3, noList⟩, ⟨P4.nils (fun y q hy => ?_), tb, tm, by show w.heap.size + 3 ≠ w.heap.size + 1; omega, hb, hM⟩, rfl, fun g hg => ?_⟩
  · cases y with
    | num =>
      left
      rw [updD_other _ _ (by simp), updD_same, ← hy]
      rfl
    | ls =>
      left
      rw [updD_same, ← hy]
      rfl
    | li i =>
      right
      simp only [dT] at hy
      split at hy
      · cases hy
        exact ⟨rfl, rfl, rfl⟩
      · cases hy
  · rcases hg with hg | hg | hg
    · apply Nat.le_of_not_lt
      intro hlt
      apply hg
      show t3 g = none
      rw [S3.tags g (by rw [z2]; omega), S1.tags g hlt]
    · omega
    · have : g = w.heap.size + 1 := hg
      omega

set_option maxRecDepth 100000 in
set_option maxHeartbeats 4000000 in
theorem play_badT {W : World} {pa : Option Addr} {pl pc : Nat} {z : Int} (hz : castCode z pl ≠ 0) (hpl : pl ≤ maxLen) :
    Calls Try.prog 4 #[.int .i64 z, .slice pa pl pc] W fun e W2 => e = .returned (.tuple #[.agg #[.slice none 0 0, .slice none 0 0], .int .i64 1]) ∧ Stil W W2 := by
  have hb : z < 1 ∨ (¬ z < 1 ∧ 6 < z) ∨ (¬ z < 1 ∧ ¬ 6 < z ∧ 120 < (pl : Int)) := by
    unfold castCode at hz
    split at hz
    · omega
    · omega
  clear hz
  rcases hb with hb | ⟨hb, hb2⟩ | ⟨hb, hb2, hb3⟩
  · have q1 : decide (z < 1) = true := decide_eq_true hb
    go_enter Try.func4, Try.ntmps4
    go_wp2
    refine bodyPost_ret (results_cell_tmp_rowC (P := Try.prog) rfl _ _ W.heap.size 26 #[.slice none 0 0, .slice none 0 0] (0, 0) _ rfl (al_new _ _) Try.underlying26 rfl (by kernel_rfl)) rfl ?_
    exact ⟨rfl, (Keep.refl _ W).alloc _⟩
  · have q1 : decide (z < 1) = false := decide_eq_false hb
    have q2 : decide (6 < z) = true := decide_eq_true hb2
    go_enter Try.func4, Try.ntmps4
    go_wp2
    refine bodyPost_ret (results_cell_tmp_rowC (P := Try.prog) rfl _ _ W.heap.size 26 #[.slice none 0 0, .slice none 0 0] (0, 0) _ rfl (al_new _ _) Try.underlying26 rfl (by kernel_rfl)) rfl ?_
    exact ⟨rfl, (Keep.refl _ W).alloc _⟩
  · have q1 : decide (z < 1) = false := decide_eq_false hb
    have q2 : decide (6 < z) = false := decide_eq_false hb2
    have q3 : decide (120 < (pl : Int)) = true := decide_eq_true hb3
    clear hpl
    go_enter Try.func4, Try.ntmps4
    go_wp2
    refine bodyPost_ret (results_cell_tmp_rowC (P := Try.prog) rfl _ _ W.heap.size 26 #[.slice none 0 0, .slice none 0 0] (0, 0) _ rfl (al_new _ _) Try.underlying26 rfl (by kernel_rfl)) rfl ?_
    exact ⟨rfl, (Keep.refl _ W).alloc _⟩
end Go.Proofs.Ytipoopbkapgfiaa
