/- Play: how it begins, and what is wrong. -/
import Derived.Test.YtaojmbebkggafaaMa9
import Derived.Test.YtaojmbebkggafaaMb1
import Derived.Laws.ResultCell
namespace Go.Proofs.Ytaojmbebkggafaa
open Go.RowKit Go.WideMaps
set_option linter.unusedVariables false

def castCode (n : Int) (len : Nat) : Int := if n < 1 ∨ 6 < n ∨ 120 < len then 1 else 0
theorem castCode_zero {z : Int} {len : Nat} (h : castCode z len = 0) : ∃ n : Nat, z = (n : Int) ∧ 0 < n ∧ n ≤ 6 ∧ len ≤ 120 := by
  unfold castCode at h
  split at h
  · omega
  · exact ⟨z.toNat, by omega, by omega, by omega, by omega⟩
theorem results_cell_tmp_rowC {P : Program} {fn : Func} {p u : Tmp} {ty : TypeId} (h : fn.results = #[.cell p ty, .tmp u]) (tmps : Array Value) (w : World) (g : Nat) (t : TypeId) (cs : Array Value) (fr : Nat × Nat) (d : TypeDesc)
    (hp : tmps.getD p undef = .pointer (some ⟨g, 0, none⟩)) (hg : w.heap[g]? = some (.cells cs t fr))
    (hu : P.underlying ty = some d) (hd : (match d with | .struct _ | .array _ _ => true | _ => false) = true) (hi : (P.info? ty).map (·.size) = some cs.size) :
    (results fn tmps).run P w = .ok (.tuple #[.agg cs, tmps.getD u undef]) w := by
  rw [results_cell_tmp h, hp]
  simp [asAddr, run_loadVar_row w g t ty cs fr d hg hu hd hi, Result.andThen]

/-- The codes of the first k steps. -/
def mcRow (n : Nat) (ps : List Cst) (len k : Nat) : List Value := (List.range len).map fun q => .int .i64 (if q < k then mcAt n ps q else 0)
theorem mcRow_len (n : Nat) (ps : List Cst) (len k : Nat) : (mcRow n ps len k).length = len := by simp [mcRow]
theorem mcRow_at {n : Nat} {ps : List Cst} {len k q : Nat} (h : q < len) : (mcRow n ps len k)[q]? = some (.int .i64 (if q < k then mcAt n ps q else 0)) := by simp [mcRow, h]
theorem mcRow_set {n : Nat} {ps : List Cst} {len k : Nat} (h : k < len) : (mcRow n ps len k).set k (.int .i64 (mcAt n ps k)) = mcRow n ps len (k + 1) := by
  apply List.ext_getElem?
  intro q
  rw [List.getElem?_set]
  by_cases hq : q < len
  · by_cases e : k = q
    · subst e
      rw [if_pos rfl, if_pos (by rw [mcRow_len]; exact hq), mcRow_at hq, if_pos (by omega)]
    · rw [if_neg e, mcRow_at hq, mcRow_at hq]
      by_cases h1 : q < k
      · rw [if_pos h1, if_pos (by omega)]
      · rw [if_neg h1, if_neg (by omega)]
  · rw [if_neg (by omega), List.getElem?_eq_none (by rw [mcRow_len]; omega), List.getElem?_eq_none (by rw [mcRow_len]; omega)]
theorem cInfoErr : (Try.prog.info? 27).map (fun i => (i.zero, i.size, i.bytes)) = some (some (.int .i64 0), 1, 8) := by kernel_rfl
def zP : Array Value := #[.int .i64 0, .int .i64 0, .int .i64 0, .int .i64 0, .int .i64 0, .slice none 0 0]
theorem mInfoProc : (Try.prog.info? 61).map (fun i => (i.zero, i.size, i.bytes)) = some (some (.agg zP), 6, 64) := by kernel_rfl
theorem mMakeCodes (m : Nat) (hm : m ≤ 200) (W : World) : (Instr.makeSlice 23 (.int .i64 (m : Int)) (.int .i64 (m : Int))).run Try.prog W = .ok (.slice (some ⟨W.heap.size, 0, none⟩) m m) (W.alloc (.cells (madeCells #[.int .i64 0] m) 27)) := by
  obtain ⟨i0, hi, hz0, hz1, hz2⟩ := info_parts cInfoErr
  have h := run_makeSlice (P := Try.prog) W 23 27 i0 _ Try.underlying23 hi hz0 .i64 .i64 (m : Int) (m : Int) (by omega) (Int.le_refl _) (by rw [hz1]; simp; omega) (by rw [hz2]; omega) (by omega)
  rw [hz1] at h
  simpa [Value.cells] using h
theorem mMakeProcs (m : Nat) (hm : m ≤ 200) (W : World) : (Instr.makeSlice 34 (.int .i64 (m : Int)) (.int .i64 (m : Int))).run Try.prog W = .ok (.slice (some ⟨W.heap.size, 0, none⟩) m m) (W.alloc (.cells (madeCells zP (m * 6)) 61)) := by
  obtain ⟨i0, hi, hz0, hz1, hz2⟩ := info_parts mInfoProc
  have h := run_makeSlice (P := Try.prog) W 34 61 i0 _ Try.underlying34 hi hz0 .i64 .i64 (m : Int) (m : Int) (by omega) (Int.le_refl _) (by rw [hz1]; simp; omega) (by rw [hz2]; omega) (by omega)
  rw [hz1] at h
  simpa [Value.cells, zP] using h
theorem mMadeCodes (n : Nat) (ps : List Cst) (m : Nat) : madeCells #[Value.int .i64 0] m = (mcRow n ps m 0).toArray := by
  simp only [madeCells, mcRow]
  apply Array.ext_getElem?
  intro k
  by_cases h : k < m
  · simp [h, Nat.mod_one]
  · simp [h]
def noV (_ : Nat) : Value := .slice none 0 0
def noF (_ _ : Nat) : Value := .slice none 0 0
def procS (n : Nat) : Array Value := (procL n (pc ms0 noV)).toArray
theorem mMadeProcs (m : Nat) : madeCells zP (m * 6) = procS m := by
  unfold procS
  simp only [madeCells, procL]
  apply Array.ext_getElem?
  intro k
  by_cases h : k < m * 6
  · have e : zP.size = 6 := rfl
    simp [h, e]
    have h6 : k % 6 < 6 := Nat.mod_lt _ (by omega)
    generalize k % 6 = q at *
    obtain e | e | e | e | e | e : q = 0 ∨ q = 1 ∨ q = 2 ∨ q = 3 ∨ q = 4 ∨ q = 5 := by omega
    all_goals subst e; rfl
  · simp [h]
/-- How it begins. -/
theorem mmov_start (w : World) (n : Nat) (hn : n ≤ 6) : ∃ h, Mmov (((w.alloc (.cells (procS n) 61)).alloc (.map #[] 0)).alloc (.cells #[.slice (some ⟨w.heap.size, 0, none⟩) n n, .map (some (w.heap.size + 1)), .slice none 0 0] 37)) (w.heap.size + 1 + 1) n ms0 h ∧ h.c = 0 ∧ ∀ g, h.own (w.heap.size + 1 + 1) g → w.heap.size ≤ g := by
  have z1 : (w.alloc (.cells (procS n) 61)).heap.size = w.heap.size + 1 := by simp
  have z2 : ((w.alloc (.cells (procS n) 61)).alloc (.map #[] 0)).heap.size = w.heap.size + 1 + 1 := by simp
  obtain ⟨t1, P1, S1⟩ := (Pool.empty (ι := MTag) w).new .procs 61 6 n n (procS n) (procL n (pc ms0 noV)) (by simp [procL]) (Nat.le_refl _) (by unfold maxLen; omega) (by simp [procS, procL]) (fun j x h => by simpa [procS] using h)
  have P3 := (P1.alloc (.map #[] 0)).alloc (.cells #[.slice (some ⟨w.heap.size, 0, none⟩) n n, .map (some (w.heap.size + 1)), .slice none 0 0] 37)
  have hM := (PairsN.made (w.alloc (.cells (procS n) 61)) n).keep ((Keep.refl (fun _ => False) _).alloc (.cells #[.slice (some ⟨w.heap.size, 0, none⟩) n n, .map (some (w.heap.size + 1)), .slice none 0 0] 37)) (fun e => e)
  have hb := al_new ((w.alloc (.cells (procS n) 61)).alloc (.map #[] 0)) (.cells #[.slice (some ⟨w.heap.size, 0, none⟩) n n, .map (some (w.heap.size + 1)), .slice none 0 0] 37)
  rw [z1] at hM
  rw [z2] at hb
  have t1M : t1 (w.heap.size + 1) = none := P1.fresh _ (by rw [z1]; exact Nat.le_refl _)
  have t1b : t1 (w.heap.size + 1 + 1) = none := P1.fresh _ (by rw [z1]; omega)
  refine ⟨⟨w.heap.size + 1, 0, w.heap.size, .slice none 0 0, noV, noF, t1⟩, ⟨P3.nils (fun y q hy => ?_), t1b, t1M, by show w.heap.size + 1 + 1 ≠ w.heap.size + 1; omega, hb, hM⟩, rfl, fun g hg => ?_⟩
  · cases y with
    | procs => left; rw [updD_same, ← hy]; rfl
    | ins =>
      right
      simp only [dM, Option.some.injEq] at hy
      subst hy
      exact ⟨rfl, rfl, rfl⟩
    | wt i =>
      right
      simp only [dM] at hy
      split at hy
      · cases hy; exact ⟨rfl, rfl, rfl⟩
      · cases hy
    | wy i j =>
      right
      simp only [dM] at hy
      split at hy
      · cases hy; exact ⟨rfl, rfl, rfl⟩
      · cases hy
  · rcases hg with hg | hg | hg
    · apply Nat.le_of_not_lt
      intro hlt
      exact hg (S1.tags g hlt)
    · omega
    · have : g = w.heap.size + 1 := hg
      omega

set_option maxRecDepth 100000 in
set_option maxHeartbeats 4000000 in
theorem play_badM {W : World} {pa : Option Addr} {pl pc : Nat} {z : Int} (hz : castCode z pl ≠ 0) (hpl : pl ≤ maxLen) :
    Calls Try.prog 4 #[.int .i64 z, .slice pa pl pc] W fun e W2 => e = .returned (.tuple #[.agg #[.slice none 0 0, .slice none 0 0, .slice none 0 0, .int .i64 0], .int .i64 1]) ∧ Stil W W2 := by
  unfold castCode at hz
  have hc : z < 1 ∨ 6 < z ∨ 120 < pl := by
    refine Classical.byContradiction fun e => ?_
    rw [if_neg e] at hz
    exact hz rfl
  clear hz
  have h9 : maxLen ≤ 9223372036854775807 := by decide
  have hpl' : (pl : Int) ≤ 9223372036854775807 := by omega
  clear h9
  by_cases hb : z < 1
  · have q1 : decide (z < 1) = true := decide_eq_true hb
    clear hc hpl
    go_enter Try.func4, Try.ntmps4
    go_wp2
    refine bodyPost_ret (results_cell_tmp_rowC (P := Try.prog) rfl _ _ W.heap.size 26 #[.slice none 0 0, .slice none 0 0, .slice none 0 0, .int .i64 0] (0, 0) _ rfl (al_new _ _) Try.underlying26 rfl (by kernel_rfl)) rfl ?_
    exact ⟨rfl, (Keep.refl _ W).alloc _⟩
  by_cases hb2 : 6 < z
  · have q1 : decide (z < 1) = false := decide_eq_false hb
    have q2 : decide (6 < z) = true := decide_eq_true hb2
    clear hc hpl
    go_enter Try.func4, Try.ntmps4
    go_wp2
    refine bodyPost_ret (results_cell_tmp_rowC (P := Try.prog) rfl _ _ W.heap.size 26 #[.slice none 0 0, .slice none 0 0, .slice none 0 0, .int .i64 0] (0, 0) _ rfl (al_new _ _) Try.underlying26 rfl (by kernel_rfl)) rfl ?_
    exact ⟨rfl, (Keep.refl _ W).alloc _⟩
  · have q1 : decide (z < 1) = false := decide_eq_false hb
    have q2 : decide (6 < z) = false := decide_eq_false hb2
    have q3 : decide (120 < (pl : Int)) = true := decide_eq_true (by omega)
    clear hc hpl
    go_enter Try.func4, Try.ntmps4
    go_wp2
    refine bodyPost_ret (results_cell_tmp_rowC (P := Try.prog) rfl _ _ W.heap.size 26 #[.slice none 0 0, .slice none 0 0, .slice none 0 0, .int .i64 0] (0, 0) _ rfl (al_new _ _) Try.underlying26 rfl (by kernel_rfl)) rfl ?_
    exact ⟨rfl, (Keep.refl _ W).alloc _⟩
end Go.Proofs.Ytaojmbebkggafaa
