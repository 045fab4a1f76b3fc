/- The document's Mutex: how it begins. -/
import Derived.Test.YtaojmbebkggafaaMr1
import Derived.Test.YtaojmbebkggafaaMa4
import Derived.Deep.CutRange
import Derived.Deep.CutBlock
import Derived.Deep.LoopGhost
namespace Go.Proofs.Ytaojmbebkggafaa
open Go.RowKit
set_option linter.unusedVariables false

def zA : Array Value := #[.int .i64 0, .int .i64 0, .int .i64 0, .int .i64 0, .slice none 0 0]
theorem mInfoAsk : (Try.prog.info? 48).map (fun i => (i.zero, i.size, i.bytes)) = some (some (.agg zA), 5, 56) := by kernel_rfl
theorem mInfoLetter : (Try.prog.info? 50).map (fun i => (i.zero, i.size, i.bytes)) = some (some (.agg #[.int .i64 0, .int .i64 0, .int .i64 0, .bool false]), 4, 32) := by kernel_rfl
theorem mMakeAsk (m : Nat) (hm : m ≤ 200) (W : World) : (Instr.makeSlice 44 (.int .i64 (m : Int)) (.int .i64 (m : Int))).run Try.prog W = .ok (.slice (some ⟨W.heap.size, 0, none⟩) m m) (W.alloc (.cells (madeCells zA (m * 5)) 48)) := by
  obtain ⟨i0, hi, hz0, hz1, hz2⟩ := info_parts mInfoAsk
  have h := run_makeSlice (P := Try.prog) W 44 48 i0 _ Try.underlying44 hi hz0 .i64 .i64 (m : Int) (m : Int) (by omega) (Int.le_refl _) (by rw [hz1]; simp; omega) (by rw [hz2]; omega) (by omega)
  rw [hz1] at h
  simpa [Value.cells, zA] using h
def nilR (_ : RT) : Value := .slice none 0 0
def askS0 (n : Nat) : Array Value := (rprocL n (rpc ms0 nilR)).toArray
theorem mMadeAsk (m : Nat) : madeCells zA (m * 5) = askS0 m := by
  unfold askS0
  simp only [madeCells, rprocL]
  apply Array.ext_getElem?
  intro k
  by_cases h : k < m * 5
  · have e : zA.size = 5 := rfl
    simp [h, e]
    have h6 : k % 5 < 5 := Nat.mod_lt _ (by omega)
    generalize k % 5 = q at *
    obtain e | e | e | e | e : q = 0 ∨ q = 1 ∨ q = 2 ∨ q = 3 ∨ q = 4 := by omega
    all_goals subst e; rfl
  · simp [h]
theorem rd_start (W : World) (n : Nat) (hn : n ≤ 6) : ∃ t, Pool (((W.alloc (.cells #[.slice none 0 0, .slice none 0 0, .slice none 0 0, .int .i64 0] 26)).alloc (.cells #[.slice none 0 0, .slice none 0 0, .slice none 0 0, .int .i64 0] 26)).alloc (.cells (askS0 n) 48)) t (RD n (W.heap.size + 1) (W.heap.size + 1 + 1) ms0 [] [] [] 0 nilR) ∧ t W.heap.size = none ∧ ∀ g, t g ≠ none → W.heap.size ≤ g := by
  have P0 := (Pool.empty (ι := RT) W).alloc (.cells #[.slice none 0 0, .slice none 0 0, .slice none 0 0, .int .i64 0] 26)
  have z1 : (W.alloc (.cells #[.slice none 0 0, .slice none 0 0, .slice none 0 0, .int .i64 0] 26)).heap.size = W.heap.size + 1 := by simp
  obtain ⟨t1, P1, S1⟩ := P0.new .out 26 4 1 1 #[.slice none 0 0, .slice none 0 0, .slice none 0 0, .int .i64 0] [.slice none 0 0, .slice none 0 0, .slice none 0 0, .int .i64 0] (by simp) (Nat.le_refl _) (by unfold maxLen; omega) (by simp) (fun j x h => by simpa using h)
  have z2 : ((W.alloc (.cells #[.slice none 0 0, .slice none 0 0, .slice none 0 0, .int .i64 0] 26)).alloc (.cells #[.slice none 0 0, .slice none 0 0, .slice none 0 0, .int .i64 0] 26)).heap.size = W.heap.size + 1 + 1 := by simp
  obtain ⟨t2, P2, S2⟩ := P1.new .procs 48 5 n n (askS0 n) (rprocL n (rpc ms0 nilR)) (by simp [rprocL]) (Nat.le_refl _) (by unfold maxLen; omega) (by simp [askS0, rprocL]) (fun j x h => by simpa [askS0] using h)
  rw [z1] at P1 P2
  rw [z2] at P2
  have SS := S1.trans S2
  refine ⟨t2, P2.nils (fun y q hy => ?_), SS.tags W.heap.size (by rw [z1]; omega), fun g hg => ?_⟩
  · cases y with
    | out => left; rw [updD_other _ _ (by simp), updD_same, ← hy]; rfl
    | procs => left; rw [updD_same, ← hy]; rfl
    | post => right; simp only [RD, Option.some.injEq] at hy; subst hy; exact ⟨rfl, rfl, rfl⟩
    | cd => right; simp only [RD, Option.some.injEq] at hy; subst hy; exact ⟨rfl, rfl, rfl⟩
    | ins => right; simp only [RD, Option.some.injEq] at hy; subst hy; exact ⟨rfl, rfl, rfl⟩
    | isd => right; simp only [RD, Option.some.injEq] at hy; subst hy; exact ⟨rfl, rfl, rfl⟩
    | wt i =>
      right
      simp only [RD] at hy
      split at hy
      · cases hy; exact ⟨rfl, rfl, rfl⟩
      · cases hy
  · apply Nat.le_of_not_lt
    intro hlt
    exact hg (SS.tags g (by rw [z1]; omega))
theorem mc_range (n : Nat) (ps : List Cst) (k : Nat) : (List.range (k + 1)).map (mcAt n ps) = (List.range k).map (mcAt n ps) ++ [mcAt n ps k] := by
  rw [List.range_succ, List.map_append, List.map_singleton]
/-- What the document's play leaves. -/
structure PlayedR (W W2 : World) (n pl : Nat) (ps : List Cst) (b5 P : Nat) (L : List Lt) (t : Nat → Option RT) (v : RT → Value) : Prop where
  pool : Pool W2 t (RD n b5 P (msAt n ps pl) L ((List.range pl).map (mcAt n ps)) (insideM n (msAt n ps pl)) (awayM n (msAt n ps pl)) v)
  keep : Stil W W2
theorem bool_kind (kd : Int) : (kd != 1 && kd != 2 && kd != 3) = decide (kd ≠ 1 ∧ kd ≠ 2 ∧ kd ≠ 3) := by
  by_cases h1 : kd = 1 <;> by_cases h2 : kd = 2 <;> by_cases h3 : kd = 3 <;> simp [h1, h2, h3]
end Go.Proofs.Ytaojmbebkggafaa
