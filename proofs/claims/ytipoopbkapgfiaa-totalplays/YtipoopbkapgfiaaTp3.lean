/- How the document's Total begins. -/
import Derived.Test.YtipoopbkapgfiaaTp2
import Derived.Test.YtipoopbkapgfiaaTa8
namespace Go.Proofs.Ytipoopbkapgfiaa
open Go.RowKit
set_option linter.unusedVariables false

def zGot : Array Value := #[.int .i64 0, .int .i64 0, .bool false, .bool false, .bool false]
theorem gInfo : (Try.prog.info? 47).map (fun i => (i.zero, i.size, i.bytes)) = some (some (.agg zGot), 5, 24) := by kernel_rfl
theorem make_got (k : Nat) (hk : k ≤ 1000) (W : World) : (Instr.makeSlice 42 (.int .i64 (k : Int)) (.int .i64 (k : Int))).run Try.prog W = .ok (.slice (some ⟨W.heap.size, 0, none⟩) k k) (W.alloc (.cells (madeCells zGot (k * 5)) 47)) := by
  obtain ⟨i0, hi, hz0, hz1, hz2⟩ := info_parts gInfo
  have h := run_makeSlice (P := Try.prog) W 42 47 i0 _ Try.underlying42 hi hz0 .i64 .i64 (k : Int) (k : Int) (by omega) (Int.le_refl _) (by rw [hz1]; simp; omega) (by rw [hz2]; omega) (by omega)
  rw [hz1] at h
  simpa [Value.cells, zGot] using h
theorem made_got (n many : Nat) : madeCells zGot (n * many * 5) = (gotL n many fun _ _ => none).toArray := by
  unfold gotL
  simp only [madeCells]
  apply Array.ext_getElem?
  intro k
  by_cases h : k < n * many * 5
  · have e : zGot.size = 5 := rfl
    simp [h, e]
    unfold gotV
    have h6 : k % 5 < 5 := Nat.mod_lt _ (by omega)
    generalize k % 5 = q at *
    obtain e | e | e | e | e : q = 0 ∨ q = 1 ∨ q = 2 ∨ q = 3 ∨ q = 4 := by omega
    all_goals subst e; rfl
  · simp [h]
theorem make_zero (m : Nat) (hm : m ≤ 200) (W : World) : (Instr.makeSlice 34 (.int .i64 (m : Int)) (.int .i64 (m : Int))).run Try.prog W = .ok (.slice (some ⟨W.heap.size, 0, none⟩) m m) (W.alloc (.cells (numL m fun _ => 0).toArray 3)) := by
  have h := cMakeInts m hm W
  rw [cMadeInts m] at h
  exact h
theorem make_nils (m : Nat) (hm : m ≤ 200) (W : World) : (Instr.makeSlice 24 (.int .i64 (m : Int)) (.int .i64 (m : Int))).run Try.prog W = .ok (.slice (some ⟨W.heap.size, 0, none⟩) m m) (W.alloc (.cells ((List.range m).map noList).toArray 34)) := by
  have h := cMakeRows m hm W
  rw [cMadeRows m] at h
  exact h
/-- How it begins: the result's block, the lists, the block that it goes by, the numbers, what is got. -/
theorem zmv_start (w : World) (n many : Nat) (hn : n ≤ 6) (hm : many ≤ 120) (o : Obj) : ∃ h, h.cdv = .slice none 0 0 ∧ Zmv (((((w.alloc o).alloc (.cells ((List.range n).map noList).toArray 34)).alloc (.cells #[.slice none 0 0, .slice (some ⟨w.heap.size + 1, 0, none⟩) n n] 26)).alloc (.cells (numL n fun _ => 0).toArray 3)).alloc (.cells (gotL n many fun _ _ => none).toArray 47)) (w.heap.size + 2) n many (w.heap.size + 3) (w.heap.size + 4) (w.heap.size + 1) ts0 [] h ∧ (∀ i, h.ov i = h.lv i) ∧ ∀ g, h.own (w.heap.size + 2) g → w.heap.size < g := by
  have hnm : n * many ≤ 720 := Nat.mul_le_mul hn hm
  have z1 : (w.alloc o).heap.size = w.heap.size + 1 := by simp
  obtain ⟨t1, P1, S1⟩ := (Pool.empty (ι := ZT) (w.alloc o)).new .ol 34 1 n n ((List.range n).map noList).toArray ((List.range n).map noList) (by simp) (Nat.le_refl _) (by unfold maxLen; omega) (by simp) (fun j x h => by simpa using h)
  rw [z1] at P1
  have z2 : ((w.alloc o).alloc (.cells ((List.range n).map noList).toArray 34)).heap.size = w.heap.size + 2 := by simp
  generalize (w.alloc o).alloc (.cells ((List.range n).map noList).toArray 34) = w2 at *
  have P2 := P1.alloc (.cells #[.slice none 0 0, .slice (some ⟨w.heap.size + 1, 0, none⟩) n n] 26)
  have b2 := al_new w2 (.cells #[.slice none 0 0, .slice (some ⟨w.heap.size + 1, 0, none⟩) n n] 26)
  rw [z2] at b2
  have t2 : t1 (w.heap.size + 2) = none := P1.fresh _ (by omega)
  have z3 : (w2.alloc (.cells #[.slice none 0 0, .slice (some ⟨w.heap.size + 1, 0, none⟩) n n] 26)).heap.size = w.heap.size + 3 := by simp [z2]
  generalize w2.alloc (.cells #[.slice none 0 0, .slice (some ⟨w.heap.size + 1, 0, none⟩) n n] 26) = w3 at *
  obtain ⟨t4, P4, S4⟩ := P2.new .nu 3 1 n n (numL n fun _ => 0).toArray (numL n fun _ => 0) (by simp [numL]) (Nat.le_refl _) (by unfold maxLen; omega) (by simp [numL]) (fun j x h => by simpa using h)
  rw [z3] at P4
  have z4 : (w3.alloc (.cells (numL n fun _ => 0).toArray 3)).heap.size = w.heap.size + 4 := by simp [z3]
  obtain ⟨t5, P5, S5⟩ := P4.new .gt 47 5 (n * many) (n * many) (gotL n many fun _ _ => none).toArray (gotL n many fun _ _ => none) (by simp [gotL]) (Nat.le_refl _) (by unfold maxLen; omega) (by simp [gotL]) (fun j x h => by simpa using h)
  rw [z4] at P5
  have b5 := S5.block (by rw [S4.tags _ (by omega)]; exact t2) (S4.block t2 b2)
  refine ⟨⟨.slice none 0 0, noList, noList, t5⟩, rfl, ⟨P5.nils (fun y q hy => ?_), by rw [show (ZSh.mk (.slice none 0 0) noList noList t5).t = t5 from rfl, S5.tags _ (by omega), S4.tags _ (by omega)]; exact t2, b5⟩, fun _ => rfl, fun g hg => ?_⟩
  · cases y with
    | gt => left; rw [updD_same, ← hy]; rfl
    | nu => left; rw [updD_other _ _ (by simp), updD_same, ← hy]; rfl
    | ol => left; rw [updD_other _ _ (by simp), updD_other _ _ (by simp), updD_same, ← hy]; rfl
    | cd => right; simp only [dZ, Option.some.injEq] at hy; subst hy; exact ⟨rfl, rfl, rfl⟩
    | l i =>
      right
      by_cases hi : i < n
      · rw [dZ_l hi] at hy
        cases hy
        exact ⟨rfl, rfl, rfl⟩
      · simp only [dZ] at hy
        rw [if_neg hi] at hy
        cases hy
  · rcases hg with hg | hg
    · apply Nat.lt_of_not_le
      intro hle
      refine hg ?_
      show t5 g = none
      rw [S5.tags g (by omega), S4.tags g (by omega)]
      have := S1.tags g (by rw [z1]; omega)
      simpa using this
    · omega
end Go.Proofs.Ytipoopbkapgfiaa
