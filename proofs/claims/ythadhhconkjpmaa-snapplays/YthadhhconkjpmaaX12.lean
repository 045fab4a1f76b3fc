/- The document's Snap: its first blocks. -/
import Derived.Test.YthadhhconkjpmaaX11
namespace Go.Proofs.Ythadhhconkjpmaa
open Go.RowKit Go.WideMaps
set_option linter.unusedVariables false

theorem lnInfo : (Try.prog.info? 49).map (fun i => (i.zero, i.size, i.bytes)) = some (some (.agg zLn), 3, 40) := by kernel_rfl
theorem make_lines (k : Nat) (hk : k ≤ 200) (W : World) : (Instr.makeSlice 45 (.int .i64 (k : Int)) (.int .i64 (k : Int))).run Try.prog W = .ok (.slice (some ⟨W.heap.size, 0, none⟩) k k) (W.alloc (.cells (madeCells zLn (k * 3)) 49)) := by
  obtain ⟨i0, hi, hz0, hz1, hz2⟩ := info_parts lnInfo
  have h := run_makeSlice (P := Try.prog) W 45 49 i0 _ Try.underlying45 hi hz0 .i64 .i64 (k : Int) (k : Int) (by omega) (Int.le_refl _) (by rw [hz1]; simp; omega) (by rw [hz2]; omega) (by omega)
  rw [hz1] at h
  simpa [Value.cells, zLn] using h
theorem made_lines (n : Nat) : madeCells zLn (n * n * 3) = (lnRow n (fun _ _ => nlS) fun _ _ => ⟨[], 0, 0⟩).toArray := by
  unfold lnRow
  simp only [madeCells]
  apply Array.ext_getElem?
  intro k
  by_cases h : k < n * n * 3
  · have e : zLn.size = 3 := rfl
    simp [h, e]
    have h6 : k % 3 < 3 := Nat.mod_lt _ (by omega)
    unfold lnCell
    generalize k % 3 = q at *
    obtain e | e | e : q = 0 ∨ q = 1 ∨ q = 2 := by omega
    all_goals subst e; rfl
  · simp [h]
/-- How it begins: the result's block, the one that it goes by, the lines. -/
theorem rini_start (W : World) (n : Nat) (m : Nat → Int) :
    ∃ t, RIni (((W.alloc (.cells #[nlS, nlS, nlS, nlS, .bool false] 27)).alloc (.cells #[nlS, nlS, nlS, nlS, .bool false] 27)).alloc (.cells (lnRow n (fun _ _ => nlS) fun _ _ => ⟨[], 0, 0⟩).toArray 49)) (W.heap.size + 1) (W.heap.size + 1 + 1) n 0 0 m nlS nlS t ∧
      ∀ g, t g ≠ .no → W.heap.size < g := by
  refine ⟨fun g => if g = W.heap.size + 1 then .mb else if g = W.heap.size + 1 + 1 then .map else .no, ⟨fun g hg => ?_, if_pos rfl, ?_, ⟨rfl, .inl ⟨rfl, rfl⟩⟩, ⟨rfl, .inl ⟨rfl, rfl⟩⟩, ?_, ?_⟩, fun g hg => ?_⟩
  · have hg' : W.heap.size + 1 + 1 + 1 ≤ g := by simpa using hg
    show (if g = W.heap.size + 1 then Tag.mb else if g = W.heap.size + 1 + 1 then Tag.map else Tag.no) = .no
    rw [if_neg (by omega), if_neg (by omega)]
  · have h := al_new (W.alloc (.cells #[nlS, nlS, nlS, nlS, .bool false] 27)) (.cells #[nlS, nlS, nlS, nlS, .bool false] 27)
    have e : (W.alloc (.cells #[nlS, nlS, nlS, nlS, .bool false] 27)).heap.size = W.heap.size + 1 := by simp
    rw [e] at h
    exact ((Keep.refl (fun _ => False) _).alloc _).block _ (by simp) (fun e => e) |>.trans h
  · show (if W.heap.size + 1 + 1 = W.heap.size + 1 then Tag.mb else if W.heap.size + 1 + 1 = W.heap.size + 1 + 1 then Tag.map else Tag.no) = .map
    rw [if_neg (by omega), if_pos rfl]
  · have h := al_new ((W.alloc (.cells #[nlS, nlS, nlS, nlS, .bool false] 27)).alloc (.cells #[nlS, nlS, nlS, nlS, .bool false] 27)) (.cells (lnRow n (fun _ _ => nlS) fun _ _ => ⟨[], 0, 0⟩).toArray 49)
    have e : ((W.alloc (.cells #[nlS, nlS, nlS, nlS, .bool false] 27)).alloc (.cells #[nlS, nlS, nlS, nlS, .bool false] 27)).heap.size = W.heap.size + 1 + 1 := by simp
    rw [e] at h
    exact h
  · have hg' : (if g = W.heap.size + 1 then Tag.mb else if g = W.heap.size + 1 + 1 then Tag.map else Tag.no) ≠ .no := hg
    by_cases e : g = W.heap.size + 1
    · omega
    · rw [if_neg e] at hg'
      by_cases e2 : g = W.heap.size + 1 + 1
      · omega
      · rw [if_neg e2] at hg'; exact absurd rfl hg'
end Go.Proofs.Ythadhhconkjpmaa
