/- Events as they come in; folkmootlaw.ClocksChecks walked. -/
import Derived.Test.YtjglbjiekndpeabG3
import Derived.Deep.Slices
import Derived.Deep.Strs
import Derived.ChangeOld
import Derived.ProofKit
import Derived.OpenShut
namespace Go.Proofs.Ytjglbjiekndpeab
open Go.RowKit Go.ChangeShapes Go.WideShapes Go.Deep
set_option linter.unusedVariables false

theorem cellsEv : Try.prog.cellsOf 35 = 3 := by kernel_rfl
theorem cellsInt : Try.prog.cellsOf 3 = 1 := by kernel_rfl

theorem came_events {H : Type} {enc : TypeId × Value → H} {W : World} {a : Option Addr} {len cap fuel : Nat} {x : DataW H × List MemPlace}
    (h : DataW.trod enc Try.prog W 0 (fun _ => true) true fuel 22 [.slice a len cap] = some x) : ∃ es, CameEv W a len cap es := by
  rcases open_slice Try.underlying22 h with ⟨hcs, _⟩ | ⟨a', len', cap', m, n, D, Pl, hcs, _, hl, hm, hmm, _, hel⟩
  · simp at hcs
    obtain ⟨rfl, rfl, rfl⟩ := hcs
    exact ⟨[], rfl, Nat.le_refl _, Nat.zero_le _, .inl rfl⟩
  · simp at hcs
    obtain ⟨rfl, rfl, rfl⟩ := hcs
    simp only [if_true] at hmm
    subst hmm
    have hev : ∀ i, i < len → ∃ e : Ev, e.fits ∧ W.cell? (a'.add (i * 3)) = some (.int .i64 e.kind) ∧ W.cell? ((a'.add (i * 3)).add 1) = some (.int .i64 e.who) ∧ W.cell? ((a'.add (i * 3)).add 2) = some (.int .i64 e.of) := by
      intro i hi
      obtain ⟨cs', hc0, ht0⟩ := hel i (by omega)
      rw [cellsEv] at hc0
      obtain ⟨y0, y1, y2, n', _, _, hS0, hS1, hS2⟩ := trod_struct3 Try.underlying35 ht0
      obtain ⟨_, hl3, hcell⟩ := World.cells?_some hc0
      obtain ⟨c0, c1, c2, rfl⟩ : ∃ c0 c1 c2, cs' = [c0, c1, c2] := by
        match cs', hl3 with
        | [c0, c1, c2], _ => exact ⟨c0, c1, c2, rfl⟩
      have go : ∀ {z : Int}, (Lit.int .i64 z).wf = true → I64 z := by
        intro z hz
        have h2 : IntKind.i64.min ≤ z ∧ z ≤ IntKind.i64.max := by simpa [Lit.wf] using hz
        have e1 : IntKind.i64.min = -9223372036854775808 := by decide
        have e2 : IntKind.i64.max = 9223372036854775807 := by decide
        unfold I64
        omega
      obtain ⟨z0, hz0, _, w0⟩ := DataW.trod_int Try.underlying3 hS0
      obtain ⟨z1, hz1, _, w1⟩ := DataW.trod_int Try.underlying3 hS1
      obtain ⟨z2, hz2, _, w2⟩ := DataW.trod_int Try.underlying3 hS2
      rw [cellsInt] at hz0 hz1 hz2
      simp at hz0 hz1 hz2
      subst hz0 hz1 hz2
      have r0 := hcell 0 (by omega)
      have r1 := hcell 1 (by omega)
      have r2 := hcell 2 (by omega)
      exact ⟨⟨z0, z1, z2⟩, ⟨go w0, go w1, go w2⟩, by simpa [Addr.add] using r0, by simpa using r1, by simpa using r2⟩
    by_cases h0 : len = 0
    · subst h0
      exact ⟨[], rfl, hl, Nat.zero_le _, .inl rfl⟩
    · obtain ⟨f, hf⟩ := choose_lt hev
      obtain ⟨b, off, spot⟩ := a'
      have hspot : spot = none := by
        have := (hf 0 (by omega)).2.1
        simpa [Addr.add] using World.cell?_spot this
      subst hspot
      have hadd : ∀ i j : Nat, ((⟨b, off, none⟩ : Addr).add i).add j = ⟨b, off + i + j, none⟩ := by
        intro i j
        unfold Addr.add
        by_cases hi : i = 0 <;> by_cases hj : j = 0 <;> simp [hi, hj]
      refine ⟨(List.range len).map f, by simp, hl, Nat.le_trans hl hm, .inr ⟨b, off, rfl, ?_, ?_, ?_⟩⟩
      · have := (hf 0 (by omega)).2.1
        simpa [Addr.add] using World.block_lt_of_cell? _ _ this
      · intro e he
        obtain ⟨i, hi, rfl⟩ := List.mem_map.1 he
        exact (hf i (List.mem_range.1 hi)).1
      · intro j e hj
        obtain ⟨hj1, hj2⟩ := List.getElem?_eq_some_iff.1 hj
        simp at hj1 hj2
        subst hj2
        obtain ⟨_, g0, g1, g2⟩ := hf j hj1
        refine ⟨?_, ?_, ?_⟩
        · have ea : (⟨b, off, none⟩ : Addr).add (j * 3) = ⟨b, off + j * 3, none⟩ := by
            unfold Addr.add
            by_cases h0 : j * 3 = 0 <;> simp [h0]
          rw [ea] at g0; exact g0
        · rw [hadd] at g1; exact g1
        · rw [hadd] at g2; exact g2

theorem i64_of {z : Int} (hz : (Lit.int .i64 z).wf = true) : I64 z := by
  have h2 : IntKind.i64.min ≤ z ∧ z ≤ IntKind.i64.max := by simpa [Lit.wf] using hz
  have e1 : IntKind.i64.min = -9223372036854775808 := by decide
  have e2 : IntKind.i64.max = 9223372036854775807 := by decide
  unfold I64
  omega

end Go.Proofs.Ytjglbjiekndpeab
