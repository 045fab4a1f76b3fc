/- Turns as they come in. -/
import Derived.Test.YtadanpghmfhhkaaRg8
import Derived.Deep.Slices
import Derived.Deep.Strs
import Derived.ChangeOld
import Derived.ProofKit
import Derived.OpenShut
import Derived.SizedLaws
namespace Go.Proofs.Ytadanpghmfhhkaa
open Go.RowKit Go.ChangeShapes Go.WideShapes Go.Deep
set_option linter.unusedVariables false

theorem cCellsTurn : Try.prog.cellsOf 36 = 2 := by kernel_rfl
theorem cCellsInt : Try.prog.cellsOf 3 = 1 := by kernel_rfl
theorem trod_struct2t {H : Type} {enc : TypeId × Value → H} {P : Program} {w : World} {base : Nat} {spare : Nat → Bool} {held : Bool} {t : TypeId} {f0 f1 : Field} {fuel : Nat} {cs : List Value} {x : DataW H × List MemPlace} (ht : P.underlying t = some (.struct #[f0, f1])) (h : DataW.trod enc P w base spare held fuel t cs = some x) :
    ∃ y0 y1 n, DataW.trod enc P w base spare held n f0.type ((cs.drop f0.offset).take (P.cellsOf f0.type)) = some y0 ∧ DataW.trod enc P w base spare held n f1.type ((cs.drop f1.offset).take (P.cellsOf f1.type)) = some y1 := by
  obtain ⟨xs, n, _, rfl, hl, hlen, hf⟩ := DataW.trod_struct ht h
  match xs, hlen with
  | [y0, y1], _ => exact ⟨y0, y1, n, by simpa using hf 0 f0 rfl, by simpa using hf 1 f1 rfl⟩

set_option maxRecDepth 100000 in
theorem came_turns {H : Type} {enc : TypeId × Value → H} {W : World} {a : Option Addr} {len cap fuel : Nat} {x : DataW H × List MemPlace}
    (h : DataW.trod enc Try.prog W 0 (fun _ => true) true fuel 23 [.slice a len cap] = some x) : ∃ ps, CameT W a len cap ps := by
  rcases open_slice Try.underlying23 h with ⟨hcs, _⟩ | ⟨a', len', cap', m, n, D, Pl, hcs, _, hl, hm, hmm, _, hel⟩
  · simp at hcs
    obtain ⟨rfl, rfl, rfl⟩ := hcs
    exact ⟨[], rfl, Nat.le_refl _, Nat.zero_le _, .inl rfl⟩
  · simp at hcs
    obtain ⟨rfl, rfl, rfl⟩ := hcs
    simp only [if_true] at hmm
    subst hmm
    have hev : ∀ i, i < len → ∃ e : Tu, W.cell? (a'.add (i * 2)) = some (.int .i64 e.kind) ∧ W.cell? ((a'.add (i * 2)).add 1) = some (.int .i64 e.who) := by
      intro i hi
      obtain ⟨cs', hc0, ht0⟩ := hel i (by omega)
      rw [cCellsTurn] at hc0
      obtain ⟨y0, y1, n', hS0, hS1⟩ := trod_struct2t Try.underlying36 ht0
      obtain ⟨_, hl3, hcell⟩ := World.cells?_some hc0
      obtain ⟨c0, c1, rfl⟩ : ∃ c0 c1, cs' = [c0, c1] := by
        match cs', hl3 with
        | [c0, c1], _ => exact ⟨c0, c1, rfl⟩
      obtain ⟨z0, hz0, _, w0⟩ := DataW.trod_int Try.underlying3 hS0
      obtain ⟨z1, hz1, _, w1⟩ := DataW.trod_int Try.underlying3 hS1
      rw [cCellsInt] at hz0 hz1
      simp at hz0 hz1
      subst hz0 hz1
      have r0 := hcell 0 (by omega)
      have r1 := hcell 1 (by omega)
      exact ⟨⟨z0, z1⟩, by simpa [Addr.add] using r0, by simpa using r1⟩
    by_cases h0 : len = 0
    · subst h0
      exact ⟨[], rfl, hl, Nat.zero_le _, .inl rfl⟩
    · obtain ⟨f, hf⟩ := choose_lt hev
      obtain ⟨b, off, spot⟩ := a'
      have hspot : spot = none := by
        have := (hf 0 (by omega)).1
        simpa [Addr.add] using World.cell?_spot this
      subst hspot
      have hadd : ∀ i j : Nat, ((⟨b, off, none⟩ : Addr).add i).add j = ⟨b, off + i + j, none⟩ := by
        intro i j
        unfold Addr.add
        by_cases hi : i = 0 <;> by_cases hj : j = 0 <;> simp [hi, hj]
      refine ⟨(List.range len).map f, by simp, hl, Nat.le_trans hl hm, .inr ⟨b, off, rfl, ?_, ?_⟩⟩
      · have := (hf 0 (by omega)).1
        simpa [Addr.add] using World.block_lt_of_cell? _ _ this
      · intro j e hj
        obtain ⟨hj1, hj2⟩ := List.getElem?_eq_some_iff.1 hj
        simp at hj1 hj2
        subst hj2
        obtain ⟨g0, g1⟩ := hf j hj1
        rw [addr_add] at g0
        rw [hadd] at g1
        exact ⟨g0, g1⟩
theorem turn_len {H : Type} {enc : TypeId × Value → H} {W : World} {a : Option Addr} {len cap fuel : Nat} {d : DataW H} {p : List MemPlace}
    (h : DataW.trod enc Try.prog W 0 (fun _ => true) true fuel 23 [.slice a len cap] = some (d, p)) : len = 0 ∨ ∃ el sp, d = .slice el sp ∧ el.length = len := by
  rcases open_slice Try.underlying23 h with ⟨hcs, _⟩ | ⟨a', len', cap', m, n, D, Pl, hcs, _, hl, hm, hmm, hx, hel⟩
  · simp at hcs
    exact .inl hcs.2.1
  · simp at hcs
    obtain ⟨rfl, rfl, rfl⟩ := hcs
    simp only [Prod.mk.injEq] at hx
    exact .inr ⟨_, _, by first | exact hx.1 | exact hx.2.1, by simp⟩
theorem turn_size {H : Type} {enc : TypeId × Value → H} {W : World} {a : Option Addr} {len cap fuel : Nat} {d : DataW H} {p : List MemPlace} {ts : List TypeId} {ds : List (DataW H)} {j : Nat}
    (h : DataW.trod enc Try.prog W 0 (fun _ => true) true fuel 23 [.slice a len cap] = some (d, p)) (hs : (DataW.weightsEach Try.prog ts ds).all (· ≤ reachBytes) = true) (ht : ts[j]? = some 23) (hd : ds[j]? = some d) : len * 16 ≤ 140737488351232 := by
  rcases turn_len h with e | ⟨el, sp, e, hl⟩
  · omega
  · subst e
    have h1 := sized_slice hs ht hd Try.underlying23
    have h2 : Try.prog.bytesOf 36 = 16 := by kernel_rfl
    rw [h2, hl] at h1
    have h3 : (len + sp.length) * 16 ≤ 140737488351232 := h1
    omega
end Go.Proofs.Ytadanpghmfhhkaa
