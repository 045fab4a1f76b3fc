/- sent; steps as they come in. -/
import Derived.Test.YtipoopbkapgfiaaCb0
import Derived.Test.YtipoopbkapgfiaaCb1
import Derived.Deep.Slices
import Derived.Deep.Strs
import Derived.ChangeOld
import Derived.ProofKit
import Derived.OpenShut
import Derived.SizedLaws
namespace Go.Proofs.Ytipoopbkapgfiaa
open Go.RowKit Go.ChangeShapes Go.WideShapes Go.Deep
set_option linter.unusedVariables false

theorem cCellsCast : Try.prog.cellsOf 39 = 3 := by kernel_rfl
theorem cCellsInt : Try.prog.cellsOf 3 = 1 := by kernel_rfl
theorem trod_struct3c {H : Type} {enc : TypeId × Value → H} {P : Program} {w : World} {base : Nat} {spare : Nat → Bool} {held : Bool} {t : TypeId} {f0 f1 f2 : Field} {fuel : Nat} {cs : List Value} {x : DataW H × List MemPlace} (ht : P.underlying t = some (.struct #[f0, f1, f2])) (h : DataW.trod enc P w base spare held fuel t cs = some x) :
    ∃ y0 y1 y2 n, DataW.trod enc P w base spare held n f0.type ((cs.drop f0.offset).take (P.cellsOf f0.type)) = some y0 ∧ DataW.trod enc P w base spare held n f1.type ((cs.drop f1.offset).take (P.cellsOf f1.type)) = some y1 ∧
      DataW.trod enc P w base spare held n f2.type ((cs.drop f2.offset).take (P.cellsOf f2.type)) = some y2 := by
  obtain ⟨xs, n, _, rfl, hl, hlen, hf⟩ := DataW.trod_struct ht h
  match xs, hlen with
  | [y0, y1, y2], _ => exact ⟨y0, y1, y2, n, by simpa using hf 0 f0 rfl, by simpa using hf 1 f1 rfl, by simpa using hf 2 f2 rfl⟩

set_option maxRecDepth 100000 in
theorem came_casts {H : Type} {enc : TypeId × Value → H} {W : World} {a : Option Addr} {len cap fuel : Nat} {x : DataW H × List MemPlace}
    (h : DataW.trod enc Try.prog W 0 (fun _ => true) true fuel 22 [.slice a len cap] = some x) : ∃ ps, CameC W a len cap ps := by
  rcases open_slice Try.underlying22 h with ⟨hcs, _⟩ | ⟨a', len', cap', m, n, D, Pl, hcs, _, hl, hm, hmm, _, hel⟩
  · simp at hcs
    obtain ⟨rfl, rfl, rfl⟩ := hcs
    exact ⟨[], rfl, Nat.le_refl _, Nat.zero_le _, .inl rfl⟩
  · simp at hcs
    obtain ⟨rfl, rfl, rfl⟩ := hcs
    simp only [if_true] at hmm
    subst hmm
    have hev : ∀ i, i < len → ∃ e : Cst, W.cell? (a'.add (i * 3)) = some (.int .i64 e.kind) ∧ W.cell? ((a'.add (i * 3)).add 1) = some (.int .i64 e.who) ∧ W.cell? ((a'.add (i * 3)).add 2) = some (.int .i64 e.msg) := by
      intro i hi
      obtain ⟨cs', hc0, ht0⟩ := hel i (by omega)
      rw [cCellsCast] at hc0
      obtain ⟨y0, y1, y2, n', hS0, hS1, hS2⟩ := trod_struct3c Try.underlying39 ht0
      obtain ⟨_, hl3, hcell⟩ := World.cells?_some hc0
      obtain ⟨c0, c1, c2, rfl⟩ : ∃ c0 c1 c2, cs' = [c0, c1, c2] := by
        match cs', hl3 with
        | [c0, c1, c2], _ => exact ⟨c0, c1, c2, rfl⟩
      obtain ⟨z0, hz0, _, w0⟩ := DataW.trod_int Try.underlying3 hS0
      obtain ⟨z1, hz1, _, w1⟩ := DataW.trod_int Try.underlying3 hS1
      obtain ⟨z2, hz2, _, w2⟩ := DataW.trod_int Try.underlying3 hS2
      rw [cCellsInt] at hz0 hz1 hz2
      simp at hz0 hz1 hz2
      subst hz0 hz1 hz2
      have r0 := hcell 0 (by omega)
      have r1 := hcell 1 (by omega)
      have r2 := hcell 2 (by omega)
      exact ⟨⟨z0, z1, z2⟩, by simpa [Addr.add] using r0, by simpa using r1, by simpa using r2⟩
    by_cases h0 : len = 0
    · subst h0
      exact ⟨[], rfl, hl, Nat.zero_le _, .inl rfl⟩
    · obtain ⟨f, hf⟩ := choose_lt hev
      obtain ⟨b, off, spot⟩ := a'
      have hspot : spot = none := by
        have := (hf 0 (by omega)).1
        simpa [Addr.add] using World.cell?_spot this
      subst hspot
      have hadd : ∀ i j : Nat, ((⟨b, off, none⟩ : Addr).add i).add j = ⟨b, off + i + j, none⟩ := by
        intro i j
        unfold Addr.add
        by_cases hi : i = 0 <;> by_cases hj : j = 0 <;> simp [hi, hj]
      refine ⟨(List.range len).map f, by simp, hl, Nat.le_trans hl hm, .inr ⟨b, off, rfl, ?_, ?_⟩⟩
      · have := (hf 0 (by omega)).1
        simpa [Addr.add] using World.block_lt_of_cell? _ _ this
      · intro j e hj
        obtain ⟨hj1, hj2⟩ := List.getElem?_eq_some_iff.1 hj
        simp at hj1 hj2
        subst hj2
        obtain ⟨g0, g1, g2⟩ := hf j hj1
        rw [addr_add] at g0
        rw [hadd] at g1 g2
        exact ⟨g0, g1, g2⟩

theorem cast_len {H : Type} {enc : TypeId × Value → H} {W : World} {a : Option Addr} {len cap fuel : Nat} {d : DataW H} {p : List MemPlace}
    (h : DataW.trod enc Try.prog W 0 (fun _ => true) true fuel 22 [.slice a len cap] = some (d, p)) : len = 0 ∨ ∃ el sp, d = .slice el sp ∧ el.length = len := by
  rcases open_slice Try.underlying22 h with ⟨hcs, _⟩ | ⟨a', len', cap', m, n, D, Pl, hcs, _, hl, hm, hmm, hx, hel⟩
  · simp at hcs
    exact .inl hcs.2.1
  · simp at hcs
    obtain ⟨rfl, rfl, rfl⟩ := hcs
    simp only [Prod.mk.injEq] at hx
    exact .inr ⟨_, _, by first | exact hx.1 | exact hx.2.1, by simp⟩
theorem cast_size {H : Type} {enc : TypeId × Value → H} {W : World} {a : Option Addr} {len cap fuel : Nat} {d : DataW H} {p : List MemPlace} {ts : List TypeId} {ds : List (DataW H)} {j : Nat}
    (h : DataW.trod enc Try.prog W 0 (fun _ => true) true fuel 22 [.slice a len cap] = some (d, p)) (hs : (DataW.weightsEach Try.prog ts ds).all (· ≤ reachBytes) = true) (ht : ts[j]? = some 22) (hd : ds[j]? = some d) : len * 24 ≤ 140737488351232 := by
  rcases cast_len h with e | ⟨el, sp, e, hl⟩
  · omega
  · subst e
    have h1 := sized_slice hs ht hd Try.underlying22
    have h2 : Try.prog.bytesOf 39 = 24 := by kernel_rfl
    rw [h2, hl] at h1
    have h3 : (len + sp.length) * 24 ≤ 140737488351232 := h1
    omega

def natsI (l : List Nat) : List Int := l.map fun (z : Nat) => (z : Int)
theorem natsI_at {l : List Nat} {k x : Nat} (h : l[k]? = some x) : (natsI l)[k]? = some (x : Int) := by simp [natsI, h]
theorem natsI_back {l : List Nat} {k : Nat} {x : Int} (h : (natsI l)[k]? = some x) : ∃ m : Nat, l[k]? = some m ∧ x = (m : Int) := by
  simp [natsI] at h
  obtain ⟨m, h1, h2⟩ := h
  exact ⟨m, h1, h2.symm⟩
theorem natsI_len (l : List Nat) : (natsI l).length = l.length := by simp [natsI]
theorem natsI_nodup {l : List Nat} (h : l.Nodup) : (natsI l).Nodup := by
  unfold natsI
  exact List.Pairwise.map _ (fun a b hab e => hab (by have e2 : (a : Int) = (b : Int) := e; omega)) h
theorem natsI_mem {l : List Nat} {x : Int} (h : x ∈ natsI l) : ∃ m : Nat, m ∈ l ∧ x = (m : Int) := by
  unfold natsI at h
  obtain ⟨m, h1, h2⟩ := List.mem_map.1 h
  exact ⟨m, h1, h2.symm⟩
theorem natsI_app (a b : List Nat) : natsI (a ++ b) = natsI a ++ natsI b := by simp [natsI]
theorem posN_none {l : List Nat} {m : Nat} (h : m ∉ l) : posI (natsI l) (m : Int) = -1 := posI_none (fun hm => by
  obtain ⟨k, h1, h2⟩ := natsI_mem hm
  obtain rfl : m = k := by omega
  exact h h1)
theorem posN_at {l : List Nat} (h : l.Nodup) {k m : Nat} (hk : l[k]? = some m) : posI (natsI l) (m : Int) = (k : Int) := posI_at (natsI_nodup h) (natsI_at hk)

/-- A slice of the call's own, as a row. -/
theorem seg_row {W : World} {ok : Nat → Prop} {e : TypeId} {a : Option Addr} {n c : Nat} {l : List Nat} (h : Seg W ok e 1 (.slice a n c) n (natsL l)) : RowI W a n c (natsI l) := by
  obtain ⟨h1, ⟨h2, h3⟩ | ⟨g, off, cap, cur, h2, h3, h4, h5, h6, h7, h8⟩⟩ := h
  · subst h3
    cases h2
    exact ⟨by rw [natsI_len]; simpa [natsL] using h1, Nat.le_refl _, Nat.zero_le _, .inl rfl⟩
  · cases h2
    refine ⟨by rw [natsI_len]; simpa [natsL] using h1, h5, by omega, .inr ⟨g, off, rfl, (Array.getElem?_eq_some_iff.1 h4).1, fun j x hx => ?_⟩⟩
    obtain ⟨m, hm, rfl⟩ := natsI_back hx
    rw [cell_of_row W _ _ _ _ _ h4]
    exact h8 j _ (by simp [natsL, hm])

end Go.Proofs.Ytipoopbkapgfiaa
