/- A play, as laws see it; money and steps as they come in. -/
import Derived.Test.YthadhhconkjpmaaT19
import Derived.Deep.Slices
import Derived.Deep.Strs
import Derived.ChangeOld
import Derived.ProofKit
import Derived.OpenShut
namespace Go.Proofs.Ythadhhconkjpmaa
open Go.RowKit Go.ChangeShapes Go.WideShapes Go.Deep
set_option linter.unusedVariables false

theorem cellsPass : Try.prog.cellsOf 41 = 4 := by kernel_rfl
theorem cellsInt : Try.prog.cellsOf 3 = 1 := by kernel_rfl

theorem trod_struct4 {H : Type} {enc : TypeId × Value → H} {P : Program} {w : World} {base : Nat} {spare : Nat → Bool} {held : Bool} {t : TypeId} {f0 f1 f2 f3 : Field} {fuel : Nat} {cs : List Value} {x : DataW H × List MemPlace} (ht : P.underlying t = some (.struct #[f0, f1, f2, f3])) (h : DataW.trod enc P w base spare held fuel t cs = some x) :
    ∃ y0 y1 y2 y3 n, DataW.trod enc P w base spare held n f0.type ((cs.drop f0.offset).take (P.cellsOf f0.type)) = some y0 ∧ DataW.trod enc P w base spare held n f1.type ((cs.drop f1.offset).take (P.cellsOf f1.type)) = some y1 ∧
      DataW.trod enc P w base spare held n f2.type ((cs.drop f2.offset).take (P.cellsOf f2.type)) = some y2 ∧ DataW.trod enc P w base spare held n f3.type ((cs.drop f3.offset).take (P.cellsOf f3.type)) = some y3 := by
  obtain ⟨xs, n, _, rfl, hl, hlen, hf⟩ := DataW.trod_struct ht h
  match xs, hlen with
  | [y0, y1, y2, y3], _ => exact ⟨y0, y1, y2, y3, n, by simpa using hf 0 f0 rfl, by simpa using hf 1 f1 rfl, by simpa using hf 2 f2 rfl, by simpa using hf 3 f3 rfl⟩

set_option maxRecDepth 100000 in
theorem came_passes {H : Type} {enc : TypeId × Value → H} {W : World} {a : Option Addr} {len cap fuel : Nat} {x : DataW H × List MemPlace}
    (h : DataW.trod enc Try.prog W 0 (fun _ => true) true fuel 23 [.slice a len cap] = some x) : ∃ ps, CameP W a len cap ps := by
  rcases open_slice Try.underlying23 h with ⟨hcs, _⟩ | ⟨a', len', cap', m, n, D, Pl, hcs, _, hl, hm, hmm, _, hel⟩
  · simp at hcs
    obtain ⟨rfl, rfl, rfl⟩ := hcs
    exact ⟨[], rfl, Nat.le_refl _, Nat.zero_le _, .inl rfl⟩
  · simp at hcs
    obtain ⟨rfl, rfl, rfl⟩ := hcs
    simp only [if_true] at hmm
    subst hmm
    have hev : ∀ i, i < len → ∃ e : Pass, W.cell? (a'.add (i * 4)) = some (.int .i64 e.kind) ∧ W.cell? ((a'.add (i * 4)).add 1) = some (.int .i64 e.who) ∧ W.cell? ((a'.add (i * 4)).add 2) = some (.int .i64 e.other) ∧ W.cell? ((a'.add (i * 4)).add 3) = some (.int .i64 e.n) := by
      intro i hi
      obtain ⟨cs', hc0, ht0⟩ := hel i (by omega)
      rw [cellsPass] at hc0
      obtain ⟨y0, y1, y2, y3, n', hS0, hS1, hS2, hS3⟩ := trod_struct4 Try.underlying41 ht0
      obtain ⟨_, hl3, hcell⟩ := World.cells?_some hc0
      obtain ⟨c0, c1, c2, c3, rfl⟩ : ∃ c0 c1 c2 c3, cs' = [c0, c1, c2, c3] := by
        match cs', hl3 with
        | [c0, c1, c2, c3], _ => exact ⟨c0, c1, c2, c3, rfl⟩
      obtain ⟨z0, hz0, _, w0⟩ := DataW.trod_int Try.underlying3 hS0
      obtain ⟨z1, hz1, _, w1⟩ := DataW.trod_int Try.underlying3 hS1
      obtain ⟨z2, hz2, _, w2⟩ := DataW.trod_int Try.underlying3 hS2
      obtain ⟨z3, hz3, _, w3⟩ := DataW.trod_int Try.underlying3 hS3
      rw [cellsInt] at hz0 hz1 hz2 hz3
      simp at hz0 hz1 hz2 hz3
      subst hz0 hz1 hz2 hz3
      have r0 := hcell 0 (by omega)
      have r1 := hcell 1 (by omega)
      have r2 := hcell 2 (by omega)
      have r3 := hcell 3 (by omega)
      exact ⟨⟨z0, z1, z2, z3⟩, by simpa [Addr.add] using r0, by simpa using r1, by simpa using r2, by simpa using r3⟩
    by_cases h0 : len = 0
    · subst h0
      exact ⟨[], rfl, hl, Nat.zero_le _, .inl rfl⟩
    · obtain ⟨f, hf⟩ := choose_lt hev
      obtain ⟨b, off, spot⟩ := a'
      have hspot : spot = none := by
        have := (hf 0 (by omega)).1
        simpa [Addr.add] using World.cell?_spot this
      subst hspot
      have hadd : ∀ i j : Nat, ((⟨b, off, none⟩ : Addr).add i).add j = ⟨b, off + i + j, none⟩ := by
        intro i j
        unfold Addr.add
        by_cases hi : i = 0 <;> by_cases hj : j = 0 <;> simp [hi, hj]
      refine ⟨(List.range len).map f, by simp, hl, Nat.le_trans hl hm, .inr ⟨b, off, rfl, ?_, ?_⟩⟩
      · have := (hf 0 (by omega)).1
        simpa [Addr.add] using World.block_lt_of_cell? _ _ this
      · intro j e hj
        obtain ⟨hj1, hj2⟩ := List.getElem?_eq_some_iff.1 hj
        simp at hj1 hj2
        subst hj2
        obtain ⟨g0, g1, g2, g3⟩ := hf j hj1
        rw [addr_add] at g0
        rw [hadd] at g1 g2 g3
        exact ⟨g0, g1, g2, g3⟩
theorem came_ints {w : World} {a : Option Addr} {len cap : Nat} {zs : List Int}
    (h : (a = none ∧ len = 0 ∧ cap = 0 ∧ zs = []) ∨
      ∃ x, a = some x ∧ len ≤ cap ∧ cap ≤ maxLen ∧ zs.length = cap ∧ (∀ i, i < zs.length → w.cell? (x.add i) = some (.int .i64 (zs.getD i 0))) ∧ ∀ n ∈ zs, (Lit.int .i64 n).wf = true) :
    CameI w a len cap (zs.take len) := by
  rcases h with ⟨rfl, rfl, rfl, rfl⟩ | ⟨⟨b, off, spot⟩, rfl, hl, hm, hz, hcell, hwz⟩
  · exact ⟨rfl, Nat.le_refl _, Nat.zero_le _, .inl rfl⟩
  · refine ⟨by simp; omega, hl, Nat.le_trans hl hm, ?_⟩
    by_cases h0 : len = 0
    · exact .inl h0
    · have hc := hcell 0 (by omega)
      have hspot : spot = none := by simpa [Addr.add] using World.cell?_spot hc
      subst hspot
      refine .inr ⟨b, off, rfl, ?_, ?_⟩
      · have hc' : w.cell? ⟨b, off + 0, none⟩ = some (.int .i64 (zs.getD 0 0)) := by simpa [Addr.add] using hc
        exact World.block_lt_of_cell? _ _ hc'
      · intro j x hn
        have hjl : j < (zs.take len).length := (List.getElem?_eq_some_iff.1 hn).1
        rw [List.length_take] at hjl
        have e : zs[j]? = some x := by rw [List.getElem?_take] at hn; split at hn <;> simp_all
        have hj' := hcell j (by omega)
        rw [List.getD_eq_getElem?_getD, e, Option.getD_some, addr_add] at hj'
        exact hj'

/-- A play, as laws see it. -/
structure Seen (w : World) (lo C B gm om go oo n pl : Nat) (S : St) (cd : Nat → Int) : Prop where
  cw : lo ≤ C
  codes : ∀ q, q < pl → w.cell? ⟨C, q, none⟩ = some (.int .i64 (cd q))
  mw : lo ≤ gm
  money : ∀ i, i < n → w.cell? ⟨gm, om + i, none⟩ = some (.int .i64 (S.money i))
  ow : lo ≤ go
  own : ∀ i, i < n → w.cell? ⟨go, oo + i, none⟩ = some (.int .i64 (S.own i))
  bw : lo ≤ B
  rows : ∀ q, q < n * n → ∃ a c, w.cell? ⟨B, q, none⟩ = some (.slice a (S.ways (q / n) (q % n)).noted.length c) ∧ (S.ways (q / n) (q % n)).noted.length ≤ c ∧
    ∀ (t : Nat) (x : Int), (S.ways (q / n) (q % n)).noted[t]? = some x → ∃ g off, a = some ⟨g, off, none⟩ ∧ ∀ (t : Nat) (x : Int), (S.ways (q / n) (q % n)).noted[t]? = some x → w.cell? ⟨g, off + t, none⟩ = some (.int .i64 x)
theorem Seen.keep {o : Nat → Prop} {w w' : World} {lo C B gm om go oo n pl : Nat} {S : St} {cd : Nat → Int} (h : Seen w lo C B gm om go oo n pl S cd) (hk : Keep o w w') (ho : ∀ g, g < w.heap.size → ¬ o g) : Seen w' lo C B gm om go oo n pl S cd := by
  have e : ∀ {b k : Nat} {v : Value}, w.cell? ⟨b, k, none⟩ = some v → w'.cell? ⟨b, k, none⟩ = some v := fun {b k v} hv =>
    (World.cell?_of_block (hk.block b (World.block_lt_of_cell? _ _ hv) (ho b (World.block_lt_of_cell? _ _ hv)))).trans hv
  refine ⟨h.cw, fun q hq => e (h.codes q hq), h.mw, fun i hi => e (h.money i hi), h.ow, fun i hi => e (h.own i hi), h.bw, fun q hq => ?_⟩
  obtain ⟨a, c, h1, h2, h3⟩ := h.rows q hq
  refine ⟨a, c, e h1, h2, fun t x ht => ?_⟩
  obtain ⟨g, off, h4, h5⟩ := h3 t x ht
  exact ⟨g, off, h4, fun t x ht => e (h5 t x ht)⟩

theorem play_seen {W : World} {ma pa : Option Addr} {mn mc pl pc : Nat} {zs : List Int} {ps : List Pass} (hm : CameI W ma mn mc zs) (hp : CameP W pa pl pc ps) (hz : snapCode zs pl = 0) (h0 : 0 < mn) (h6 : mn ≤ 6) (hpl : pl ≤ 120) (hzs : ∀ z ∈ zs, 0 ≤ z ∧ z ≤ 1000) :
    Calls Try.prog 4 #[.slice ma mn mc, .slice pa pl pc] W fun e W2 => (∃ C B gm om cm go oo co, e = .returned (.tuple #[.agg #[.slice (some ⟨C, 0, none⟩) pl pl, .slice (some ⟨gm, om, none⟩) mn cm, .slice (some ⟨go, oo, none⟩) mn co, .slice (some ⟨B, 0, none⟩) (mn * mn) (mn * mn), .bool (doneB mn (stAt mn (st0 (monF zs)) ps pl))], .int .i64 0]) ∧
      Seen W2 W.heap.size C B gm om go oo mn pl (stAt mn (st0 (monF zs)) ps pl) (codeAt mn (st0 (monF zs)) ps) ∧ mn ≤ cm ∧ mn ≤ co) ∧ Keep (fun _ => False) W W2 := by
  refine (play_ok hm hp hz h0 h6 hpl hzs).mono ?_
  rintro e W2 ⟨C, B, mb, h, rfl, P⟩
  obtain ⟨gm, om, cm, em, hcm, htm, hclm, _, _⟩ := P.mov.mon_at h0
  obtain ⟨go, oo, co, eo, hco, hto, hclo, _, _⟩ := P.mov.own_at h0
  have hinv := (at_inv (inv0 (n := mn) (fun i _ => (mon_ok hzs i).1)) ps pl).1
  refine ⟨⟨C, B, gm, om, cm, go, oo, co, by rw [em, eo], ⟨P.cW, fun q hq => ?_, P.low gm (by rw [htm]; simp), hclm, P.low go (by rw [hto]; simp), hclo, P.bW, fun q hq => ?_⟩, hcm, hco⟩, P.keep⟩
  · rw [cell_of_row W2 _ _ _ _ _ P.codes]
    simp only [List.getElem?_toArray]
    rw [cRow_at hq, if_pos hq]
  · have hi : q / mn < mn := Nat.div_lt_of_lt_mul hq
    have hj : q % mn < mn := Nat.mod_lt q h0
    have hcell : W2.cell? ⟨B, q, none⟩ = some (noteV h (q / mn) (q % mn)) := by
      rw [cell_of_row W2 _ _ _ _ _ P.betw]
      simp only [List.getElem?_toArray]
      rw [betw_at h _ hq, if_pos hq]
    by_cases hij : q / mn = q % mn
    · have e1 : ((stAt mn (st0 (monF zs)) ps pl).ways (q / mn) (q % mn)).noted = [] := by rw [hij, hinv.i4 _ hj]
      rw [e1]
      refine ⟨none, 0, ?_, Nat.le_refl _, fun t x ht => by simp at ht⟩
      rw [hcell]
      unfold noteV
      rw [if_pos hij]
      rfl
    · have hs := P.mov.nt _ _ hi hj
      have e2 : noteV h (q / mn) (q % mn) = (h.f (q / mn) (q % mn)).nv := by unfold noteV; rw [if_neg hij]
      rw [hcell, e2]
      obtain ⟨h1, ⟨h2, h3⟩ | ⟨g, off, cap, cur, h2, h3, h4, h5, h6', h7, h8⟩⟩ := hs
      · refine ⟨none, 0, by rw [h2, h3], by omega, fun t x ht => ?_⟩
        have := (List.getElem?_eq_some_iff.1 ht).1
        omega
      · refine ⟨some ⟨g, off, none⟩, cap, by rw [h2], h5, fun t x ht => ⟨g, off, rfl, fun t x ht => ?_⟩⟩
        rw [cell_of_row W2 _ _ _ _ _ h4]
        exact h8 t (.int .i64 x) (by simp [intsL, ht])
theorem code_zero {zs : List Int} {len mn : Nat} (hl : zs.length = mn) (h : snapCode zs len = 0) : 0 < mn ∧ mn ≤ 6 ∧ len ≤ 120 ∧ ∀ z ∈ zs, 0 ≤ z ∧ z ≤ 1000 := by
  unfold snapCode at h
  split at h
  · omega
  · split at h
    · omega
    · rename_i h1 h2
      refine ⟨by omega, by omega, by omega, fun z hz => ?_⟩
      have h3 : zs.any (fun z => decide (z < 0) || decide (1000 < z)) = false := by simpa using h2
      have := List.any_eq_false.1 h3 z hz
      simp at this
      omega
end Go.Proofs.Ythadhhconkjpmaa
