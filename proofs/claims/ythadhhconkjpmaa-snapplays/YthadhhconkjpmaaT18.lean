/- Play: how it begins. -/
import Derived.Test.YthadhhconkjpmaaT13
import Derived.Test.YthadhhconkjpmaaT15
import Derived.Test.YthadhhconkjpmaaT17
import Derived.Test.YthadhhconkjpmaaU2
namespace Go.Proofs.Ythadhhconkjpmaa
open Go.RowKit Go.WideMaps
set_option linter.unusedVariables false

/-- Steps as a slice that came in. -/
def PRow (w : World) (b off : Nat) (ps : List Pass) : Prop := ∀ (j : Nat) (p : Pass), ps[j]? = some p →
  w.cell? ⟨b, off + j * 4, none⟩ = some (.int .i64 p.kind) ∧ w.cell? ⟨b, off + j * 4 + 1, none⟩ = some (.int .i64 p.who) ∧ w.cell? ⟨b, off + j * 4 + 2, none⟩ = some (.int .i64 p.other) ∧ w.cell? ⟨b, off + j * 4 + 3, none⟩ = some (.int .i64 p.n)
def CameP (w : World) (a : Option Addr) (len cap : Nat) (ps : List Pass) : Prop :=
  ps.length = len ∧ len ≤ cap ∧ len ≤ maxLen ∧ (len = 0 ∨ ∃ b off, a = some ⟨b, off, none⟩ ∧ b < w.heap.size ∧ PRow w b off ps)
theorem PRow.keep {o : Nat → Prop} {w w' : World} {b off : Nat} {ps : List Pass} (h : PRow w b off ps) (hb : b < w.heap.size) (hk : Keep o w w') (ho : ¬ o b) : PRow w' b off ps := fun j p hj => by
  have e : ∀ k, w'.cell? ⟨b, k, none⟩ = w.cell? ⟨b, k, none⟩ := fun k => World.cell?_of_block (hk.block b hb ho)
  rw [e, e, e, e]
  exact h j p hj
theorem CameP.keep {o : Nat → Prop} {w w' : World} {a : Option Addr} {len cap : Nat} {ps : List Pass} (h : CameP w a len cap ps) (hb : Keep o w w') (ho : ∀ k, k < w.heap.size → ¬ o k) : CameP w' a len cap ps := by
  obtain ⟨h1, h2, h3, h4⟩ := h
  refine ⟨h1, h2, h3, ?_⟩
  rcases h4 with h4 | ⟨b, off, e, hr, hc⟩
  · exact .inl h4
  · exact .inr ⟨b, off, e, Nat.lt_of_lt_of_le hr hb.size, hc.keep hr hb (ho b hr)⟩

def monF (zs : List Int) (i : Nat) : Int := zs.getD i 0
theorem rowF_mon (zs : List Int) : rowF zs.length (monF zs) = intsL zs := by
  apply List.ext_getElem?
  intro k
  by_cases h : k < zs.length
  · rw [rowF_at _ h]
    simp [intsL, monF, h]
  · rw [List.getElem?_eq_none (by rw [rowF_len]; omega), List.getElem?_eq_none (by rw [intsL_len]; omega)]
theorem laid_row (n : Nat) : laid n n = rowF n (fun _ => -1) := by
  unfold laid rowF
  apply List.map_congr_left
  intro k hk
  rw [if_pos (List.mem_range.1 hk)]

def tag0 (v : Value) (G M mb g : Nat) : Tag := if g = mb then .mb else if v.ownBlock = some g then .money else if g = G then .own else if g = M then .map else .no
/-- How it begins. -/
theorem mov_start {w : World} {n a0 G0 G M mb : Nat} {v : Value} {m : Nat → Int} (hv : Seg w (fun g => a0 ≤ g ∧ g < G0) 3 1 v n (rowF n m)) (hG0 : G0 ≤ G) (hGM : G < M) (hMm : M < mb) (hmw : mb < w.heap.size)
    (hG : w.heap[G]? = some (.cells (laid n n).toArray 3 (0, 0))) (hn : n ≤ maxLen) (hM : Pairs w 61 zeroWay M 0 (fun _ _ => zeroWay))
    (hmb : w.heap[mb]? = some (.cells #[v, .slice (some ⟨G, 0, none⟩) n n, .map (some M)] 39 (0, 0))) :
    Mov w mb n (st0 m) ⟨v, .slice (some ⟨G, 0, none⟩) n n, M, 0, tag0 v G M mb, fun _ _ => ⟨.slice none 0 0, .slice none 0 0, false⟩⟩ := by
  have hvb : ∀ g, v.ownBlock = some g → a0 ≤ g ∧ g < G0 := fun g e => (hv.block e).1
  refine ⟨fun g hg => ?_, ?_, hmb, ?_, ?_, ?_, hM, fun i j _ _ => Seg.nil _ _ _ _, fun i j _ _ => Seg.nil _ _ _ _, fun i j _ _ => rfl⟩
  · show tag0 v G M mb g = .no
    unfold tag0
    rw [if_neg (by omega), if_neg (fun e => by have := hvb g e; omega), if_neg (by omega), if_neg (by omega)]
  · show tag0 v G M mb mb = .mb
    unfold tag0
    rw [if_pos rfl]
  · obtain ⟨h1, h2 | ⟨g, off, cap, cur, h2, h3, h4⟩⟩ := hv
    · exact ⟨h1, .inl h2⟩
    · refine ⟨h1, .inr ⟨g, off, cap, cur, h2, ?_, h4⟩⟩
      show tag0 v G M mb g = .money
      unfold tag0
      rw [if_neg (by omega), if_pos (by rw [h2]; rfl)]
  · refine ⟨by rw [rowF_len]; omega, .inr ⟨G, 0, n, _, rfl, ?_, hG, Nat.le_refl _, hn, by simp [laid_len], fun j x hx => ?_⟩⟩
    · show tag0 v G M mb G = .own
      unfold tag0
      rw [if_neg (by omega), if_neg (fun e => by have := hvb G e; omega), if_pos rfl]
    · rw [laid_row, Nat.zero_add]
      have hx2 : (rowF n (fun _ => -1))[j]? = some x := hx
      simpa using hx2
  · show tag0 v G M mb M = .map
    unfold tag0
    rw [if_neg (by omega), if_neg (fun e => by have := hvb M e; omega), if_neg (by omega), if_pos rfl]

/-- The codes of the first k steps. -/
def cRow (n : Nat) (s : St) (ps : List Pass) (len k : Nat) : List Value := (List.range len).map fun q => .int .i64 (if q < k then codeAt n s ps q else 0)
theorem cRow_len (n : Nat) (s : St) (ps : List Pass) (len k : Nat) : (cRow n s ps len k).length = len := by simp [cRow]
theorem cRow_at {n : Nat} {s : St} {ps : List Pass} {len k q : Nat} (h : q < len) : (cRow n s ps len k)[q]? = some (.int .i64 (if q < k then codeAt n s ps q else 0)) := by simp [cRow, h]
theorem cRow_set {n : Nat} {s : St} {ps : List Pass} {len k : Nat} (h : k < len) : (cRow n s ps len k).set k (.int .i64 (codeAt n s ps k)) = cRow n s ps len (k + 1) := by
  apply List.ext_getElem?
  intro q
  rw [List.getElem?_set]
  by_cases hq : q < len
  · by_cases e : k = q
    · subst e
      rw [if_pos rfl, if_pos (by rw [cRow_len]; exact hq), cRow_at hq, if_pos (by omega)]
    · rw [if_neg e, cRow_at hq, cRow_at hq]
      by_cases h1 : q < k
      · rw [if_pos h1, if_pos (by omega)]
      · rw [if_neg h1, if_neg (by omega)]
  · rw [if_neg (by omega), List.getElem?_eq_none (by rw [cRow_len]; omega), List.getElem?_eq_none (by rw [cRow_len]; omega)]
theorem Try.info28 : (Try.prog.info? 28).map (fun i => (i.zero, i.size, i.bytes)) = some (some (.int .i64 0), 1, 8) := by kernel_rfl
theorem make_codes (m : Nat) (hm : m ≤ 200) (W : World) : (Instr.makeSlice 24 (.int .i64 (m : Int)) (.int .i64 (m : Int))).run Try.prog W = .ok (.slice (some ⟨W.heap.size, 0, none⟩) m m) (W.alloc (.cells (madeCells #[.int .i64 0] m) 28)) := by
  obtain ⟨i0, hi, hz0, hz1, hz2⟩ := info_parts Try.info28
  have h := run_makeSlice (P := Try.prog) W 24 28 i0 _ Try.underlying24 hi hz0 .i64 .i64 (m : Int) (m : Int) (by omega) (Int.le_refl _) (by rw [hz1]; simp; omega) (by rw [hz2]; omega) (by omega)
  rw [hz1] at h
  simpa [Value.cells] using h
theorem made_codes (n : Nat) (s : St) (ps : List Pass) (m : Nat) : madeCells #[Value.int .i64 0] m = (cRow n s ps m 0).toArray := by
  simp only [madeCells, cRow]
  apply Array.ext_getElem?
  intro k
  by_cases h : k < m
  · simp [h, Nat.mod_one]
  · simp [h]
end Go.Proofs.Ythadhhconkjpmaa
