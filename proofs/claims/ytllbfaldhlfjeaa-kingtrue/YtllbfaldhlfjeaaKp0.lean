/- King, the project's: who says what; rows of truth values and of numbers that are filled in place. -/
import Derived.Test.YtllbfaldhlfjeaaKj1
namespace Go.Proofs.Ytllbfaldhlfjeaa
open Go.RowKit
set_option linter.unusedVariables false

/-- Block g is a row of m truth values. -/
def BoRow (w : World) (g m : Nat) (f : Nat → Bool) : Prop := w.heap[g]? = some (.cells ((List.range m).map fun q => Value.bool (f q)).toArray 4 (0, 0))
def NuRow (w : World) (g m : Nat) (f : Nat → Nat) : Prop := w.heap[g]? = some (.cells ((List.range m).map fun q => Value.int .i64 (f q : Int)).toArray 3 (0, 0))
def updO (f : Nat → Bool) (i : Nat) (b : Bool) : Nat → Bool := fun a => if a = i then b else f a
def updU (f : Nat → Nat) (i : Nat) (b : Nat) : Nat → Nat := fun a => if a = i then b else f a
theorem map_at {m q : Nat} {V : Nat → Value} (h : q < m) : ((List.range m).map V)[q]? = some (V q) := by simp [h]
theorem map_same {m : Nat} {f g : Nat → Value} (h : ∀ q, q < m → f q = g q) : (List.range m).map f = (List.range m).map g := List.map_congr_left fun q hq => h q (List.mem_range.1 hq)
variable {w w2 : World} {g m : Nat} {f : Nat → Bool} {c : Nat → Nat}
theorem BoRow.lt (h : BoRow w g m f) : g < w.heap.size := (Array.getElem?_eq_some_iff.1 h).1
theorem NuRow.lt (h : NuRow w g m c) : g < w.heap.size := (Array.getElem?_eq_some_iff.1 h).1
theorem BoRow.keep {o : Nat → Prop} (h : BoRow w g m f) (hk : Keep o w w2) (ho : ¬ o g) : BoRow w2 g m f := (hk.block g h.lt ho).trans h
theorem NuRow.keep {o : Nat → Prop} (h : NuRow w g m c) (hk : Keep o w w2) (ho : ¬ o g) : NuRow w2 g m c := (hk.block g h.lt ho).trans h
theorem BoRow.cell (h : BoRow w g m f) {i : Nat} (hi : i < m) : w.cell? ⟨g, i, none⟩ = some (.bool (f i)) := by
  rw [cell_of_row w _ _ _ _ _ h]
  have := map_at (V := fun q => Value.bool (f q)) hi
  simpa using this
theorem NuRow.cell (h : NuRow w g m c) {i : Nat} (hi : i < m) : w.cell? ⟨g, i, none⟩ = some (.int .i64 (c i : Int)) := by
  rw [cell_of_row w _ _ _ _ _ h]
  have := map_at (V := fun q => Value.int .i64 (c q : Int)) hi
  simpa using this
theorem BoRow.frozen (h : BoRow w g m f) (q : Nat) : w.frozen? ⟨g, q, none⟩ = false := frozen_of_row w g q _ _ h
theorem NuRow.frozen (h : NuRow w g m c) (q : Nat) : w.frozen? ⟨g, q, none⟩ = false := frozen_of_row w g q _ _ h
theorem BoRow.same {f2 : Nat → Bool} (h : BoRow w g m f) (e : ∀ i, i < m → f i = f2 i) : BoRow w g m f2 := by
  unfold BoRow at *
  rw [h, map_same fun q hq => by rw [e q hq]]
theorem NuRow.same {c2 : Nat → Nat} (h : NuRow w g m c) (e : ∀ i, i < m → c i = c2 i) : NuRow w g m c2 := by
  unfold NuRow at *
  rw [h, map_same fun q hq => by rw [e q hq]]
theorem set_map {m i : Nat} {V V2 : Nat → Value} {v : Value} (hi : i < m) (h1 : V2 i = v) (h2 : ∀ q, q ≠ i → V2 q = V q) : ((List.range m).map V).set i v = (List.range m).map V2 := by
  apply List.ext_getElem?
  intro q
  rw [List.getElem?_set]
  by_cases hq : i = q
  · subst hq
    rw [if_pos rfl, map_at hi, h1]
    simp [hi]
  · rw [if_neg hq]
    by_cases hl : q < m
    · rw [map_at hl, map_at hl, h2 q (fun e => hq e.symm)]
    · rw [List.getElem?_eq_none (by simp; omega), List.getElem?_eq_none (by simp; omega)]
theorem BoRow.set (h : BoRow w g m f) {i : Nat} (hi : i < m) (b : Bool) : BoRow (w.setCell ⟨g, i, none⟩ (.bool b)) g m (updO f i b) := by
  have h1 := heap_setCell_same w g i _ _ (.bool b) h
  unfold BoRow
  rw [h1]
  congr 2
  apply Array.toList_inj.1
  simp only [Array.toList_setIfInBounds]
  exact set_map hi (by simp [updO]) (fun q hq => by simp [updO, hq])
theorem NuRow.set (h : NuRow w g m c) {i : Nat} (hi : i < m) (b : Nat) : NuRow (w.setCell ⟨g, i, none⟩ (.int .i64 (b : Int))) g m (updU c i b) := by
  have h1 := heap_setCell_same w g i _ _ (.int .i64 (b : Int)) h
  unfold NuRow
  rw [h1]
  congr 2
  apply Array.toList_inj.1
  simp only [Array.toList_setIfInBounds]
  exact set_map hi (by simp [updU]) (fun q hq => by simp [updU, hq])
theorem BoRow.rowO (h : BoRow w g m f) (h1 : m ≤ 100) : RowO w (some ⟨g, 0, none⟩) m m (rowV m f) := by
  refine ⟨by simp [rowV], Nat.le_refl _, by unfold maxLen; omega, ?_⟩
  by_cases h0 : m = 0
  · exact .inl h0
  · refine .inr ⟨g, 0, rfl, h.lt, fun j x hx => ?_⟩
    have hj : j < m := by
      have := (List.getElem?_eq_some_iff.1 hx).1
      simpa [rowV] using this
    rw [rowV_at hj] at hx
    simp only [Option.some.injEq] at hx
    rw [← hx, Nat.zero_add]
    exact h.cell hj
theorem kInfoBool : (Try.prog.info? 4).map (fun i => (i.zero, i.size, i.bytes)) = some (some (.bool false), 1, 1) := by kernel_rfl
theorem kInfoInt : (Try.prog.info? 3).map (fun i => (i.zero, i.size, i.bytes)) = some (some (.int .i64 0), 1, 8) := by kernel_rfl
theorem made_map (v : Value) (m : Nat) : madeCells #[v] m = ((List.range m).map fun _ => v).toArray := by
  simp only [madeCells]
  apply Array.ext_getElem?
  intro k
  by_cases h : k < m
  · simp [h, Nat.mod_one]
  · simp [h]
theorem kMakeBools (m : Nat) (hm : m ≤ 200) (W : World) : (Instr.makeSlice 24 (.int .i64 (m : Int)) (.int .i64 (m : Int))).run Try.prog W = .ok (.slice (some ⟨W.heap.size, 0, none⟩) m m) (W.alloc (.cells ((List.range m).map fun _ => Value.bool false).toArray 4)) := by
  obtain ⟨i0, hi, hz0, hz1, hz2⟩ := info_parts kInfoBool
  have h := run_makeSlice (P := Try.prog) W 24 4 i0 _ Try.underlying24 hi hz0 .i64 .i64 (m : Int) (m : Int) (by omega) (Int.le_refl _) (by rw [hz1]; simp; omega) (by rw [hz2]; omega) (by omega)
  rw [hz1] at h
  rw [← made_map]
  simpa [Value.cells] using h
theorem kMakeInts (m : Nat) (hm : m ≤ 200) (W : World) : (Instr.makeSlice 39 (.int .i64 (m : Int)) (.int .i64 (m : Int))).run Try.prog W = .ok (.slice (some ⟨W.heap.size, 0, none⟩) m m) (W.alloc (.cells ((List.range m).map fun _ => Value.int .i64 0).toArray 3)) := by
  obtain ⟨i0, hi, hz0, hz1, hz2⟩ := info_parts kInfoInt
  have h := run_makeSlice (P := Try.prog) W 39 3 i0 _ Try.underlying39 hi hz0 .i64 .i64 (m : Int) (m : Int) (by omega) (Int.le_refl _) (by rw [hz1]; simp; omega) (by rw [hz2]; omega) (by omega)
  rw [hz1] at h
  rw [← made_map]
  simpa [Value.cells] using h
theorem boRow_made (w : World) (m : Nat) : BoRow (w.alloc (.cells ((List.range m).map fun _ => Value.bool false).toArray 4)) w.heap.size m (fun _ => false) := al_new _ _
theorem nuRow_made (w : World) (m : Nat) : NuRow (w.alloc (.cells ((List.range m).map fun _ => Value.int .i64 0).toArray 3)) w.heap.size m (fun _ => 0) := al_new _ _
/-- A struct of four in a block of its own. -/
theorem box4_cells (w : World) (u v x y : Value) (t : TypeId) : (w.alloc (.cells #[u, v, x, y] t)).cell? ⟨w.heap.size, 0, none⟩ = some u ∧ (w.alloc (.cells #[u, v, x, y] t)).cell? ⟨w.heap.size, 1, none⟩ = some v ∧ (w.alloc (.cells #[u, v, x, y] t)).cell? ⟨w.heap.size, 2, none⟩ = some x ∧ (w.alloc (.cells #[u, v, x, y] t)).cell? ⟨w.heap.size, 3, none⟩ = some y := by
  have h := al_new w (.cells #[u, v, x, y] t)
  exact ⟨by rw [cell_of_row _ _ _ _ _ _ h]; rfl, by rw [cell_of_row _ _ _ _ _ _ h]; rfl, by rw [cell_of_row _ _ _ _ _ _ h]; rfl, by rw [cell_of_row _ _ _ _ _ _ h]; rfl⟩
theorem shr_bitK (x i : Nat) : ((x / 2 ^ i &&& 1 : Nat) : Int) = if x.testBit i = true then 1 else 0 := by
  have h : x.testBit i = decide (x / 2 ^ i % 2 = 1) := by
    rw [Nat.testBit_eq_decide_div_mod_eq]
  rw [h, Nat.and_one_is_mod]
  generalize x / 2 ^ i = y
  rcases Nat.mod_two_eq_zero_or_one y with e | e <;> simp [e]
theorem shr_castK (x i : Nat) : (x : Int) / 2 ^ i = ((x / 2 ^ i : Nat) : Int) := by simp
theorem shr32K (x i : Nat) (hx : x < 4294967296) : (bits BinOp.and IntKind.u32 ((x : Int) / 2 ^ i) 1 == 1) = x.testBit i := by
  rw [shr_castK, show (1 : Int) = ((1 : Nat) : Int) from rfl, u32_and_nat _ 1 (Nat.lt_of_le_of_lt (Nat.div_le_self _ _) hx) (by decide), shr_bitK]
  cases x.testBit i <;> rfl
theorem shr64K (x i : Nat) (hx : x < 18446744073709551616) : (bits BinOp.and IntKind.u64 ((x : Int) / 2 ^ i) 1 == 1) = x.testBit i := by
  rw [shr_castK, show (1 : Int) = ((1 : Nat) : Int) from rfl, u64_and_nat _ 1 (Nat.lt_of_le_of_lt (Nat.div_le_self _ _) hx) (by decide), shr_bitK]
  cases x.testBit i <;> rfl
theorem shr_neK (T n : Nat) (h : 2 ^ n ≤ T) : ((T : Int) / 2 ^ n != 0) = true := by
  rw [shr_castK, bne_iff_ne]
  have := Nat.div_pos h (Nat.pow_pos (by omega : 0 < 2))
  omega
theorem shr_eqK (T n : Nat) (h : ¬ 2 ^ n ≤ T) : ((T : Int) / 2 ^ n != 0) = false := by
  rw [shr_castK, Nat.div_eq_of_lt (by omega)]
  rfl
set_option maxRecDepth 100000 in
set_option maxHeartbeats 4000000 in
theorem khas_any (T i : Nat) (hT : T < 4294967296) (hi : i ≤ 9) (w : World) : Calls Try.prog 15 #[.int .u32 (T : Int), .int .i64 (i : Int)] w fun e w' => e = .returned (.bool (T.testBit i)) ∧ w' = w := by
  have hb := shr32K T i hT
  have h9 : (i : Int) ≤ 9 := by omega
  go_enter Try.func15, Try.ntmps15
  go_wp2
  go_ret
  exact ⟨rfl, rfl⟩
set_option maxRecDepth 100000 in
set_option maxHeartbeats 4000000 in
theorem say_any {W : World} {la : Option Addr} {ll lc n t T i j pl : Nat} {ls : List Nat} (x : Bool) (h : RowQ W la ll lc ls) (hT : T < 4294967296) (hn : n ≤ 9) (hi : i < n) (hj : j < n) (hp : pl ≤ 100) :
    Calls Try.prog 19 #[.agg #[.int .i64 (n : Int), .int .i64 (t : Int), .int .u32 (T : Int), .slice la ll lc], .int .i64 (pl : Int), .int .i64 (i : Int), .bool x, .int .i64 (j : Int)] W fun e w2 => e = .returned (.bool (saysK T.testBit (lieK ls) n i j pl x)) ∧ Stil W w2 := by
  obtain ⟨l1, l2, l3, l5, l4⟩ := h
  have hlm : (ll : Int) ≤ 9223372036854775807 := by unfold maxLen at l3; omega
  have HB := hidMk (fun w => khas_any T i hT (by omega) w)
  have HS : Hid (saysK T.testBit (lieK ls) n i j pl x = if T.testBit i = true then lieK ls pl ((n * i + j) % 64) else x) := rfl
  have HA : Hid (Stil W (W.alloc (.cells #[.int .i64 (n : Int), .int .i64 (t : Int), .int .u32 (T : Int), .slice la ll lc] 37))) := Stil.new _ _
  obtain ⟨y0, y1, y2, y3⟩ := box4_cells W (.int .i64 (n : Int)) (.int .i64 (t : Int)) (.int .u32 (T : Int)) (.slice la ll lc) 37
  cases ht : T.testBit i
  · rw [ht] at HB HS
    clear l4 ht l3 y0 y1 y3
    go_enter Try.func19, Try.ntmps19
    go_wp2_with (go_at_call 15; refine (HB.out _).mono ?_; rintro e w2 ⟨rfl, hw⟩; obtain rfl := hw.symm)
    go_ret
    exact ⟨by rw [HS.out]; rfl, HA.out⟩
  · rw [ht] at HB HS
    clear ht l3
    have hmul : n * i ≤ 81 := Nat.le_trans (Nat.mul_le_mul hn (show i ≤ 9 by omega)) (by omega)
    obtain ⟨p, hpe⟩ : ∃ p, p = n * i := ⟨_, rfl⟩
    have e1 : (n : Int) * (i : Int) = (p : Int) := by rw [hpe]; simp
    have w1 : IntKind.i64.wrap ((n : Int) * (i : Int)) = (p : Int) := by rw [e1]; exact wrapG ⟨by omega, by omega⟩
    have hp81 : p ≤ 81 := by omega
    obtain ⟨r, hr⟩ : ∃ r, r = (p + j) % 64 := ⟨_, rfl⟩
    have r1 : ((p : Int) + (j : Int)) % 64 = (r : Int) := by omega
    have r2 : ((p : Int) + (j : Int)).tmod 64 = (r : Int) := by rw [Int.tmod_eq_emod_of_nonneg (by omega)]; exact r1
    have r3 : r < 64 := by rw [hr]; exact Nat.mod_lt _ (by omega)
    have r4 : (r : Int) ≤ 64 := by omega
    have hj9 : (j : Int) ≤ 9 := by omega
    by_cases hlt : pl < ll
    · rcases l4 with l4 | ⟨b, off, rfl, hb, hc⟩
      · omega
      have e : ls[pl]? = some (ls[pl]'(by omega)) := List.getElem?_eq_getElem (by omega)
      have hl64 := l5 _ (List.getElem_mem (h := by omega) : ls[pl]'(by omega) ∈ ls)
      generalize ls[pl]'(by omega) = l at *
      have d0 := HA.out.cell (hc pl l e)
      have HS2 : Hid (saysK T.testBit (lieK ls) n i j pl x = l.testBit r) := by
        show _ = _
        rw [HS.out, if_pos rfl, ← hpe, ← hr]
        unfold lieK
        rw [e]
      have hb2 := shr64K l r hl64
      rw [← HS2.out] at hb2
      have z1 : (pl : Int) < (ll : Int) := by omega
      have z2 : decide ((ll : Int) ≤ (pl : Int)) = false := decide_eq_false (by omega)
      have z3 : decide (ll ≤ pl) = false := decide_eq_false (by omega)
      clear hc e hpe e1 hr hmul HS HS2 y1
      generalize saysK T.testBit (lieK ls) n i j pl x = res at *
      go_enter Try.func19, Try.ntmps19
      go_wp2_with (go_at_call 15; refine (HB.out _).mono ?_; rintro e w2 ⟨rfl, hw⟩; obtain rfl := hw.symm)
      go_ret
      exact ⟨by first | rfl | exact gret_bool hb2, HA.out⟩
    · have HS2 : Hid (saysK T.testBit (lieK ls) n i j pl x = false) := by
        show _ = _
        rw [HS.out, if_pos rfl]
        unfold lieK
        rw [List.getElem?_eq_none (by omega)]
      have z1 : (ll : Int) ≤ (pl : Int) := by omega
      clear l4 hr hpe hmul e1 HS y1
      go_enter Try.func19, Try.ntmps19
      go_wp2_with (go_at_call 15; refine (HB.out _).mono ?_; rintro e w2 ⟨rfl, hw⟩; obtain rfl := hw.symm)
      go_ret
      exact ⟨by rw [HS2.out]; rfl, HA.out⟩
end Go.Proofs.Ytllbfaldhlfjeaa
