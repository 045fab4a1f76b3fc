/- slices.Clone, slices.Repeat. -/
import Derived.Test.YthadhhconkjpmaaT14
import Derived.Test.YthadhhconkjpmaaR2
namespace Go.Proofs.Ythadhhconkjpmaa
open Go.RowKit Go.WideMaps
set_option linter.unusedVariables false

theorem ints_one (zs : List Int) : ∀ u ∈ intsL zs, u.oneCell' = true := by
  intro u hu
  simp only [intsL, List.mem_map] at hu
  obtain ⟨z, _, rfl⟩ := hu
  rfl
theorem intsL_at {zs : List Int} {j : Nat} {u : Value} (h : (intsL zs)[j]? = some u) : ∃ z, zs[j]? = some z ∧ u = .int .i64 z := by
  simp only [intsL, List.getElem?_map, Option.map_eq_some_iff] at h
  obtain ⟨z, h1, h2⟩ := h
  exact ⟨z, h1, h2.symm⟩

theorem own_lt {p : Prop} {g n c k : Nat} (e : (Value.slice (some ⟨g, 0, none⟩) n c).ownBlock = some k) (hk : k < g) : p := by
  simp [Value.ownBlock] at e
  omega
theorem wrap_u6 (n : Nat) (h : n ≤ 6) : IntKind.u64.wrap (n : Int) = (n : Int) := by
  obtain rfl | rfl | rfl | rfl | rfl | rfl | rfl : n = 0 ∨ n = 1 ∨ n = 2 ∨ n = 3 ∨ n = 4 ∨ n = 5 ∨ n = 6 := by omega
  all_goals decide
theorem wrap6 {z : Int} (h : I64 z) : IntKind.i64.wrap z = z := by
  obtain ⟨h0, h1⟩ := h
  simp [IntKind.wrap, IntKind.bits, IntKind.signed]
  split <;> omega
theorem not_nil (b off len cap : Nat) (W : World) : (binOp .eql 22 (.slice (some ⟨b, off, none⟩) len cap) (.slice none 0 0)).run Try.prog W = .ok (.bool false) W := by kernel_rfl

set_option maxRecDepth 100000 in
set_option maxHeartbeats 4000000 in
theorem clone_any {W : World} {a : Option Addr} {len cap : Nat} {zs : List Int} (h : CameI W a len cap zs) (h0 : 0 < len) (h6 : len ≤ 100) :
    Calls Try.prog 8 #[.slice a len cap] W fun e W2 => ∃ v, e = .returned v ∧ Seg W2 (fun g => W.heap.size ≤ g) 3 1 v len (intsL zs) ∧ Keep (fun _ => False) W W2 := by
  obtain ⟨h1, h2, h3, h4 | ⟨b, off, rfl, hlt, hc⟩⟩ := h
  · omega
  obtain ⟨i0, hi, hz0, hz1, hz2⟩ := info_parts Try.info3
  have hs : Seg (W.alloc (.cells #[] 3)) (fun g => g = W.heap.size) 3 1 (.slice (some ⟨W.heap.size, 0, none⟩) 0 0) 0 [] := ⟨by simp, .inr ⟨_, 0, 0, #[], rfl, rfl, al_new _ _, Nat.le_refl _, Nat.zero_le _, by simp, by simp⟩⟩
  have hn : ∀ j u, (intsL zs)[j]? = some u → (W.alloc (.cells #[] 3)).cell? ((⟨b, off, none⟩ : Addr).add j) = some u := fun j u hu => by
    obtain ⟨z, hz, rfl⟩ := intsL_at hu
    rw [addr_add, World.cell?_of_block (al_old _ _ _ hlt)]
    exact hc j z hz
  have hl : (intsL zs).length = len * 1 := by rw [intsL_len]; omega
  have h1c := ints_one zs
  clear hc h1
  generalize intsL zs = xs at *
  have hnil := not_nil b off len cap W
  go_enter Try.func8, Try.ntmps8
  go_wp2_with (at_builtin; refine wpList_append_seg _ rfl _ _ 22 rfl 3 i0 (.int .i64 0) 1 8 Try.underlying22 hi hz0 hz1 hz2 rfl (by decide) _ _ _ rfl hs ⟨b, off, none⟩ len cap xs rfl hl hn h1c (by unfold maxLen; omega) (by omega) ?_)
  intro v3 w3 hs3 hg3
  have HS : Hid (Seg w3 (fun g => W.heap.size ≤ g) 3 1 v3 len xs) := by
    have h5 := hs3.mono (ok2 := fun g => W.heap.size ≤ g) (fun g _ e => by
      rcases e with ⟨_, e⟩ | e
      · omega
      · rw [e]; simp)
    show Seg w3 (fun g => W.heap.size ≤ g) 3 1 v3 len xs
    simpa using h5
  have HK : Hid (Keep (fun _ => False) W w3) := ((Keep.refl (fun _ => False) W).alloc _).grown hg3 (fun k e hk => own_lt e hk)
  clear hs3 hg3
  go_wp2
  go_ret
  exact ⟨v3, rfl, HS, HK⟩

set_option maxRecDepth 100000 in
set_option maxHeartbeats 4000000 in
theorem mul_any (W : World) (n : Nat) (h0 : 0 < n) (h6 : n ≤ 6) :
    Calls Try.prog 17 #[.int .u64 1, .int .u64 (n : Int)] W fun e w2 => e = .returned (.tuple #[.int .u64 0, .int .u64 (n : Int)]) ∧ w2 = W := by
  obtain rfl | rfl | rfl | rfl | rfl | rfl : n = 1 ∨ n = 2 ∨ n = 3 ∨ n = 4 ∨ n = 5 ∨ n = 6 := by omega
  all_goals
    go_enter Try.func17, Try.ntmps17
    go_wp2
    go_ret2
    exact ⟨rfl, rfl⟩

/-- How far -1 is laid. -/
def laid (n k : Nat) : List Value := (List.range n).map fun j => .int .i64 (if j < k then -1 else 0)
theorem laid_len (n k : Nat) : (laid n k).length = n := by simp [laid]
theorem laid_at {n k j : Nat} (h : j < n) : (laid n k)[j]? = some (.int .i64 (if j < k then -1 else 0)) := by simp [laid, h]
theorem laid_more (n k d : Nat) (hd : k + d ≤ n) : (laid n k).take k ++ List.replicate d (Value.int .i64 (-1)) ++ (laid n k).drop (k + d) = laid n (k + d) := by
  apply List.ext_getElem?
  intro j
  by_cases h1 : j < k
  · rw [List.append_assoc, List.getElem?_append_left (by rw [List.length_take, laid_len]; omega), List.getElem?_take_of_lt h1, laid_at (by omega), laid_at (by omega), if_pos h1, if_pos (by omega)]
  · by_cases h2 : j < k + d
    · rw [List.getElem?_append_left (by simp [laid_len]; omega), List.getElem?_append_right (by simp [laid_len]; omega), laid_at (by omega), if_pos h2, List.getElem?_replicate, if_pos (by simp [laid_len]; omega)]
    · rw [List.getElem?_append_right (by simp [laid_len]; omega), List.getElem?_drop]
      have e : k + d + (j - ((laid n k).take k ++ List.replicate d (Value.int .i64 (-1))).length) = j := by simp [laid_len]; omega
      rw [e]
      by_cases h3 : j < n
      · rw [laid_at h3, laid_at h3, if_neg h1, if_neg h2]
      · rw [List.getElem?_eq_none (by rw [laid_len]; omega), List.getElem?_eq_none (by rw [laid_len]; omega)]
theorem make_ints (m : Nat) (hm : m ≤ 200) (W : World) : (Instr.makeSlice 22 (.int .i64 (m : Int)) (.int .i64 (m : Int))).run Try.prog W = .ok (.slice (some ⟨W.heap.size, 0, none⟩) m m) (W.alloc (.cells (madeCells #[.int .i64 0] m) 3)) := by
  obtain ⟨i0, hi, hz0, hz1, hz2⟩ := info_parts Try.info3
  have h := run_makeSlice (P := Try.prog) W 22 3 i0 _ Try.underlying22 hi hz0 .i64 .i64 (m : Int) (m : Int) (by omega) (Int.le_refl _) (by rw [hz1]; simp; omega) (by rw [hz2]; omega) (by omega)
  rw [hz1] at h
  simpa [Value.cells] using h
theorem made_laid (m : Nat) : madeCells #[Value.int .i64 0] m = (laid m 0).toArray := by
  simp only [madeCells, laid]
  apply Array.ext_getElem?
  intro k
  by_cases h : k < m
  · simp [h, Nat.mod_one]
  · simp [h]

theorem slice_from (G n k : Nat) (h : k < n) (w : World) : (Instr.sliceAt 22 (.slice (some ⟨G, 0, none⟩) n n) (some (.int .i64 (k : Int))) none none).run Try.prog w = .ok (.slice (some ⟨G, k, none⟩) (n - k) (n - k)) w := by
  rw [run_sliceAt_slice (P := Try.prog) (w := w) 22 _ _ _ _ (by kernel_rfl), run_slice_l (P := Try.prog) (w := w) 22 _ _ _ (by kernel_rfl) .i64 (k : Int) (by omega) (by omega)]
  have e : ¬ (n = k) := by omega
  have e2 : (sizeOf (Try.prog.elem 22)).run Try.prog w = .ok 1 w := by kernel_rfl
  rw [e2]
  simp [Result.andThen, sliced, e, addr_add]
theorem slice_to (G n k : Nat) (h : k ≤ n) (h0 : 0 < n) (w : World) : (Instr.sliceAt 22 (.slice (some ⟨G, 0, none⟩) n n) none (some (.int .i64 (k : Int))) none).run Try.prog w = .ok (.slice (some ⟨G, 0, none⟩) k n) w := by
  rw [run_sliceAt_slice (P := Try.prog) (w := w) 22 _ _ _ _ (by kernel_rfl), run_slice_h (P := Try.prog) (w := w) 22 _ _ _ (by kernel_rfl) .i64 (k : Int) (by omega) (by omega)]
  have e2 : (sizeOf (Try.prog.elem 22)).run Try.prog w = .ok 1 w := by kernel_rfl
  rw [e2]
  simp [Result.andThen, sliced, addr_add]
theorem yields_slice {P : Program} {o : Oper} {a : Act} (t : TypeId) (x : Operand) (lo hi : Option Operand) (v xv : Value) (lov hiv : Option Value) (ho : o.op = .slice t x lo hi none) (hx : a.eval x = xv) (hlo : lo.map a.eval = lov) (hhi : hi.map a.eval = hiv)
    (hr : ∀ w, (Instr.sliceAt t xv lov hiv none).run P w = .ok v w) : ∀ w, (execOp a.eval o).run P w = .ok (.value v) w := fun w => by
  simp only [execOp, ho, Option.map_none]
  rw [hx, hlo, hhi, Sem.run_bind, hr w]
  rfl
/-- copy, at the operation. -/
theorem wp_copy {P : Program} {o : Oper} {a : Act} {w w2 : World} {K : Act → World → Prop} {Q : Exit → Act → World → Prop} (s x : Operand) (dT sT : TypeId) (ho : o.op = .call { callee := .builtin .copy, args := #[s, x], argTypes := #[dT, sT] })
    (v sv xv : Value) (hs : a.eval s = sv) (hx : a.eval x = xv) (hr : (Builtin.copy_ #[dT, sT] o.type #[sv, xv]).run P w = .ok v w2) (h : K (a.put o.dst v) w2) : o.wp P a w K Q := by
  unfold Oper.wp execOp
  simp only [ho, resolve, invoke, builtin, Sem.run_bind, Sem.run_pure, Result.andThen_ok, List.map_toArray, List.map_cons, List.map_nil, hs, hx, hr]
  exact h
theorem wpList_copy {P : Program} {ops : Array Oper} {rest : List Oper} {o : Oper} {a : Act} {w w2 : World} {Q : Exit → Act → World → Prop} (hg : o.guard = none) (s x : Operand) (dT sT : TypeId) (ho : o.op = .call { callee := .builtin .copy, args := #[s, x], argTypes := #[dT, sT] })
    (v sv xv : Value) (hs : a.eval s = sv) (hx : a.eval x = xv) (hr : (Builtin.copy_ #[dT, sT] o.type #[sv, xv]).run P w = .ok v w2) (h : wpList P ops Q rest (a.put o.dst v) w2) : wpList P ops Q (o :: rest) a w :=
  wpList_plain hg fun K hK => wp_copy s x dT sT ho v sv xv hs hx hr (hK _ _ h)

/-- copy within a row: so many -1 more. -/
theorem copy_laid {w : World} {G n k d : Nat} {a : Addr} {dl dc sl sc : Nat} (ty : TypeId) (hG : w.heap[G]? = some (.cells (laid n k).toArray 3 (0, 0))) (hd : k + d ≤ n) (hm : d = Nat.min sl dl)
    (hsrc : ∀ j, j < d → w.cell? (a.add j) = some (.int .i64 (-1))) :
    (Builtin.copy_ #[22, 22] ty #[.slice (some ⟨G, k, none⟩) dl dc, .slice (some a) sl sc]).run Try.prog w = .ok (.int .i64 (d : Int)) (w.setRow G (laid n (k + d)).toArray) := by
  have h := run_copy_row (P := Try.prog) w 22 22 ty 3 G k dl dc a sl sc (laid n k).toArray 3 (List.replicate d (.int .i64 (-1))) Try.underlying22 (by kernel_rfl) hG (by simp [hm]) (fun j v hv => by
    rw [List.getElem?_replicate] at hv
    split at hv
    · rename_i hj; cases hv; exact hsrc j hj
    · cases hv) (by simp [laid_len]; omega) (fun v hv => by rw [(List.mem_replicate.1 hv).2]; rfl)
  rw [h]
  simp only [List.length_replicate]
  rw [laid_more n k d hd]
  rfl
theorem keep_setRow {o : Nat → Prop} {A w : World} (h : Keep o A w) (G : Nat) (cs : Array Value) (hG : A.heap.size ≤ G) : Keep o A (w.setRow G cs) :=
  ⟨h.os, h.tape, h.output, by simpa using h.size, fun k hk ho => (setRow_other w G k cs (by omega)).trans (h.block k hk ho)⟩

set_option maxRecDepth 100000 in
set_option maxHeartbeats 800000 in
theorem repeat_any {W : World} {g1 n : Nat} (h0 : 0 < n) (h6 : n ≤ 6) (hc : W.cell? ⟨g1, 0, none⟩ = some (.int .i64 (-1))) :
    Calls Try.prog 9 #[.slice (some ⟨g1, 0, none⟩) 1 1, .int .i64 (n : Int)] W fun e W2 => ∃ G, e = .returned (.slice (some ⟨G, 0, none⟩) n n) ∧ W.heap.size ≤ G ∧ W2.heap[G]? = some (.cells (laid n n).toArray 3 (0, 0)) ∧ Keep (fun _ => False) W W2 := by
  have HM := hidMk (mul_any W n h0 h6)
  have hmk := make_ints n (by omega)
  have hlt := World.block_lt_of_cell? _ _ hc
  have h0' : (0 : Int) < (n : Int) := by omega
  have h6' : (n : Int) ≤ 6 := by omega
  have hw1 := wrap_u6 n h6
  have hw2 : IntKind.i64.wrap (n : Int) = (n : Int) := wrap6 ⟨by omega, by omega⟩
  have hcp : (Builtin.copy_ #[22, 22] 3 #[.slice (some ⟨W.heap.size, 0, none⟩) n n, .slice (some ⟨g1, 0, none⟩) 1 1]).run Try.prog (W.alloc (.cells (laid n 0).toArray 3)) = .ok (.int .i64 1) ((W.alloc (.cells (laid n 0).toArray 3)).setRow W.heap.size (laid n 1).toArray) :=
    copy_laid (w := W.alloc (.cells (laid n 0).toArray 3)) (G := W.heap.size) (n := n) (k := 0) (d := 1) (a := ⟨g1, 0, none⟩) (dl := n) (dc := n) (sl := 1) (sc := 1) 3 (al_new _ _) (by omega) (by show 1 = min 1 n; omega) (fun j hj => by
      obtain rfl : j = 0 := by omega
      exact (World.cell?_of_block (al_old _ _ _ hlt)).trans hc)
  have HG : Hid (((W.alloc (.cells (laid n 0).toArray 3)).setRow W.heap.size (laid n 1).toArray).heap[W.heap.size]? = some (.cells (laid n 1).toArray 3 (0, 0))) := setRow_heap _ _ _ _ _ _ (al_new _ _)
  have HK : Hid (Keep (fun _ => False) W ((W.alloc (.cells (laid n 0).toArray 3)).setRow W.heap.size (laid n 1).toArray)) := keep_setRow ((Keep.refl _ W).alloc _) _ _ (Nat.le_refl _)
  rw [made_laid] at hmk
  clear hc
  go_enter Try.func9, Try.ntmps9
  go_wp2_with (go_at_call 17; refine (HM.out).mono ?_; rintro e w1 ⟨rfl, hw⟩; obtain rfl := hw.symm)
  clear hcp hmk HM hw1 hw2
  generalize (W.alloc (.cells (laid n 0).toArray 3)).setRow W.heap.size (laid n 1).toArray = w1 at *
  go_loopw [8] (fun u wr => ∃ k : Nat, 1 ≤ k ∧ k ≤ n ∧ u = .int .i64 (k : Int) ∧ Hid (wr.heap[W.heap.size]? = some (.cells (laid n k).toArray 3 (0, 0))) ∧ Hid (Keep (fun _ => False) W wr)) (fun u _ => n - (intOf u).toNat)
  case atStart => exact ⟨1, Nat.le_refl _, by omega, rfl, HG, HK⟩
  case round =>
    obtain ⟨k, hk1, hkn, rfl, HG2, HK2⟩ := hrel
    by_cases hlt2 : k < n
    · have hlt' : (k : Int) < (n : Int) := by omega
      obtain ⟨d, hd⟩ : ∃ d, d = Nat.min k (n - k) := ⟨_, rfl⟩
      have hd1 : 1 ≤ d ∧ k + d ≤ n := by
        have : d = min k (n - k) := hd
        omega
      have hcl : ∀ j, j < d → wr.drew.cell? ((⟨W.heap.size, 0, none⟩ : Addr).add j) = some (.int .i64 (-1)) := fun j hj => by
        rw [addr_add, Nat.zero_add]
        show wr.cell? _ = _
        rw [cell_of_row wr _ _ _ _ _ HG2.out]
        have : d = min k (n - k) := hd
        simp only [List.getElem?_toArray]
        rw [laid_at (by omega), if_pos (by omega)]
      have hcp := copy_laid (w := wr.drew) (G := W.heap.size) (n := n) (k := k) (d := d) (a := ⟨W.heap.size, 0, none⟩) (dl := n - k) (dc := n - k) (sl := k) (sc := n) 3 HG2.out hd1.2 hd hcl
      have HG3 : Hid ((wr.drew.setRow W.heap.size (laid n (k + d)).toArray).heap[W.heap.size]? = some (.cells (laid n (k + d)).toArray 3 (0, 0))) := setRow_heap _ _ _ _ _ _ HG2.out
      have HK3 : Hid (Keep (fun _ => False) W (wr.drew.setRow W.heap.size (laid n (k + d)).toArray)) := keep_setRow (HK2.out.drew) _ _ (Nat.le_refl _)
      have hsl3 : ∀ w2, (Instr.sliceAt 22 (.slice (some ⟨W.heap.size, 0, none⟩) n n) (some (.int .i64 (k : Int))) none none).run Try.prog w2 = .ok (.slice (some ⟨W.heap.size, k, none⟩) (n - k) (n - k)) w2 := fun w2 => slice_from _ _ _ hlt2 w2
      have hsl6 : ∀ w2, (Instr.sliceAt 22 (.slice (some ⟨W.heap.size, 0, none⟩) n n) none (some (.int .i64 (k : Int))) none).run Try.prog w2 = .ok (.slice (some ⟨W.heap.size, 0, none⟩) k n) w2 := fun w2 => slice_to _ _ _ (by omega) (by omega) w2
      have HD := hidMk hd
      clear hd
      have hd2 : (1 : Int) ≤ (d : Int) := by omega
      have hd3 : (k : Int) + (d : Int) ≤ (n : Int) := by omega
      go_wp2
      refine wp_region_any (by kernel_rfl) ?_
      refine wpAny_take (i := 0) (fuel := 9) (v := .int .i64 (k : Int)) rfl (by kernel_rfl) (by kernel_rfl) (by kernel_rfl) (fun _ _ _ h => h) (.inl ⟨rfl, fun _ => rfl⟩) ?_
      refine wpAny_take (i := 1) (fuel := 8) (v := .slice (some ⟨W.heap.size, 0, none⟩) n n) rfl (by kernel_rfl) (by kernel_rfl) (by kernel_rfl) (fun _ _ _ h => h) (.inl ⟨rfl, fun _ => rfl⟩) ?_
      refine wpAny_take (i := 2) (fuel := 7) (v := .int .i64 (k : Int)) rfl (by kernel_rfl) (by kernel_rfl) (by kernel_rfl) (fun _ _ _ h => h) (.inl ⟨rfl, fun _ => rfl⟩) ?_
      refine wpAny_take (i := 3) (fuel := 6) (v := .slice (some ⟨W.heap.size, k, none⟩) (n - k) (n - k)) rfl (by kernel_rfl) (by kernel_rfl) (by kernel_rfl) (fun _ _ _ h => h) (.inl ⟨rfl, yields_slice 22 (.tmp 39) (some (.tmp 40)) none _ (.slice (some ⟨W.heap.size, 0, none⟩) n n) (some (.int .i64 (k : Int))) none rfl rfl rfl rfl hsl3⟩) ?_
      refine wpAny_take (i := 4) (fuel := 5) (v := .slice (some ⟨W.heap.size, 0, none⟩) n n) rfl (by kernel_rfl) (by kernel_rfl) (by kernel_rfl) (fun _ _ _ h => h) (.inl ⟨rfl, fun _ => rfl⟩) ?_
      refine wpAny_take (i := 5) (fuel := 4) (v := .int .i64 (k : Int)) rfl (by kernel_rfl) (by kernel_rfl) (by kernel_rfl) (fun _ _ _ h => h) (.inl ⟨rfl, fun _ => rfl⟩) ?_
      refine wpAny_one 6 (fuel := 3) (by kernel_rfl) rfl rfl (fun K6 hK6 => ?_)
      go_wp2
      refine wpAny_one 7 (fuel := 2) (by kernel_rfl) rfl rfl (fun K7 hK7 => ?_)
      go_wp2
      refine wpAny_rest 8 rfl (by kernel_rfl) (by kernel_rfl) ?_
      simp only [List.drop_succ_cons, List.drop_zero]
      repeat (go_big_quiet_step (fail))
      refine wpQuiet_nil ?_
      rintro _ ⟨nq, rfl⟩
      go_wp2
      go_roundw
      case rel => exact ⟨k + d, by omega, by omega, by go_num, by exact HG3.out, by exact HK3.out.drewN _⟩
      case measure => simp [intOf]; omega
    · obtain rfl : k = n := by omega
      go_wp2
      go_ret
      exact ⟨W.heap.size, rfl, Nat.le_refl _, HG2, HK2⟩
end Go.Proofs.Ythadhhconkjpmaa
