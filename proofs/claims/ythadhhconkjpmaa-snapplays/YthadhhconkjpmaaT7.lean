/- take. -/
import Derived.Test.YthadhhconkjpmaaT6
namespace Go.Proofs.Ythadhhconkjpmaa
open Go.RowKit Go.WideMaps
set_option linter.unusedVariables false

variable {W W2 : World} {mb n : Nat} {s : St} {h : Sh}
/-- All but the first. -/
theorem Seg.tail {W : World} {ok : Nat → Prop} {e : TypeId} {v : Value} {k : Nat} {x : Value} {xs : List Value} (h : Seg W ok e 1 v (k + 1) (x :: xs)) : ∃ g off cap, v = .slice (some ⟨g, off, none⟩) (k + 1) cap ∧ k + 1 ≤ cap ∧ cap ≤ maxLen ∧ ok g ∧ W.cell? ⟨g, off, none⟩ = some x ∧
    Seg W ok e 1 (.slice (some (if cap = 1 then ⟨g, off, none⟩ else ⟨g, off + 1, none⟩)) k (cap - 1)) k xs := by
  obtain ⟨h1, ⟨_, h0⟩ | ⟨g, off, cap, cur, rfl, h3, h4, h5, h6, h7, h8⟩⟩ := h
  · omega
  · refine ⟨g, off, cap, rfl, h5, h6, h3, ?_, by simpa using h1, .inr ?_⟩
    · rw [cell_of_row W g _ cur e (0, 0) h4]
      exact h8 0 x rfl
    · by_cases hc : cap = 1
      · rw [if_pos hc]
        refine ⟨g, off, cap - 1, cur, rfl, h3, h4, by omega, by omega, by omega, fun j y hy => ?_⟩
        have := (List.getElem?_eq_some_iff.1 hy).1
        simp at h1
        omega
      · rw [if_neg hc]
        refine ⟨g, off + 1, cap - 1, cur, rfl, h3, h4, by omega, by omega, by omega, fun j y hy => ?_⟩
        have := h8 (j + 1) y (by simpa using hy)
        rw [← this]
        congr 1
        omega

theorem wrap_of {z : Int} (h : I64 z) : IntKind.i64.wrap z = z := by
  obtain ⟨h0, h1⟩ := h
  simp [IntKind.wrap, IntKind.bits, IntKind.signed]
  split <;> omega

set_option maxRecDepth 100000 in
set_option maxHeartbeats 4000000 in
theorem take_markA (W : World) (mb M i j len nl nc g off : Nat) (na : Option Addr) (b : Bool) (RN R : World → Prop)
    (c2 : W.cell? ⟨mb, 2, none⟩ = some (.map (some M)))
    (hlk : (Instr.lookup 37 (.map (some M)) (.agg #[.int .i64 (i : Int), .int .i64 (j : Int)]) false).run Try.prog W = .ok (.agg #[.slice (some ⟨g, off, none⟩) (len + 1) 1, .slice na nl nc, .bool b]) W)
    (t0 : W.cell? ⟨g, off, none⟩ = some (.int .i64 0))
    (HN : Hid (∀ o : Obj, Calls Try.prog 22 #[.pointer (some ⟨mb, 0, none⟩), .int .i64 (j : Int)] (W.alloc o) fun e w2 => e = .returned (.tuple #[]) ∧ RN w2 ∧ w2.cell? ⟨mb, 2, none⟩ = some (.map (some M)) ∧ w2.heap[W.heap.size]? = some o))
    (H : Hid (∀ w4 w6, RN w4 → Keep (fun g => g = W.heap.size) w4 w6 → ∃ W6, (Instr.mapUpdate 37 (.map (some M)) (.agg #[.int .i64 (i : Int), .int .i64 (j : Int)]) (.agg #[.slice (some ⟨g, off, none⟩) len 0, .slice na nl nc, .bool true])).run Try.prog w6 = .ok () W6 ∧ R W6)) :
    Calls Try.prog 21 #[.pointer (some ⟨mb, 0, none⟩), .int .i64 (i : Int), .int .i64 (j : Int)] W fun e W2 => e = .returned (.tuple #[]) ∧ R W2 := by
  have t0' : (W.alloc (.cells #[.slice (some ⟨g, off, none⟩) (len + 1) 1, .slice na nl nc, .bool b] 59)).cell? ⟨g, off, none⟩ = some (.int .i64 0) := (World.cell?_of_block (al_old _ _ _ (World.block_lt_of_cell? _ _ t0))).trans t0
  have hlt : mb < W.heap.size := World.block_lt_of_cell? _ _ c2
  go_enter Try.func21, Try.ntmps21
  go_wp2_with (fail)
  go_at_call 22
  refine (HN.out _).mono ?_
  rintro e w4 ⟨rfl, hR4, c4, hL⟩
  have l0 : w4.cell? ⟨W.heap.size, 0, none⟩ = some (.slice (some ⟨g, off, none⟩) len 0) := by rw [cell_of_row w4 _ _ _ _ _ hL]; rfl
  have l1 : w4.cell? ⟨W.heap.size, 1, none⟩ = some (.slice na nl nc) := by rw [cell_of_row w4 _ _ _ _ _ hL]; rfl
  have l2 : w4.cell? ⟨W.heap.size, 2, none⟩ = some (.bool b) := by rw [cell_of_row w4 _ _ _ _ _ hL]; rfl
  have lf : w4.frozen? ⟨W.heap.size, 2, none⟩ = false := frozen_of_row w4 _ _ _ _ hL
  have HK := hidMk ((Keep.refl (fun g => g = W.heap.size) w4).setCell W.heap.size 2 (.bool true) (fun _ => rfl))
  clear hL t0 t0' hlk c2 HN
  go_wp2
  have n0 : (w4.setCell ⟨W.heap.size, 2, none⟩ (.bool true)).cell? ⟨W.heap.size, 0, none⟩ = some (.slice (some ⟨g, off, none⟩) len 0) := by go_simp
  have n1 : (w4.setCell ⟨W.heap.size, 2, none⟩ (.bool true)).cell? ⟨W.heap.size, 1, none⟩ = some (.slice na nl nc) := by go_simp
  have n2 : (w4.setCell ⟨W.heap.size, 2, none⟩ (.bool true)).cell? ⟨W.heap.size, 2, none⟩ = some (.bool true) := by go_simp
  have c3' : (w4.setCell ⟨W.heap.size, 2, none⟩ (.bool true)).cell? ⟨mb, 2, none⟩ = some (.map (some M)) := (World.cell?_of_block (Below.heap_setCell _ _ _ _ (Nat.ne_of_lt hlt))).trans c4
  have HW := hidMk (fun m : Nat => H.out w4 ((w4.setCell ⟨W.heap.size, 2, none⟩ (.bool true)).drewN m) hR4 (HK.out.drewN m))
  clear l0 l1 l2 lf c4 HK H hR4
  generalize w4.setCell ⟨W.heap.size, 2, none⟩ (.bool true) = w5 at *
  refine wp_region_tail rfl (by kernel_rfl) (by kernel_rfl) (by kernel_rfl) (by kernel_rfl) (by kernel_rfl) rfl ?_
  simp only [List.dropLast]
  repeat (go_big_quiet_step (fail))
  refine wpQuiet_nil ?_
  rintro _ ⟨m, rfl⟩
  obtain ⟨W6, hr, hR⟩ := HW.out m
  go_wp2
  go_end0
  exact ⟨rfl, hR⟩

set_option maxRecDepth 100000 in
set_option maxHeartbeats 4000000 in
theorem take_pA (W : World) (mb M i j n cm gm om len nl nc g off : Nat) (na : Option Addr) (b : Bool) (x mo : Int) (R : World → Prop)
    (c0 : W.cell? ⟨mb, 0, none⟩ = some (.slice (some ⟨gm, om, none⟩) n cm)) (hj : j < n)
    (c2 : W.cell? ⟨mb, 2, none⟩ = some (.map (some M))) (hmo : W.cell? ⟨gm, om + j, none⟩ = some (.int .i64 mo)) (hfr : W.frozen? ⟨gm, om + j, none⟩ = false) (hgm : gm ≠ mb) (hI : I64 (mo + x))
    (hlk : (Instr.lookup 37 (.map (some M)) (.agg #[.int .i64 (i : Int), .int .i64 (j : Int)]) false).run Try.prog W = .ok (.agg #[.slice (some ⟨g, off, none⟩) (len + 1) 1, .slice na nl nc, .bool b]) W)
    (t0 : W.cell? ⟨g, off, none⟩ = some (.int .i64 x)) (hx : x ≠ 0)
    (HN : Hid (∀ o : Obj, Calls Try.prog 19 #[.pointer (some ⟨mb, 0, none⟩), .int .i64 (j : Int)] ((W.setCell ⟨gm, om + j, none⟩ (.int .i64 (mo + x))).alloc o) fun e w2 => e = .returned (.bool false) ∧ w2 = (W.setCell ⟨gm, om + j, none⟩ (.int .i64 (mo + x))).alloc o))
    (H : Hid (∀ o w6, Keep (fun _ => False) ((W.setCell ⟨gm, om + j, none⟩ (.int .i64 (mo + x))).alloc o) w6 → ∃ W6, (Instr.mapUpdate 37 (.map (some M)) (.agg #[.int .i64 (i : Int), .int .i64 (j : Int)]) (.agg #[.slice (some ⟨g, off, none⟩) len 0, .slice na nl nc, .bool b])).run Try.prog w6 = .ok () W6 ∧ R W6)) :
    Calls Try.prog 21 #[.pointer (some ⟨mb, 0, none⟩), .int .i64 (i : Int), .int .i64 (j : Int)] W fun e W2 => e = .returned (.tuple #[]) ∧ R W2 := by
  have t0' : (W.alloc (.cells #[.slice (some ⟨g, off, none⟩) (len + 1) 1, .slice na nl nc, .bool b] 59)).cell? ⟨g, off, none⟩ = some (.int .i64 x) := (World.cell?_of_block (al_old _ _ _ (World.block_lt_of_cell? _ _ t0))).trans t0
  have hlt : mb < W.heap.size := World.block_lt_of_cell? _ _ c2
  have hlg : gm < W.heap.size := World.block_lt_of_cell? _ _ hmo
  have c0' : (W.alloc (.cells #[.slice (some ⟨g, off, none⟩) len 0, .slice na nl nc, .bool b] 59)).cell? ⟨mb, 0, none⟩ = some (.slice (some ⟨gm, om, none⟩) n cm) := (World.cell?_of_block (al_old _ _ _ hlt)).trans c0
  have hmo' : (W.alloc (.cells #[.slice (some ⟨g, off, none⟩) len 0, .slice na nl nc, .bool b] 59)).cell? ⟨gm, om + j, none⟩ = some (.int .i64 mo) := (World.cell?_of_block (al_old _ _ _ hlg)).trans hmo
  have hfr' : (W.alloc (.cells #[.slice (some ⟨g, off, none⟩) len 0, .slice na nl nc, .bool b] 59)).frozen? ⟨gm, om + j, none⟩ = false := (World.frozen?_of_block (al_old _ _ _ hlg)).trans hfr
  have hj' : (j : Int) < (n : Int) := by omega
  have hwr : IntKind.i64.wrap (mo + x) = mo + x := wrap_of hI
  have hsz : (W.setCell ⟨gm, om + j, none⟩ (.int .i64 (mo + x))).heap.size = W.heap.size := by simp [World.setCell]
  have hL : ((W.setCell ⟨gm, om + j, none⟩ (.int .i64 (mo + x))).alloc (.cells #[.slice (some ⟨g, off, none⟩) len 0, .slice na nl nc, .bool b] 59)).heap[W.heap.size]? = some (.cells #[.slice (some ⟨g, off, none⟩) len 0, .slice na nl nc, .bool b] 59) :=
    hsz ▸ al_new _ _
  have hc4 : ((W.setCell ⟨gm, om + j, none⟩ (.int .i64 (mo + x))).alloc (.cells #[.slice (some ⟨g, off, none⟩) len 0, .slice na nl nc, .bool b] 59)).cell? ⟨mb, 2, none⟩ = some (.map (some M)) :=
    (World.cell?_of_block (al_old _ _ _ (by rw [hsz]; exact hlt))).trans ((World.cell?_of_block (Below.heap_setCell _ _ _ _ (Ne.symm hgm))).trans c2)
  have HL := hidMk hL
  have HC := hidMk hc4
  clear hL hc4
  go_enter Try.func21, Try.ntmps21
  go_wp2_with (fail)
  go_at_call 19
  refine (HN.out _).mono ?_
  rintro e w4 ⟨rfl, hw4⟩
  obtain rfl := hw4.symm
  have HH := hidMk (H.out (.cells #[.slice (some ⟨g, off, none⟩) len 0, .slice na nl nc, .bool b] 59))
  clear c0 c2 hmo hfr hlk t0 t0' HN c0' hmo' hfr' H hw4 hwr
  generalize (W.setCell ⟨gm, om + j, none⟩ (.int .i64 (mo + x))).alloc (.cells #[.slice (some ⟨g, off, none⟩) len 0, .slice na nl nc, .bool b] 59) = w4 at *
  have l0 : w4.cell? ⟨W.heap.size, 0, none⟩ = some (.slice (some ⟨g, off, none⟩) len 0) := by rw [cell_of_row w4 _ _ _ _ _ HL.out]; rfl
  have l1 : w4.cell? ⟨W.heap.size, 1, none⟩ = some (.slice na nl nc) := by rw [cell_of_row w4 _ _ _ _ _ HL.out]; rfl
  have l2 : w4.cell? ⟨W.heap.size, 2, none⟩ = some (.bool b) := by rw [cell_of_row w4 _ _ _ _ _ HL.out]; rfl
  have c4 := HC.out
  clear HL HC
  go_wp2
  have HW := hidMk (fun m : Nat => HH.out (w4.drewN m) ((Keep.refl _ w4).drewN m))
  clear HH
  refine wp_region_tail rfl (by kernel_rfl) (by kernel_rfl) (by kernel_rfl) (by kernel_rfl) (by kernel_rfl) rfl ?_
  simp only [List.dropLast]
  repeat (go_big_quiet_step (fail))
  refine wpQuiet_nil ?_
  rintro _ ⟨m, rfl⟩
  obtain ⟨W6, hr, hR⟩ := HW.out m
  go_wp2
  go_end0
  exact ⟨rfl, hR⟩

set_option maxRecDepth 100000 in
set_option maxHeartbeats 4000000 in
theorem take_qA (W : World) (mb M i j n cm gm om len nl nc g off : Nat) (na : Option Addr) (x mo : Int) (R : World → Prop)
    (c0 : W.cell? ⟨mb, 0, none⟩ = some (.slice (some ⟨gm, om, none⟩) n cm)) (hj : j < n)
    (c2 : W.cell? ⟨mb, 2, none⟩ = some (.map (some M))) (hmo : W.cell? ⟨gm, om + j, none⟩ = some (.int .i64 mo)) (hfr : W.frozen? ⟨gm, om + j, none⟩ = false) (hgm : gm ≠ mb) (hI : I64 (mo + x))
    (hlk : (Instr.lookup 37 (.map (some M)) (.agg #[.int .i64 (i : Int), .int .i64 (j : Int)]) false).run Try.prog W = .ok (.agg #[.slice (some ⟨g, off, none⟩) (len + 1) 1, .slice na nl nc, .bool true]) W)
    (t0 : W.cell? ⟨g, off, none⟩ = some (.int .i64 x)) (hx : x ≠ 0)
    (HN : Hid (∀ o : Obj, Calls Try.prog 19 #[.pointer (some ⟨mb, 0, none⟩), .int .i64 (j : Int)] ((W.setCell ⟨gm, om + j, none⟩ (.int .i64 (mo + x))).alloc o) fun e w2 => e = .returned (.bool true) ∧ w2 = (W.setCell ⟨gm, om + j, none⟩ (.int .i64 (mo + x))).alloc o))
    (H : Hid (∀ o w6, Keep (fun _ => False) ((W.setCell ⟨gm, om + j, none⟩ (.int .i64 (mo + x))).alloc o) w6 → ∃ W6, (Instr.mapUpdate 37 (.map (some M)) (.agg #[.int .i64 (i : Int), .int .i64 (j : Int)]) (.agg #[.slice (some ⟨g, off, none⟩) len 0, .slice na nl nc, .bool true])).run Try.prog w6 = .ok () W6 ∧ R W6)) :
    Calls Try.prog 21 #[.pointer (some ⟨mb, 0, none⟩), .int .i64 (i : Int), .int .i64 (j : Int)] W fun e W2 => e = .returned (.tuple #[]) ∧ R W2 := by
  have t0' : (W.alloc (.cells #[.slice (some ⟨g, off, none⟩) (len + 1) 1, .slice na nl nc, .bool true] 59)).cell? ⟨g, off, none⟩ = some (.int .i64 x) := (World.cell?_of_block (al_old _ _ _ (World.block_lt_of_cell? _ _ t0))).trans t0
  have hlt : mb < W.heap.size := World.block_lt_of_cell? _ _ c2
  have hlg : gm < W.heap.size := World.block_lt_of_cell? _ _ hmo
  have c0' : (W.alloc (.cells #[.slice (some ⟨g, off, none⟩) len 0, .slice na nl nc, .bool true] 59)).cell? ⟨mb, 0, none⟩ = some (.slice (some ⟨gm, om, none⟩) n cm) := (World.cell?_of_block (al_old _ _ _ hlt)).trans c0
  have hmo' : (W.alloc (.cells #[.slice (some ⟨g, off, none⟩) len 0, .slice na nl nc, .bool true] 59)).cell? ⟨gm, om + j, none⟩ = some (.int .i64 mo) := (World.cell?_of_block (al_old _ _ _ hlg)).trans hmo
  have hfr' : (W.alloc (.cells #[.slice (some ⟨g, off, none⟩) len 0, .slice na nl nc, .bool true] 59)).frozen? ⟨gm, om + j, none⟩ = false := (World.frozen?_of_block (al_old _ _ _ hlg)).trans hfr
  have hj' : (j : Int) < (n : Int) := by omega
  have hwr : IntKind.i64.wrap (mo + x) = mo + x := wrap_of hI
  have hsz : (W.setCell ⟨gm, om + j, none⟩ (.int .i64 (mo + x))).heap.size = W.heap.size := by simp [World.setCell]
  have hL : ((W.setCell ⟨gm, om + j, none⟩ (.int .i64 (mo + x))).alloc (.cells #[.slice (some ⟨g, off, none⟩) len 0, .slice na nl nc, .bool true] 59)).heap[W.heap.size]? = some (.cells #[.slice (some ⟨g, off, none⟩) len 0, .slice na nl nc, .bool true] 59) :=
    hsz ▸ al_new _ _
  have hc4 : ((W.setCell ⟨gm, om + j, none⟩ (.int .i64 (mo + x))).alloc (.cells #[.slice (some ⟨g, off, none⟩) len 0, .slice na nl nc, .bool true] 59)).cell? ⟨mb, 2, none⟩ = some (.map (some M)) :=
    (World.cell?_of_block (al_old _ _ _ (by rw [hsz]; exact hlt))).trans ((World.cell?_of_block (Below.heap_setCell _ _ _ _ (Ne.symm hgm))).trans c2)
  have HL := hidMk hL
  have HC := hidMk hc4
  clear hL hc4
  go_enter Try.func21, Try.ntmps21
  go_wp2_with (fail)
  go_at_call 19
  refine (HN.out _).mono ?_
  rintro e w4 ⟨rfl, hw4⟩
  obtain rfl := hw4.symm
  have HH := hidMk (H.out (.cells #[.slice (some ⟨g, off, none⟩) len 0, .slice na nl nc, .bool true] 59))
  clear c0 c2 hmo hfr hlk t0 t0' HN c0' hmo' hfr' H hw4 hwr
  generalize (W.setCell ⟨gm, om + j, none⟩ (.int .i64 (mo + x))).alloc (.cells #[.slice (some ⟨g, off, none⟩) len 0, .slice na nl nc, .bool true] 59) = w4 at *
  have l0 : w4.cell? ⟨W.heap.size, 0, none⟩ = some (.slice (some ⟨g, off, none⟩) len 0) := by rw [cell_of_row w4 _ _ _ _ _ HL.out]; rfl
  have l1 : w4.cell? ⟨W.heap.size, 1, none⟩ = some (.slice na nl nc) := by rw [cell_of_row w4 _ _ _ _ _ HL.out]; rfl
  have l2 : w4.cell? ⟨W.heap.size, 2, none⟩ = some (.bool true) := by rw [cell_of_row w4 _ _ _ _ _ HL.out]; rfl
  have c4 := HC.out
  clear HL HC
  go_wp2
  have HW := hidMk (fun m : Nat => HH.out (w4.drewN m) ((Keep.refl _ w4).drewN m))
  clear HH
  refine wp_region_tail rfl (by kernel_rfl) (by kernel_rfl) (by kernel_rfl) (by kernel_rfl) (by kernel_rfl) rfl ?_
  simp only [List.dropLast]
  repeat (go_big_quiet_step (fail))
  refine wpQuiet_nil ?_
  rintro _ ⟨m, rfl⟩
  obtain ⟨W6, hr, hR⟩ := HW.out m
  go_wp2
  go_end0
  exact ⟨rfl, hR⟩

set_option maxRecDepth 100000 in
set_option maxHeartbeats 4000000 in
theorem take_aA (W : World) (mb M i j n cm gm om len nl nc g off : Nat) (na : Option Addr) (x mo : Int) (ok : Nat → Prop) (xs : List Value) (R : World → Prop)
    (c0 : W.cell? ⟨mb, 0, none⟩ = some (.slice (some ⟨gm, om, none⟩) n cm)) (hj : j < n)
    (c2 : W.cell? ⟨mb, 2, none⟩ = some (.map (some M))) (hmo : W.cell? ⟨gm, om + j, none⟩ = some (.int .i64 mo)) (hfr : W.frozen? ⟨gm, om + j, none⟩ = false) (hgm : gm ≠ mb) (hI : I64 (mo + x))
    (hlk : (Instr.lookup 37 (.map (some M)) (.agg #[.int .i64 (i : Int), .int .i64 (j : Int)]) false).run Try.prog W = .ok (.agg #[.slice (some ⟨g, off, none⟩) (len + 1) 1, .slice na nl nc, .bool false]) W)
    (t0 : W.cell? ⟨g, off, none⟩ = some (.int .i64 x)) (hx : x ≠ 0)
    (HN : Hid (∀ o : Obj, Calls Try.prog 19 #[.pointer (some ⟨mb, 0, none⟩), .int .i64 (j : Int)] ((W.setCell ⟨gm, om + j, none⟩ (.int .i64 (mo + x))).alloc o) fun e w2 => e = .returned (.bool true) ∧ w2 = (W.setCell ⟨gm, om + j, none⟩ (.int .i64 (mo + x))).alloc o))
    (hseg : ∀ o, Seg ((W.setCell ⟨gm, om + j, none⟩ (.int .i64 (mo + x))).alloc o) ok 3 1 (.slice na nl nc) nl xs) (hnl : nl ≤ 1000) (hno : ∀ g, ok g → g < W.heap.size → g ≠ mb) (hob : ∀ k, (Value.slice na nl nc).ownBlock = some k → k < W.heap.size)
    (H : Hid (∀ o a3 c3 w6, Seg w6 (fun g => ((Value.slice na nl nc).ownBlock = some g ∧ ok g) ∨ g = W.heap.size + 1 + 1) 3 1 (.slice a3 (nl + 1) c3) (nl + 1) (xs ++ [.int .i64 x]) → Keep (fun g => some g = (Value.slice na nl nc).ownBlock ∨ g = W.heap.size) ((W.setCell ⟨gm, om + j, none⟩ (.int .i64 (mo + x))).alloc o) w6 → ∃ W6, (Instr.mapUpdate 37 (.map (some M)) (.agg #[.int .i64 (i : Int), .int .i64 (j : Int)]) (.agg #[.slice (some ⟨g, off, none⟩) len 0, .slice a3 (nl + 1) c3, .bool false])).run Try.prog w6 = .ok () W6 ∧ R W6)) :
    Calls Try.prog 21 #[.pointer (some ⟨mb, 0, none⟩), .int .i64 (i : Int), .int .i64 (j : Int)] W fun e W2 => e = .returned (.tuple #[]) ∧ R W2 := by
  obtain ⟨i0, hi, hz0, hz1, hz2⟩ := info_parts Try.info3
  have t0' : (W.alloc (.cells #[.slice (some ⟨g, off, none⟩) (len + 1) 1, .slice na nl nc, .bool false] 59)).cell? ⟨g, off, none⟩ = some (.int .i64 x) := (World.cell?_of_block (al_old _ _ _ (World.block_lt_of_cell? _ _ t0))).trans t0
  have hlt : mb < W.heap.size := World.block_lt_of_cell? _ _ c2
  have hlg : gm < W.heap.size := World.block_lt_of_cell? _ _ hmo
  have c0' : (W.alloc (.cells #[.slice (some ⟨g, off, none⟩) len 0, .slice na nl nc, .bool false] 59)).cell? ⟨mb, 0, none⟩ = some (.slice (some ⟨gm, om, none⟩) n cm) := (World.cell?_of_block (al_old _ _ _ hlt)).trans c0
  have hmo' : (W.alloc (.cells #[.slice (some ⟨g, off, none⟩) len 0, .slice na nl nc, .bool false] 59)).cell? ⟨gm, om + j, none⟩ = some (.int .i64 mo) := (World.cell?_of_block (al_old _ _ _ hlg)).trans hmo
  have hfr' : (W.alloc (.cells #[.slice (some ⟨g, off, none⟩) len 0, .slice na nl nc, .bool false] 59)).frozen? ⟨gm, om + j, none⟩ = false := (World.frozen?_of_block (al_old _ _ _ hlg)).trans hfr
  have hj' : (j : Int) < (n : Int) := by omega
  have hwr : IntKind.i64.wrap (mo + x) = mo + x := wrap_of hI
  have hsz : (W.setCell ⟨gm, om + j, none⟩ (.int .i64 (mo + x))).heap.size = W.heap.size := by simp [World.setCell]
  have hL : ((W.setCell ⟨gm, om + j, none⟩ (.int .i64 (mo + x))).alloc (.cells #[.slice (some ⟨g, off, none⟩) len 0, .slice na nl nc, .bool false] 59)).heap[W.heap.size]? = some (.cells #[.slice (some ⟨g, off, none⟩) len 0, .slice na nl nc, .bool false] 59) :=
    hsz ▸ al_new _ _
  have hc4 : ((W.setCell ⟨gm, om + j, none⟩ (.int .i64 (mo + x))).alloc (.cells #[.slice (some ⟨g, off, none⟩) len 0, .slice na nl nc, .bool false] 59)).cell? ⟨mb, 2, none⟩ = some (.map (some M)) :=
    (World.cell?_of_block (al_old _ _ _ (by rw [hsz]; exact hlt))).trans ((World.cell?_of_block (Below.heap_setCell _ _ _ _ (Ne.symm hgm))).trans c2)
  have HG := hidMk (hseg (.cells #[.slice (some ⟨g, off, none⟩) len 0, .slice na nl nc, .bool false] 59))
  have hsz2 : ((W.setCell ⟨gm, om + j, none⟩ (.int .i64 (mo + x))).alloc (.cells #[.slice (some ⟨g, off, none⟩) len 0, .slice na nl nc, .bool false] 59)).heap.size = W.heap.size + 1 := by simp [World.setCell]
  have HZ := hidMk hsz2
  clear hsz2
  have HL := hidMk hL
  have HC := hidMk hc4
  clear hL hc4
  go_enter Try.func21, Try.ntmps21
  go_wp2_with (fail)
  go_at_call 19
  refine (HN.out _).mono ?_
  rintro e w4 ⟨rfl, hw4⟩
  obtain rfl := hw4.symm
  have HH := hidMk (H.out (.cells #[.slice (some ⟨g, off, none⟩) len 0, .slice na nl nc, .bool false] 59))
  clear c0 c2 hmo hfr hlk t0 t0' HN c0' hmo' hfr' H hw4 hwr
  generalize (W.setCell ⟨gm, om + j, none⟩ (.int .i64 (mo + x))).alloc (.cells #[.slice (some ⟨g, off, none⟩) len 0, .slice na nl nc, .bool false] 59) = w4 at *
  have l0 : w4.cell? ⟨W.heap.size, 0, none⟩ = some (.slice (some ⟨g, off, none⟩) len 0) := by rw [cell_of_row w4 _ _ _ _ _ HL.out]; rfl
  have l1 : w4.cell? ⟨W.heap.size, 1, none⟩ = some (.slice na nl nc) := by rw [cell_of_row w4 _ _ _ _ _ HL.out]; rfl
  have l2 : w4.cell? ⟨W.heap.size, 2, none⟩ = some (.bool false) := by rw [cell_of_row w4 _ _ _ _ _ HL.out]; rfl
  have c4 := HC.out
  clear HC
  go_wp2_with (at_builtin; refine wpList_append_seg _ rfl _ _ 22 rfl 3 i0 (.int .i64 0) 1 8 Try.underlying22 hi hz0 hz1 hz2 rfl (by decide) _ _ _ rfl (HG.out.alloc _) ⟨w4.heap.size, 0, none⟩ 1 1 [.int .i64 x] rfl rfl (cell_one_at _ _ _ _ rfl) (one_cell _) (by unfold maxLen; omega) (by omega) ?_)
  intro v3 w3 hs3 hg3
  obtain ⟨a3, c3, rfl⟩ := hs3.form
  have hz4 := HZ.out
  rw [hz4] at hs3
  have hL3 : w3.heap[W.heap.size]? = some (.cells #[.slice (some ⟨g, off, none⟩) len 0, .slice na nl nc, .bool false] 59) := by
    rw [hg3.block W.heap.size (by simp; omega) (fun e => by have := hob _ e.symm; omega), al_old _ _ _ (by omega), HL.out]
  have hk3 : Keep (fun g => some g = (Value.slice na nl nc).ownBlock ∨ g = W.heap.size) w4 w3 := ((Keep.refl _ w4).alloc _).grown hg3 (fun k e _ => .inl e.symm)
  have l0 : w3.cell? ⟨W.heap.size, 0, none⟩ = some (.slice (some ⟨g, off, none⟩) len 0) := by rw [cell_of_row w3 _ _ _ _ _ hL3]; rfl
  have l1 : w3.cell? ⟨W.heap.size, 1, none⟩ = some (.slice na nl nc) := by rw [cell_of_row w3 _ _ _ _ _ hL3]; rfl
  have l2 : w3.cell? ⟨W.heap.size, 2, none⟩ = some (.bool false) := by rw [cell_of_row w3 _ _ _ _ _ hL3]; rfl
  have lf : w3.frozen? ⟨W.heap.size, 1, none⟩ = false := frozen_of_row w3 _ _ _ _ hL3
  have c2' : w3.cell? ⟨mb, 2, none⟩ = some (.map (some M)) := (World.cell?_of_block (hk3.block mb (by omega) (fun e => by
    rcases e with e | e
    · exact hno mb (HG.out.block e.symm).1 hlt rfl
    · omega))).trans c4
  have hs4 := hidMk (hs3.keep ((Keep.refl (fun g => g = W.heap.size) w3).setCell W.heap.size 1 (.slice a3 (nl + 1) c3) (fun _ => rfl)) (fun g _ e1 e2 => by
    rcases e1 with ⟨e1, _⟩ | e1
    · have := hob g e1; omega
    · omega))
  have hk4 := hidMk (hk3.setCell W.heap.size 1 (.slice a3 (nl + 1) c3) (fun _ => .inr rfl))
  clear hs3 hg3 hL3 hk3 hz4 HZ HL
  go_wp2
  have n0 : (w3.setCell ⟨W.heap.size, 1, none⟩ (.slice a3 (nl + 1) c3)).cell? ⟨W.heap.size, 0, none⟩ = some (.slice (some ⟨g, off, none⟩) len 0) := by go_simp
  have n1 : (w3.setCell ⟨W.heap.size, 1, none⟩ (.slice a3 (nl + 1) c3)).cell? ⟨W.heap.size, 1, none⟩ = some (.slice a3 (nl + 1) c3) := by go_simp
  have n2 : (w3.setCell ⟨W.heap.size, 1, none⟩ (.slice a3 (nl + 1) c3)).cell? ⟨W.heap.size, 2, none⟩ = some (.bool false) := by go_simp
  have c3' : (w3.setCell ⟨W.heap.size, 1, none⟩ (.slice a3 (nl + 1) c3)).cell? ⟨mb, 2, none⟩ = some (.map (some M)) := (World.cell?_of_block (Below.heap_setCell _ _ _ _ (Nat.ne_of_lt hlt))).trans c2'
  have HW := hidMk (fun m : Nat => HH.out a3 c3 ((w3.setCell ⟨W.heap.size, 1, none⟩ (.slice a3 (nl + 1) c3)).drewN m) (hs4.out.keep ((Keep.refl (fun _ => False) _).drewN m) (fun _ _ _ e => e)) (hk4.out.drewN m))
  clear l0 l1 l2 lf c2' hs4 hk4 HH hob c4
  generalize w3.setCell ⟨W.heap.size, 1, none⟩ (.slice a3 (nl + 1) c3) = w5 at *
  refine wp_region_tail rfl (by kernel_rfl) (by kernel_rfl) (by kernel_rfl) (by kernel_rfl) (by kernel_rfl) rfl ?_
  simp only [List.dropLast]
  repeat (go_big_quiet_step (fail))
  refine wpQuiet_nil ?_
  rintro _ ⟨m, rfl⟩
  obtain ⟨W6, hr, hR⟩ := HW.out m
  go_wp2
  go_end0
  exact ⟨rfl, hR⟩

set_option maxRecDepth 100000 in
set_option maxHeartbeats 4000000 in
theorem take_markB (W : World) (mb M i j len nl nc g off : Nat) (c1 : Nat) (na : Option Addr) (b : Bool) (RN R : World → Prop)
    (c2 : W.cell? ⟨mb, 2, none⟩ = some (.map (some M)))
    (hlk : (Instr.lookup 37 (.map (some M)) (.agg #[.int .i64 (i : Int), .int .i64 (j : Int)]) false).run Try.prog W = .ok (.agg #[.slice (some ⟨g, off, none⟩) (len + 1) (c1 + 2), .slice na nl nc, .bool b]) W)
    (t0 : W.cell? ⟨g, off, none⟩ = some (.int .i64 0))
    (HN : Hid (∀ o : Obj, Calls Try.prog 22 #[.pointer (some ⟨mb, 0, none⟩), .int .i64 (j : Int)] (W.alloc o) fun e w2 => e = .returned (.tuple #[]) ∧ RN w2 ∧ w2.cell? ⟨mb, 2, none⟩ = some (.map (some M)) ∧ w2.heap[W.heap.size]? = some o))
    (H : Hid (∀ w4 w6, RN w4 → Keep (fun g => g = W.heap.size) w4 w6 → ∃ W6, (Instr.mapUpdate 37 (.map (some M)) (.agg #[.int .i64 (i : Int), .int .i64 (j : Int)]) (.agg #[.slice (some ⟨g, off + 1, none⟩) len (c1 + 1), .slice na nl nc, .bool true])).run Try.prog w6 = .ok () W6 ∧ R W6)) :
    Calls Try.prog 21 #[.pointer (some ⟨mb, 0, none⟩), .int .i64 (i : Int), .int .i64 (j : Int)] W fun e W2 => e = .returned (.tuple #[]) ∧ R W2 := by
  have t0' : (W.alloc (.cells #[.slice (some ⟨g, off, none⟩) (len + 1) (c1 + 2), .slice na nl nc, .bool b] 59)).cell? ⟨g, off, none⟩ = some (.int .i64 0) := (World.cell?_of_block (al_old _ _ _ (World.block_lt_of_cell? _ _ t0))).trans t0
  have hlt : mb < W.heap.size := World.block_lt_of_cell? _ _ c2
  go_enter Try.func21, Try.ntmps21
  go_wp2_with (fail)
  go_at_call 22
  refine (HN.out _).mono ?_
  rintro e w4 ⟨rfl, hR4, c4, hL⟩
  have l0 : w4.cell? ⟨W.heap.size, 0, none⟩ = some (.slice (some ⟨g, off + 1, none⟩) len (c1 + 1)) := by rw [cell_of_row w4 _ _ _ _ _ hL]; rfl
  have l1 : w4.cell? ⟨W.heap.size, 1, none⟩ = some (.slice na nl nc) := by rw [cell_of_row w4 _ _ _ _ _ hL]; rfl
  have l2 : w4.cell? ⟨W.heap.size, 2, none⟩ = some (.bool b) := by rw [cell_of_row w4 _ _ _ _ _ hL]; rfl
  have lf : w4.frozen? ⟨W.heap.size, 2, none⟩ = false := frozen_of_row w4 _ _ _ _ hL
  have HK := hidMk ((Keep.refl (fun g => g = W.heap.size) w4).setCell W.heap.size 2 (.bool true) (fun _ => rfl))
  clear hL t0 t0' hlk c2 HN
  go_wp2
  have n0 : (w4.setCell ⟨W.heap.size, 2, none⟩ (.bool true)).cell? ⟨W.heap.size, 0, none⟩ = some (.slice (some ⟨g, off + 1, none⟩) len (c1 + 1)) := by go_simp
  have n1 : (w4.setCell ⟨W.heap.size, 2, none⟩ (.bool true)).cell? ⟨W.heap.size, 1, none⟩ = some (.slice na nl nc) := by go_simp
  have n2 : (w4.setCell ⟨W.heap.size, 2, none⟩ (.bool true)).cell? ⟨W.heap.size, 2, none⟩ = some (.bool true) := by go_simp
  have c3' : (w4.setCell ⟨W.heap.size, 2, none⟩ (.bool true)).cell? ⟨mb, 2, none⟩ = some (.map (some M)) := (World.cell?_of_block (Below.heap_setCell _ _ _ _ (Nat.ne_of_lt hlt))).trans c4
  have HW := hidMk (fun m : Nat => H.out w4 ((w4.setCell ⟨W.heap.size, 2, none⟩ (.bool true)).drewN m) hR4 (HK.out.drewN m))
  clear l0 l1 l2 lf c4 HK H hR4
  generalize w4.setCell ⟨W.heap.size, 2, none⟩ (.bool true) = w5 at *
  refine wp_region_tail rfl (by kernel_rfl) (by kernel_rfl) (by kernel_rfl) (by kernel_rfl) (by kernel_rfl) rfl ?_
  simp only [List.dropLast]
  repeat (go_big_quiet_step (fail))
  refine wpQuiet_nil ?_
  rintro _ ⟨m, rfl⟩
  obtain ⟨W6, hr, hR⟩ := HW.out m
  go_wp2
  go_end0
  exact ⟨rfl, hR⟩

set_option maxRecDepth 100000 in
set_option maxHeartbeats 4000000 in
theorem take_pB (W : World) (mb M i j n cm gm om len nl nc g off : Nat) (c1 : Nat) (na : Option Addr) (b : Bool) (x mo : Int) (R : World → Prop)
    (c0 : W.cell? ⟨mb, 0, none⟩ = some (.slice (some ⟨gm, om, none⟩) n cm)) (hj : j < n)
    (c2 : W.cell? ⟨mb, 2, none⟩ = some (.map (some M))) (hmo : W.cell? ⟨gm, om + j, none⟩ = some (.int .i64 mo)) (hfr : W.frozen? ⟨gm, om + j, none⟩ = false) (hgm : gm ≠ mb) (hI : I64 (mo + x))
    (hlk : (Instr.lookup 37 (.map (some M)) (.agg #[.int .i64 (i : Int), .int .i64 (j : Int)]) false).run Try.prog W = .ok (.agg #[.slice (some ⟨g, off, none⟩) (len + 1) (c1 + 2), .slice na nl nc, .bool b]) W)
    (t0 : W.cell? ⟨g, off, none⟩ = some (.int .i64 x)) (hx : x ≠ 0)
    (HN : Hid (∀ o : Obj, Calls Try.prog 19 #[.pointer (some ⟨mb, 0, none⟩), .int .i64 (j : Int)] ((W.setCell ⟨gm, om + j, none⟩ (.int .i64 (mo + x))).alloc o) fun e w2 => e = .returned (.bool false) ∧ w2 = (W.setCell ⟨gm, om + j, none⟩ (.int .i64 (mo + x))).alloc o))
    (H : Hid (∀ o w6, Keep (fun _ => False) ((W.setCell ⟨gm, om + j, none⟩ (.int .i64 (mo + x))).alloc o) w6 → ∃ W6, (Instr.mapUpdate 37 (.map (some M)) (.agg #[.int .i64 (i : Int), .int .i64 (j : Int)]) (.agg #[.slice (some ⟨g, off + 1, none⟩) len (c1 + 1), .slice na nl nc, .bool b])).run Try.prog w6 = .ok () W6 ∧ R W6)) :
    Calls Try.prog 21 #[.pointer (some ⟨mb, 0, none⟩), .int .i64 (i : Int), .int .i64 (j : Int)] W fun e W2 => e = .returned (.tuple #[]) ∧ R W2 := by
  have t0' : (W.alloc (.cells #[.slice (some ⟨g, off, none⟩) (len + 1) (c1 + 2), .slice na nl nc, .bool b] 59)).cell? ⟨g, off, none⟩ = some (.int .i64 x) := (World.cell?_of_block (al_old _ _ _ (World.block_lt_of_cell? _ _ t0))).trans t0
  have hlt : mb < W.heap.size := World.block_lt_of_cell? _ _ c2
  have hlg : gm < W.heap.size := World.block_lt_of_cell? _ _ hmo
  have c0' : (W.alloc (.cells #[.slice (some ⟨g, off + 1, none⟩) len (c1 + 1), .slice na nl nc, .bool b] 59)).cell? ⟨mb, 0, none⟩ = some (.slice (some ⟨gm, om, none⟩) n cm) := (World.cell?_of_block (al_old _ _ _ hlt)).trans c0
  have hmo' : (W.alloc (.cells #[.slice (some ⟨g, off + 1, none⟩) len (c1 + 1), .slice na nl nc, .bool b] 59)).cell? ⟨gm, om + j, none⟩ = some (.int .i64 mo) := (World.cell?_of_block (al_old _ _ _ hlg)).trans hmo
  have hfr' : (W.alloc (.cells #[.slice (some ⟨g, off + 1, none⟩) len (c1 + 1), .slice na nl nc, .bool b] 59)).frozen? ⟨gm, om + j, none⟩ = false := (World.frozen?_of_block (al_old _ _ _ hlg)).trans hfr
  have hj' : (j : Int) < (n : Int) := by omega
  have hwr : IntKind.i64.wrap (mo + x) = mo + x := wrap_of hI
  have hsz : (W.setCell ⟨gm, om + j, none⟩ (.int .i64 (mo + x))).heap.size = W.heap.size := by simp [World.setCell]
  have hL : ((W.setCell ⟨gm, om + j, none⟩ (.int .i64 (mo + x))).alloc (.cells #[.slice (some ⟨g, off + 1, none⟩) len (c1 + 1), .slice na nl nc, .bool b] 59)).heap[W.heap.size]? = some (.cells #[.slice (some ⟨g, off + 1, none⟩) len (c1 + 1), .slice na nl nc, .bool b] 59) :=
    hsz ▸ al_new _ _
  have hc4 : ((W.setCell ⟨gm, om + j, none⟩ (.int .i64 (mo + x))).alloc (.cells #[.slice (some ⟨g, off + 1, none⟩) len (c1 + 1), .slice na nl nc, .bool b] 59)).cell? ⟨mb, 2, none⟩ = some (.map (some M)) :=
    (World.cell?_of_block (al_old _ _ _ (by rw [hsz]; exact hlt))).trans ((World.cell?_of_block (Below.heap_setCell _ _ _ _ (Ne.symm hgm))).trans c2)
  have HL := hidMk hL
  have HC := hidMk hc4
  clear hL hc4
  go_enter Try.func21, Try.ntmps21
  go_wp2_with (fail)
  go_at_call 19
  refine (HN.out _).mono ?_
  rintro e w4 ⟨rfl, hw4⟩
  obtain rfl := hw4.symm
  have HH := hidMk (H.out (.cells #[.slice (some ⟨g, off + 1, none⟩) len (c1 + 1), .slice na nl nc, .bool b] 59))
  clear c0 c2 hmo hfr hlk t0 t0' HN c0' hmo' hfr' H hw4 hwr
  generalize (W.setCell ⟨gm, om + j, none⟩ (.int .i64 (mo + x))).alloc (.cells #[.slice (some ⟨g, off + 1, none⟩) len (c1 + 1), .slice na nl nc, .bool b] 59) = w4 at *
  have l0 : w4.cell? ⟨W.heap.size, 0, none⟩ = some (.slice (some ⟨g, off + 1, none⟩) len (c1 + 1)) := by rw [cell_of_row w4 _ _ _ _ _ HL.out]; rfl
  have l1 : w4.cell? ⟨W.heap.size, 1, none⟩ = some (.slice na nl nc) := by rw [cell_of_row w4 _ _ _ _ _ HL.out]; rfl
  have l2 : w4.cell? ⟨W.heap.size, 2, none⟩ = some (.bool b) := by rw [cell_of_row w4 _ _ _ _ _ HL.out]; rfl
  have c4 := HC.out
  clear HL HC
  go_wp2
  have HW := hidMk (fun m : Nat => HH.out (w4.drewN m) ((Keep.refl _ w4).drewN m))
  clear HH
  refine wp_region_tail rfl (by kernel_rfl) (by kernel_rfl) (by kernel_rfl) (by kernel_rfl) (by kernel_rfl) rfl ?_
  simp only [List.dropLast]
  repeat (go_big_quiet_step (fail))
  refine wpQuiet_nil ?_
  rintro _ ⟨m, rfl⟩
  obtain ⟨W6, hr, hR⟩ := HW.out m
  go_wp2
  go_end0
  exact ⟨rfl, hR⟩

set_option maxRecDepth 100000 in
set_option maxHeartbeats 4000000 in
theorem take_qB (W : World) (mb M i j n cm gm om len nl nc g off : Nat) (c1 : Nat) (na : Option Addr) (x mo : Int) (R : World → Prop)
    (c0 : W.cell? ⟨mb, 0, none⟩ = some (.slice (some ⟨gm, om, none⟩) n cm)) (hj : j < n)
    (c2 : W.cell? ⟨mb, 2, none⟩ = some (.map (some M))) (hmo : W.cell? ⟨gm, om + j, none⟩ = some (.int .i64 mo)) (hfr : W.frozen? ⟨gm, om + j, none⟩ = false) (hgm : gm ≠ mb) (hI : I64 (mo + x))
    (hlk : (Instr.lookup 37 (.map (some M)) (.agg #[.int .i64 (i : Int), .int .i64 (j : Int)]) false).run Try.prog W = .ok (.agg #[.slice (some ⟨g, off, none⟩) (len + 1) (c1 + 2), .slice na nl nc, .bool true]) W)
    (t0 : W.cell? ⟨g, off, none⟩ = some (.int .i64 x)) (hx : x ≠ 0)
    (HN : Hid (∀ o : Obj, Calls Try.prog 19 #[.pointer (some ⟨mb, 0, none⟩), .int .i64 (j : Int)] ((W.setCell ⟨gm, om + j, none⟩ (.int .i64 (mo + x))).alloc o) fun e w2 => e = .returned (.bool true) ∧ w2 = (W.setCell ⟨gm, om + j, none⟩ (.int .i64 (mo + x))).alloc o))
    (H : Hid (∀ o w6, Keep (fun _ => False) ((W.setCell ⟨gm, om + j, none⟩ (.int .i64 (mo + x))).alloc o) w6 → ∃ W6, (Instr.mapUpdate 37 (.map (some M)) (.agg #[.int .i64 (i : Int), .int .i64 (j : Int)]) (.agg #[.slice (some ⟨g, off + 1, none⟩) len (c1 + 1), .slice na nl nc, .bool true])).run Try.prog w6 = .ok () W6 ∧ R W6)) :
    Calls Try.prog 21 #[.pointer (some ⟨mb, 0, none⟩), .int .i64 (i : Int), .int .i64 (j : Int)] W fun e W2 => e = .returned (.tuple #[]) ∧ R W2 := by
  have t0' : (W.alloc (.cells #[.slice (some ⟨g, off, none⟩) (len + 1) (c1 + 2), .slice na nl nc, .bool true] 59)).cell? ⟨g, off, none⟩ = some (.int .i64 x) := (World.cell?_of_block (al_old _ _ _ (World.block_lt_of_cell? _ _ t0))).trans t0
  have hlt : mb < W.heap.size := World.block_lt_of_cell? _ _ c2
  have hlg : gm < W.heap.size := World.block_lt_of_cell? _ _ hmo
  have c0' : (W.alloc (.cells #[.slice (some ⟨g, off + 1, none⟩) len (c1 + 1), .slice na nl nc, .bool true] 59)).cell? ⟨mb, 0, none⟩ = some (.slice (some ⟨gm, om, none⟩) n cm) := (World.cell?_of_block (al_old _ _ _ hlt)).trans c0
  have hmo' : (W.alloc (.cells #[.slice (some ⟨g, off + 1, none⟩) len (c1 + 1), .slice na nl nc, .bool true] 59)).cell? ⟨gm, om + j, none⟩ = some (.int .i64 mo) := (World.cell?_of_block (al_old _ _ _ hlg)).trans hmo
  have hfr' : (W.alloc (.cells #[.slice (some ⟨g, off + 1, none⟩) len (c1 + 1), .slice na nl nc, .bool true] 59)).frozen? ⟨gm, om + j, none⟩ = false := (World.frozen?_of_block (al_old _ _ _ hlg)).trans hfr
  have hj' : (j : Int) < (n : Int) := by omega
  have hwr : IntKind.i64.wrap (mo + x) = mo + x := wrap_of hI
  have hsz : (W.setCell ⟨gm, om + j, none⟩ (.int .i64 (mo + x))).heap.size = W.heap.size := by simp [World.setCell]
  have hL : ((W.setCell ⟨gm, om + j, none⟩ (.int .i64 (mo + x))).alloc (.cells #[.slice (some ⟨g, off + 1, none⟩) len (c1 + 1), .slice na nl nc, .bool true] 59)).heap[W.heap.size]? = some (.cells #[.slice (some ⟨g, off + 1, none⟩) len (c1 + 1), .slice na nl nc, .bool true] 59) :=
    hsz ▸ al_new _ _
  have hc4 : ((W.setCell ⟨gm, om + j, none⟩ (.int .i64 (mo + x))).alloc (.cells #[.slice (some ⟨g, off + 1, none⟩) len (c1 + 1), .slice na nl nc, .bool true] 59)).cell? ⟨mb, 2, none⟩ = some (.map (some M)) :=
    (World.cell?_of_block (al_old _ _ _ (by rw [hsz]; exact hlt))).trans ((World.cell?_of_block (Below.heap_setCell _ _ _ _ (Ne.symm hgm))).trans c2)
  have HL := hidMk hL
  have HC := hidMk hc4
  clear hL hc4
  go_enter Try.func21, Try.ntmps21
  go_wp2_with (fail)
  go_at_call 19
  refine (HN.out _).mono ?_
  rintro e w4 ⟨rfl, hw4⟩
  obtain rfl := hw4.symm
  have HH := hidMk (H.out (.cells #[.slice (some ⟨g, off + 1, none⟩) len (c1 + 1), .slice na nl nc, .bool true] 59))
  clear c0 c2 hmo hfr hlk t0 t0' HN c0' hmo' hfr' H hw4 hwr
  generalize (W.setCell ⟨gm, om + j, none⟩ (.int .i64 (mo + x))).alloc (.cells #[.slice (some ⟨g, off + 1, none⟩) len (c1 + 1), .slice na nl nc, .bool true] 59) = w4 at *
  have l0 : w4.cell? ⟨W.heap.size, 0, none⟩ = some (.slice (some ⟨g, off + 1, none⟩) len (c1 + 1)) := by rw [cell_of_row w4 _ _ _ _ _ HL.out]; rfl
  have l1 : w4.cell? ⟨W.heap.size, 1, none⟩ = some (.slice na nl nc) := by rw [cell_of_row w4 _ _ _ _ _ HL.out]; rfl
  have l2 : w4.cell? ⟨W.heap.size, 2, none⟩ = some (.bool true) := by rw [cell_of_row w4 _ _ _ _ _ HL.out]; rfl
  have c4 := HC.out
  clear HL HC
  go_wp2
  have HW := hidMk (fun m : Nat => HH.out (w4.drewN m) ((Keep.refl _ w4).drewN m))
  clear HH
  refine wp_region_tail rfl (by kernel_rfl) (by kernel_rfl) (by kernel_rfl) (by kernel_rfl) (by kernel_rfl) rfl ?_
  simp only [List.dropLast]
  repeat (go_big_quiet_step (fail))
  refine wpQuiet_nil ?_
  rintro _ ⟨m, rfl⟩
  obtain ⟨W6, hr, hR⟩ := HW.out m
  go_wp2
  go_end0
  exact ⟨rfl, hR⟩

set_option maxRecDepth 100000 in
set_option maxHeartbeats 4000000 in
theorem take_aB (W : World) (mb M i j n cm gm om len nl nc g off : Nat) (c1 : Nat) (na : Option Addr) (x mo : Int) (ok : Nat → Prop) (xs : List Value) (R : World → Prop)
    (c0 : W.cell? ⟨mb, 0, none⟩ = some (.slice (some ⟨gm, om, none⟩) n cm)) (hj : j < n)
    (c2 : W.cell? ⟨mb, 2, none⟩ = some (.map (some M))) (hmo : W.cell? ⟨gm, om + j, none⟩ = some (.int .i64 mo)) (hfr : W.frozen? ⟨gm, om + j, none⟩ = false) (hgm : gm ≠ mb) (hI : I64 (mo + x))
    (hlk : (Instr.lookup 37 (.map (some M)) (.agg #[.int .i64 (i : Int), .int .i64 (j : Int)]) false).run Try.prog W = .ok (.agg #[.slice (some ⟨g, off, none⟩) (len + 1) (c1 + 2), .slice na nl nc, .bool false]) W)
    (t0 : W.cell? ⟨g, off, none⟩ = some (.int .i64 x)) (hx : x ≠ 0)
    (HN : Hid (∀ o : Obj, Calls Try.prog 19 #[.pointer (some ⟨mb, 0, none⟩), .int .i64 (j : Int)] ((W.setCell ⟨gm, om + j, none⟩ (.int .i64 (mo + x))).alloc o) fun e w2 => e = .returned (.bool true) ∧ w2 = (W.setCell ⟨gm, om + j, none⟩ (.int .i64 (mo + x))).alloc o))
    (hseg : ∀ o, Seg ((W.setCell ⟨gm, om + j, none⟩ (.int .i64 (mo + x))).alloc o) ok 3 1 (.slice na nl nc) nl xs) (hnl : nl ≤ 1000) (hno : ∀ g, ok g → g < W.heap.size → g ≠ mb) (hob : ∀ k, (Value.slice na nl nc).ownBlock = some k → k < W.heap.size)
    (H : Hid (∀ o a3 c3 w6, Seg w6 (fun g => ((Value.slice na nl nc).ownBlock = some g ∧ ok g) ∨ g = W.heap.size + 1 + 1) 3 1 (.slice a3 (nl + 1) c3) (nl + 1) (xs ++ [.int .i64 x]) → Keep (fun g => some g = (Value.slice na nl nc).ownBlock ∨ g = W.heap.size) ((W.setCell ⟨gm, om + j, none⟩ (.int .i64 (mo + x))).alloc o) w6 → ∃ W6, (Instr.mapUpdate 37 (.map (some M)) (.agg #[.int .i64 (i : Int), .int .i64 (j : Int)]) (.agg #[.slice (some ⟨g, off + 1, none⟩) len (c1 + 1), .slice a3 (nl + 1) c3, .bool false])).run Try.prog w6 = .ok () W6 ∧ R W6)) :
    Calls Try.prog 21 #[.pointer (some ⟨mb, 0, none⟩), .int .i64 (i : Int), .int .i64 (j : Int)] W fun e W2 => e = .returned (.tuple #[]) ∧ R W2 := by
  obtain ⟨i0, hi, hz0, hz1, hz2⟩ := info_parts Try.info3
  have t0' : (W.alloc (.cells #[.slice (some ⟨g, off, none⟩) (len + 1) (c1 + 2), .slice na nl nc, .bool false] 59)).cell? ⟨g, off, none⟩ = some (.int .i64 x) := (World.cell?_of_block (al_old _ _ _ (World.block_lt_of_cell? _ _ t0))).trans t0
  have hlt : mb < W.heap.size := World.block_lt_of_cell? _ _ c2
  have hlg : gm < W.heap.size := World.block_lt_of_cell? _ _ hmo
  have c0' : (W.alloc (.cells #[.slice (some ⟨g, off + 1, none⟩) len (c1 + 1), .slice na nl nc, .bool false] 59)).cell? ⟨mb, 0, none⟩ = some (.slice (some ⟨gm, om, none⟩) n cm) := (World.cell?_of_block (al_old _ _ _ hlt)).trans c0
  have hmo' : (W.alloc (.cells #[.slice (some ⟨g, off + 1, none⟩) len (c1 + 1), .slice na nl nc, .bool false] 59)).cell? ⟨gm, om + j, none⟩ = some (.int .i64 mo) := (World.cell?_of_block (al_old _ _ _ hlg)).trans hmo
  have hfr' : (W.alloc (.cells #[.slice (some ⟨g, off + 1, none⟩) len (c1 + 1), .slice na nl nc, .bool false] 59)).frozen? ⟨gm, om + j, none⟩ = false := (World.frozen?_of_block (al_old _ _ _ hlg)).trans hfr
  have hj' : (j : Int) < (n : Int) := by omega
  have hwr : IntKind.i64.wrap (mo + x) = mo + x := wrap_of hI
  have hsz : (W.setCell ⟨gm, om + j, none⟩ (.int .i64 (mo + x))).heap.size = W.heap.size := by simp [World.setCell]
  have hL : ((W.setCell ⟨gm, om + j, none⟩ (.int .i64 (mo + x))).alloc (.cells #[.slice (some ⟨g, off + 1, none⟩) len (c1 + 1), .slice na nl nc, .bool false] 59)).heap[W.heap.size]? = some (.cells #[.slice (some ⟨g, off + 1, none⟩) len (c1 + 1), .slice na nl nc, .bool false] 59) :=
    hsz ▸ al_new _ _
  have hc4 : ((W.setCell ⟨gm, om + j, none⟩ (.int .i64 (mo + x))).alloc (.cells #[.slice (some ⟨g, off + 1, none⟩) len (c1 + 1), .slice na nl nc, .bool false] 59)).cell? ⟨mb, 2, none⟩ = some (.map (some M)) :=
    (World.cell?_of_block (al_old _ _ _ (by rw [hsz]; exact hlt))).trans ((World.cell?_of_block (Below.heap_setCell _ _ _ _ (Ne.symm hgm))).trans c2)
  have HG := hidMk (hseg (.cells #[.slice (some ⟨g, off + 1, none⟩) len (c1 + 1), .slice na nl nc, .bool false] 59))
  have hsz2 : ((W.setCell ⟨gm, om + j, none⟩ (.int .i64 (mo + x))).alloc (.cells #[.slice (some ⟨g, off + 1, none⟩) len (c1 + 1), .slice na nl nc, .bool false] 59)).heap.size = W.heap.size + 1 := by simp [World.setCell]
  have HZ := hidMk hsz2
  clear hsz2
  have HL := hidMk hL
  have HC := hidMk hc4
  clear hL hc4
  go_enter Try.func21, Try.ntmps21
  go_wp2_with (fail)
  go_at_call 19
  refine (HN.out _).mono ?_
  rintro e w4 ⟨rfl, hw4⟩
  obtain rfl := hw4.symm
  have HH := hidMk (H.out (.cells #[.slice (some ⟨g, off + 1, none⟩) len (c1 + 1), .slice na nl nc, .bool false] 59))
  clear c0 c2 hmo hfr hlk t0 t0' HN c0' hmo' hfr' H hw4 hwr
  generalize (W.setCell ⟨gm, om + j, none⟩ (.int .i64 (mo + x))).alloc (.cells #[.slice (some ⟨g, off + 1, none⟩) len (c1 + 1), .slice na nl nc, .bool false] 59) = w4 at *
  have l0 : w4.cell? ⟨W.heap.size, 0, none⟩ = some (.slice (some ⟨g, off + 1, none⟩) len (c1 + 1)) := by rw [cell_of_row w4 _ _ _ _ _ HL.out]; rfl
  have l1 : w4.cell? ⟨W.heap.size, 1, none⟩ = some (.slice na nl nc) := by rw [cell_of_row w4 _ _ _ _ _ HL.out]; rfl
  have l2 : w4.cell? ⟨W.heap.size, 2, none⟩ = some (.bool false) := by rw [cell_of_row w4 _ _ _ _ _ HL.out]; rfl
  have c4 := HC.out
  clear HC
  go_wp2_with (at_builtin; refine wpList_append_seg _ rfl _ _ 22 rfl 3 i0 (.int .i64 0) 1 8 Try.underlying22 hi hz0 hz1 hz2 rfl (by decide) _ _ _ rfl (HG.out.alloc _) ⟨w4.heap.size, 0, none⟩ 1 1 [.int .i64 x] rfl rfl (cell_one_at _ _ _ _ rfl) (one_cell _) (by unfold maxLen; omega) (by omega) ?_)
  intro v3 w3 hs3 hg3
  obtain ⟨a3, c3, rfl⟩ := hs3.form
  have hz4 := HZ.out
  rw [hz4] at hs3
  have hL3 : w3.heap[W.heap.size]? = some (.cells #[.slice (some ⟨g, off + 1, none⟩) len (c1 + 1), .slice na nl nc, .bool false] 59) := by
    rw [hg3.block W.heap.size (by simp; omega) (fun e => by have := hob _ e.symm; omega), al_old _ _ _ (by omega), HL.out]
  have hk3 : Keep (fun g => some g = (Value.slice na nl nc).ownBlock ∨ g = W.heap.size) w4 w3 := ((Keep.refl _ w4).alloc _).grown hg3 (fun k e _ => .inl e.symm)
  have l0 : w3.cell? ⟨W.heap.size, 0, none⟩ = some (.slice (some ⟨g, off + 1, none⟩) len (c1 + 1)) := by rw [cell_of_row w3 _ _ _ _ _ hL3]; rfl
  have l1 : w3.cell? ⟨W.heap.size, 1, none⟩ = some (.slice na nl nc) := by rw [cell_of_row w3 _ _ _ _ _ hL3]; rfl
  have l2 : w3.cell? ⟨W.heap.size, 2, none⟩ = some (.bool false) := by rw [cell_of_row w3 _ _ _ _ _ hL3]; rfl
  have lf : w3.frozen? ⟨W.heap.size, 1, none⟩ = false := frozen_of_row w3 _ _ _ _ hL3
  have c2' : w3.cell? ⟨mb, 2, none⟩ = some (.map (some M)) := (World.cell?_of_block (hk3.block mb (by omega) (fun e => by
    rcases e with e | e
    · exact hno mb (HG.out.block e.symm).1 hlt rfl
    · omega))).trans c4
  have hs4 := hidMk (hs3.keep ((Keep.refl (fun g => g = W.heap.size) w3).setCell W.heap.size 1 (.slice a3 (nl + 1) c3) (fun _ => rfl)) (fun g _ e1 e2 => by
    rcases e1 with ⟨e1, _⟩ | e1
    · have := hob g e1; omega
    · omega))
  have hk4 := hidMk (hk3.setCell W.heap.size 1 (.slice a3 (nl + 1) c3) (fun _ => .inr rfl))
  clear hs3 hg3 hL3 hk3 hz4 HZ HL
  go_wp2
  have n0 : (w3.setCell ⟨W.heap.size, 1, none⟩ (.slice a3 (nl + 1) c3)).cell? ⟨W.heap.size, 0, none⟩ = some (.slice (some ⟨g, off + 1, none⟩) len (c1 + 1)) := by go_simp
  have n1 : (w3.setCell ⟨W.heap.size, 1, none⟩ (.slice a3 (nl + 1) c3)).cell? ⟨W.heap.size, 1, none⟩ = some (.slice a3 (nl + 1) c3) := by go_simp
  have n2 : (w3.setCell ⟨W.heap.size, 1, none⟩ (.slice a3 (nl + 1) c3)).cell? ⟨W.heap.size, 2, none⟩ = some (.bool false) := by go_simp
  have c3' : (w3.setCell ⟨W.heap.size, 1, none⟩ (.slice a3 (nl + 1) c3)).cell? ⟨mb, 2, none⟩ = some (.map (some M)) := (World.cell?_of_block (Below.heap_setCell _ _ _ _ (Nat.ne_of_lt hlt))).trans c2'
  have HW := hidMk (fun m : Nat => HH.out a3 c3 ((w3.setCell ⟨W.heap.size, 1, none⟩ (.slice a3 (nl + 1) c3)).drewN m) (hs4.out.keep ((Keep.refl (fun _ => False) _).drewN m) (fun _ _ _ e => e)) (hk4.out.drewN m))
  clear l0 l1 l2 lf c2' hs4 hk4 HH hob c4
  generalize w3.setCell ⟨W.heap.size, 1, none⟩ (.slice a3 (nl + 1) c3) = w5 at *
  refine wp_region_tail rfl (by kernel_rfl) (by kernel_rfl) (by kernel_rfl) (by kernel_rfl) (by kernel_rfl) rfl ?_
  simp only [List.dropLast]
  repeat (go_big_quiet_step (fail))
  refine wpQuiet_nil ?_
  rintro _ ⟨m, rfl⟩
  obtain ⟨W6, hr, hR⟩ := HW.out m
  go_wp2
  go_end0
  exact ⟨rfl, hR⟩

end Go.Proofs.Ythadhhconkjpmaa
