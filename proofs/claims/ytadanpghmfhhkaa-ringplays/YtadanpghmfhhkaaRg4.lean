/- The ring's moves: checkStep. -/
import Derived.Test.YtadanpghmfhhkaaRg3
import Derived.Test.YtadanpghmfhhkaaR4
namespace Go.Proofs.Ytadanpghmfhhkaa
open Go.RowKit
set_option linter.unusedVariables false

variable {W W2 : World} {mb n : Nat} {nm : Nat → Int} {s : GS} {h h2 : GSh}
set_option maxRecDepth 100000 in
set_option maxHeartbeats 4000000 in
theorem chk_kind (W : World) (mb : Nat) {kd z : Int} (h1 : kd ≠ 1) (h2 : kd ≠ 2) :
    Calls Try.prog 16 #[.pointer (some ⟨mb, 0, none⟩), .agg #[.int .i64 kd, .int .i64 z]] W fun e W2 => e = .returned (.int .i64 4) ∧ Stil W W2 := by
  have e1 : (kd == 1) = false := by simp [h1]
  have e2 : (kd == 2) = false := by simp [h2]
  have e3 : (kd != 1) = true := by simp [h1]
  have e4 : (kd != 2) = true := by simp [h2]
  clear h1 h2
  go_enter Try.func16, Try.ntmps16
  go_wp2
  go_ret
  exact ⟨rfl, (Keep.refl _ W).alloc _⟩
set_option maxRecDepth 100000 in
set_option maxHeartbeats 4000000 in
theorem chk_no1 (m : Gmv W mb n nm s h) {z : Int} (hz : inP n z = false) :
    Calls Try.prog 16 #[.pointer (some ⟨mb, 0, none⟩), .agg #[.int .i64 1, .int .i64 z]] W fun e W2 => e = .returned (.int .i64 2) ∧ Stil W W2 := by
  have m1 := m.alloc (.cells #[.int .i64 1, .int .i64 z] 36)
  obtain ⟨c0, c1, c2, cf⟩ := m1.cells
  by_cases h0 : z < 0
  · have q1 : decide (z < 0) = true := decide_eq_true h0
    clear m m1 c1 c2 cf
    go_enter Try.func16, Try.ntmps16
    go_wp2_with (fail)
    go_quiet (fail)
    go_wp2
    go_ret
    exact ⟨rfl, ((Keep.refl _ W).alloc _).drewN _⟩
  · have q1 : decide (z < 0) = false := decide_eq_false h0
    have q2 : decide ((n : Int) ≤ z) = true := by
      unfold inP at hz
      simp at hz
      exact decide_eq_true (hz (by omega))
    clear m m1 c1 c2 cf hz
    go_enter Try.func16, Try.ntmps16
    go_wp2_with (fail)
    go_quiet (fail)
    go_wp2
    go_ret
    exact ⟨rfl, ((Keep.refl _ W).alloc _).drewN _⟩
set_option maxRecDepth 100000 in
set_option maxHeartbeats 4000000 in
theorem chk_no2 (m : Gmv W mb n nm s h) {z : Int} (hz : inP n z = false) :
    Calls Try.prog 16 #[.pointer (some ⟨mb, 0, none⟩), .agg #[.int .i64 2, .int .i64 z]] W fun e W2 => e = .returned (.int .i64 2) ∧ Stil W W2 := by
  have m1 := m.alloc (.cells #[.int .i64 2, .int .i64 z] 36)
  obtain ⟨c0, c1, c2, cf⟩ := m1.cells
  by_cases h0 : z < 0
  · have q1 : decide (z < 0) = true := decide_eq_true h0
    clear m m1 c1 c2 cf
    go_enter Try.func16, Try.ntmps16
    go_wp2_with (fail)
    go_quiet (fail)
    go_wp2
    go_ret
    exact ⟨rfl, ((Keep.refl _ W).alloc _).drewN _⟩
  · have q1 : decide (z < 0) = false := decide_eq_false h0
    have q2 : decide ((n : Int) ≤ z) = true := by
      unfold inP at hz
      simp at hz
      exact decide_eq_true (hz (by omega))
    clear m m1 c1 c2 cf hz
    go_enter Try.func16, Try.ntmps16
    go_wp2_with (fail)
    go_quiet (fail)
    go_wp2
    go_ret
    exact ⟨rfl, ((Keep.refl _ W).alloc _).drewN _⟩
set_option maxRecDepth 100000 in
set_option maxHeartbeats 4000000 in
theorem chk_b6 (m : Gmv W mb n nm s h) {i : Nat} (hi : i < n) (hn : n ≤ 6) (htp : (s.pr i).tp = true) :
    Calls Try.prog 16 #[.pointer (some ⟨mb, 0, none⟩), .agg #[.int .i64 1, .int .i64 (i : Int)]] W fun e W2 => e = .returned (.int .i64 6) ∧ Stil W W2 := by
  have m1 := m.alloc (.cells #[.int .i64 1, .int .i64 (i : Int)] 36)
  have HK1 : Hid (Stil W (W.alloc (.cells #[.int .i64 1, .int .i64 (i : Int)] 36))) := Stil.new _ _
  obtain ⟨c0, c1, c2, cf⟩ := m1.cells
  obtain ⟨p0, p1, p2, pf⟩ := m1.proc hi
  have hi' : (i : Int) < (n : Int) := by omega
  have q1 : decide ((i : Int) < 0) = false := decide_eq_false (by omega)
  have q2 : decide ((n : Int) ≤ (i : Int)) = false := decide_eq_false (by omega)
  have b0 : (W.alloc (.cells #[.int .i64 1, .int .i64 (i : Int)] 36)).cell? ⟨W.heap.size, 0, none⟩ = some (.int .i64 1) := by go_simp
  have b1 : (W.alloc (.cells #[.int .i64 1, .int .i64 (i : Int)] 36)).cell? ⟨W.heap.size, 1, none⟩ = some (.int .i64 (i : Int)) := by go_simp
  obtain ⟨qa, qc, et⟩ := segForm (m1.co hi)
  rw [et] at p2
  rw [htp] at p1
  clear m m1 c1 c2 cf pf et htp
  generalize (s.pr i).co.length = ql at *
  go_enter Try.func16, Try.ntmps16
  go_wp2_with (fail)
  go_quiet (fail)
  go_wp2_with (fail)
  generalize W.alloc (.cells #[.int .i64 1, .int .i64 (i : Int)] 36) = w0 at *
  generalize W.heap.size = bk at *
  have HK2 := hidMk (Stil.tr HK1.out (Stil.drewN w0 nq))
  have c0' : (w0.drewN nq).cell? ⟨mb, 0, none⟩ = some (.slice (some ⟨h.P, 0, none⟩) n n) := c0
  have p0' : (w0.drewN nq).cell? ⟨h.P, i * 3, none⟩ = some (.int .i64 (nm i)) := p0
  have p1' : (w0.drewN nq).cell? ⟨h.P, i * 3 + 1, none⟩ = some (.bool true) := p1
  have p2' : (w0.drewN nq).cell? ⟨h.P, i * 3 + 2, none⟩ = some (.slice qa ql qc) := p2
  have b0' : (w0.drewN nq).cell? ⟨bk, 0, none⟩ = some (.int .i64 1) := b0
  have b1' : (w0.drewN nq).cell? ⟨bk, 1, none⟩ = some (.int .i64 (i : Int)) := b1
  clear c0 p0 p1 p2 b0 b1 HK1
  generalize w0.drewN nq = w1 at *
  have HC : Hid (∀ w9 : World, Stil w1 w9 → w9.cell? ⟨mb, 0, none⟩ = some (.slice (some ⟨h.P, 0, none⟩) n n) ∧ w9.cell? ⟨h.P, i * 3, none⟩ = some (.int .i64 (nm i)) ∧ w9.cell? ⟨h.P, i * 3 + 1, none⟩ = some (.bool true) ∧ w9.cell? ⟨h.P, i * 3 + 2, none⟩ = some (.slice qa ql qc) ∧ w9.cell? ⟨bk, 0, none⟩ = some (.int .i64 1) ∧ w9.cell? ⟨bk, 1, none⟩ = some (.int .i64 (i : Int))) := fun w9 h9 => ⟨h9.cell c0', h9.cell p0', h9.cell p1', h9.cell p2', h9.cell b0', h9.cell b1'⟩
  have HC0 := hidMk (HC.out _ (stilDrew w1))
  clear c0' p0' p1' p2' b0' b1'
  refine wp_region_class (fun w' => w'.cell? ⟨mb, 0, none⟩ = some (.slice (some ⟨h.P, 0, none⟩) n n) ∧ w'.cell? ⟨h.P, i * 3, none⟩ = some (.int .i64 (nm i)) ∧ w'.cell? ⟨h.P, i * 3 + 1, none⟩ = some (.bool true) ∧ w'.cell? ⟨h.P, i * 3 + 2, none⟩ = some (.slice qa ql qc) ∧ w'.cell? ⟨bk, 0, none⟩ = some (.int .i64 1) ∧ w'.cell? ⟨bk, 1, none⟩ = some (.int .i64 (i : Int))) 9 (by kernel_rfl) ?_
  refine wpAnyC_take (i := 0) (fuel := 9) (v := .pointer (some ⟨mb, 0, none⟩)) rfl (by kernel_rfl) (by kernel_rfl) (by kernel_rfl) (by kernel_rfl) (fun _ _ _ h => h) (.inl ⟨by kernel_rfl, fun w' hC => by obtain ⟨y1, y2, y3, y4, y5, y6⟩ := hC; go_simp⟩) HC0.out ?_
  go_frame
  refine wpAnyC_take (i := 1) (fuel := 8) (v := .pointer (some ⟨mb, 0, none⟩)) rfl (by kernel_rfl) (by kernel_rfl) (by kernel_rfl) (by kernel_rfl) (fun _ _ _ h => h) (.inl ⟨by kernel_rfl, fun w' hC => by obtain ⟨y1, y2, y3, y4, y5, y6⟩ := hC; go_simp⟩) HC0.out ?_
  go_frame
  refine wpAnyC_take (i := 2) (fuel := 7) (v := .pointer (some ⟨mb, 0, none⟩)) rfl (by kernel_rfl) (by kernel_rfl) (by kernel_rfl) (by kernel_rfl) (fun _ _ _ h => h) (.inl ⟨by kernel_rfl, fun w' hC => by obtain ⟨y1, y2, y3, y4, y5, y6⟩ := hC; go_simp⟩) HC0.out ?_
  go_frame
  refine wpAnyC_take (i := 3) (fuel := 6) (v := .slice (some ⟨h.P, 0, none⟩) n n) rfl (by kernel_rfl) (by kernel_rfl) (by kernel_rfl) (by kernel_rfl) (fun _ _ _ h => h) (.inl ⟨by kernel_rfl, fun w' hC => by obtain ⟨y1, y2, y3, y4, y5, y6⟩ := hC; go_simp⟩) HC0.out ?_
  go_frame
  refine wpAnyC_take (i := 4) (fuel := 5) (v := .pointer (some ⟨bk, 1, none⟩)) rfl (by kernel_rfl) (by kernel_rfl) (by kernel_rfl) (by kernel_rfl) (fun _ _ _ h => h) (.inl ⟨by kernel_rfl, fun w' hC => by obtain ⟨y1, y2, y3, y4, y5, y6⟩ := hC; go_simp⟩) HC0.out ?_
  go_frame
  refine wpAnyC_take (i := 5) (fuel := 4) (v := .int .i64 (i : Int)) rfl (by kernel_rfl) (by kernel_rfl) (by kernel_rfl) (by kernel_rfl) (fun _ _ _ h => h) (.inl ⟨by kernel_rfl, fun w' hC => by obtain ⟨y1, y2, y3, y4, y5, y6⟩ := hC; go_simp⟩) HC0.out ?_
  go_frame
  refine wpAnyC_take (i := 6) (fuel := 3) (v := .pointer (some ⟨h.P, i * 3, none⟩)) rfl (by kernel_rfl) (by kernel_rfl) (by kernel_rfl) (by kernel_rfl) (fun _ _ _ h => h) (.inl ⟨by kernel_rfl, fun w' hC => by obtain ⟨y1, y2, y3, y4, y5, y6⟩ := hC; go_simp⟩) HC0.out ?_
  go_frame
  refine wpAnyC_take (i := 7) (fuel := 2) (v := .agg #[.int .i64 (nm i), .bool true, .slice qa ql qc]) rfl (by kernel_rfl) (by kernel_rfl) (by kernel_rfl) (by kernel_rfl) (fun _ _ _ h => h) (.inl ⟨by kernel_rfl, fun w' hC => by obtain ⟨y1, y2, y3, y4, y5, y6⟩ := hC; go_simp⟩) HC0.out ?_
  go_frame
  refine wpAnyC_one 8 (fuel := 1) (by kernel_rfl) rfl rfl (fun K4 hK4 => ?_)
  go_wp2
  refine ⟨fun _ => HC.out _ ((stilDrew w1).alloc _), ?_⟩
  refine wpAnyC_one 9 (fuel := 0) (by kernel_rfl) rfl rfl (fun K5 hK5 => ?_)
  go_wp2
  refine ⟨fun h => absurd rfl h, ?_⟩
  refine wpAnyC_done (by kernel_rfl) ?_
  show Exit.then _ _ Exit.normal _ _
  have HK3 : Hid (Stil w1 ((w1.alloc (.cells #[.int .i64 (nm i), .bool true, .slice qa ql qc] 45)).drew)) := ((Keep.refl _ w1).alloc _).drew
  obtain ⟨z0, z1, z2, z3, z4, z5⟩ := HC.out _ HK3.out
  have hb : ((w1.alloc (.cells #[.int .i64 (nm i), .bool true, .slice qa ql qc] 45)).drew).heap[w1.heap.size]? = some (.cells #[.int .i64 (nm i), .bool true, .slice qa ql qc] 45 (0, 0)) := al_new w1 _
  have y1 := (cell_of_row _ w1.heap.size 1 _ _ _ hb).trans rfl
  have y2 := (cell_of_row _ w1.heap.size 2 _ _ _ hb).trans rfl
  clear hb HC HC0
  generalize (w1.alloc (.cells #[.int .i64 (nm i), .bool true, .slice qa ql qc] 45)).drew = w2 at *
  generalize w1.heap.size = pb at *
  go_wp2
  go_ret
  exact ⟨rfl, Stil.tr HK2.out HK3.out⟩
set_option maxRecDepth 100000 in
set_option maxHeartbeats 4000000 in
theorem chk_b0 (m : Gmv W mb n nm s h) {i : Nat} (hi : i < n) (hn : n ≤ 6) (htp : (s.pr i).tp = false) :
    Calls Try.prog 16 #[.pointer (some ⟨mb, 0, none⟩), .agg #[.int .i64 1, .int .i64 (i : Int)]] W fun e W2 => e = .returned (.int .i64 0) ∧ Stil W W2 := by
  have m1 := m.alloc (.cells #[.int .i64 1, .int .i64 (i : Int)] 36)
  have HK1 : Hid (Stil W (W.alloc (.cells #[.int .i64 1, .int .i64 (i : Int)] 36))) := Stil.new _ _
  obtain ⟨c0, c1, c2, cf⟩ := m1.cells
  obtain ⟨p0, p1, p2, pf⟩ := m1.proc hi
  have hi' : (i : Int) < (n : Int) := by omega
  have q1 : decide ((i : Int) < 0) = false := decide_eq_false (by omega)
  have q2 : decide ((n : Int) ≤ (i : Int)) = false := decide_eq_false (by omega)
  have b0 : (W.alloc (.cells #[.int .i64 1, .int .i64 (i : Int)] 36)).cell? ⟨W.heap.size, 0, none⟩ = some (.int .i64 1) := by go_simp
  have b1 : (W.alloc (.cells #[.int .i64 1, .int .i64 (i : Int)] 36)).cell? ⟨W.heap.size, 1, none⟩ = some (.int .i64 (i : Int)) := by go_simp
  obtain ⟨qa, qc, et⟩ := segForm (m1.co hi)
  rw [et] at p2
  rw [htp] at p1
  clear m m1 c1 c2 cf pf et htp
  generalize (s.pr i).co.length = ql at *
  go_enter Try.func16, Try.ntmps16
  go_wp2_with (fail)
  go_quiet (fail)
  go_wp2_with (fail)
  generalize W.alloc (.cells #[.int .i64 1, .int .i64 (i : Int)] 36) = w0 at *
  generalize W.heap.size = bk at *
  have HK2 := hidMk (Stil.tr HK1.out (Stil.drewN w0 nq))
  have c0' : (w0.drewN nq).cell? ⟨mb, 0, none⟩ = some (.slice (some ⟨h.P, 0, none⟩) n n) := c0
  have p0' : (w0.drewN nq).cell? ⟨h.P, i * 3, none⟩ = some (.int .i64 (nm i)) := p0
  have p1' : (w0.drewN nq).cell? ⟨h.P, i * 3 + 1, none⟩ = some (.bool false) := p1
  have p2' : (w0.drewN nq).cell? ⟨h.P, i * 3 + 2, none⟩ = some (.slice qa ql qc) := p2
  have b0' : (w0.drewN nq).cell? ⟨bk, 0, none⟩ = some (.int .i64 1) := b0
  have b1' : (w0.drewN nq).cell? ⟨bk, 1, none⟩ = some (.int .i64 (i : Int)) := b1
  clear c0 p0 p1 p2 b0 b1 HK1
  generalize w0.drewN nq = w1 at *
  have HC : Hid (∀ w9 : World, Stil w1 w9 → w9.cell? ⟨mb, 0, none⟩ = some (.slice (some ⟨h.P, 0, none⟩) n n) ∧ w9.cell? ⟨h.P, i * 3, none⟩ = some (.int .i64 (nm i)) ∧ w9.cell? ⟨h.P, i * 3 + 1, none⟩ = some (.bool false) ∧ w9.cell? ⟨h.P, i * 3 + 2, none⟩ = some (.slice qa ql qc) ∧ w9.cell? ⟨bk, 0, none⟩ = some (.int .i64 1) ∧ w9.cell? ⟨bk, 1, none⟩ = some (.int .i64 (i : Int))) := fun w9 h9 => ⟨h9.cell c0', h9.cell p0', h9.cell p1', h9.cell p2', h9.cell b0', h9.cell b1'⟩
  have HC0 := hidMk (HC.out _ (stilDrew w1))
  clear c0' p0' p1' p2' b0' b1'
  refine wp_region_class (fun w' => w'.cell? ⟨mb, 0, none⟩ = some (.slice (some ⟨h.P, 0, none⟩) n n) ∧ w'.cell? ⟨h.P, i * 3, none⟩ = some (.int .i64 (nm i)) ∧ w'.cell? ⟨h.P, i * 3 + 1, none⟩ = some (.bool false) ∧ w'.cell? ⟨h.P, i * 3 + 2, none⟩ = some (.slice qa ql qc) ∧ w'.cell? ⟨bk, 0, none⟩ = some (.int .i64 1) ∧ w'.cell? ⟨bk, 1, none⟩ = some (.int .i64 (i : Int))) 9 (by kernel_rfl) ?_
  refine wpAnyC_take (i := 0) (fuel := 9) (v := .pointer (some ⟨mb, 0, none⟩)) rfl (by kernel_rfl) (by kernel_rfl) (by kernel_rfl) (by kernel_rfl) (fun _ _ _ h => h) (.inl ⟨by kernel_rfl, fun w' hC => by obtain ⟨y1, y2, y3, y4, y5, y6⟩ := hC; go_simp⟩) HC0.out ?_
  go_frame
  refine wpAnyC_take (i := 1) (fuel := 8) (v := .pointer (some ⟨mb, 0, none⟩)) rfl (by kernel_rfl) (by kernel_rfl) (by kernel_rfl) (by kernel_rfl) (fun _ _ _ h => h) (.inl ⟨by kernel_rfl, fun w' hC => by obtain ⟨y1, y2, y3, y4, y5, y6⟩ := hC; go_simp⟩) HC0.out ?_
  go_frame
  refine wpAnyC_take (i := 2) (fuel := 7) (v := .pointer (some ⟨mb, 0, none⟩)) rfl (by kernel_rfl) (by kernel_rfl) (by kernel_rfl) (by kernel_rfl) (fun _ _ _ h => h) (.inl ⟨by kernel_rfl, fun w' hC => by obtain ⟨y1, y2, y3, y4, y5, y6⟩ := hC; go_simp⟩) HC0.out ?_
  go_frame
  refine wpAnyC_take (i := 3) (fuel := 6) (v := .slice (some ⟨h.P, 0, none⟩) n n) rfl (by kernel_rfl) (by kernel_rfl) (by kernel_rfl) (by kernel_rfl) (fun _ _ _ h => h) (.inl ⟨by kernel_rfl, fun w' hC => by obtain ⟨y1, y2, y3, y4, y5, y6⟩ := hC; go_simp⟩) HC0.out ?_
  go_frame
  refine wpAnyC_take (i := 4) (fuel := 5) (v := .pointer (some ⟨bk, 1, none⟩)) rfl (by kernel_rfl) (by kernel_rfl) (by kernel_rfl) (by kernel_rfl) (fun _ _ _ h => h) (.inl ⟨by kernel_rfl, fun w' hC => by obtain ⟨y1, y2, y3, y4, y5, y6⟩ := hC; go_simp⟩) HC0.out ?_
  go_frame
  refine wpAnyC_take (i := 5) (fuel := 4) (v := .int .i64 (i : Int)) rfl (by kernel_rfl) (by kernel_rfl) (by kernel_rfl) (by kernel_rfl) (fun _ _ _ h => h) (.inl ⟨by kernel_rfl, fun w' hC => by obtain ⟨y1, y2, y3, y4, y5, y6⟩ := hC; go_simp⟩) HC0.out ?_
  go_frame
  refine wpAnyC_take (i := 6) (fuel := 3) (v := .pointer (some ⟨h.P, i * 3, none⟩)) rfl (by kernel_rfl) (by kernel_rfl) (by kernel_rfl) (by kernel_rfl) (fun _ _ _ h => h) (.inl ⟨by kernel_rfl, fun w' hC => by obtain ⟨y1, y2, y3, y4, y5, y6⟩ := hC; go_simp⟩) HC0.out ?_
  go_frame
  refine wpAnyC_take (i := 7) (fuel := 2) (v := .agg #[.int .i64 (nm i), .bool false, .slice qa ql qc]) rfl (by kernel_rfl) (by kernel_rfl) (by kernel_rfl) (by kernel_rfl) (fun _ _ _ h => h) (.inl ⟨by kernel_rfl, fun w' hC => by obtain ⟨y1, y2, y3, y4, y5, y6⟩ := hC; go_simp⟩) HC0.out ?_
  go_frame
  refine wpAnyC_one 8 (fuel := 1) (by kernel_rfl) rfl rfl (fun K4 hK4 => ?_)
  go_wp2
  refine ⟨fun _ => HC.out _ ((stilDrew w1).alloc _), ?_⟩
  refine wpAnyC_one 9 (fuel := 0) (by kernel_rfl) rfl rfl (fun K5 hK5 => ?_)
  go_wp2
  refine ⟨fun h => absurd rfl h, ?_⟩
  refine wpAnyC_done (by kernel_rfl) ?_
  show Exit.then _ _ Exit.normal _ _
  have HK3 : Hid (Stil w1 ((w1.alloc (.cells #[.int .i64 (nm i), .bool false, .slice qa ql qc] 45)).drew)) := ((Keep.refl _ w1).alloc _).drew
  obtain ⟨z0, z1, z2, z3, z4, z5⟩ := HC.out _ HK3.out
  have hb : ((w1.alloc (.cells #[.int .i64 (nm i), .bool false, .slice qa ql qc] 45)).drew).heap[w1.heap.size]? = some (.cells #[.int .i64 (nm i), .bool false, .slice qa ql qc] 45 (0, 0)) := al_new w1 _
  have y1 := (cell_of_row _ w1.heap.size 1 _ _ _ hb).trans rfl
  have y2 := (cell_of_row _ w1.heap.size 2 _ _ _ hb).trans rfl
  clear hb HC HC0
  generalize (w1.alloc (.cells #[.int .i64 (nm i), .bool false, .slice qa ql qc] 45)).drew = w2 at *
  generalize w1.heap.size = pb at *
  go_wp2
  go_ret
  exact ⟨rfl, Stil.tr HK2.out HK3.out⟩
set_option maxRecDepth 100000 in
set_option maxHeartbeats 4000000 in
theorem chk_t5 (m : Gmv W mb n nm s h) {i : Nat} (hi : i < n) (hn : n ≤ 6) (hco : (s.pr i).co = []) :
    Calls Try.prog 16 #[.pointer (some ⟨mb, 0, none⟩), .agg #[.int .i64 2, .int .i64 (i : Int)]] W fun e W2 => e = .returned (.int .i64 5) ∧ Stil W W2 := by
  have m1 := m.alloc (.cells #[.int .i64 2, .int .i64 (i : Int)] 36)
  have HK1 : Hid (Stil W (W.alloc (.cells #[.int .i64 2, .int .i64 (i : Int)] 36))) := Stil.new _ _
  obtain ⟨c0, c1, c2, cf⟩ := m1.cells
  obtain ⟨p0, p1, p2, pf⟩ := m1.proc hi
  have hi' : (i : Int) < (n : Int) := by omega
  have q1 : decide ((i : Int) < 0) = false := decide_eq_false (by omega)
  have q2 : decide ((n : Int) ≤ (i : Int)) = false := decide_eq_false (by omega)
  have b0 : (W.alloc (.cells #[.int .i64 2, .int .i64 (i : Int)] 36)).cell? ⟨W.heap.size, 0, none⟩ = some (.int .i64 2) := by go_simp
  have b1 : (W.alloc (.cells #[.int .i64 2, .int .i64 (i : Int)] 36)).cell? ⟨W.heap.size, 1, none⟩ = some (.int .i64 (i : Int)) := by go_simp
  obtain ⟨qa, qc, et⟩ := segForm (m1.co hi)
  rw [et] at p2
  have hl0 : (((s.pr i).co.length : Nat) : Int) = 0 := by rw [hco]; rfl
  have hl1 : ((((s.pr i).co.length : Nat) : Int) == 0) = true := by rw [hl0]; rfl
  clear m m1 c1 c2 cf pf et hco
  generalize (s.pr i).co.length = ql at *
  have hl2 : ql = 0 := by omega
  subst hl2
  clear hl0
  generalize (s.pr i).tp = tp at *
  go_enter Try.func16, Try.ntmps16
  go_wp2_with (fail)
  go_quiet (fail)
  go_wp2_with (fail)
  generalize W.alloc (.cells #[.int .i64 2, .int .i64 (i : Int)] 36) = w0 at *
  generalize W.heap.size = bk at *
  have HK2 := hidMk (Stil.tr HK1.out (Stil.drewN w0 nq))
  have c0' : (w0.drewN nq).cell? ⟨mb, 0, none⟩ = some (.slice (some ⟨h.P, 0, none⟩) n n) := c0
  have p0' : (w0.drewN nq).cell? ⟨h.P, i * 3, none⟩ = some (.int .i64 (nm i)) := p0
  have p1' : (w0.drewN nq).cell? ⟨h.P, i * 3 + 1, none⟩ = some (.bool tp) := p1
  have p2' : (w0.drewN nq).cell? ⟨h.P, i * 3 + 2, none⟩ = some (.slice qa 0 qc) := p2
  have b0' : (w0.drewN nq).cell? ⟨bk, 0, none⟩ = some (.int .i64 2) := b0
  have b1' : (w0.drewN nq).cell? ⟨bk, 1, none⟩ = some (.int .i64 (i : Int)) := b1
  clear c0 p0 p1 p2 b0 b1 HK1
  generalize w0.drewN nq = w1 at *
  have HC : Hid (∀ w9 : World, Stil w1 w9 → w9.cell? ⟨mb, 0, none⟩ = some (.slice (some ⟨h.P, 0, none⟩) n n) ∧ w9.cell? ⟨h.P, i * 3, none⟩ = some (.int .i64 (nm i)) ∧ w9.cell? ⟨h.P, i * 3 + 1, none⟩ = some (.bool tp) ∧ w9.cell? ⟨h.P, i * 3 + 2, none⟩ = some (.slice qa 0 qc) ∧ w9.cell? ⟨bk, 0, none⟩ = some (.int .i64 2) ∧ w9.cell? ⟨bk, 1, none⟩ = some (.int .i64 (i : Int))) := fun w9 h9 => ⟨h9.cell c0', h9.cell p0', h9.cell p1', h9.cell p2', h9.cell b0', h9.cell b1'⟩
  have HC0 := hidMk (HC.out _ (stilDrew w1))
  clear c0' p0' p1' p2' b0' b1'
  refine wp_region_class (fun w' => w'.cell? ⟨mb, 0, none⟩ = some (.slice (some ⟨h.P, 0, none⟩) n n) ∧ w'.cell? ⟨h.P, i * 3, none⟩ = some (.int .i64 (nm i)) ∧ w'.cell? ⟨h.P, i * 3 + 1, none⟩ = some (.bool tp) ∧ w'.cell? ⟨h.P, i * 3 + 2, none⟩ = some (.slice qa 0 qc) ∧ w'.cell? ⟨bk, 0, none⟩ = some (.int .i64 2) ∧ w'.cell? ⟨bk, 1, none⟩ = some (.int .i64 (i : Int))) 9 (by kernel_rfl) ?_
  refine wpAnyC_take (i := 0) (fuel := 9) (v := .pointer (some ⟨mb, 0, none⟩)) rfl (by kernel_rfl) (by kernel_rfl) (by kernel_rfl) (by kernel_rfl) (fun _ _ _ h => h) (.inl ⟨by kernel_rfl, fun w' hC => by obtain ⟨y1, y2, y3, y4, y5, y6⟩ := hC; go_simp⟩) HC0.out ?_
  go_frame
  refine wpAnyC_take (i := 1) (fuel := 8) (v := .pointer (some ⟨mb, 0, none⟩)) rfl (by kernel_rfl) (by kernel_rfl) (by kernel_rfl) (by kernel_rfl) (fun _ _ _ h => h) (.inl ⟨by kernel_rfl, fun w' hC => by obtain ⟨y1, y2, y3, y4, y5, y6⟩ := hC; go_simp⟩) HC0.out ?_
  go_frame
  refine wpAnyC_take (i := 2) (fuel := 7) (v := .pointer (some ⟨mb, 0, none⟩)) rfl (by kernel_rfl) (by kernel_rfl) (by kernel_rfl) (by kernel_rfl) (fun _ _ _ h => h) (.inl ⟨by kernel_rfl, fun w' hC => by obtain ⟨y1, y2, y3, y4, y5, y6⟩ := hC; go_simp⟩) HC0.out ?_
  go_frame
  refine wpAnyC_take (i := 3) (fuel := 6) (v := .slice (some ⟨h.P, 0, none⟩) n n) rfl (by kernel_rfl) (by kernel_rfl) (by kernel_rfl) (by kernel_rfl) (fun _ _ _ h => h) (.inl ⟨by kernel_rfl, fun w' hC => by obtain ⟨y1, y2, y3, y4, y5, y6⟩ := hC; go_simp⟩) HC0.out ?_
  go_frame
  refine wpAnyC_take (i := 4) (fuel := 5) (v := .pointer (some ⟨bk, 1, none⟩)) rfl (by kernel_rfl) (by kernel_rfl) (by kernel_rfl) (by kernel_rfl) (fun _ _ _ h => h) (.inl ⟨by kernel_rfl, fun w' hC => by obtain ⟨y1, y2, y3, y4, y5, y6⟩ := hC; go_simp⟩) HC0.out ?_
  go_frame
  refine wpAnyC_take (i := 5) (fuel := 4) (v := .int .i64 (i : Int)) rfl (by kernel_rfl) (by kernel_rfl) (by kernel_rfl) (by kernel_rfl) (fun _ _ _ h => h) (.inl ⟨by kernel_rfl, fun w' hC => by obtain ⟨y1, y2, y3, y4, y5, y6⟩ := hC; go_simp⟩) HC0.out ?_
  go_frame
  refine wpAnyC_take (i := 6) (fuel := 3) (v := .pointer (some ⟨h.P, i * 3, none⟩)) rfl (by kernel_rfl) (by kernel_rfl) (by kernel_rfl) (by kernel_rfl) (fun _ _ _ h => h) (.inl ⟨by kernel_rfl, fun w' hC => by obtain ⟨y1, y2, y3, y4, y5, y6⟩ := hC; go_simp⟩) HC0.out ?_
  go_frame
  refine wpAnyC_take (i := 7) (fuel := 2) (v := .agg #[.int .i64 (nm i), .bool tp, .slice qa 0 qc]) rfl (by kernel_rfl) (by kernel_rfl) (by kernel_rfl) (by kernel_rfl) (fun _ _ _ h => h) (.inl ⟨by kernel_rfl, fun w' hC => by obtain ⟨y1, y2, y3, y4, y5, y6⟩ := hC; go_simp⟩) HC0.out ?_
  go_frame
  refine wpAnyC_one 8 (fuel := 1) (by kernel_rfl) rfl rfl (fun K4 hK4 => ?_)
  go_wp2
  refine ⟨fun _ => HC.out _ ((stilDrew w1).alloc _), ?_⟩
  refine wpAnyC_one 9 (fuel := 0) (by kernel_rfl) rfl rfl (fun K5 hK5 => ?_)
  go_wp2
  refine ⟨fun h => absurd rfl h, ?_⟩
  refine wpAnyC_done (by kernel_rfl) ?_
  show Exit.then _ _ Exit.normal _ _
  have HK3 : Hid (Stil w1 ((w1.alloc (.cells #[.int .i64 (nm i), .bool tp, .slice qa 0 qc] 45)).drew)) := ((Keep.refl _ w1).alloc _).drew
  obtain ⟨z0, z1, z2, z3, z4, z5⟩ := HC.out _ HK3.out
  have hb : ((w1.alloc (.cells #[.int .i64 (nm i), .bool tp, .slice qa 0 qc] 45)).drew).heap[w1.heap.size]? = some (.cells #[.int .i64 (nm i), .bool tp, .slice qa 0 qc] 45 (0, 0)) := al_new w1 _
  have y1 := (cell_of_row _ w1.heap.size 1 _ _ _ hb).trans rfl
  have y2 := (cell_of_row _ w1.heap.size 2 _ _ _ hb).trans rfl
  clear hb HC HC0
  generalize (w1.alloc (.cells #[.int .i64 (nm i), .bool tp, .slice qa 0 qc] 45)).drew = w2 at *
  generalize w1.heap.size = pb at *
  go_wp2
  go_ret
  exact ⟨rfl, Stil.tr HK2.out HK3.out⟩
set_option maxRecDepth 100000 in
set_option maxHeartbeats 4000000 in
theorem chk_t0 (m : Gmv W mb n nm s h) {i : Nat} (hi : i < n) (hn : n ≤ 6) (hco : (s.pr i).co ≠ []) :
    Calls Try.prog 16 #[.pointer (some ⟨mb, 0, none⟩), .agg #[.int .i64 2, .int .i64 (i : Int)]] W fun e W2 => e = .returned (.int .i64 0) ∧ Stil W W2 := by
  have m1 := m.alloc (.cells #[.int .i64 2, .int .i64 (i : Int)] 36)
  have HK1 : Hid (Stil W (W.alloc (.cells #[.int .i64 2, .int .i64 (i : Int)] 36))) := Stil.new _ _
  obtain ⟨c0, c1, c2, cf⟩ := m1.cells
  obtain ⟨p0, p1, p2, pf⟩ := m1.proc hi
  have hi' : (i : Int) < (n : Int) := by omega
  have q1 : decide ((i : Int) < 0) = false := decide_eq_false (by omega)
  have q2 : decide ((n : Int) ≤ (i : Int)) = false := decide_eq_false (by omega)
  have b0 : (W.alloc (.cells #[.int .i64 2, .int .i64 (i : Int)] 36)).cell? ⟨W.heap.size, 0, none⟩ = some (.int .i64 2) := by go_simp
  have b1 : (W.alloc (.cells #[.int .i64 2, .int .i64 (i : Int)] 36)).cell? ⟨W.heap.size, 1, none⟩ = some (.int .i64 (i : Int)) := by go_simp
  obtain ⟨qa, qc, et⟩ := segForm (m1.co hi)
  rw [et] at p2
  have hl1 : ((((s.pr i).co.length : Nat) : Int) == 0) = false := by
    rw [beq_eq_false_iff_ne]
    have := List.length_pos_iff.2 hco
    omega
  clear m m1 c1 c2 cf pf et hco
  generalize (s.pr i).co.length = ql at *
  generalize (s.pr i).tp = tp at *
  go_enter Try.func16, Try.ntmps16
  go_wp2_with (fail)
  go_quiet (fail)
  go_wp2_with (fail)
  generalize W.alloc (.cells #[.int .i64 2, .int .i64 (i : Int)] 36) = w0 at *
  generalize W.heap.size = bk at *
  have HK2 := hidMk (Stil.tr HK1.out (Stil.drewN w0 nq))
  have c0' : (w0.drewN nq).cell? ⟨mb, 0, none⟩ = some (.slice (some ⟨h.P, 0, none⟩) n n) := c0
  have p0' : (w0.drewN nq).cell? ⟨h.P, i * 3, none⟩ = some (.int .i64 (nm i)) := p0
  have p1' : (w0.drewN nq).cell? ⟨h.P, i * 3 + 1, none⟩ = some (.bool tp) := p1
  have p2' : (w0.drewN nq).cell? ⟨h.P, i * 3 + 2, none⟩ = some (.slice qa ql qc) := p2
  have b0' : (w0.drewN nq).cell? ⟨bk, 0, none⟩ = some (.int .i64 2) := b0
  have b1' : (w0.drewN nq).cell? ⟨bk, 1, none⟩ = some (.int .i64 (i : Int)) := b1
  clear c0 p0 p1 p2 b0 b1 HK1
  generalize w0.drewN nq = w1 at *
  have HC : Hid (∀ w9 : World, Stil w1 w9 → w9.cell? ⟨mb, 0, none⟩ = some (.slice (some ⟨h.P, 0, none⟩) n n) ∧ w9.cell? ⟨h.P, i * 3, none⟩ = some (.int .i64 (nm i)) ∧ w9.cell? ⟨h.P, i * 3 + 1, none⟩ = some (.bool tp) ∧ w9.cell? ⟨h.P, i * 3 + 2, none⟩ = some (.slice qa ql qc) ∧ w9.cell? ⟨bk, 0, none⟩ = some (.int .i64 2) ∧ w9.cell? ⟨bk, 1, none⟩ = some (.int .i64 (i : Int))) := fun w9 h9 => ⟨h9.cell c0', h9.cell p0', h9.cell p1', h9.cell p2', h9.cell b0', h9.cell b1'⟩
  have HC0 := hidMk (HC.out _ (stilDrew w1))
  clear c0' p0' p1' p2' b0' b1'
  refine wp_region_class (fun w' => w'.cell? ⟨mb, 0, none⟩ = some (.slice (some ⟨h.P, 0, none⟩) n n) ∧ w'.cell? ⟨h.P, i * 3, none⟩ = some (.int .i64 (nm i)) ∧ w'.cell? ⟨h.P, i * 3 + 1, none⟩ = some (.bool tp) ∧ w'.cell? ⟨h.P, i * 3 + 2, none⟩ = some (.slice qa ql qc) ∧ w'.cell? ⟨bk, 0, none⟩ = some (.int .i64 2) ∧ w'.cell? ⟨bk, 1, none⟩ = some (.int .i64 (i : Int))) 9 (by kernel_rfl) ?_
  refine wpAnyC_take (i := 0) (fuel := 9) (v := .pointer (some ⟨mb, 0, none⟩)) rfl (by kernel_rfl) (by kernel_rfl) (by kernel_rfl) (by kernel_rfl) (fun _ _ _ h => h) (.inl ⟨by kernel_rfl, fun w' hC => by obtain ⟨y1, y2, y3, y4, y5, y6⟩ := hC; go_simp⟩) HC0.out ?_
  go_frame
  refine wpAnyC_take (i := 1) (fuel := 8) (v := .pointer (some ⟨mb, 0, none⟩)) rfl (by kernel_rfl) (by kernel_rfl) (by kernel_rfl) (by kernel_rfl) (fun _ _ _ h => h) (.inl ⟨by kernel_rfl, fun w' hC => by obtain ⟨y1, y2, y3, y4, y5, y6⟩ := hC; go_simp⟩) HC0.out ?_
  go_frame
  refine wpAnyC_take (i := 2) (fuel := 7) (v := .pointer (some ⟨mb, 0, none⟩)) rfl (by kernel_rfl) (by kernel_rfl) (by kernel_rfl) (by kernel_rfl) (fun _ _ _ h => h) (.inl ⟨by kernel_rfl, fun w' hC => by obtain ⟨y1, y2, y3, y4, y5, y6⟩ := hC; go_simp⟩) HC0.out ?_
  go_frame
  refine wpAnyC_take (i := 3) (fuel := 6) (v := .slice (some ⟨h.P, 0, none⟩) n n) rfl (by kernel_rfl) (by kernel_rfl) (by kernel_rfl) (by kernel_rfl) (fun _ _ _ h => h) (.inl ⟨by kernel_rfl, fun w' hC => by obtain ⟨y1, y2, y3, y4, y5, y6⟩ := hC; go_simp⟩) HC0.out ?_
  go_frame
  refine wpAnyC_take (i := 4) (fuel := 5) (v := .pointer (some ⟨bk, 1, none⟩)) rfl (by kernel_rfl) (by kernel_rfl) (by kernel_rfl) (by kernel_rfl) (fun _ _ _ h => h) (.inl ⟨by kernel_rfl, fun w' hC => by obtain ⟨y1, y2, y3, y4, y5, y6⟩ := hC; go_simp⟩) HC0.out ?_
  go_frame
  refine wpAnyC_take (i := 5) (fuel := 4) (v := .int .i64 (i : Int)) rfl (by kernel_rfl) (by kernel_rfl) (by kernel_rfl) (by kernel_rfl) (fun _ _ _ h => h) (.inl ⟨by kernel_rfl, fun w' hC => by obtain ⟨y1, y2, y3, y4, y5, y6⟩ := hC; go_simp⟩) HC0.out ?_
  go_frame
  refine wpAnyC_take (i := 6) (fuel := 3) (v := .pointer (some ⟨h.P, i * 3, none⟩)) rfl (by kernel_rfl) (by kernel_rfl) (by kernel_rfl) (by kernel_rfl) (fun _ _ _ h => h) (.inl ⟨by kernel_rfl, fun w' hC => by obtain ⟨y1, y2, y3, y4, y5, y6⟩ := hC; go_simp⟩) HC0.out ?_
  go_frame
  refine wpAnyC_take (i := 7) (fuel := 2) (v := .agg #[.int .i64 (nm i), .bool tp, .slice qa ql qc]) rfl (by kernel_rfl) (by kernel_rfl) (by kernel_rfl) (by kernel_rfl) (fun _ _ _ h => h) (.inl ⟨by kernel_rfl, fun w' hC => by obtain ⟨y1, y2, y3, y4, y5, y6⟩ := hC; go_simp⟩) HC0.out ?_
  go_frame
  refine wpAnyC_one 8 (fuel := 1) (by kernel_rfl) rfl rfl (fun K4 hK4 => ?_)
  go_wp2
  refine ⟨fun _ => HC.out _ ((stilDrew w1).alloc _), ?_⟩
  refine wpAnyC_one 9 (fuel := 0) (by kernel_rfl) rfl rfl (fun K5 hK5 => ?_)
  go_wp2
  refine ⟨fun h => absurd rfl h, ?_⟩
  refine wpAnyC_done (by kernel_rfl) ?_
  show Exit.then _ _ Exit.normal _ _
  have HK3 : Hid (Stil w1 ((w1.alloc (.cells #[.int .i64 (nm i), .bool tp, .slice qa ql qc] 45)).drew)) := ((Keep.refl _ w1).alloc _).drew
  obtain ⟨z0, z1, z2, z3, z4, z5⟩ := HC.out _ HK3.out
  have hb : ((w1.alloc (.cells #[.int .i64 (nm i), .bool tp, .slice qa ql qc] 45)).drew).heap[w1.heap.size]? = some (.cells #[.int .i64 (nm i), .bool tp, .slice qa ql qc] 45 (0, 0)) := al_new w1 _
  have y1 := (cell_of_row _ w1.heap.size 1 _ _ _ hb).trans rfl
  have y2 := (cell_of_row _ w1.heap.size 2 _ _ _ hb).trans rfl
  clear hb HC HC0
  generalize (w1.alloc (.cells #[.int .i64 (nm i), .bool tp, .slice qa ql qc] 45)).drew = w2 at *
  generalize w1.heap.size = pb at *
  go_wp2
  go_ret
  exact ⟨rfl, Stil.tr HK2.out HK3.out⟩
theorem check_step (m : Gmv W mb n nm s h) (hn : n ≤ 6) (p : Tu) :
    Calls Try.prog 16 #[.pointer (some ⟨mb, 0, none⟩), .agg #[.int .i64 p.kind, .int .i64 p.who]] W fun e W2 => e = .returned (.int .i64 (codeG n s p)) ∧ Stil W W2 := by
  obtain ⟨kd, z⟩ := p
  unfold codeG
  simp only
  by_cases hk : kd ≠ 1 ∧ kd ≠ 2
  · rw [if_pos hk]; exact chk_kind W mb hk.1 hk.2
  · rw [if_neg hk]
    by_cases hz : inP n z = true
    · rw [if_neg (by rw [hz]; simp)]
      obtain ⟨e, hl⟩ := inP_natG hz
      generalize z.toNat = i at *
      subst e
      by_cases h1 : kd = 1
      · subst h1
        rw [if_pos rfl]
        cases htp : (s.pr i).tp with
        | true => exact chk_b6 m hl hn htp
        | false => exact chk_b0 m hl hn htp
      · have h2 : kd = 2 := by omega
        subst h2
        rw [if_neg (by omega)]
        by_cases hc : (s.pr i).co = []
        · rw [if_pos hc]; exact chk_t5 m hl hn hc
        · rw [if_neg hc]; exact chk_t0 m hl hn hc
    · have hz2 : inP n z = false := by simpa using hz
      rw [if_pos hz2]
      by_cases h1 : kd = 1
      · subst h1; exact chk_no1 m hz2
      · have h2 : kd = 2 := by omega
        subst h2; exact chk_no2 m hz2
end Go.Proofs.Ytadanpghmfhhkaa
