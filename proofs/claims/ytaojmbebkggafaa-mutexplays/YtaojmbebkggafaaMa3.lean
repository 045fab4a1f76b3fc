/- IsLess, put, enterIfAllowed. -/
import Derived.Test.YtaojmbebkggafaaMa2
import Derived.Test.YtaojmbebkggafaaR4
import Derived.BigRegion
import Derived.BigQuiet
import Derived.Shelf.Abstract
import Derived.Laws.ResultCell
import Derived.Deep.CutRange
import Derived.Deep.CutBlock
import Derived.Deep.LoopGhost
namespace Go.Proofs.Ytaojmbebkggafaa
open Go.RowKit Go.WideMaps
set_option linter.unusedVariables false

variable {W W2 : World} {mb n : Nat} {s : MS} {h h2 : MSh}
theorem stilDrew (A : World) : Stil A A.drew := (Keep.refl _ A).drew
set_option maxRecDepth 100000 in
set_option maxHeartbeats 4000000 in
theorem less_any (W : World) (a b c d : Nat) : Calls Try.prog 22 #[.agg #[.int .i64 (a : Int), .int .i64 (b : Int)], .agg #[.int .i64 (c : Int), .int .i64 (d : Int)]] W fun e W2 => e = .returned (.bool (mlt a b c d)) ∧ Stil W W2 := by
  have HK : Hid (Stil W ((W.alloc (.cells #[.int .i64 (a : Int), .int .i64 (b : Int)] 59)).alloc (.cells #[.int .i64 (c : Int), .int .i64 (d : Int)] 59))) := hidMk (((Keep.refl _ W).alloc _).alloc _)
  by_cases e : a = c
  · subst e
    have e1 : ((a : Int) != (a : Int)) = false := by simp
    have e2 : mlt a b a d = decide (b < d) := by
      unfold mlt
      by_cases hb : b < d
      · rw [decide_eq_true (by omega), decide_eq_true (by omega)]
      · rw [decide_eq_false (by omega), decide_eq_false (by omega)]
    rw [e2]
    go_enter Try.func22, Try.ntmps22
    go_wp2
    go_ret
    exact ⟨rfl, HK.out⟩
  · have e1 : ((a : Int) != (c : Int)) = true := by simp; omega
    have e2 : mlt a b c d = decide (a < c) := by
      unfold mlt
      by_cases hb : a < c
      · rw [decide_eq_true (by omega), decide_eq_true (by omega)]
      · rw [decide_eq_false (by omega), decide_eq_false (by omega)]
    rw [e2]
    clear e
    go_enter Try.func22, Try.ntmps22
    go_wp2
    go_ret
    exact ⟨rfl, HK.out⟩

set_option maxRecDepth 100000 in
set_option maxHeartbeats 8000000 in
theorem put_any (m : Mmov W mb n s h) {i j x : Nat} (hi : i < n) (hj : j < n) (hn : n ≤ 6) (hc : h.c < 100000) (hlen : (s.ways i j).length ≤ 1000) :
    Calls Try.prog 19 #[.pointer (some ⟨mb, 0, none⟩), .int .i64 (i : Int), .int .i64 (j : Int), .int .i64 (x : Int)] W fun e W2 => e = .returned (.tuple #[]) ∧ ∃ h2, Mmov W2 mb n (putM s i j x) h2 ∧ MStp mb W h W2 h2 1 ∧ h2.wv = h.wv := by
  obtain ⟨c0, c1, c2, cf⟩ := m.cells
  have lk := m.look hi hj (by omega)
  have hseg := m.wy hi hj
  obtain ⟨ta, tc, et⟩ := segForm hseg
  obtain ⟨i0, hit, hz0, hz1, hz2⟩ := info_parts cInfoInt
  rw [et] at lk hseg
  have HM := hidMk m
  have HET := hidMk et
  generalize hln : (s.ways i j).length = ln at *
  have HLn := hidMk hln
  have HG := hidMk hseg
  have HC0 : Hid (W.drew.cell? ⟨mb, 1, none⟩ = some (.map (some h.M)) ∧ (Instr.lookup 35 (.map (some h.M)) (.agg #[.int .i64 (i : Int), .int .i64 (j : Int)]) false).run Try.prog W.drew = .ok (.slice ta ln tc) W.drew) := ⟨c1, by
    have := (m.still (stilDrew W)).look hi hj (by omega)
    rw [et] at this
    exact this⟩
  have HC1 : Hid ((W.drew.alloc (.cells #[.int .i64 (x : Int)] 3)).cell? ⟨mb, 1, none⟩ = some (.map (some h.M)) ∧ (Instr.lookup 35 (.map (some h.M)) (.agg #[.int .i64 (i : Int), .int .i64 (j : Int)]) false).run Try.prog (W.drew.alloc (.cells #[.int .i64 (x : Int)] 3)) = .ok (.slice ta ln tc) (W.drew.alloc (.cells #[.int .i64 (x : Int)] 3))) := ⟨((m.still (stilDrew W)).alloc _).cells.2.1, by
    have := ((m.still (stilDrew W)).alloc (.cells #[.int .i64 (x : Int)] 3)).look hi hj (by omega)
    rw [et] at this
    exact this⟩
  clear m hseg hln et c0 c2 cf c1 lk
  go_enter Try.func19, Try.ntmps19
  refine wp_region_class (fun w' => w'.cell? ⟨mb, 1, none⟩ = some (.map (some h.M)) ∧ (Instr.lookup 35 (.map (some h.M)) (.agg #[.int .i64 (i : Int), .int .i64 (j : Int)]) false).run Try.prog w' = .ok (.slice ta ln tc) w') 18 (by kernel_rfl) ?_
  refine wpAnyC_take (i := 0) (fuel := 18) (v := .pointer (some ⟨mb, 0, none⟩)) rfl (by kernel_rfl) (by kernel_rfl) (by kernel_rfl) (by kernel_rfl) (fun _ _ _ h => h) (.inl ⟨by rfl, fun w' hC => by obtain ⟨y1, y2⟩ := hC; go_simp⟩) HC0.out ?_
  go_frame
  refine wpAnyC_take (i := 1) (fuel := 17) (v := .pointer (some ⟨mb, 0, none⟩)) rfl (by kernel_rfl) (by kernel_rfl) (by kernel_rfl) (by kernel_rfl) (fun _ _ _ h => h) (.inl ⟨by rfl, fun w' hC => by obtain ⟨y1, y2⟩ := hC; go_simp⟩) HC0.out ?_
  go_frame
  refine wpAnyC_take (i := 2) (fuel := 16) (v := .pointer (some ⟨mb, 1, none⟩)) rfl (by kernel_rfl) (by kernel_rfl) (by kernel_rfl) (by kernel_rfl) (fun _ _ _ h => h) (.inl ⟨by rfl, fun w' hC => by obtain ⟨y1, y2⟩ := hC; go_simp⟩) HC0.out ?_
  go_frame
  refine wpAnyC_take (i := 3) (fuel := 15) (v := .map (some h.M)) rfl (by kernel_rfl) (by kernel_rfl) (by kernel_rfl) (by kernel_rfl) (fun _ _ _ h => h) (.inl ⟨by rfl, fun w' hC => by obtain ⟨y1, y2⟩ := hC; go_simp⟩) HC0.out ?_
  go_frame
  refine wpAnyC_take (i := 4) (fuel := 14) (v := .int .i64 (i : Int)) rfl (by kernel_rfl) (by kernel_rfl) (by kernel_rfl) (by kernel_rfl) (fun _ _ _ h => h) (.inl ⟨by rfl, fun w' hC => by obtain ⟨y1, y2⟩ := hC; go_simp⟩) HC0.out ?_
  go_frame
  refine wpAnyC_take (i := 5) (fuel := 13) (v := .int .i64 (j : Int)) rfl (by kernel_rfl) (by kernel_rfl) (by kernel_rfl) (by kernel_rfl) (fun _ _ _ h => h) (.inl ⟨by rfl, fun w' hC => by obtain ⟨y1, y2⟩ := hC; go_simp⟩) HC0.out ?_
  go_frame
  refine wpAnyC_take (i := 6) (fuel := 12) (v := .agg #[.int .i64 (i : Int), .int .i64 (j : Int)]) rfl (by kernel_rfl) (by kernel_rfl) (by kernel_rfl) (by kernel_rfl) (fun _ _ _ h => h) (.inl ⟨by rfl, fun w' hC => by obtain ⟨y1, y2⟩ := hC; go_simp⟩) HC0.out ?_
  go_frame
  refine wpAnyC_take (i := 7) (fuel := 11) (v := .pointer (some ⟨mb, 0, none⟩)) rfl (by kernel_rfl) (by kernel_rfl) (by kernel_rfl) (by kernel_rfl) (fun _ _ _ h => h) (.inl ⟨by rfl, fun w' hC => by obtain ⟨y1, y2⟩ := hC; go_simp⟩) HC0.out ?_
  go_frame
  refine wpAnyC_take (i := 8) (fuel := 10) (v := .pointer (some ⟨mb, 0, none⟩)) rfl (by kernel_rfl) (by kernel_rfl) (by kernel_rfl) (by kernel_rfl) (fun _ _ _ h => h) (.inl ⟨by rfl, fun w' hC => by obtain ⟨y1, y2⟩ := hC; go_simp⟩) HC0.out ?_
  go_frame
  refine wpAnyC_take (i := 9) (fuel := 9) (v := .pointer (some ⟨mb, 1, none⟩)) rfl (by kernel_rfl) (by kernel_rfl) (by kernel_rfl) (by kernel_rfl) (fun _ _ _ h => h) (.inl ⟨by rfl, fun w' hC => by obtain ⟨y1, y2⟩ := hC; go_simp⟩) HC0.out ?_
  go_frame
  refine wpAnyC_take (i := 10) (fuel := 8) (v := .map (some h.M)) rfl (by kernel_rfl) (by kernel_rfl) (by kernel_rfl) (by kernel_rfl) (fun _ _ _ h => h) (.inl ⟨by rfl, fun w' hC => by obtain ⟨y1, y2⟩ := hC; go_simp⟩) HC0.out ?_
  go_frame
  refine wpAnyC_take (i := 11) (fuel := 7) (v := .int .i64 (i : Int)) rfl (by kernel_rfl) (by kernel_rfl) (by kernel_rfl) (by kernel_rfl) (fun _ _ _ h => h) (.inl ⟨by rfl, fun w' hC => by obtain ⟨y1, y2⟩ := hC; go_simp⟩) HC0.out ?_
  go_frame
  refine wpAnyC_take (i := 12) (fuel := 6) (v := .int .i64 (j : Int)) rfl (by kernel_rfl) (by kernel_rfl) (by kernel_rfl) (by kernel_rfl) (fun _ _ _ h => h) (.inl ⟨by rfl, fun w' hC => by obtain ⟨y1, y2⟩ := hC; go_simp⟩) HC0.out ?_
  go_frame
  refine wpAnyC_take (i := 13) (fuel := 5) (v := .agg #[.int .i64 (i : Int), .int .i64 (j : Int)]) rfl (by kernel_rfl) (by kernel_rfl) (by kernel_rfl) (by kernel_rfl) (fun _ _ _ h => h) (.inl ⟨by rfl, fun w' hC => by obtain ⟨y1, y2⟩ := hC; go_simp⟩) HC0.out ?_
  go_frame
  refine wpAnyC_take (i := 14) (fuel := 4) (v := .slice ta ln tc) rfl (by kernel_rfl) (by kernel_rfl) (by kernel_rfl) (by kernel_rfl) (fun _ _ _ h => h) (.inl ⟨by rfl, fun w' hC => by obtain ⟨y1, y2⟩ := hC; go_simp⟩) HC0.out ?_
  go_frame
  refine wpAnyC_take (i := 15) (fuel := 3) (v := .int .i64 (x : Int)) rfl (by kernel_rfl) (by kernel_rfl) (by kernel_rfl) (by kernel_rfl) (fun _ _ _ h => h) (.inl ⟨by rfl, fun w' hC => by obtain ⟨y1, y2⟩ := hC; go_simp⟩) HC0.out ?_
  go_frame
  refine wpAnyC_one 16 (fuel := 2) (by kernel_rfl) rfl rfl (fun K4 hK4 => ?_)
  go_wp2
  refine ⟨fun _ => HC1.out, ?_⟩
  refine wpAnyC_one 17 (fuel := 1) (by kernel_rfl) rfl rfl (fun K5 hK5 => ?_)
  refine oper_append_seg (.tmp 22) (.tmp 24) 24 rfl 3 i0 (.int .i64 0) 1 8 Try.underlying24 hit hz0 hz1 hz2 rfl (by decide) (.slice ta ln tc) ln (natsL (s.ways i j)) rfl (segAlloc (segDrew HG.out) _) ⟨W.heap.size, 0, none⟩ 1 1 [.int .i64 (x : Int)] rfl rfl (fun j u hu => cCell1 W.drew (.int .i64 (x : Int)) 3 _ rfl j u hu) (cOne _) (by unfold maxLen; omega) (by omega) ?_
  intro v3 w3 hs3 hg3
  obtain ⟨a3, c3, rfl⟩ := segForm hs3
  obtain ⟨g1, g2, W5, h5, hr5, M5, S5, ew⟩ := HM.out.pushWay (x := x) hi hj (by omega) hc (wa := W.drew.alloc (.cells #[.int .i64 (x : Int)] 3)) ((stilDrew W).alloc _) (by rw [HET.out, HLn.out]; exact hs3) (by rw [HET.out]; exact hg3)
  rw [HET.out] at g2
  have HM5 := hidMk M5
  have HS5 := hidMk S5
  refine hK5 _ _ ⟨fun _ => ⟨g1, g2⟩, ?_⟩
  clear hs3 hg3 M5 S5
  go_frame
  refine wpAnyC_one 18 (fuel := 0) (by kernel_rfl) rfl rfl (fun K7 hK7 => ?_)
  go_wp2
  refine ⟨fun h => absurd rfl h, ?_⟩
  refine wpAnyC_done (by kernel_rfl) ?_
  go_end0
  exact ⟨rfl, h5, HM5.out, HS5.out, ew⟩

set_option maxRecDepth 100000 in
set_option maxHeartbeats 8000000 in
theorem enter_any (m : Mmov W mb n s h) {i : Nat} (hi : i < n) (hn : n ≤ 6) (hy : (s.pr i).yes ≤ 1000) (hlen : s.ins.length ≤ 1000) :
    Calls Try.prog 20 #[.pointer (some ⟨mb, 0, none⟩), .int .i64 (i : Int)] W fun e W2 => e = .returned (.tuple #[]) ∧ ∃ h2, Mmov W2 mb n (enterM n s i) h2 ∧ MStp mb W h W2 h2 0 := by
  obtain ⟨c0, c1, c2, cf⟩ := m.cells
  obtain ⟨p0, p1, p2, p3, p4, p5, pf⟩ := m.proc hi
  have hi' : (i : Int) < (n : Int) := by omega
  have hn1 : (1 : Int) ≤ (n : Int) := by omega
  have hn6 : (n : Int) ≤ 6 := by omega
  have HM := hidMk m
  have hy' : ((s.pr i).yes : Int) ≤ 1000 := by omega
  have hw1 : IntKind.i64.wrap ((n : Int) - 1) = (n : Int) - 1 := wrap_of ⟨by omega, by omega⟩
  by_cases e : (s.pr i).yes + 1 = n
  · have q1 : (((s.pr i).yes : Int) == (n : Int) - 1) = true := by rw [beq_iff_eq]; omega
    have HT : Hid (enterM n s i = ⟨(prM s i { s.pr i with st := 2 }).pr, (prM s i { s.pr i with st := 2 }).ways, (prM s i { s.pr i with st := 2 }).ins ++ [i]⟩) := by show enterM n s i = _; unfold enterM; rw [if_pos e]; rfl
    have HSt : Hid (∀ q, Mmov ((W.drewN q).setCell ⟨h.P, i * 6 + 1, none⟩ (.int .i64 2)) mb n (prM s i { s.pr i with st := 2 }) h ∧ MStp mb W h ((W.drewN q).setCell ⟨h.P, i * 6 + 1, none⟩ (.int .i64 2)) h 0) := fun q => by
      obtain ⟨M1, S1⟩ := (m.drewN q).setF hi (k := 1) (by omega) (x := .int .i64 2) (p := { s.pr i with st := 2 }) (pc_set s h.wv i _ 1 _ (fun q hq => by
        unfold pc prM
        simp only [upd1_same]
        split <;> first | rfl | (exact absurd rfl hq)) (by unfold pc prM; simp only [upd1_same]; rfl)) rfl
      exact ⟨M1, (MStp.of_still mb h (Stil.drewN W q)).trans S1⟩
    obtain ⟨i0, hit, hz0, hz1, hz2⟩ := info_parts cInfoInt
    clear m e
    generalize (s.pr i).yes = y at *
    go_enter Try.func20, Try.ntmps20
    go_wp2_with (fail)
    go_quiet (fail)
    obtain ⟨M1, S1⟩ := HSt.out nq
    have HM1 := hidMk M1
    have HS1 := hidMk S1
    obtain ⟨d0, d1, d2, df⟩ := M1.cells
    have f0 := pf (i * 6 + 1)
    have hseg := M1.ins
    obtain ⟨ta, tc, et⟩ := segForm hseg
    rw [et] at d2 hseg
    have HET := hidMk et
    generalize hln : (prM s i { s.pr i with st := 2 }).ins.length = ln at *
    have HLn := hidMk hln
    have hln2 : ln ≤ 1000 := by rw [← hln]; exact hlen
    have HG := hidMk hseg
    clear M1 S1 hseg et hln c0 c1 c2 HSt HM d0 d1
    generalize hw0 : (W.drewN nq).setCell ⟨h.P, i * 6 + 1, none⟩ (.int .i64 2) = w0 at *
    have d2' := Stil.cell (Stil.new w0 (.cells #[.int .i64 (i : Int)] 3)) d2
    go_wp2_with (at_builtin; refine wpList_append_seg _ rfl _ _ 24 rfl 3 i0 (.int .i64 0) 1 8 Try.underlying24 hit hz0 hz1 hz2 rfl (by decide) (.slice ta ln tc) ln (natsL (prM s i { s.pr i with st := 2 }).ins) rfl (segAlloc HG.out _) ⟨w0.heap.size, 0, none⟩ 1 1 [.int .i64 (i : Int)] rfl rfl (cCell1 w0 (.int .i64 (i : Int)) 3 _ rfl) (cOne _) (by unfold maxLen; omega) (by omega) ?_)
    intro v3 w3 hs3 hg3
    obtain ⟨a3, c3, rfl⟩ := segForm hs3
    obtain ⟨g1, g2, HM4⟩ := HM1.out.pushIn (x := i) (wa := w0.alloc (.cells #[.int .i64 (i : Int)] 3)) (Stil.new w0 _) (by rw [HET.out, HLn.out]; exact hs3.mono (fun g _ e => by simpa using e)) (by rw [HET.out]; exact hg3)
    have HM5 := hidMk HM4
    clear hs3 hg3 HM4 d2 d2'
    go_wp2
    go_end0
    obtain ⟨h5, M5, S5⟩ := HM5.out
    exact ⟨rfl, h5, by rw [HT.out]; exact M5, HS1.out.trans S5⟩
  · have q1 : (((s.pr i).yes : Int) == (n : Int) - 1) = false := by rw [beq_eq_false_iff_ne]; omega
    have HT : Hid (enterM n s i = s) := by show enterM n s i = _; unfold enterM; rw [if_neg e]
    clear m e
    generalize (s.pr i).yes = y at *
    go_enter Try.func20, Try.ntmps20
    go_wp2_with (fail)
    go_quiet (fail)
    go_wp2
    go_end0
    exact ⟨rfl, h, by rw [HT.out]; exact HM.out.drewN _, MStp.of_still mb h (Stil.drewN W _)⟩
end Go.Proofs.Ytaojmbebkggafaa
