/- The bakery's moves: a key, meet, yield. -/
import Derived.Test.YtgnigjfgddhgiaaBa2
import Derived.Test.YtgnigjfgddhgiaaR4
import Derived.Shelf.Abstract
import Derived.Laws.ResultCell
namespace Go.Proofs.Ytgnigjfgddhgiaa
open Go.RowKit
set_option linter.unusedVariables false

variable {W W2 : World} {mb n t : Nat} {s : BS} {h h2 : BSh}
theorem wpAnyC_one_g {P : Program} {ops : Array Oper} {md : Region.Mode} {Q : Exit → Act → World → Prop} {C : World → Prop} {lst : Nat} {fuel : Nat} {listed : Array Bool} {a : Act} {w : World} (i : Nat) {o : Oper} (hr : Region.ready md ops listed = [i]) (ho : ops[i]? = some o) (hw : Region.wanted o (yielded ops a.tmps) = true)
    (h : ∀ K : Act → World → Prop, (∀ a' w', ((i ≠ lst → C w') ∧ wpAnyC P md ops Q C lst fuel (listed.setIfInBounds i true) a' w') → K a' w') → o.wp P a w K Q) : wpAnyC P md ops Q C lst (fuel + 1) listed a w := by
  refine ⟨fun h0 => (by rw [hr] at h0; cases h0), fun j hj => ?_⟩
  rw [hr] at hj
  obtain rfl : j = i := by simpa using hj
  unfold wpOp
  simp only [ho]
  rw [if_pos hw]
  exact .inl (h _ (fun _ _ h => h))
theorem results_one_row {P : Program} {fn : Func} {p : Tmp} {ty : TypeId} (h : fn.results = #[.cell p ty]) (tmps : Array Value) (w : World) (g : Nat) (t : TypeId) (cs : Array Value) (fr : Nat × Nat) (d : TypeDesc)
    (hp : tmps.getD p undef = .pointer (some ⟨g, 0, none⟩)) (hg : w.heap[g]? = some (.cells cs t fr))
    (hu : P.underlying ty = some d) (hd : (match d with | .struct _ | .array _ _ => true | _ => false) = true) (hi : (P.info? ty).map (·.size) = some cs.size) :
    (results fn tmps).run P w = .ok (.agg cs) w := by
  have hp2 : tmps[p]?.getD undef = .pointer (some ⟨g, 0, none⟩) := by rw [← Array.getD_eq_getD_getElem?]; exact hp
  simp [results, h, hp2, asAddr, run_loadVar_row w g t ty cs fr d hg hu hd hi]
set_option maxRecDepth 100000 in
set_option maxHeartbeats 4000000 in
theorem less_any (W : World) (a b c d : Nat) : Calls Try.prog 27 #[.agg #[.int .i64 (a : Int), .int .i64 (b : Int)], .agg #[.int .i64 (c : Int), .int .i64 (d : Int)]] W fun e W2 => e = .returned (.bool (blt a b c d)) ∧ Stil W W2 := by
  have HK : Hid (Stil W ((W.alloc (.cells #[.int .i64 (a : Int), .int .i64 (b : Int)] 57)).alloc (.cells #[.int .i64 (c : Int), .int .i64 (d : Int)] 57))) := hidMk (((Keep.refl _ W).alloc _).alloc _)
  by_cases e : a = c
  · subst e
    have e1 : ((a : Int) != (a : Int)) = false := by simp
    have e2 : blt a b a d = decide (b < d) := by
      unfold blt
      by_cases hb : b < d
      · rw [decide_eq_true (by omega), decide_eq_true (by omega)]
      · rw [decide_eq_false (by omega), decide_eq_false (by omega)]
    rw [e2]
    go_enter Try.func27, Try.ntmps27
    go_wp2
    go_ret
    exact ⟨rfl, HK.out⟩
  · have e1 : ((a : Int) != (c : Int)) = true := by simp; omega
    have e2 : blt a b c d = decide (a < c) := by
      unfold blt
      by_cases hb : a < c
      · rw [decide_eq_true (by omega), decide_eq_true (by omega)]
      · rw [decide_eq_false (by omega), decide_eq_false (by omega)]
    rw [e2]
    clear e
    go_enter Try.func27, Try.ntmps27
    go_wp2
    go_ret
    exact ⟨rfl, HK.out⟩

set_option maxRecDepth 100000 in
set_option maxHeartbeats 4000000 in
theorem key_any {P i tk : Nat} (hi : i < n) (hn : n ≤ 4) (c0 : W.cell? ⟨mb, 0, none⟩ = some (.slice (some ⟨P, 0, none⟩) n n)) (p1 : W.cell? ⟨P, i * 5 + 1, none⟩ = some (.int .i64 (tk : Int))) :
    Calls Try.prog 26 #[.pointer (some ⟨mb, 0, none⟩), .int .i64 (i : Int)] W fun e W2 => e = .returned (.agg #[.int .i64 (tk : Int), .int .i64 (i : Int)]) ∧ Stil W W2 := by
  have hi' : (i : Int) < (n : Int) := by omega
  have HK : Hid (Stil W (W.alloc (.cells #[.int .i64 (tk : Int), .int .i64 (i : Int)] 57))) := (Keep.refl _ W).alloc _
  have c0' := Stil.cell (Stil.new W (.cells #[.int .i64 0, .int .i64 0] 57)) c0
  have p1' := Stil.cell (Stil.new W (.cells #[.int .i64 0, .int .i64 0] 57)) p1
  go_enter Try.func26, Try.ntmps26
  go_wp2
  refine bodyPost_ret (results_one_row (P := Try.prog) rfl _ _ W.heap.size 57 #[.int .i64 (tk : Int), .int .i64 (i : Int)] (0, 0) _ rfl (al_new _ _) Try.underlying57 rfl (by kernel_rfl)) rfl ?_
  exact ⟨rfl, HK.out⟩

set_option maxRecDepth 100000 in
set_option maxHeartbeats 8000000 in
theorem meet_any (m : Bmov W mb n s h) (hv : BInv n t s) (ht : t ≤ 1000) {i : Nat} (hi : i < n) (hn : n ≤ 4) :
    Calls Try.prog 23 #[.pointer (some ⟨mb, 0, none⟩), .int .i64 (i : Int)] W fun e W2 => e = .returned (.tuple #[]) ∧ ∃ h2, Bmov W2 mb n (meetB n s i) h2 ∧ BStp mb W h W2 h2 := by
  obtain ⟨o1, o2, o3, o4, o5, o6, o7, o8⟩ := hv.own i hi
  have hil := hv.ins
  have hi' : (i : Int) < (n : Int) := by omega
  have HM := hidMk m
  obtain ⟨c0, c1, cf⟩ := m.cells
  obtain ⟨p0, p1, p2, p3, p4, pf⟩ := m.proc hi
  by_cases ek : (s.pr i).k = n
  · have q1 : (((s.pr i).k : Int) == (n : Int)) = true := by rw [beq_iff_eq]; omega
    have HT : Hid (meetB n s i = ⟨(setB s i { s.pr i with pl := 5 }).pr, (setB s i { s.pr i with pl := 5 }).ins ++ [i]⟩) := by show meetB n s i = _; unfold meetB; rw [if_pos ek]; rfl
    have HSt : Hid (∀ q, Bmov ((W.drewN q).setCell ⟨h.P, i * 5, none⟩ (.int .i64 5)) mb n (setB s i { s.pr i with pl := 5 }) h ∧ BStp mb W h ((W.drewN q).setCell ⟨h.P, i * 5, none⟩ (.int .i64 5)) h) := fun q => by
      obtain ⟨M1, S1⟩ := (m.drewN q).setPl hi 5
      exact ⟨M1, (BStp.of_still mb h (Stil.drewN W q)).trans S1⟩
    obtain ⟨i0, hit, hz0, hz1, hz2⟩ := info_parts cInfoInt
    clear m ek o5 o6 o7 o8 hv
    generalize (s.pr i).k = kv at *
    go_enter Try.func23, Try.ntmps23
    go_wp2_with (fail)
    go_quiet (fail)
    obtain ⟨M1, S1⟩ := HSt.out nq
    have HM1 := hidMk M1
    have HS1 := hidMk S1
    obtain ⟨d0, d1, df⟩ := M1.cells
    have f0 := pf (i * 5)
    have hseg := M1.ins
    obtain ⟨ta, tc, et⟩ := segForm hseg
    rw [et] at d1 hseg
    have HET := hidMk et
    generalize hln : (setB s i { s.pr i with pl := 5 }).ins.length = ln at *
    have HLn := hidMk hln
    have hln2 : ln ≤ 1000 := by rw [← hln]; show s.ins.length ≤ 1000; omega
    have HG := hidMk hseg
    clear M1 S1 hseg et hln c0 c1 HSt HM d0
    generalize hw0 : (W.drewN nq).setCell ⟨h.P, i * 5, none⟩ (.int .i64 5) = w0 at *
    have d1' := Stil.cell (Stil.new w0 (.cells #[.int .i64 (i : Int)] 3)) d1
    go_wp2_with (at_builtin; refine wpList_append_seg _ rfl _ _ 22 rfl 3 i0 (.int .i64 0) 1 8 Try.underlying22 hit hz0 hz1 hz2 rfl (by decide) (.slice ta ln tc) ln (natsL (setB s i { s.pr i with pl := 5 }).ins) rfl (segAlloc HG.out _) ⟨w0.heap.size, 0, none⟩ 1 1 [.int .i64 (i : Int)] rfl rfl (cCell1 w0 (.int .i64 (i : Int)) 3 _ rfl) (cOne _) (by unfold maxLen; omega) (by omega) ?_)
    intro v3 w3 hs3 hg3
    obtain ⟨a3, c3, rfl⟩ := segForm hs3
    obtain ⟨g1, g2, HM4⟩ := HM1.out.pushIn (x := i) (wa := w0.alloc (.cells #[.int .i64 (i : Int)] 3)) (Stil.new w0 _) (by rw [HET.out, HLn.out]; exact hs3.mono (fun g _ e => by simpa using e)) (by rw [HET.out]; exact hg3)
    have HM5 := hidMk HM4
    clear hs3 hg3 HM4 d1 d1'
    go_wp2
    go_end0
    obtain ⟨h5, M5, S5⟩ := HM5.out
    exact ⟨rfl, h5, by rw [HT.out]; exact M5, HS1.out.trans S5⟩
  · have hk : (s.pr i).k < n := by omega
    have hk' : ((s.pr i).k : Int) < (n : Int) := by omega
    have q1 : (((s.pr i).k : Int) == (n : Int)) = false := by rw [beq_eq_false_iff_ne]; omega
    have r2 := (m.proc hk).2.2.1
    by_cases ec : (s.pr (s.pr i).k).ch = true
    · have HT : Hid (meetB n s i = s) := by show meetB n s i = s; unfold meetB; rw [if_neg ek, if_pos ec]
      rw [ec] at r2
      clear m ek o5 o6 o7 o8 hv ec
      generalize (s.pr i).k = kv at *
      go_enter Try.func23, Try.ntmps23
      go_wp2_with (fail)
      go_quiet (fail)
      go_wp2_with (fail)
      go_quiet (fail)
      go_wp2
      go_end0
      exact ⟨rfl, h, by rw [HT.out]; exact (HM.out.drewN _).drewN _, BStp.of_still mb h (Stil.tr (Stil.drewN _ _) (Stil.drewN _ _))⟩
    · have ec2 : (s.pr (s.pr i).k).ch = false := by simpa using ec
      have HT : Hid (meetB n s i = setB s i { s.pr i with pl := 4 }) := by show meetB n s i = _; unfold meetB; rw [if_neg ek, if_neg ec]
      rw [ec2] at r2
      have f0 := pf (i * 5)
      have HS : Hid (∀ q, Bmov ((W.drewN q).setCell ⟨h.P, i * 5, none⟩ (.int .i64 4)) mb n (setB s i { s.pr i with pl := 4 }) h ∧ BStp mb W h ((W.drewN q).setCell ⟨h.P, i * 5, none⟩ (.int .i64 4)) h) := fun q => by
        obtain ⟨M1, S1⟩ := (m.drewN q).setPl hi 4
        exact ⟨M1, (BStp.of_still mb h (Stil.drewN W q)).trans S1⟩
      clear m ek o5 o6 o7 o8 hv ec ec2
      generalize (s.pr i).k = kv at *
      go_enter Try.func23, Try.ntmps23
      go_wp2_with (fail)
      go_quiet (fail)
      go_wp2_with (fail)
      go_quiet (fail)
      go_wp2
      go_end0
      exact ⟨rfl, h, by rw [HT.out]; exact (HS.out _).1, (HS.out _).2⟩

end Go.Proofs.Ytgnigjfgddhgiaa
