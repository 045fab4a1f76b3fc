/- What only asks: isLess, allHave, finalKey. -/
import Derived.Test.YtipoopbkapgfiaaTa1
import Derived.BigRegion
import Derived.BigQuiet
import Derived.Shelf.Abstract
import Derived.Laws.ResultCell
namespace Go.Proofs.Ytipoopbkapgfiaa
open Go.RowKit Go.WideMaps
set_option linter.unusedVariables false

variable {W W2 : World} {mb n : Nat} {s : TS} {h h2 : TSh}
set_option maxRecDepth 100000 in
set_option maxHeartbeats 4000000 in
theorem less_any (W : World) (a b c d : Nat) : Calls Try.prog 22 #[.agg #[.int .i64 (a : Int), .int .i64 (b : Int)], .agg #[.int .i64 (c : Int), .int .i64 (d : Int)]] W fun e W2 => e = .returned (.bool (klt a b c d)) ∧ Stil W W2 := by
  have HK : Hid (Stil W ((W.alloc (.cells #[.int .i64 (a : Int), .int .i64 (b : Int)] 54)).alloc (.cells #[.int .i64 (c : Int), .int .i64 (d : Int)] 54))) := hidMk (((Keep.refl _ W).alloc _).alloc _)
  by_cases e : a = c
  · subst e
    have e1 : ((a : Int) != (a : Int)) = false := by simp
    have e2 : klt a b a d = decide (b < d) := by
      unfold klt
      by_cases hb : b < d
      · rw [decide_eq_true (by omega), decide_eq_true (by omega)]
      · rw [decide_eq_false (by omega), decide_eq_false (by omega)]
    rw [e2]
    go_enter Try.func22, Try.ntmps22
    go_wp2
    go_ret
    exact ⟨rfl, HK.out⟩
  · have e1 : ((a : Int) != (c : Int)) = true := by simp; omega
    have e2 : klt a b c d = decide (a < c) := by
      unfold klt
      by_cases hb : a < c
      · rw [decide_eq_true (by omega), decide_eq_true (by omega)]
      · rw [decide_eq_false (by omega), decide_eq_false (by omega)]
    rw [e2]
    clear e
    go_enter Try.func22, Try.ntmps22
    go_wp2
    go_ret
    exact ⟨rfl, HK.out⟩

theorem all_upto (s : TS) (m : Nat) : ∀ k, ((List.range k).all fun p => (s.ent p m).isSome) = true ↔ ∀ p, p < k → (s.ent p m).isSome = true := fun k => by
  rw [List.all_eq_true]
  exact ⟨fun h p hp => h p (List.mem_range.2 hp), fun h p hp => h p (List.mem_range.1 hp)⟩

set_option maxRecDepth 100000 in
set_option maxHeartbeats 4000000 in
theorem allHave_any (m : Tmov W mb n s h) {x : Nat} (hn : n ≤ 6) (hx : x < 1000) :
    Calls Try.prog 14 #[.pointer (some ⟨mb, 0, none⟩), .int .i64 (x : Int)] W fun e W2 => e = .returned (.bool (allB n s x)) ∧ Stil W W2 := by
  obtain ⟨c0, c1, c2, c3⟩ := m.cells
  have HM := hidMk m
  clear m
  go_enter Try.func14, Try.ntmps14
  go_wp2
  go_loopw [13] (fun u wr => ∃ k : Nat, k ≤ n ∧ u = .int .i64 (k : Int) ∧ Hid (∀ p, p < k → (s.ent p x).isSome = true) ∧ Hid (Stil W wr)) (fun u _ => n - (intOf u).toNat)
  case atStart => exact ⟨0, Nat.zero_le _, rfl, fun p hp => by omega, Keep.refl _ _⟩
  case round =>
    obtain ⟨k, hk, rfl, HA, HK⟩ := hrel
    by_cases hlt : k < n
    · have hlt' : (k : Int) < (n : Int) := by omega
      have d2 := HK.out.cell c2
      have lk := (HM.out.still HK.out).look2 (show k < 1000 by omega) hx
      cases he : s.ent k x with
      | none =>
        rw [he] at lk
        simp only [Option.map, Option.getD, Option.isSome] at lk
        unfold entZ at lk
        have HE := hidMk he
        clear he
        go_wp2
        go_ret
        refine ⟨?_, HK.out.alloc _⟩
        congr 2
        unfold allB
        cases hb : ((List.range n).all fun p => (s.ent p x).isSome) with
        | false => rfl
        | true => have := (all_upto s x n).1 hb k hlt; rw [HE.out] at this; cases this
      | some e0 =>
        rw [he] at lk
        simp only [Option.map, Option.getD, Option.isSome] at lk
        unfold entV at lk
        have HE := hidMk he
        have HA2 : Hid (∀ p, p < k + 1 → (s.ent p x).isSome = true) := fun p hp => by
          by_cases e1 : p = k
          · subst e1; rw [he]; rfl
          · exact HA.out p (by omega)
        clear he
        go_wp2
        go_roundw
        case rel => exact ⟨k + 1, by omega, by go_num, HA2, HK.out.alloc _⟩
        case measure => simp [intOf]; omega
    · obtain rfl : k = n := by omega
      go_wp2
      go_ret
      exact ⟨by unfold allB; rw [(all_upto s x k).2 HA.out]; rfl, HK.out⟩

theorem results_one_row {P : Program} {fn : Func} {p : Tmp} {ty : TypeId} (h : fn.results = #[.cell p ty]) (tmps : Array Value) (w : World) (g : Nat) (t : TypeId) (cs : Array Value) (fr : Nat × Nat) (d : TypeDesc)
    (hp : tmps.getD p undef = .pointer (some ⟨g, 0, none⟩)) (hg : w.heap[g]? = some (.cells cs t fr))
    (hu : P.underlying ty = some d) (hd : (match d with | .struct _ | .array _ _ => true | _ => false) = true) (hi : (P.info? ty).map (·.size) = some cs.size) :
    (results fn tmps).run P w = .ok (.agg cs) w := by
  have hp2 : tmps[p]?.getD undef = .pointer (some ⟨g, 0, none⟩) := by rw [← Array.getD_eq_getD_getElem?]; exact hp
  simp [results, h, hp2, asAddr, run_loadVar_row w g t ty cs fr d hg hu hd hi]

set_option maxRecDepth 100000 in
set_option maxHeartbeats 4000000 in
theorem final_any (m : Tmov W mb n s h) {x : Nat} (hn : n ≤ 6) (hx : x < 1000) :
    Calls Try.prog 19 #[.pointer (some ⟨mb, 0, none⟩), .int .i64 (x : Int)] W fun e W2 => e = .returned (.agg #[.int .i64 ((finTo s x n).1 : Int), .int .i64 ((finTo s x n).2 : Int)]) ∧ Stil W W2 := by
  obtain ⟨c0, c1, c2, c3⟩ := m.cells
  have HM := hidMk m
  have HK0 : Hid (Stil W ((W.alloc (.cells #[.int .i64 0, .int .i64 0] 54)).alloc (.cells #[.int .i64 0, .int .i64 0] 54))) := hidMk (((Keep.refl _ W).alloc _).alloc _)
  have HR0 : Hid (((W.alloc (.cells #[.int .i64 0, .int .i64 0] 54)).alloc (.cells #[.int .i64 0, .int .i64 0] 54)).heap[W.heap.size]? = some (.cells #[.int .i64 0, .int .i64 0] 54 (0, 0))) := by
    show _ = _
    rw [al_old _ _ _ (by simp), al_new]
  have HG0 : Hid (((W.alloc (.cells #[.int .i64 0, .int .i64 0] 54)).alloc (.cells #[.int .i64 0, .int .i64 0] 54)).heap[W.heap.size + 1]? = some (.cells #[.int .i64 0, .int .i64 0] 54 (0, 0))) := by
    show _ = _
    have := al_new (W.alloc (.cells #[.int .i64 0, .int .i64 0] 54)) (.cells #[.int .i64 0, .int .i64 0] 54)
    simpa using this
  have d1 := HK0.out.cell c1
  have HC2 := hidMk c2
  clear m c0 c1 c2 c3
  go_enter Try.func19, Try.ntmps19
  go_wp2
  generalize ((W.alloc (.cells #[.int .i64 0, .int .i64 0] 54)).alloc (.cells #[.int .i64 0, .int .i64 0] 54)) = w0 at *
  generalize hr : W.heap.size = r at *
  clear d1
  go_loopw [13] (fun u wr => ∃ k : Nat, k ≤ n ∧ u = .int .i64 (k : Int) ∧ Hid (Stil W wr) ∧ Hid (wr.heap[r]? = some (.cells #[.int .i64 0, .int .i64 0] 54 (0, 0))) ∧ Hid (wr.heap[r + 1]? = some (.cells #[.int .i64 ((finTo s x k).1 : Int), .int .i64 ((finTo s x k).2 : Int)] 54 (0, 0)))) (fun u _ => n - (intOf u).toNat)
  case atStart => exact ⟨0, Nat.zero_le _, rfl, HK0, HR0, HG0⟩
  case round =>
    obtain ⟨k, hk, rfl, HK, HR, HG⟩ := hrel
    have g0 : wr.cell? ⟨r + 1, 0, none⟩ = some (.int .i64 ((finTo s x k).1 : Int)) := (cell_of_row wr _ 0 _ _ _ HG.out).trans rfl
    have g1 : wr.cell? ⟨r + 1, 1, none⟩ = some (.int .i64 ((finTo s x k).2 : Int)) := (cell_of_row wr _ 1 _ _ _ HG.out).trans rfl
    by_cases hlt : k < n
    · have hlt' : (k : Int) < (n : Int) := by omega
      have d2 := HK.out.cell HC2.out
      have lk := (HM.out.still HK.out).look (show k < 1000 by omega) hx
      have hgl : r + 1 < wr.heap.size := (Array.getElem?_eq_some_iff.1 HG.out).1
      -- what is there
      have hfin : finTo s x (k + 1) = (match s.ent k x with | none => finTo s x k | some e => if klt (finTo s x k).1 (finTo s x k).2 e.n e.p = true then (e.n, e.p) else finTo s x k) := rfl
      obtain ⟨en, ep, ta, tb, hv, hf⟩ : ∃ (en ep : Nat) (ta tb : Bool), ((s.ent k x).map entV).getD entZ = .agg #[.int .i64 (en : Int), .int .i64 (ep : Int), .bool ta, .bool tb] ∧ finTo s x (k + 1) = if klt (finTo s x k).1 (finTo s x k).2 en ep = true then (en, ep) else finTo s x k := by
        cases he : s.ent k x with
        | none =>
          refine ⟨0, 0, false, false, rfl, ?_⟩
          rw [hfin, he, if_neg (by unfold klt; simp)]
        | some e0 => exact ⟨e0.n, e0.p, e0.told, e0.heard, rfl, by rw [hfin, he]⟩
      rw [hv] at lk
      have HF := hidMk hf
      have HL := hidMk (fun w : World => less_any w (finTo s x k).1 (finTo s x k).2 en ep)
      clear hfin hv hf
      generalize hf1 : (finTo s x k).1 = a1 at *
      generalize hf2 : (finTo s x k).2 = a2 at *
      have HF12 : Hid (finTo s x k = (a1, a2)) := by show _ = _; rw [← hf1, ← hf2]
      clear hf1 hf2
      have HKa := hidMk (HK.out.alloc (.cells #[.int .i64 (en : Int), .int .i64 (ep : Int), .bool ta, .bool tb] 56))
      have b0 : (wr.alloc (.cells #[.int .i64 (en : Int), .int .i64 (ep : Int), .bool ta, .bool tb] 56)).cell? ⟨wr.heap.size, 0, none⟩ = some (.int .i64 (en : Int)) := by go_simp
      have b1 : (wr.alloc (.cells #[.int .i64 (en : Int), .int .i64 (ep : Int), .bool ta, .bool tb] 56)).cell? ⟨wr.heap.size, 1, none⟩ = some (.int .i64 (ep : Int)) := by go_simp
      go_wp2_with (fail)
      go_at_call 22
      refine (HL.out _).mono ?_
      rintro e w1 ⟨rfl, hk1⟩
      have HK1 := hidMk (Stil.tr HKa.out hk1)
      have HR1 : Hid (w1.heap[r]? = some (.cells #[.int .i64 0, .int .i64 0] 54 (0, 0))) := by
        show _ = _
        rw [hk1.block r (by simp; omega) (fun e => e), al_old _ _ _ (by omega)]
        exact HR.out
      have HG1 : Hid (w1.heap[r + 1]? = some (.cells #[.int .i64 (a1 : Int), .int .i64 (a2 : Int)] 54 (0, 0))) := by
        show _ = _
        rw [hk1.block (r + 1) (by simp; omega) (fun e => e), al_old _ _ _ (by omega)]
        exact HG.out
      have e0 := hk1.cell b0
      have e1 := hk1.cell b1
      have q0 : w1.cell? ⟨r + 1, 0, none⟩ = some (.int .i64 (a1 : Int)) := (cell_of_row w1 _ 0 _ _ _ HG1.out).trans rfl
      have q1 : w1.cell? ⟨r + 1, 1, none⟩ = some (.int .i64 (a2 : Int)) := (cell_of_row w1 _ 1 _ _ _ HG1.out).trans rfl
      have z0 : w1.frozen? ⟨r + 1, 0, none⟩ = false := frozen_of_row w1 _ _ _ _ HG1.out
      have z1 : w1.frozen? ⟨r + 1, 1, none⟩ = false := frozen_of_row w1 _ _ _ _ HG1.out
      clear hk1 b0 b1 lk g0 g1 d2 HL HKa HG HR HK
      by_cases hkl : klt a1 a2 en ep = true
      · rw [hkl]
        have HF2 : Hid (finTo s x (k + 1) = (en, ep)) := by show _ = _; rw [HF.out, if_pos hkl]
        have HW2 : Hid (((w1.setCell ⟨r + 1, 0, none⟩ (.int .i64 (en : Int))).setCell ⟨r + 1, 1, none⟩ (.int .i64 (ep : Int))).heap[r + 1]? = some (.cells #[.int .i64 ((finTo s x (k + 1)).1 : Int), .int .i64 ((finTo s x (k + 1)).2 : Int)] 54 (0, 0))) := by
          show _ = _
          rw [HF2.out]
          have := heap_setCell_same _ (r + 1) 1 _ _ (.int .i64 (ep : Int)) (heap_setCell_same w1 (r + 1) 0 _ _ (.int .i64 (en : Int)) HG1.out)
          simpa using this
        have HR2 : Hid (((w1.setCell ⟨r + 1, 0, none⟩ (.int .i64 (en : Int))).setCell ⟨r + 1, 1, none⟩ (.int .i64 (ep : Int))).heap[r]? = some (.cells #[.int .i64 0, .int .i64 0] 54 (0, 0))) := by
          show _ = _
          rw [Below.heap_setCell _ _ _ r (by show r ≠ r + 1; omega), Below.heap_setCell _ _ _ r (by show r ≠ r + 1; omega)]
          exact HR1.out
        have HK2 : Hid (Stil W ((w1.setCell ⟨r + 1, 0, none⟩ (.int .i64 (en : Int))).setCell ⟨r + 1, 1, none⟩ (.int .i64 (ep : Int)))) := (HK1.out.setCell _ _ _ (fun e => by omega)).setCell _ _ _ (fun e => by omega)
        clear HF hkl HF12
        go_wp2
        go_roundw
        case rel => exact ⟨k + 1, by omega, by go_num, HK2, HR2, HW2⟩
        case measure => simp [intOf]; omega
      · have hkl2 : klt a1 a2 en ep = false := by simpa using hkl
        rw [hkl2]
        have HF2 : Hid (finTo s x (k + 1) = (a1, a2)) := by show _ = _; rw [HF.out, if_neg hkl, HF12.out]
        have HG2 : Hid (w1.heap[r + 1]? = some (.cells #[.int .i64 ((finTo s x (k + 1)).1 : Int), .int .i64 ((finTo s x (k + 1)).2 : Int)] 54 (0, 0))) := by show _ = _; rw [HF2.out]; exact HG1.out
        clear HF hkl hkl2 HF12
        go_wp2
        go_roundw
        case rel => exact ⟨k + 1, by omega, by go_num, HK1, HR1, HG2⟩
        case measure => simp [intOf]; omega
    · obtain rfl : k = n := by omega
      have r0 : wr.cell? ⟨r, 0, none⟩ = some (.int .i64 0) := (cell_of_row wr _ 0 _ _ _ HR.out).trans rfl
      have r1 : wr.cell? ⟨r, 1, none⟩ = some (.int .i64 0) := (cell_of_row wr _ 1 _ _ _ HR.out).trans rfl
      have z0 : wr.frozen? ⟨r, 0, none⟩ = false := frozen_of_row wr _ _ _ _ HR.out
      have z1 : wr.frozen? ⟨r, 1, none⟩ = false := frozen_of_row wr _ _ _ _ HR.out
      generalize hf1 : (finTo s x k).1 = a1 at *
      generalize hf2 : (finTo s x k).2 = a2 at *
      have HF1 := hidMk hf1
      have HF2 := hidMk hf2
      clear hf1 hf2
      go_wp2
      have q1 := heap_setCell_same wr r 0 _ _ (.int .i64 (a1 : Int)) HR.out
      have q2 := heap_setCell_same _ r 1 _ _ (.int .i64 (a2 : Int)) q1
      refine bodyPost_ret (results_one_row (P := Try.prog) rfl _ _ r 54 #[.int .i64 (a1 : Int), .int .i64 (a2 : Int)] (0, 0) _ rfl (by simpa using q2) Try.underlying54 rfl (by kernel_rfl)) rfl ?_
      exact ⟨by rw [HF1.out, HF2.out], (HK.out.setCell _ _ _ (fun e => by omega)).setCell _ _ _ (fun e => by omega)⟩
end Go.Proofs.Ytipoopbkapgfiaa
