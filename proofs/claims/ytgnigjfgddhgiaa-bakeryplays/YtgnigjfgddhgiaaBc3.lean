/- folkmootlaw.BakeryPlays, walked. -/
import Derived.Test.YtgnigjfgddhgiaaBc1z
import Derived.Test.YtgnigjfgddhgiaaBc2
namespace Go.Proofs.Ytgnigjfgddhgiaa
open Go.RowKit
set_option linter.unusedVariables false

theorem cell_kept {w w' : World} {o : Nat → Prop} {g j : Nat} {cs : Array Value} {t : TypeId} {fr : Nat × Nat} {v : Value} (kk : Keep o w w') (h : w.heap[g]? = some (.cells cs t fr)) (ho : ¬ o g) (hv : cs[j]? = some v) : w'.cell? ⟨g, j, none⟩ = some v :=
  (cell_of_row w' g j cs t fr ((kk.block g (Array.getElem?_eq_some_iff.1 h).1 ho).trans h)).trans hv
theorem cell_is {w : World} {g j : Nat} {cs : Array Value} {t : TypeId} {fr : Nat × Nat} {v : Value} (h : w.heap[g]? = some (.cells cs t fr)) (hv : cs[j]? = some v) : w.cell? ⟨g, j, none⟩ = some v :=
  (cell_of_row w g j cs t fr h).trans hv
set_option maxRecDepth 100000 in
set_option maxHeartbeats 4000000 in
theorem bplays_bad {W : World} {pa : Option Addr} {z : Int} {pl pc : Nat} {zs : List Int} (hp : RowI W pa pl pc zs) (hz : bakCode z pl ≠ 0) :
    Calls Try.prog 3 #[.int .i64 z, .slice pa pl pc] W fun e W2 => e = .returned (.bool true) ∧ Below W.heap.size W W2 := by
  have HP := hidMk (play_badB (W := W) (pa := pa) (pc := pc) hz hp.2.2.1)
  have HSm := hidMk (fun w => bakeries_same (RowI.nil w) (RowI.nil w) (RowI.nil w) (a3 := none) (c3 := 0) (x3 := []) ⟨rfl, Nat.le_refl _, Nat.zero_le _, .inl rfl⟩ (RowI.nil w) (RowI.nil w) (RowI.nil w) (RowI.nil w) (b3 := none) (d3 := 0) ⟨rfl, Nat.le_refl _, Nat.zero_le _, .inl rfl⟩ (RowI.nil w) (Nat.zero_le _) (Nat.zero_le _) (Nat.zero_le _))
  have h9 : maxLen ≤ 9223372036854775807 := by decide
  have hpl' : (pl : Int) ≤ 9223372036854775807 := by have := hp.2.2.1; omega
  have hc : z < 1 ∨ 4 < z ∨ 120 < pl := by
    unfold bakCode at hz
    refine Classical.byContradiction fun e => ?_
    rw [if_neg e] at hz
    exact hz rfl
  have q3 : (decide (z < 1) = true) ∨ (decide (z < 1) = false ∧ decide (4 < z) = true) ∨ (decide (z < 1) = false ∧ decide (4 < z) = false ∧ decide (120 < (pl : Int)) = true) := by
    by_cases a : z < 1
    · exact .inl (decide_eq_true a)
    · by_cases b : 4 < z
      · exact .inr (.inl ⟨decide_eq_false a, decide_eq_true b⟩)
      · exact .inr (.inr ⟨decide_eq_false a, decide_eq_false b, decide_eq_true (by omega)⟩)
  clear hz hp h9 hc
  go_enter Try.func3, Try.ntmps3
  go_wp2_with (fail)
  go_at_call 8
  refine (HP.out).mono ?_
  rintro e w1 ⟨rfl, hk1⟩
  have HK1 := hidMk ((hk1.alloc (.cells #[.slice none 0 0, .slice none 0 0, .slice none 0 0, .slice none 0 0, .slice none 0 0] 26)).alloc (.cells #[.slice none 0 0, .slice none 0 0, .slice none 0 0, .slice none 0 0, .slice none 0 0] 26))
  clear hk1 HP
  rcases q3 with q1 | ⟨q1, q2⟩ | ⟨q1, q2, q3⟩
  all_goals
    go_wp2_with (fail)
    go_at_call 10
    refine (HSm.out _).mono ?_
    rintro e w4 ⟨rfl, hk4⟩
    have HK4 := hidMk (Stil.tr HK1.out hk4)
    clear hk4
    go_wp2
    go_ret
    exact ⟨rfl, Stil.below HK4.out⟩

set_option maxRecDepth 100000 in
set_option maxHeartbeats 8000000 in
theorem bplays_ok {W : World} {pa : Option Addr} {n pl pc : Nat} {zs : List Int} (hp : RowI W pa pl pc zs) (h0 : 0 < n) (h4 : n ≤ 4) (hpl : pl ≤ 120) :
    Calls Try.prog 3 #[.int .i64 (n : Int), .slice pa pl pc] W fun e W2 => e = .returned (.bool true) ∧ Below W.heap.size W W2 := by
  have HP := hidMk (play_seenB hp h0 h4 hpl)
  have HRf := hidMk (fun (w' : World) (hw : Stil W w') => ref_bakery (hp.still hw) h0 h4 hpl)
  have q1 : decide ((n : Int) < 1) = false := decide_eq_false (by omega)
  have q2 : decide (4 < (n : Int)) = false := decide_eq_false (by omega)
  have q3 : decide (120 < (pl : Int)) = false := decide_eq_false (by omega)
  have hpl' : (pl : Int) ≤ 120 := by omega
  have hil : (bsAt n zs pl).ins.length ≤ 1000 := by have := (binv_at n zs pl).ins; omega
  have HCd : Hid ((List.range pl).map (bcAt n zs) = bcL n zs pl) := rfl
  generalize bsAt n zs pl = S at *
  generalize bcL n zs pl = CL at *
  clear hp
  go_enter Try.func3, Try.ntmps3
  go_wp2_with (fail)
  go_at_call 8
  refine (HP.out).mono ?_
  rintro e w1 ⟨⟨C1, a1, c1, a2, c2, a3, c3, va1, vc1, rfl, hS1⟩, hk1⟩
  generalize hi1 : S.ins.length = i1 at *
  have HI1 := hidMk hi1
  clear hi1
  have k2 : Stil w1 ((w1.alloc (.cells #[.slice (some ⟨C1, 0, none⟩) pl pl, .slice a1 n c1, .slice a2 n c2, .slice a3 n c3, .slice va1 i1 vc1] 26)).alloc (.cells #[.slice none 0 0, .slice none 0 0, .slice none 0 0, .slice none 0 0, .slice none 0 0] 26)) := ((Keep.refl _ w1).alloc _).alloc _
  have HK2 := hidMk (Stil.tr hk1 k2)
  have HS1 := hidMk hS1
  have HK12 := hidMk k2
  have HLa : Hid (((w1.alloc (.cells #[.slice (some ⟨C1, 0, none⟩) pl pl, .slice a1 n c1, .slice a2 n c2, .slice a3 n c3, .slice va1 i1 vc1] 26)).alloc (.cells #[.slice none 0 0, .slice none 0 0, .slice none 0 0, .slice none 0 0, .slice none 0 0] 26)).heap[w1.heap.size]? = some (.cells #[.slice (some ⟨C1, 0, none⟩) pl pl, .slice a1 n c1, .slice a2 n c2, .slice a3 n c3, .slice va1 i1 vc1] 26 (0, 0))) := by
    show _ = _
    rw [al_old _ _ _ (by simp), al_new]
  have HLb : Hid (((w1.alloc (.cells #[.slice (some ⟨C1, 0, none⟩) pl pl, .slice a1 n c1, .slice a2 n c2, .slice a3 n c3, .slice va1 i1 vc1] 26)).alloc (.cells #[.slice none 0 0, .slice none 0 0, .slice none 0 0, .slice none 0 0, .slice none 0 0] 26)).heap[w1.heap.size + 1]? = some (.cells #[.slice none 0 0, .slice none 0 0, .slice none 0 0, .slice none 0 0, .slice none 0 0] 26 (0, 0))) := by
    have := al_new (w1.alloc (.cells #[.slice (some ⟨C1, 0, none⟩) pl pl, .slice a1 n c1, .slice a2 n c2, .slice a3 n c3, .slice va1 i1 vc1] 26)) (.cells #[.slice none 0 0, .slice none 0 0, .slice none 0 0, .slice none 0 0, .slice none 0 0] 26)
    show _ = _
    simpa using this
  have HWl : Hid (W.heap.size ≤ w1.heap.size) := hk1.size
  clear hk1 k2 hS1 HP
  go_wp2_with (fail)
  generalize ((w1.alloc (.cells #[.slice (some ⟨C1, 0, none⟩) pl pl, .slice a1 n c1, .slice a2 n c2, .slice a3 n c3, .slice va1 i1 vc1] 26)).alloc (.cells #[.slice none 0 0, .slice none 0 0, .slice none 0 0, .slice none 0 0, .slice none 0 0] 26)) = w2 at *
  generalize hLaE : w1.heap.size = La at *
  go_at_call 9
  refine (HRf.out _ HK2.out).mono ?_
  rintro e w3 ⟨⟨ca, cc, A, T, C, va, vc, rfl, s0, s1, s2, s3, s4⟩, hk3⟩
  (try rw [HI1.out] at s4)
  (try rw [HI1.out])
  have hLb := (hk3.block _ (Array.getElem?_eq_some_iff.1 HLb.out).1 (fun e => e)).trans HLb.out
  have hLa := (hk3.block _ (Array.getElem?_eq_some_iff.1 HLa.out).1 (fun e => e)).trans HLa.out
  have r0 : w3.cell? ⟨La + 1, 0, none⟩ = some (.slice none 0 0) := by rw [cell_of_row w3 _ _ _ _ _ hLb]; rfl
  have r1 : w3.cell? ⟨La + 1, 1, none⟩ = some (.slice none 0 0) := by rw [cell_of_row w3 _ _ _ _ _ hLb]; rfl
  have r2 : w3.cell? ⟨La + 1, 2, none⟩ = some (.slice none 0 0) := by rw [cell_of_row w3 _ _ _ _ _ hLb]; rfl
  have r3 : w3.cell? ⟨La + 1, 3, none⟩ = some (.slice none 0 0) := by rw [cell_of_row w3 _ _ _ _ _ hLb]; rfl
  have r4 : w3.cell? ⟨La + 1, 4, none⟩ = some (.slice none 0 0) := by rw [cell_of_row w3 _ _ _ _ _ hLb]; rfl
  have f0 : w3.frozen? ⟨La + 1, 0, none⟩ = false := frozen_of_row w3 _ _ _ _ hLb
  have f1 : w3.frozen? ⟨La + 1, 1, none⟩ = false := frozen_of_row w3 _ _ _ _ hLb
  have f2 : w3.frozen? ⟨La + 1, 2, none⟩ = false := frozen_of_row w3 _ _ _ _ hLb
  have f3 : w3.frozen? ⟨La + 1, 3, none⟩ = false := frozen_of_row w3 _ _ _ _ hLb
  have f4 : w3.frozen? ⟨La + 1, 4, none⟩ = false := frozen_of_row w3 _ _ _ _ hLb
  have kk := (((((Keep.refl (fun g => g = La + 1) w3).setCell (La + 1) 0 (.slice ca pl cc) (fun _ => rfl)).setCell (La + 1) 1 (.slice (some ⟨A, 0, none⟩) n n) (fun _ => rfl)).setCell (La + 1) 2 (.slice (some ⟨T, 0, none⟩) n n) (fun _ => rfl)).setCell (La + 1) 3 (.slice (some ⟨C, 0, none⟩) n n) (fun _ => rfl)).setCell (La + 1) 4 (.slice va i1 vc) (fun _ => rfl)
  have b1 := heap_setCell_same w3 (La + 1) 0 _ _ (.slice ca pl cc) hLb
  have b2 := heap_setCell_same _ (La + 1) 1 _ _ (.slice (some ⟨A, 0, none⟩) n n) b1
  have b3 := heap_setCell_same _ (La + 1) 2 _ _ (.slice (some ⟨T, 0, none⟩) n n) b2
  have b4 := heap_setCell_same _ (La + 1) 3 _ _ (.slice (some ⟨C, 0, none⟩) n n) b3
  have b5 := heap_setCell_same _ (La + 1) 4 _ _ (.slice va i1 vc) b4
  have nI : ∀ j z, w3.cell? ⟨La + 1, j, none⟩ ≠ some (.int .i64 z) := fun j z e => by
    rw [cell_of_row w3 _ _ _ _ _ hLb] at e
    rcases j with _ | _ | _ | _ | _ | j <;> simp at e
  have nB : ∀ j z, w3.cell? ⟨La + 1, j, none⟩ ≠ some (.bool z) := fun j z e => by
    rw [cell_of_row w3 _ _ _ _ _ hLb] at e
    rcases j with _ | _ | _ | _ | _ | j <;> simp at e
  have k14 := ((Stil.tr HK12.out hk3).mono (q := fun g => g = La + 1) (fun _ _ e => e.elim)).trans kk (fun _ _ e => e) (fun _ _ e => e)
  have nO : ∀ g, g < w1.heap.size → ¬ g = La + 1 := fun g hg e => by omega
  have cds := rowI_keepO HS1.out.codes k14 nO
  rw [HCd.out] at cds
  have cins := rowI_keepO HS1.out.ins k14 nO
  rw [HI1.out] at cins
  have HSm := hidMk (bakeries_same cds (rowI_keepO HS1.out.at k14 nO) (rowI_keepO HS1.out.tk k14 nO) (rowO_keepO HS1.out.ch k14 nO) cins
    (rowI_past s0 kk nI) (rowI_past s1 kk nI) (rowI_past s2 kk nI) (rowO_past s3 kk nB) (rowI_past s4 kk nI) (by omega) (by omega) hil)
  have hKf : Keep (fun g => g = La + 1) W _ := ((Stil.tr HK2.out hk3).mono (q := fun g => g = La + 1) (fun _ _ e => e.elim)).trans kk (fun _ _ e => e) (fun _ _ e => e)
  have HKf : Hid (Stil W _) := hKf.mono (q := fun _ => False) (fun g hg e => by have := HWl.out; omega)
  have hLn : ¬ La = La + 1 := by omega
  have x0 := cell_kept (j := 0) (v := .slice (some ⟨C1, 0, none⟩) pl pl) kk hLa hLn rfl
  have x1 := cell_kept (j := 1) (v := .slice a1 n c1) kk hLa hLn rfl
  have x2 := cell_kept (j := 2) (v := .slice a2 n c2) kk hLa hLn rfl
  have x3 := cell_kept (j := 3) (v := .slice a3 n c3) kk hLa hLn rfl
  have x4 := cell_kept (j := 4) (v := .slice va1 i1 vc1) kk hLa hLn rfl
  have z0 := cell_is (j := 0) (v := .slice ca pl cc) b5 rfl
  have z1 := cell_is (j := 1) (v := .slice (some ⟨A, 0, none⟩) n n) b5 rfl
  have z2 := cell_is (j := 2) (v := .slice (some ⟨T, 0, none⟩) n n) b5 rfl
  have z3 := cell_is (j := 3) (v := .slice (some ⟨C, 0, none⟩) n n) b5 rfl
  have z4 := cell_is (j := 4) (v := .slice va i1 vc) b5 rfl
  clear k14 hKf b1 b2 b3 b4 b5 kk hLa hLb nI nB nO cds cins s0 s1 s2 s3 s4 hk3 HS1 HK12 HK2 HLa HLb HRf
  go_upto_region 7 with fail
  obtain ⟨w4, e4⟩ : ∃ w' : World, w' = ((((w3.setCell ⟨La + 1, 0, none⟩ (.slice ca pl cc)).setCell ⟨La + 1, 1, none⟩ (.slice (some ⟨A, 0, none⟩) n n)).setCell ⟨La + 1, 2, none⟩ (.slice (some ⟨T, 0, none⟩) n n)).setCell ⟨La + 1, 3, none⟩ (.slice (some ⟨C, 0, none⟩) n n)).setCell ⟨La + 1, 4, none⟩ (.slice va i1 vc) := ⟨_, rfl⟩
  rw [← e4]
  rw [← e4] at HSm HKf x0 x1 x2 x3 x4 z0 z1 z2 z3 z4
  clear e4 hLn
  clear r0 r1 r2 r3 r4 f0 f1 f2 f3 f4
  go_wp2_with (fail)
  go_at_call 10
  refine (HSm.out).mono ?_
  rintro e w5 ⟨rfl, hk5⟩
  have HK5 := hidMk (Stil.tr HKf.out hk5)
  clear hk5
  go_wp2
  go_ret
  exact ⟨rfl, Stil.below HK5.out⟩

theorem bplays_walk {W : World} {z : Int} {pa : Option Addr} {pl pc : Nat} {zs : List Int} (hp : CameI W pa pl pc zs) :
    Calls Try.prog 3 #[.int .i64 z, .slice pa pl pc] W fun e W2 => e = .returned (.bool true) ∧ Below W.heap.size W W2 := by
  by_cases hz : bakCode z pl = 0
  · obtain ⟨n, rfl, h0, h6, h120⟩ := bakCode_zero hz
    exact bplays_ok hp h0 h6 h120
  · exact bplays_bad hp hz
end Go.Proofs.Ytgnigjfgddhgiaa
