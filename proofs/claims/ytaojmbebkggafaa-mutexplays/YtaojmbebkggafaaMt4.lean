/- folkmootlaw.MutexPlays, walked. -/
import Derived.Test.YtaojmbebkggafaaMt3
import Derived.Test.YtaojmbebkggafaaMd0
namespace Go.Proofs.Ytaojmbebkggafaa
open Go.RowKit
set_option linter.unusedVariables false

theorem Stil.dr {A B : World} (h : Stil A B) (q : Nat) : Stil A (B.drewN q) := Stil.tr h (Stil.drewN _ _)
theorem rowI_keepO {w w' : World} {o : Nat → Prop} {a : Option Addr} {len cap : Nat} {xs : List Int} (h : RowI w a len cap xs) (hs : Keep o w w') (ho : ∀ g, g < w.heap.size → ¬ o g) : RowI w' a len cap xs := by
  obtain ⟨h1, h2, h3, h4⟩ := h
  refine ⟨h1, h2, h3, ?_⟩
  rcases h4 with h4 | ⟨b, off, e, hr, hc⟩
  · exact .inl h4
  · exact .inr ⟨b, off, e, Nat.lt_of_lt_of_le hr hs.size, fun j x hx => (World.cell?_of_block (hs.block b hr (ho _ hr))).trans (hc j x hx)⟩
/-- A block that holds no numbers is not a row's. -/
theorem rowI_past {w w' : World} {g : Nat} {a : Option Addr} {len cap : Nat} {xs : List Int} (h : RowI w a len cap xs) (hs : Keep (fun q => q = g) w w') (hc : ∀ j z, w.cell? ⟨g, j, none⟩ ≠ some (.int .i64 z)) : RowI w' a len cap xs := by
  obtain ⟨h1, h2, h3, h4⟩ := h
  refine ⟨h1, h2, h3, ?_⟩
  by_cases hz : len = 0
  · exact .inl hz
  rcases h4 with h4 | ⟨b, off, e, hr, hcl⟩
  · exact .inl h4
  · have hx : xs[0]? = some (xs[0]'(by omega)) := List.getElem?_eq_getElem (by omega)
    have hbg : ¬ b = g := fun e2 => hc _ _ (by rw [← e2]; exact hcl 0 _ hx)
    exact .inr ⟨b, off, e, Nat.lt_of_lt_of_le hr hs.size, fun j x hx => (World.cell?_of_block (hs.block b hr hbg)).trans (hcl j x hx)⟩
set_option maxRecDepth 100000 in
set_option maxHeartbeats 4000000 in
theorem castcheck_any {z : Int} {pl : Nat} {w : World} : Calls Try.prog 5 #[.int .i64 z, .int .i64 (pl : Int)] w fun e w2 => e = .returned (.int .i64 (castCode z pl)) ∧ w2 = w := by
  unfold castCode
  by_cases h1 : z < 1
  · have q1 : decide (z < 1) = true := decide_eq_true h1
    rw [if_pos (.inl h1)]
    go_enter Try.func5, Try.ntmps5
    go_wp2
    go_ret
    exact ⟨rfl, rfl⟩
  · have q1 : decide (z < 1) = false := decide_eq_false h1
    by_cases h2 : 6 < z
    · have q2 : decide (6 < z) = true := decide_eq_true h2
      rw [if_pos (.inr (.inl h2))]
      go_enter Try.func5, Try.ntmps5
      go_wp2
      go_ret
      exact ⟨rfl, rfl⟩
    · have q2 : decide (6 < z) = false := decide_eq_false h2
      by_cases h3 : 120 < pl
      · have q3 : decide (120 < (pl : Int)) = true := decide_eq_true (by omega)
        have q4 : (120 : Int) < (pl : Int) := by omega
        rw [if_pos (.inr (.inr h3))]
        go_enter Try.func5, Try.ntmps5
        go_wp2
        go_ret
        exact ⟨rfl, rfl⟩
      · have q3 : decide (120 < (pl : Int)) = false := decide_eq_false (by omega)
        have q4 : (pl : Int) ≤ 120 := by omega
        rw [if_neg (by omega)]
        go_enter Try.func5, Try.ntmps5
        go_wp2
        go_ret
        exact ⟨rfl, rfl⟩

set_option maxRecDepth 100000 in
set_option maxHeartbeats 4000000 in
theorem entereds_same {w : World} {a0 a1 a2 b0 b1 b2 : Option Addr} {pl n il c0 c1 c2 d0 d1 d2 : Nat} {x0 x1 x2 : List Int} {aw : Int}
    (r0 : RowI w a0 pl c0 x0) (r1 : RowI w a1 n c1 x1) (r2 : RowI w a2 il c2 x2) (s0 : RowI w b0 pl d0 x0) (s1 : RowI w b1 n d1 x1) (s2 : RowI w b2 il d2 x2) (h1 : pl ≤ 1000) (h2 : n ≤ 1000) (h3 : il ≤ 1000) :
    Calls Try.prog 7 #[.agg #[.slice a0 pl c0, .slice a1 n c1, .slice a2 il c2, .int .i64 aw], .agg #[.slice b0 pl d0, .slice b1 n d1, .slice b2 il d2, .int .i64 aw]] w fun e W2 => e = .returned (.bool true) ∧ Stil w W2 := by
  have H0 := hidMk (fun (w' : World) (h : Stil w w') => codesI_same (r0.still h) (s0.still h) h1)
  have H1 := hidMk (fun (w' : World) (h : Stil w w') => intsI_same (r1.still h) (s1.still h) h2)
  have H2 := hidMk (fun (w' : World) (h : Stil w w') => intsI_same (r2.still h) (s2.still h) h3)
  have HK : Hid (Stil w ((w.alloc (.cells #[.slice a0 pl c0, .slice a1 n c1, .slice a2 il c2, .int .i64 aw] 26)).alloc (.cells #[.slice b0 pl d0, .slice b1 n d1, .slice b2 il d2, .int .i64 aw] 26))) := ((Keep.refl _ w).alloc _).alloc _
  clear r0 r1 r2 s0 s1 s2
  go_enter Try.func7, Try.ntmps7
  go_wp2_with (fail)
  go_at_call 13
  refine (H0.out _ HK.out).mono ?_
  rintro e w1 ⟨rfl, m1, rfl⟩
  clear H0
  go_wp2_with (fail)
  go_at_call 14
  refine (H1.out _ (HK.out.dr _)).mono ?_
  rintro e w1 ⟨rfl, m2, rfl⟩
  clear H1
  go_wp2_with (fail)
  go_at_call 14
  refine (H2.out _ (HK.out.dr _)).mono ?_
  rintro e w1 ⟨rfl, m3, rfl⟩
  clear H2
  go_wp2
  go_ret
  exact ⟨by first | rfl | simp, HK.out.dr _⟩

set_option maxRecDepth 100000 in
set_option maxHeartbeats 4000000 in
theorem mplays_bad {W : World} {pa : Option Addr} {z : Int} {pl pc : Nat} (hz : castCode z pl ≠ 0) (hpl : pl ≤ maxLen) :
    Calls Try.prog 3 #[.int .i64 z, .slice pa pl pc] W fun e W2 => e = .returned (.bool true) ∧ Below W.heap.size W W2 := by
  have hz1 : castCode z pl = 1 := by unfold castCode at *; split at hz <;> simp_all
  have HP := hidMk (play_badM (W := W) (pa := pa) (pc := pc) hz hpl)
  have HCk := hidMk (fun w : World => castcheck_any (z := z) (pl := pl) (w := w))
  rw [hz1] at HCk
  have HSm := hidMk (fun w => entereds_same (aw := 0) (RowI.nil w) (RowI.nil w) (RowI.nil w) (RowI.nil w) (RowI.nil w) (RowI.nil w) (Nat.zero_le _) (Nat.zero_le _) (Nat.zero_le _))
  clear hz hz1 hpl
  go_enter Try.func3, Try.ntmps3
  go_wp2_with (fail)
  go_at_call 4
  refine (HP.out).mono ?_
  rintro e w1 ⟨rfl, hk1⟩
  have HK1 := hidMk ((hk1.alloc (.cells #[.slice none 0 0, .slice none 0 0, .slice none 0 0, .int .i64 0] 26)).alloc (.cells #[.slice none 0 0, .slice none 0 0, .slice none 0 0, .int .i64 0] 26))
  clear hk1 HP
  go_wp2_with (fail)
  go_at_call 5
  refine (HCk.out _).mono ?_
  rintro e w2 ⟨rfl, hk2⟩
  obtain rfl := hk2.symm
  clear hk2 HCk
  go_wp2_with (fail)
  go_at_call 7
  refine (HSm.out _).mono ?_
  rintro e w4 ⟨rfl, hk4⟩
  have HK4 := hidMk (Stil.tr HK1.out hk4)
  clear hk4
  go_wp2
  go_ret
  exact ⟨rfl, Stil.below HK4.out⟩

set_option maxRecDepth 100000 in
set_option maxHeartbeats 8000000 in
theorem mplays_ok {W : World} {pa : Option Addr} {n pl pc : Nat} {ps : List Cst} (hp : CameC W pa pl pc ps) (h0 : 0 < n) (h6 : n ≤ 6) (hpl : pl ≤ 120) :
    Calls Try.prog 3 #[.int .i64 (n : Int), .slice pa pl pc] W fun e W2 => e = .returned (.bool true) ∧ Below W.heap.size W W2 := by
  have hz : castCode (n : Int) pl = 0 := by unfold castCode; rw [if_neg (by omega)]
  have HP := hidMk (play_seenM hp h0 h6 hpl)
  have HCk := hidMk (fun w : World => castcheck_any (z := (n : Int)) (pl := pl) (w := w))
  rw [hz] at HCk
  have HRf := hidMk (fun (w' : World) (hw : Stil W w') => ref_mutex (hp.keep hw (fun _ _ e => e)) h0 h6 hpl)
  have hil : (msAt n ps pl).ins.length ≤ 1000 := by have := (mb_at (n := n) (by omega) ps pl).ins; omega
  have hjl : (insideM n (msAt n ps pl)).length ≤ 1000 := by have := inside_few (mb_at (n := n) (by omega) ps pl).inv; omega
  have HCd : Hid (∃ CL, CL = (List.range pl).map (mcAt n ps)) := ⟨_, rfl⟩
  obtain ⟨CL, hCL⟩ := HCd.out
  rw [← hCL] at HRf
  have HCL := hidMk hCL
  clear hCL HCd
  generalize msAt n ps pl = S at *
  clear hp hz
  go_enter Try.func3, Try.ntmps3
  go_wp2_with (fail)
  go_at_call 4
  refine (HP.out).mono ?_
  rintro e w1 ⟨⟨C1, va1, vc1, ia1, ic1, rfl, hS1⟩, hk1⟩
  generalize hi1 : S.ins.length = i1 at *
  generalize hj1 : (insideM n S).length = j1 at *
  generalize haw : (awayM n S : Int) = aw at *
  have HI1 := hidMk hi1
  have HJ1 := hidMk hj1
  have HAw := hidMk haw
  clear hi1 hj1 haw
  have k2 : Stil w1 ((w1.alloc (.cells #[.slice (some ⟨C1, 0, none⟩) pl pl, .slice va1 i1 vc1, .slice ia1 j1 ic1, .int .i64 aw] 26)).alloc (.cells #[.slice none 0 0, .slice none 0 0, .slice none 0 0, .int .i64 0] 26)) := ((Keep.refl _ w1).alloc _).alloc _
  have HK2 := hidMk (Stil.tr hk1 k2)
  have HS1 := hidMk hS1
  have HK12 := hidMk k2
  have HLa : Hid (((w1.alloc (.cells #[.slice (some ⟨C1, 0, none⟩) pl pl, .slice va1 i1 vc1, .slice ia1 j1 ic1, .int .i64 aw] 26)).alloc (.cells #[.slice none 0 0, .slice none 0 0, .slice none 0 0, .int .i64 0] 26)).heap[w1.heap.size]? = some (.cells #[.slice (some ⟨C1, 0, none⟩) pl pl, .slice va1 i1 vc1, .slice ia1 j1 ic1, .int .i64 aw] 26 (0, 0))) := by
    show _ = _
    rw [al_old _ _ _ (by simp), al_new]
  have HLb : Hid (((w1.alloc (.cells #[.slice (some ⟨C1, 0, none⟩) pl pl, .slice va1 i1 vc1, .slice ia1 j1 ic1, .int .i64 aw] 26)).alloc (.cells #[.slice none 0 0, .slice none 0 0, .slice none 0 0, .int .i64 0] 26)).heap[w1.heap.size + 1]? = some (.cells #[.slice none 0 0, .slice none 0 0, .slice none 0 0, .int .i64 0] 26 (0, 0))) := by
    have := al_new (w1.alloc (.cells #[.slice (some ⟨C1, 0, none⟩) pl pl, .slice va1 i1 vc1, .slice ia1 j1 ic1, .int .i64 aw] 26)) (.cells #[.slice none 0 0, .slice none 0 0, .slice none 0 0, .int .i64 0] 26)
    show _ = _
    simpa using this
  have HWl : Hid (W.heap.size ≤ w1.heap.size) := hk1.size
  clear hk1 k2 hS1 HP
  go_wp2_with (fail)
  go_at_call 5
  refine (HCk.out _).mono ?_
  rintro e w2 ⟨rfl, hk2⟩
  obtain rfl := hk2.symm
  clear hk2 HCk
  go_wp2_with (fail)
  generalize ((w1.alloc (.cells #[.slice (some ⟨C1, 0, none⟩) pl pl, .slice va1 i1 vc1, .slice ia1 j1 ic1, .int .i64 aw] 26)).alloc (.cells #[.slice none 0 0, .slice none 0 0, .slice none 0 0, .int .i64 0] 26)) = w2 at *
  generalize hLaE : w1.heap.size = La at *
  go_at_call 6
  refine (HRf.out _ HK2.out).mono ?_
  rintro e w3 ⟨⟨ca, cc, va, vc, ia, ic, rfl, s0, s1, s2, n0, n1, n2⟩, hk3⟩
  (try rw [HI1.out] at s1)
  (try rw [HI1.out])
  (try rw [HJ1.out] at s2)
  (try rw [HJ1.out])
  (try rw [HAw.out])
  have hLb := (hk3.block _ (Array.getElem?_eq_some_iff.1 HLb.out).1 (fun e => e)).trans HLb.out
  have hLa := (hk3.block _ (Array.getElem?_eq_some_iff.1 HLa.out).1 (fun e => e)).trans HLa.out
  have r0 : w3.cell? ⟨La + 1, 0, none⟩ = some (.slice none 0 0) := by rw [cell_of_row w3 _ _ _ _ _ hLb]; rfl
  have r1 : w3.cell? ⟨La + 1, 1, none⟩ = some (.slice none 0 0) := by rw [cell_of_row w3 _ _ _ _ _ hLb]; rfl
  have r2 : w3.cell? ⟨La + 1, 2, none⟩ = some (.slice none 0 0) := by rw [cell_of_row w3 _ _ _ _ _ hLb]; rfl
  have r3 : w3.cell? ⟨La + 1, 3, none⟩ = some (.int .i64 0) := by rw [cell_of_row w3 _ _ _ _ _ hLb]; rfl
  have f0 : w3.frozen? ⟨La + 1, 0, none⟩ = false := frozen_of_row w3 _ _ _ _ hLb
  have f1 : w3.frozen? ⟨La + 1, 1, none⟩ = false := frozen_of_row w3 _ _ _ _ hLb
  have f2 : w3.frozen? ⟨La + 1, 2, none⟩ = false := frozen_of_row w3 _ _ _ _ hLb
  have f3 : w3.frozen? ⟨La + 1, 3, none⟩ = false := frozen_of_row w3 _ _ _ _ hLb
  have kk := ((((Keep.refl (fun g => g = La + 1) w3).setCell (La + 1) 0 (.slice ca pl cc) (fun _ => rfl)).setCell (La + 1) 1 (.slice va i1 vc) (fun _ => rfl)).setCell (La + 1) 2 (.slice ia j1 ic) (fun _ => rfl)).setCell (La + 1) 3 (.int .i64 aw) (fun _ => rfl)
  have b1 := heap_setCell_same w3 (La + 1) 0 _ _ (.slice ca pl cc) hLb
  have b2 := heap_setCell_same _ (La + 1) 1 _ _ (.slice va i1 vc) b1
  have b3 := heap_setCell_same _ (La + 1) 2 _ _ (.slice ia j1 ic) b2
  have b4 := heap_setCell_same _ (La + 1) 3 _ _ (.int .i64 aw) b3
  have hLbl := (Array.getElem?_eq_some_iff.1 HLb.out).1
  have k14 := ((Stil.tr HK12.out hk3).mono (q := fun g => g = La + 1) (fun _ _ e => e.elim)).trans kk (fun _ _ e => e) (fun _ _ e => e)
  have nO : ∀ g, g < w1.heap.size → ¬ g = La + 1 := fun g hg e => by omega
  have cds := rowI_keepO HS1.out.codes k14 nO
  rw [← HCL.out] at cds
  have cins := rowI_keepO HS1.out.ins k14 nO
  rw [HI1.out] at cins
  have cisd := rowI_keepO HS1.out.inside k14 nO
  rw [HJ1.out] at cisd
  have HSm := hidMk (entereds_same (aw := aw) cds cins cisd (rowI_keep s0 kk (fun x hx e => by have := n0 x hx; omega)) (rowI_keep s1 kk (fun x hx e => by have := n1 x hx; omega)) (rowI_keep s2 kk (fun x hx e => by have := n2 x hx; omega)) (by omega) hil hjl)
  have hKf : Keep (fun g => g = La + 1) W _ := ((Stil.tr HK2.out hk3).mono (q := fun g => g = La + 1) (fun _ _ e => e.elim)).trans kk (fun _ _ e => e) (fun _ _ e => e)
  have HKf : Hid (Stil W _) := hKf.mono (q := fun _ => False) (fun g hg e => by have := HWl.out; omega)
  have x0 := (World.cell?_of_block (kk.block La (Array.getElem?_eq_some_iff.1 hLa).1 (by show ¬ La = La + 1; omega))).trans ((cell_of_row w3 La 0 _ _ _ hLa).trans rfl)
  have x1 := (World.cell?_of_block (kk.block La (Array.getElem?_eq_some_iff.1 hLa).1 (by show ¬ La = La + 1; omega))).trans ((cell_of_row w3 La 1 _ _ _ hLa).trans rfl)
  have x2 := (World.cell?_of_block (kk.block La (Array.getElem?_eq_some_iff.1 hLa).1 (by show ¬ La = La + 1; omega))).trans ((cell_of_row w3 La 2 _ _ _ hLa).trans rfl)
  have x3 := (World.cell?_of_block (kk.block La (Array.getElem?_eq_some_iff.1 hLa).1 (by show ¬ La = La + 1; omega))).trans ((cell_of_row w3 La 3 _ _ _ hLa).trans rfl)
  have z0 := (cell_of_row _ (La + 1) 0 _ _ _ b4).trans rfl
  have z1 := (cell_of_row _ (La + 1) 1 _ _ _ b4).trans rfl
  have z2 := (cell_of_row _ (La + 1) 2 _ _ _ b4).trans rfl
  have z3 := (cell_of_row _ (La + 1) 3 _ _ _ b4).trans rfl
  clear k14 hKf b1 b2 b3 b4 kk hLa hLb n0 n1 n2 hLbl nO cds cins cisd s0 s1 s2 hk3 HS1 HK12 HK2 HLa HLb HRf hil hjl
  go_upto_region 6 with fail
  generalize (((w3.setCell ⟨La + 1, 0, none⟩ (.slice ca pl cc)).setCell ⟨La + 1, 1, none⟩ (.slice va i1 vc)).setCell ⟨La + 1, 2, none⟩ (.slice ia j1 ic)).setCell ⟨La + 1, 3, none⟩ (.int .i64 aw) = w4 at *
  clear r0 r1 r2 r3 f0 f1 f2 f3
  go_wp2_with (fail)
  go_at_call 7
  refine (HSm.out).mono ?_
  rintro e w5 ⟨rfl, hk5⟩
  have HK5 := hidMk (Stil.tr HKf.out hk5)
  clear hk5
  go_wp2
  go_ret
  exact ⟨rfl, Stil.below HK5.out⟩

theorem mplays_walk {W : World} {z : Int} {pa : Option Addr} {pl pc : Nat} {ps : List Cst} (hp : CameC W pa pl pc ps) :
    Calls Try.prog 3 #[.int .i64 z, .slice pa pl pc] W fun e W2 => e = .returned (.bool true) ∧ Below W.heap.size W W2 := by
  by_cases hz : castCode z pl = 0
  · obtain ⟨n, rfl, h0, h6, h120⟩ := castCode_zero hz
    exact mplays_ok hp h0 h6 h120
  · exact mplays_bad hz hp.2.2.1
end Go.Proofs.Ytaojmbebkggafaa
