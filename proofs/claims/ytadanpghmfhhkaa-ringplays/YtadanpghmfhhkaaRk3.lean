/- folkmootlaw.RingPlays, walked. -/
import Derived.Test.YtadanpghmfhhkaaRk2
namespace Go.Proofs.Ytadanpghmfhhkaa
open Go.RowKit
set_option linter.unusedVariables false

theorem Stil.dr {A B : World} (h : Stil A B) (q : Nat) : Stil A (B.drewN q) := Stil.tr h (Stil.drewN _ _)
theorem rowI_keepO2 {w w' : World} {o : Nat → Prop} {a : Option Addr} {len cap : Nat} {xs : List Int} (h : RowI w a len cap xs) (hs : Keep o w w') (ho : ∀ g, g < w.heap.size → ¬ o g) : RowI w' a len cap xs := by
  obtain ⟨h1, h2, h3, h4⟩ := h
  refine ⟨h1, h2, h3, ?_⟩
  rcases h4 with h4 | ⟨b, off, e, hr, hc⟩
  · exact .inl h4
  · exact .inr ⟨b, off, e, Nat.lt_of_lt_of_le hr hs.size, fun j x hx => (World.cell?_of_block (hs.block b hr (ho _ hr))).trans (hc j x hx)⟩
theorem cell_kept {w w' : World} {o : Nat → Prop} {g j : Nat} {cs : Array Value} {t : TypeId} {fr : Nat × Nat} {v : Value} (kk : Keep o w w') (h : w.heap[g]? = some (.cells cs t fr)) (ho : ¬ o g) (hv : cs[j]? = some v) : w'.cell? ⟨g, j, none⟩ = some v :=
  (cell_of_row w' g j cs t fr ((kk.block g (Array.getElem?_eq_some_iff.1 h).1 ho).trans h)).trans hv
theorem cell_is {w : World} {g j : Nat} {cs : Array Value} {t : TypeId} {fr : Nat × Nat} {v : Value} (h : w.heap[g]? = some (.cells cs t fr)) (hv : cs[j]? = some v) : w.cell? ⟨g, j, none⟩ = some v :=
  (cell_of_row w g j cs t fr h).trans hv
set_option maxRecDepth 100000 in
set_option maxHeartbeats 4000000 in
theorem ringeds_same {w : World} {a0 a1 b0 b1 : Option Addr} {pl il c0 c1 d0 d1 : Nat} {se aw : Int} {x0 x1 : List Int}
    (r0 : RowI w a0 pl c0 x0) (r1 : RowI w a1 il c1 x1) (s0 : RowI w b0 pl d0 x0) (s1 : RowI w b1 il d1 x1) (h1 : pl ≤ 1000) (h2 : il ≤ 1000) :
    Calls Try.prog 11 #[.agg #[.slice a0 pl c0, .slice a1 il c1, .int .i64 se, .int .i64 aw], .agg #[.slice b0 pl d0, .slice b1 il d1, .int .i64 se, .int .i64 aw]] w fun e W2 => e = .returned (.bool true) ∧ Stil w W2 := by
  have H0 := hidMk (fun (w' : World) (h : Stil w w') => codesI_same (r0.still h) (s0.still h) h1)
  have H1 := hidMk (fun (w' : World) (h : Stil w w') => intsI_same (r1.still h) (s1.still h) h2)
  have HK : Hid (Stil w ((w.alloc (.cells #[.slice a0 pl c0, .slice a1 il c1, .int .i64 se, .int .i64 aw] 26)).alloc (.cells #[.slice b0 pl d0, .slice b1 il d1, .int .i64 se, .int .i64 aw] 26))) := ((Keep.refl _ w).alloc _).alloc _
  have q1 : (se == se) = true := by simp
  have q2 : (aw == aw) = true := by simp
  clear r0 r1 s0 s1
  go_enter Try.func11, Try.ntmps11
  go_wp2_with (fail)
  go_at_call 13
  refine (H0.out _ HK.out).mono ?_
  rintro e w1 ⟨rfl, m1, rfl⟩
  clear H0
  go_wp2_with (fail)
  go_at_call 19
  refine (H1.out _ (HK.out.dr _)).mono ?_
  rintro e w1 ⟨rfl, m2, rfl⟩
  clear H1
  go_wp2
  go_ret
  exact ⟨rfl, (HK.out.dr _)⟩

set_option maxRecDepth 100000 in
set_option maxHeartbeats 4000000 in
theorem rplays_bad {W : World} {pa qa : Option Addr} {n pc pl qc : Nat} {zs : List Int} (hp : RowI W pa n pc zs) (hpl : pl ≤ maxLen) (hz : ringCode zs pl ≠ 0) :
    Calls Try.prog 3 #[.slice pa n pc, .slice qa pl qc] W fun e W2 => e = .returned (.bool true) ∧ Below W.heap.size W W2 := by
  have HP := hidMk (play_badG (qa := qa) (qc := qc) hp hz)
  have HCk := hidMk (fun (w' : World) (hw : Stil W w') => rcheck_any (hp.still hw) hpl)
  have HSm := hidMk (fun w => ringeds_same (se := 0) (aw := 0) (RowI.nil w) (RowI.nil w) (RowI.nil w) (RowI.nil w) (Nat.zero_le _) (Nat.zero_le _))
  generalize ringCode zs pl = rc at *
  have q1 : (rc == 0) = false := by rw [beq_eq_false_iff_ne]; exact hz
  have q2 : (rc == rc) = true := by simp
  clear hz hp hpl
  go_enter Try.func3, Try.ntmps3
  go_wp2_with (fail)
  go_at_call 8
  refine (HP.out).mono ?_
  rintro e w1 ⟨rfl, hk1⟩
  have HK1 := hidMk (hk1.alloc (.cells ringZ 26))
  clear hk1 HP
  go_wp2_with (fail)
  go_at_call 9
  refine (HCk.out _ HK1.out).mono ?_
  rintro e w2 ⟨rfl, m, rfl⟩
  have HK2 := hidMk ((Stil.tr HK1.out (Stil.drewN _ m)).alloc (.cells ringZ 26))
  clear HCk HK1
  go_wp2_with (fail)
  go_at_call 11
  refine (HSm.out _).mono ?_
  rintro e w4 ⟨rfl, hk4⟩
  have HK4 := hidMk (Stil.tr HK2.out hk4)
  clear hk4
  go_wp2
  go_ret
  exact ⟨rfl, Stil.below HK4.out⟩

set_option maxRecDepth 100000 in
set_option maxHeartbeats 8000000 in
theorem rplays_ok {W : World} {pa qa : Option Addr} {n pc pl qc : Nat} {zs : List Int} {ps : List Tu} (hp : RowI W pa n pc zs) (hq : CameT W qa pl qc ps) (hz : ringCode zs pl = 0) :
    Calls Try.prog 3 #[.slice pa n pc, .slice qa pl qc] W fun e W2 => e = .returned (.bool true) ∧ Below W.heap.size W W2 := by
  have HP := hidMk (play_seenG hp hq hz)
  have HCk := hidMk (fun (w' : World) (hw : Stil W w') => rcheck_any (hp.still hw) hq.2.2.1)
  have HRf := hidMk (fun (w' : World) (hw : Stil W w') => ref_ring (hp.still hw) (hq.still hw) hz)
  obtain ⟨z1, z2, z3, z4⟩ := ringCode_zero hz
  have hzl := hp.1
  rw [hz] at HCk
  have hpl' : (pl : Int) ≤ 120 := by omega
  have hil : (gsAt n (nmL zs) ps pl).ch.length ≤ 1000 := by have := (gb_at n (nmL zs) ps pl).ch; omega
  have q1 : ((0 : Int) == 0) = true := rfl
  generalize gsAt n (nmL zs) ps pl = S at *
  generalize awayG S n = aw at *
  clear hp hq hz z4 hzl
  go_enter Try.func3, Try.ntmps3
  go_wp2_with (fail)
  go_at_call 8
  refine (HP.out).mono ?_
  rintro e w1 ⟨⟨C1, va1, vc1, rfl, hS1⟩, hk1⟩
  have hcds := hS1.codes
  have hchs := hS1.ch
  generalize S.sent = se at *
  generalize hi1 : S.ch.length = i1 at *
  have HS0 := hidMk hcds
  have HS1 := hidMk hchs
  have HK1 := hidMk (hk1.alloc (.cells #[.slice (some ⟨C1, 0, none⟩) pl pl, .slice va1 i1 vc1, .int .i64 (se : Int), .int .i64 (aw : Int)] 26))
  have HWl : Hid (W.heap.size ≤ w1.heap.size) := hk1.size
  have HLa := hidMk (al_new w1 (.cells #[.slice (some ⟨C1, 0, none⟩) pl pl, .slice va1 i1 vc1, .int .i64 (se : Int), .int .i64 (aw : Int)] 26))
  have HKa : Hid (Stil w1 (w1.alloc (.cells #[.slice (some ⟨C1, 0, none⟩) pl pl, .slice va1 i1 vc1, .int .i64 (se : Int), .int .i64 (aw : Int)] 26))) := Stil.new _ _
  have HLsz : Hid ((w1.alloc (.cells #[.slice (some ⟨C1, 0, none⟩) pl pl, .slice va1 i1 vc1, .int .i64 (se : Int), .int .i64 (aw : Int)] 26)).heap.size = w1.heap.size + 1) := by show _ = _; simp
  clear hk1 HP hS1 hcds hchs
  go_wp2_with (fail)
  generalize w1.alloc (.cells #[.slice (some ⟨C1, 0, none⟩) pl pl, .slice va1 i1 vc1, .int .i64 (se : Int), .int .i64 (aw : Int)] 26) = w2 at *
  generalize hLaE : w1.heap.size = La at *
  go_at_call 9
  refine (HCk.out _ HK1.out).mono ?_
  rintro e w3 ⟨rfl, m, hw3⟩
  have hs3 : Stil w2 w3 := by rw [hw3]; exact Stil.drewN w2 m
  have hz3 : w3.heap.size = La + 1 := by rw [hw3]; exact HLsz.out
  have HK2 := hidMk ((Stil.tr HK1.out hs3).alloc (.cells ringZ 26))
  have HKb : Hid (Stil w2 (w3.alloc (.cells ringZ 26))) := hs3.alloc _
  have HLb : Hid ((w3.alloc (.cells ringZ 26)).heap[La + 1]? = some (.cells ringZ 26 (0, 0))) := by
    have := al_new w3 (.cells ringZ 26)
    rw [hz3] at this
    exact this
  have HZ3 := hidMk hz3
  clear HCk HK1 hw3 hs3 hz3
  go_upto_region 5 with fail
  generalize w3.alloc (.cells ringZ 26) = w4 at *
  rw [HZ3.out]
  go_wp2_with (fail)
  go_at_call 10
  refine (HRf.out _ HK2.out).mono ?_
  rintro e w5 ⟨⟨ca, cc, va, vc, rfl, s0, s1, u0, u1⟩, hk5⟩
  have hw4 : La + 1 < w4.heap.size := (Array.getElem?_eq_some_iff.1 HLb.out).1
  have hLb := (hk5.block _ hw4 (fun e => e)).trans HLb.out
  have hLa := (hk5.block La (by omega) (fun e => e)).trans ((HKb.out.block La (by rw [HLsz.out]; omega) (fun e => e)).trans HLa.out)
  have r0 : w5.cell? ⟨La + 1, 0, none⟩ = some (.slice none 0 0) := by rw [cell_of_row w5 _ _ _ _ _ hLb]; rfl
  have r1 : w5.cell? ⟨La + 1, 1, none⟩ = some (.slice none 0 0) := by rw [cell_of_row w5 _ _ _ _ _ hLb]; rfl
  have r2 : w5.cell? ⟨La + 1, 2, none⟩ = some (.int .i64 0) := by rw [cell_of_row w5 _ _ _ _ _ hLb]; rfl
  have r3 : w5.cell? ⟨La + 1, 3, none⟩ = some (.int .i64 0) := by rw [cell_of_row w5 _ _ _ _ _ hLb]; rfl
  have f0 : w5.frozen? ⟨La + 1, 0, none⟩ = false := frozen_of_row w5 _ _ _ _ hLb
  have f1 : w5.frozen? ⟨La + 1, 1, none⟩ = false := frozen_of_row w5 _ _ _ _ hLb
  have f2 : w5.frozen? ⟨La + 1, 2, none⟩ = false := frozen_of_row w5 _ _ _ _ hLb
  have f3 : w5.frozen? ⟨La + 1, 3, none⟩ = false := frozen_of_row w5 _ _ _ _ hLb
  have kk := ((((Keep.refl (fun g => g = La + 1) w5).setCell (La + 1) 0 (.slice ca pl cc) (fun _ => rfl)).setCell (La + 1) 1 (.slice va i1 vc) (fun _ => rfl)).setCell (La + 1) 2 (.int .i64 (se : Int)) (fun _ => rfl)).setCell (La + 1) 3 (.int .i64 (aw : Int)) (fun _ => rfl)
  have b1 := heap_setCell_same w5 (La + 1) 0 _ _ (.slice ca pl cc) hLb
  have b2 := heap_setCell_same _ (La + 1) 1 _ _ (.slice va i1 vc) b1
  have b3 := heap_setCell_same _ (La + 1) 2 _ _ (.int .i64 (se : Int)) b2
  have b4 := heap_setCell_same _ (La + 1) 3 _ _ (.int .i64 (aw : Int)) b3
  have k14 := (((Stil.tr (Stil.tr HKa.out HKb.out) hk5)).mono (q := fun g => g = La + 1) (fun _ _ e => e.elim)).trans kk (fun _ _ e => e) (fun _ _ e => e)
  have nO : ∀ x : Addr, x.block < La → ¬ x.block = La + 1 := fun x hx e => by omega
  have c0 := rowI_keepO2 HS0.out k14 (fun g hg e => by omega)
  have c1 := rowI_keepO2 HS1.out k14 (fun g hg e => by omega)
  have s0' := rowI_keep s0 kk (fun x hx e => by have := u0 x hx; omega)
  have s1' := rowI_keep s1 kk (fun x hx e => by have := u1 x hx; omega)
  have HSm := hidMk (ringeds_same (se := (se : Int)) (aw := (aw : Int)) c0 c1 s0' s1' (by omega) hil)
  have hKf : Keep (fun g => g = La + 1) W _ := ((Stil.tr HK2.out hk5).mono (q := fun g => g = La + 1) (fun _ _ e => e.elim)).trans kk (fun _ _ e => e) (fun _ _ e => e)
  have HKf : Hid (Stil W _) := hKf.mono (q := fun _ => False) (fun g hg e => by have := HWl.out; omega)
  have hLn : ¬ La = La + 1 := by omega
  have x0 := cell_kept (j := 0) (v := .slice (some ⟨C1, 0, none⟩) pl pl) kk hLa hLn rfl
  have x1 := cell_kept (j := 1) (v := .slice va1 i1 vc1) kk hLa hLn rfl
  have x2 := cell_kept (j := 2) (v := .int .i64 (se : Int)) kk hLa hLn rfl
  have x3 := cell_kept (j := 3) (v := .int .i64 (aw : Int)) kk hLa hLn rfl
  have z0 := cell_is (j := 0) (v := .slice ca pl cc) b4 rfl
  have y1 := cell_is (j := 1) (v := .slice va i1 vc) b4 rfl
  have y2 := cell_is (j := 2) (v := .int .i64 (se : Int)) b4 rfl
  have y3 := cell_is (j := 3) (v := .int .i64 (aw : Int)) b4 rfl
  clear k14 hKf b1 b2 b3 b4 kk hLa hLb nO c0 c1 s0 s1 s0' s1' u0 u1 hk5 HS0 HS1 HKa HKb HK2 HLa HLb HRf
  go_upto_region 6 with fail
  obtain ⟨w6, e6⟩ : ∃ w' : World, w' = (((w5.setCell ⟨La + 1, 0, none⟩ (.slice ca pl cc)).setCell ⟨La + 1, 1, none⟩ (.slice va i1 vc)).setCell ⟨La + 1, 2, none⟩ (.int .i64 (se : Int))).setCell ⟨La + 1, 3, none⟩ (.int .i64 (aw : Int)) := ⟨_, rfl⟩
  rw [← e6]
  rw [← e6] at HSm HKf x0 x1 x2 x3 z0 y1 y2 y3
  clear e6 hLn
  clear r0 r1 r2 r3 f0 f1 f2 f3
  go_wp2_with (fail)
  go_at_call 11
  refine (HSm.out).mono ?_
  rintro e w7 ⟨rfl, hk7⟩
  have HK7 := hidMk (Stil.tr HKf.out hk7)
  clear hk7
  go_wp2
  go_ret
  exact ⟨rfl, Stil.below HK7.out⟩

theorem rplays_walk {W : World} {pa qa : Option Addr} {n pc pl qc : Nat} {zs : List Int} {ps : List Tu} (hp : CameI W pa n pc zs) (hq : CameT W qa pl qc ps) :
    Calls Try.prog 3 #[.slice pa n pc, .slice qa pl qc] W fun e W2 => e = .returned (.bool true) ∧ Below W.heap.size W W2 := by
  by_cases hz : ringCode zs pl = 0
  · exact rplays_ok hp hq hz
  · exact rplays_bad hp hq.2.2.1 hz
end Go.Proofs.Ytadanpghmfhhkaa
