/- take, tell, hear. -/
import Derived.Test.YtipoopbkapgfiaaTa2
namespace Go.Proofs.Ytipoopbkapgfiaa
open Go.RowKit Go.WideMaps
set_option linter.unusedVariables false

variable {W W2 : World} {mb n : Nat} {s : TS} {h h2 : TSh}
set_option maxRecDepth 100000 in
set_option maxHeartbeats 8000000 in
theorem take_any (m : Tmov W mb n s h) {i x : Nat} (hi : i < n) (hn : n ≤ 6) (hx : x < 1000) (hc : h.c < 100000) (hnum : s.num i ≤ 100000) :
    Calls Try.prog 15 #[.pointer (some ⟨mb, 0, none⟩), .int .i64 (i : Int), .int .i64 (x : Int)] W fun e W2 => e = .returned (.tuple #[]) ∧ ∃ h2, Tmov W2 mb n (takeT s i x) h2 ∧ TStp mb W h W2 h2 1 := by
  obtain ⟨c0, c1, c2, c3⟩ := m.cells
  obtain ⟨r1, r2⟩ := m.num_at hi
  obtain ⟨M1, S1⟩ := m.setNum hi (s.num i + 1)
  have hi' : (i : Int) < (n : Int) := by omega
  have hw1 : IntKind.i64.wrap ((s.num i : Int) + 1) = ((s.num i + 1 : Nat) : Int) := by
    rw [show ((s.num i : Int) + 1) = ((s.num i + 1 : Nat) : Int) from by omega]
    exact wrap_of ⟨by omega, by omega⟩
  obtain ⟨d0, d1, d2, d3⟩ := M1.cells
  obtain ⟨p1, _⟩ := M1.num_at hi
  simp only [upd1_same] at p1
  have HM1 := hidMk M1
  have HS1 := hidMk S1
  clear m M1 S1
  generalize hv : s.num i = v at *
  have HV := hidMk hv
  generalize hv1 : v + 1 = v1 at *
  have HV1 := hidMk hv1
  clear hv hv1
  go_enter Try.func15, Try.ntmps15
  go_wp2
  generalize W.setCell ⟨h.N, i, none⟩ (.int .i64 (v1 : Int)) = w0 at *
  clear c0 c1 c2 c3 r1 r2 hw1
  refine wp_region_tail rfl (by kernel_rfl) (by kernel_rfl) (by kernel_rfl) (by kernel_rfl) (by kernel_rfl) rfl ?_
  simp only [List.dropLast]
  repeat (go_big_quiet_step (fail))
  refine wpQuiet_nil ?_
  rintro _ ⟨q, rfl⟩
  obtain ⟨W1, hr1, M2, S2⟩ := (HM1.out.drewN q).setEnt (show i < 1000 by omega) hx hc ⟨v1, i, false, false⟩
  simp only at hr1
  have HM2 := hidMk M2
  have HS2 := hidMk ((HS1.out.trans (TStp.of_still mb h (Stil.drewN w0 q))).trans S2)
  clear M2 S2
  go_wp2
  go_end0
  refine ⟨rfl, _, ?_, HS2.out.mono (by omega)⟩
  have e : takeT s i x = ⟨s.sent, upd1 s.num i v1, upd2 s.ent i x (some ⟨v1, i, false, false⟩), s.ls⟩ := by unfold takeT; rw [HV.out, HV1.out]
  rw [e]
  exact HM2.out

set_option maxRecDepth 100000 in
set_option maxHeartbeats 8000000 in
theorem tell_any (m : Tmov W mb n s h) {i x : Nat} (hi : i < n) (hn : n ≤ 6) (hx : x < 1000) (hc : h.c < 100000) :
    Calls Try.prog 16 #[.pointer (some ⟨mb, 0, none⟩), .int .i64 (i : Int), .int .i64 (x : Int)] W fun e W2 => e = .returned (.tuple #[]) ∧ ∃ h2, Tmov W2 mb n (tellT n s i x) h2 ∧ TStp mb W h W2 h2 1 := by
  have HF := hidMk (final_any m hn hx)
  have HM := hidMk m
  have hi' : (i : Int) < (n : Int) := by omega
  clear m
  generalize hf1 : (finTo s x n).1 = a1 at *
  generalize hf2 : (finTo s x n).2 = a2 at *
  have HF1 := hidMk hf1
  have HF2 := hidMk hf2
  clear hf1 hf2
  go_enter Try.func16, Try.ntmps16
  go_wp2_with (fail)
  go_at_call 19
  refine (HF.out).mono ?_
  rintro e w1 ⟨rfl, hk1⟩
  have HK1 := hidMk (hk1.alloc (.cells #[.int .i64 (a1 : Int), .int .i64 (a2 : Int)] 54))
  have b0 : (w1.alloc (.cells #[.int .i64 (a1 : Int), .int .i64 (a2 : Int)] 54)).cell? ⟨w1.heap.size, 0, none⟩ = some (.int .i64 (a1 : Int)) := by go_simp
  have b1 : (w1.alloc (.cells #[.int .i64 (a1 : Int), .int .i64 (a2 : Int)] 54)).cell? ⟨w1.heap.size, 1, none⟩ = some (.int .i64 (a2 : Int)) := by go_simp
  have m2 := HM.out.still HK1.out
  have hfr : ¬ h.own mb w1.heap.size := (HM.out.still hk1).fresh (Nat.le_refl _)
  obtain ⟨c0, c1, c2, c3⟩ := m2.cells
  obtain ⟨r1, r2⟩ := m2.num_at hi
  have HM2 := hidMk m2
  have HFr := hidMk hfr
  clear hk1 m2 HF HM hfr
  go_wp2_with (fail)
  generalize w1.alloc (.cells #[.int .i64 (a1 : Int), .int .i64 (a2 : Int)] 54) = w2 at *
  generalize w1.heap.size = b at *
  generalize hv : s.num i = v at *
  have HV := hidMk hv
  clear hv
  refine wp_region_tail rfl (by kernel_rfl) (by kernel_rfl) (by kernel_rfl) (by kernel_rfl) (by kernel_rfl) rfl ?_
  simp only [List.dropLast]
  repeat (go_big_quiet_step (fail))
  refine wpQuiet_nil ?_
  rintro _ ⟨q, rfl⟩
  have hmx : (if v < a1 then (a1 : Int) else (v : Int)) = ((max v a1 : Nat) : Int) := by
    split <;> omega
  rw [hmx]
  clear hmx
  generalize hmv : max v a1 = mv
  have HMv := hidMk hmv
  clear hmv
  have m3 := HM2.out.drewN q
  have HS3 := hidMk ((TStp.of_still mb h HK1.out).trans (TStp.of_still mb h (Stil.drewN w2 q)))
  have y0 : (w2.drewN q).cell? ⟨b, 0, none⟩ = some (.int .i64 (a1 : Int)) := b0
  have y1 : (w2.drewN q).cell? ⟨b, 1, none⟩ = some (.int .i64 (a2 : Int)) := b1
  clear b0 b1 c0 c1 c2 c3 r1 r2 HM2 HK1
  obtain ⟨r1, r2⟩ := m3.num_at hi
  obtain ⟨M4, S4⟩ := m3.setNum hi mv
  obtain ⟨c0, c1, c2, c3⟩ := M4.cells
  have HM4 := hidMk M4
  have HS4 := hidMk (HS3.out.trans S4)
  have z0 := S4.free HFr.out y0
  have z1 := S4.free HFr.out y1
  clear m3 M4 S4 y0 y1
  generalize w2.drewN q = w3 at *
  go_wp2_with (fail)
  generalize w3.setCell ⟨h.N, i, none⟩ (.int .i64 (mv : Int)) = w4 at *
  clear r1 r2
  refine wp_region_tail rfl (by kernel_rfl) (by kernel_rfl) (by kernel_rfl) (by kernel_rfl) (by kernel_rfl) rfl ?_
  simp only [List.dropLast]
  repeat (go_big_quiet_step (fail))
  refine wpQuiet_nil ?_
  rintro _ ⟨q2, rfl⟩
  obtain ⟨W1, hr1, M2, S2⟩ := (HM4.out.drewN q2).setEnt (show i < 1000 by omega) hx hc ⟨a1, a2, true, false⟩
  simp only at hr1
  have HM2 := hidMk M2
  have HS2 := hidMk ((HS4.out.trans (TStp.of_still mb h (Stil.drewN w4 q2))).trans S2)
  clear M2 S2
  go_wp2
  go_end0
  refine ⟨rfl, _, ?_, HS2.out.mono (by omega)⟩
  have e : tellT n s i x = ⟨s.sent, upd1 s.num i mv, upd2 s.ent i x (some ⟨a1, a2, true, false⟩), s.ls⟩ := by unfold tellT; rw [HF1.out, HF2.out, HV.out, HMv.out]
  rw [e]
  exact HM2.out

set_option maxRecDepth 100000 in
set_option maxHeartbeats 8000000 in
theorem hear_any (m : Tmov W mb n s h) {i x : Nat} {e0 : En} (hi : i < n) (hn : n ≤ 6) (hx : x < 1000) (hc : h.c < 100000) (hlen : (s.ls i).length ≤ 1000) (he : s.ent i x = some e0) :
    Calls Try.prog 21 #[.pointer (some ⟨mb, 0, none⟩), .int .i64 (i : Int), .int .i64 (x : Int)] W fun e W2 => e = .returned (.tuple #[]) ∧ ∃ h2, Tmov W2 mb n (hear1 s i x e0) h2 ∧ TStp mb W h W2 h2 1 := by
  obtain ⟨c0, c1, c2, c3⟩ := m.cells
  have lk := m.look (show i < 1000 by omega) hx
  rw [he] at lk
  simp only [Option.map, Option.getD] at lk
  unfold entV at lk
  have hi' : (i : Int) < (n : Int) := by omega
  obtain ⟨en, ep, et, eh⟩ := e0
  simp only at lk
  have HM := hidMk m
  clear m he
  have HK1 : Hid (Stil W (W.alloc (.cells #[.int .i64 (en : Int), .int .i64 (ep : Int), .bool et, .bool true] 56))) := hidMk ((Keep.refl _ W).alloc _)
  have d2 := HK1.out.cell c2
  have b0 : (W.alloc (.cells #[.int .i64 (en : Int), .int .i64 (ep : Int), .bool et, .bool true] 56)).cell? ⟨W.heap.size, 0, none⟩ = some (.int .i64 (en : Int)) := by go_simp
  have b1 : (W.alloc (.cells #[.int .i64 (en : Int), .int .i64 (ep : Int), .bool et, .bool true] 56)).cell? ⟨W.heap.size, 1, none⟩ = some (.int .i64 (ep : Int)) := by go_simp
  have b2 : (W.alloc (.cells #[.int .i64 (en : Int), .int .i64 (ep : Int), .bool et, .bool true] 56)).cell? ⟨W.heap.size, 2, none⟩ = some (.bool et) := by go_simp
  have b3 : (W.alloc (.cells #[.int .i64 (en : Int), .int .i64 (ep : Int), .bool et, .bool true] 56)).cell? ⟨W.heap.size, 3, none⟩ = some (.bool true) := by go_simp
  have HM1 := hidMk (HM.out.still HK1.out)
  clear c0 c1 c3 HM
  go_enter Try.func21, Try.ntmps21
  go_wp2
  generalize W.alloc (.cells #[.int .i64 (en : Int), .int .i64 (ep : Int), .bool et, .bool true] 56) = w0 at *
  clear c2 lk
  refine wp_region_tail rfl (by kernel_rfl) (by kernel_rfl) (by kernel_rfl) (by kernel_rfl) (by kernel_rfl) rfl ?_
  simp only [List.dropLast]
  repeat (go_big_quiet_step (fail))
  refine wpQuiet_nil ?_
  rintro _ ⟨q, rfl⟩
  obtain ⟨W1, hr1, M2, S2⟩ := (HM1.out.drewN q).setEnt (show i < 1000 by omega) hx hc ⟨en, ep, et, true⟩
  simp only at hr1
  have HS := hidMk (((TStp.of_still mb h HK1.out).trans (TStp.of_still mb h (Stil.drewN w0 q))).trans S2)
  have hseg := M2.li hi
  obtain ⟨a0, k0, e0⟩ := segForm hseg
  obtain ⟨i0, hit, hz0, hz1, hz2⟩ := info_parts cInfoInt
  obtain ⟨_, _, _, g3⟩ := (M2.alloc (.cells #[.int .i64 (x : Int)] 3)).cells
  obtain ⟨g4, g5⟩ := (M2.alloc (.cells #[.int .i64 (x : Int)] 3)).row hi
  obtain ⟨_, _, _, f3⟩ := M2.cells
  obtain ⟨f4, f5⟩ := M2.row hi
  have HM2 := hidMk M2
  have HK3 : Hid (Stil W1 (W1.alloc (.cells #[.int .i64 (x : Int)] 3)).drew) := hidMk (((Keep.refl _ W1).alloc _).drew)
  simp only at e0 g3 g4 f3 f4 hseg
  generalize hln : (s.ls i).length = ln at *
  have HLn := hidMk hln
  have er : Hid (h.f i = .slice a0 ln k0) := hidMk e0
  rw [e0] at g4 f4 hseg
  have HG := hidMk hseg
  clear hln e0 M2 S2 hseg HM1 HK1
  go_wp2_with (fail)
  go_region_law (refine step_append_seg rfl (.tmp 35) (.tmp 37) 34 rfl 3 i0 (.int .i64 0) 1 8 Try.underlying34 hit hz0 hz1 hz2 rfl (by decide) (.slice a0 ln k0) ln (natsL (s.ls i)) rfl (segDrew (segAlloc HG.out _)) ⟨W1.heap.size, 0, none⟩ 1 1 [.int .i64 (x : Int)] rfl rfl (fun j u hu => cCell1 W1 (.int .i64 (x : Int)) 3 _ rfl j u hu) (cOne _) (by unfold maxLen; omega) (by omega) ?_
                 intro v3 w3 hs3 hg3
                 obtain ⟨a3, c3, rfl⟩ := segForm hs3
                 obtain ⟨y2, y3, y4, HM4⟩ := HM2.out.push (x := x) hi HK3.out (by rw [er.out, HLn.out]; exact hs3) (by rw [er.out]; exact hg3)
                 simp only at y2 y3 y4
                 rw [er.out] at y3
                 have HM5 := hidMk HM4
                 clear HM4 hs3 hg3)
  all_goals
    go_wp2
    go_end0
    obtain ⟨h2, M5, S5⟩ := HM5.out
    exact ⟨rfl, h2, M5, (HS.out.trans S5).mono (by omega)⟩
end Go.Proofs.Ytipoopbkapgfiaa
