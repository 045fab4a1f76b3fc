/- hearTold, do. -/
import Derived.Test.YtipoopbkapgfiaaTa3
import Derived.Test.YtipoopbkapgfiaaTa4
import Derived.Test.YtipoopbkapgfiaaTb0
import Derived.Deep.LoopGhost
namespace Go.Proofs.Ytipoopbkapgfiaa
open Go.RowKit Go.WideMaps
set_option linter.unusedVariables false

variable {W W2 : World} {mb n : Nat} {s : TS} {h h2 : TSh} {g : Nat → Nat → Nat}
theorem fieldTold (w : World) (a b : Int) (c d : Bool) : (Instr.field 56 (.agg #[.int .i64 a, .int .i64 b, .bool c, .bool d]) 1).run Try.prog w = .ok (.bool c) w := by kernel_rfl
set_option maxRecDepth 100000 in
set_option maxHeartbeats 8000000 in
theorem hearTold_any (m : Tmov W mb n s h) (inv : TInv n s g) {i F : Nat} (hi : i < n) (hn : n ≤ 6) (hs : s.sent ≤ 200) (hF : unTo (s.ent i) s.sent ≤ F) (hc : h.c + F < 100000) :
    Calls Try.prog 17 #[.pointer (some ⟨mb, 0, none⟩), .int .i64 (i : Int)] W fun e W2 => e = .returned (.tuple #[]) ∧ ∃ h2, Tmov W2 mb n (hearN s i F) h2 ∧ TStp mb W h W2 h2 F := by
  have HM := hidMk m
  have HI := hidMk inv
  have HU := hidMk hF
  clear m inv hF
  generalize hT : hearN s i F = T
  have HT := hidMk hT
  clear hT
  go_enter Try.func17, Try.ntmps17
  go_wp2
  go_loopg [4] F (fun gg x4 wr => ∃ (s1 : TS) (h1 : TSh) (c : Nat), Hid (Tmov wr mb n s1 h1) ∧ Hid (hearN s1 i gg = T) ∧ Hid (unTo (s1.ent i) s1.sent ≤ gg) ∧ Hid (TInv n s1 g) ∧ Hid (TStp mb W h wr h1 c) ∧ c + gg ≤ F ∧ Hid (s1.sent = s.sent))
  case atStart => exact ⟨s, h, 0, HM, HT, HU, HI, TStp.refl _ _ _, by omega, rfl⟩
  case round =>
    obtain ⟨s1, h1, c, HM1, HT1, HU1, HI1, HS1, hcg, HZ1⟩ := hrel
    have HL := hidMk (least_any HM1.out (show i < 1000 by omega) (by rw [HZ1.out]; exact hs))
    have hcnt : h1.c ≤ h.c + c := HS1.out.count
    have HCnt := hidMk hcnt
    clear hcnt
    cases hl : leastTo (s1.ent i) s1.sent with
    | none =>
      rw [hl] at HL
      simp only [lOf, Option.isSome] at HL
      have HLn := hidMk hl
      clear hl
      go_wp2_with (fail)
      go_at_call 20
      refine (HL.out).mono ?_
      rintro e w1 ⟨rfl, hk1⟩
      have HK1 := hidMk hk1
      clear hk1 HL
      go_wp2
      refine bodyPost_ret (results_none rfl _ _ _) rfl ?_
      have e1 : s1 = T := by rw [← HT1.out]; exact (hearN_stop _ (.inl HLn.out)).symm
      refine ⟨rfl, h1, ?_, (HS1.out.trans (TStp.of_still mb h1 HK1.out)).mono (by omega)⟩
      rw [← e1]
      exact HM1.out.still HK1.out
    | some q =>
      obtain ⟨x, e0⟩ := q
      obtain ⟨l1, l2, l3, l4⟩ := least_at HI1.out (by omega) hl
      rw [hl] at HL
      simp only [lOf, Option.isSome] at HL
      have HLn := hidMk hl
      have HL2 := hidMk l2
      have hx : x < 1000 := by rw [HZ1.out] at l1; omega
      clear hl l1 l3 l4 l2
      go_wp2_with (fail)
      go_at_call 20
      refine (HL.out).mono ?_
      rintro e w1 ⟨rfl, hk1⟩
      have HK1 := hidMk hk1
      have m1 := HM1.out.still hk1
      obtain ⟨c0, c1, c2, c3⟩ := m1.cells
      have lk := m1.look (show i < 1000 by omega) hx
      rw [HL2.out] at lk
      simp only [Option.map, Option.getD] at lk
      unfold entV at lk
      have HMw := hidMk m1
      clear hk1 HL m1 HM1 c0 c1 c3
      obtain ⟨en, ep, et, eh⟩ := e0
      simp only at lk
      have hfd := fieldTold w1 (en : Int) (ep : Int) et eh
      cases et with
      | false =>
        go_wp2
        refine bodyPost_ret (results_none rfl _ _ _) rfl ?_
        have e1 : s1 = T := by rw [← HT1.out]; exact (hearN_stop _ (.inr ⟨_, _, HLn.out, rfl⟩)).symm
        refine ⟨rfl, h1, ?_, (HS1.out.trans (TStp.of_still mb h1 HK1.out)).mono (by omega)⟩
        rw [← e1]
        exact HMw.out
      | true =>
        have hun := un_hear HI1.out (by omega) HLn.out
        obtain ⟨g2, rfl⟩ : ∃ g2, gk = g2 + 1 := ⟨gk - 1, by have := HU1.out; omega⟩
        have HHe := hidMk (hear_any HMw.out hi hn hx (by have := HCnt.out; omega) (by have := ls_len HI1.out i; rw [HZ1.out] at this; omega) HL2.out)
        have HU2 : Hid (unTo ((hear1 s1 i x ⟨en, ep, true, eh⟩).ent i) (hear1 s1 i x ⟨en, ep, true, eh⟩).sent ≤ g2) := by
          have := HU1.out
          show unTo _ s1.sent ≤ g2
          omega
        have HI2 := hidMk (inv_hear HI1.out (by omega) HLn.out rfl)
        have HT2 : Hid (hearN (hear1 s1 i x ⟨en, ep, true, eh⟩) i g2 = T) := by
          show _ = _
          rw [← HT1.out]
          exact (hearN_go g2 HLn.out rfl).symm
        clear hun
        go_wp2_with (fail)
        go_at_call 21
        refine (HHe.out).mono ?_
        rintro e w2 ⟨rfl, h3, M3, S3⟩
        have HM3 := hidMk M3
        have HS3 := hidMk ((HS1.out.trans (TStp.of_still mb h1 HK1.out)).trans S3)
        clear M3 S3 HHe lk c2
        go_wp2
        go_roundg g2
        case rel => exact ⟨hear1 s1 i x ⟨en, ep, true, eh⟩, h3, c + 0 + 1, HM3, HT2, HU2, HI2, HS3, by omega, HZ1⟩
        case measure => omega

theorem tmov_new (m : Tmov W mb n s h) (o : Obj) : Tmov (W.alloc o) mb n s h ∧ TStp mb W h (W.alloc o) h 0 := ⟨m.alloc o, TStp.of_still mb h (Stil.new W o)⟩
set_option maxRecDepth 100000 in
set_option maxHeartbeats 4000000 in
theorem do_send (m : Tmov W mb n s h) (wh ms : Int) (hs : s.sent ≤ 200) :
    Calls Try.prog 9 #[.pointer (some ⟨mb, 0, none⟩), .agg #[.int .i64 1, .int .i64 wh, .int .i64 ms]] W fun e W2 => e = .returned (.tuple #[]) ∧ ∃ h2, Tmov W2 mb n (sendT s) h2 ∧ TStp mb W h W2 h2 0 := by
  have m0 := m.alloc (.cells #[.int .i64 1, .int .i64 wh, .int .i64 ms] 39)
  obtain ⟨c0, c1, c2, c3⟩ := m0.cells
  have f0 : (W.alloc (.cells #[.int .i64 1, .int .i64 wh, .int .i64 ms] 39)).frozen? ⟨mb, 0, none⟩ = false := frozen_of_row _ _ _ _ _ m0.blk
  obtain ⟨M1, S1⟩ := m0.setSent (s.sent + 1)
  have HM1 := hidMk M1
  have HS1 := hidMk ((TStp.of_still mb h (Stil.new W (.cells #[.int .i64 1, .int .i64 wh, .int .i64 ms] 39))).trans S1)
  have hw1 : IntKind.i64.wrap ((s.sent : Int) + 1) = ((s.sent + 1 : Nat) : Int) := by
    rw [show ((s.sent : Int) + 1) = ((s.sent + 1 : Nat) : Int) from by omega]
    exact wrap_of ⟨by omega, by omega⟩
  have b0 : (W.alloc (.cells #[.int .i64 1, .int .i64 wh, .int .i64 ms] 39)).cell? ⟨W.heap.size, 0, none⟩ = some (.int .i64 1) := by go_simp
  clear m m0 M1 S1
  generalize hv : s.sent = v at *
  have HV := hidMk hv
  clear hv
  generalize hv1 : v + 1 = v1 at *
  have HV1 := hidMk hv1
  clear hv1
  go_enter Try.func9, Try.ntmps9
  go_wp2
  go_end0
  refine ⟨rfl, h, ?_, HS1.out⟩
  have e : sendT s = ⟨v1, s.num, s.ent, s.ls⟩ := by unfold sendT; rw [HV.out, HV1.out]
  rw [e]
  exact HM1.out

set_option maxRecDepth 100000 in
set_option maxHeartbeats 4000000 in
theorem do_take (m : Tmov W mb n s h) {i x : Nat} (hi : i < n) (hn : n ≤ 6) (hx : x < 1000) (hc : h.c < 100000) (hnum : s.num i ≤ 100000) :
    Calls Try.prog 9 #[.pointer (some ⟨mb, 0, none⟩), .agg #[.int .i64 2, .int .i64 (i : Int), .int .i64 (x : Int)]] W fun e W2 => e = .returned (.tuple #[]) ∧ ∃ h2, Tmov W2 mb n (takeT s i x) h2 ∧ TStp mb W h W2 h2 1 := by
  have HT := hidMk (fun o : Obj => take_any (m.alloc o) hi hn hx hc hnum)
  clear m
  go_enter Try.func9, Try.ntmps9
  go_wp2_with (fail)
  go_at_call 15
  refine (HT.out _).mono ?_
  rintro e w2 ⟨rfl, h3, M3, S3⟩
  have HM3 := hidMk M3
  have HS3 := hidMk ((TStp.of_still mb h (Stil.new W _)).trans S3)
  clear M3 S3 HT
  go_wp2
  go_end0
  exact ⟨rfl, h3, HM3.out, HS3.out.mono (by omega)⟩

set_option maxRecDepth 100000 in
set_option maxHeartbeats 4000000 in
theorem do_tell (m : Tmov W mb n s h) {i x : Nat} (hi : i < n) (hn : n ≤ 6) (hx : x < 1000) (hs : s.sent ≤ 200) (hc : h.c + s.sent + 1 < 100000) (inv : TInv n (tellT n s i x) g) :
    Calls Try.prog 9 #[.pointer (some ⟨mb, 0, none⟩), .agg #[.int .i64 3, .int .i64 (i : Int), .int .i64 (x : Int)]] W fun e W2 => e = .returned (.tuple #[]) ∧ ∃ h2, Tmov W2 mb n (hearN (tellT n s i x) i s.sent) h2 ∧ TStp mb W h W2 h2 (s.sent + 1) := by
  have HT := hidMk (fun o : Obj => tell_any (m.alloc o) hi hn hx (by omega))
  have HI := hidMk inv
  have HFr := hidMk (m.fresh (Nat.le_refl W.heap.size))
  have b1 : (W.alloc (.cells #[.int .i64 3, .int .i64 (i : Int), .int .i64 (x : Int)] 39)).cell? ⟨W.heap.size, 1, none⟩ = some (.int .i64 (i : Int)) := by go_simp
  have HB1 := hidMk b1
  clear m inv b1
  go_enter Try.func9, Try.ntmps9
  go_wp2_with (fail)
  go_at_call 16
  refine (HT.out _).mono ?_
  rintro e w2 ⟨rfl, h3, M3, S3⟩
  have b2 := S3.free HFr.out HB1.out
  have HH := hidMk (hearTold_any M3 HI.out (F := s.sent) hi hn hs (un_le _ _) (by have := S3.count; omega))
  have HS3 := hidMk ((TStp.of_still mb h (Stil.new W _)).trans S3)
  clear M3 S3 HT HB1
  go_wp2_with (fail)
  go_at_call 17
  refine (HH.out).mono ?_
  rintro e w3 ⟨rfl, h4, M4, S4⟩
  have HM4 := hidMk M4
  have HS4 := hidMk (HS3.out.trans S4)
  clear M4 S4 HH
  go_wp2
  go_end0
  exact ⟨rfl, h4, HM4.out, HS4.out.mono (by omega)⟩

def stepV (p : Cst) : Value := .agg #[.int .i64 p.kind, .int .i64 p.who, .int .i64 p.msg]
theorem do_any (m : Tmov W mb n s h) (al : All n s) {p : Cst} (hp : codeT n s p = 0) (hn : n ≤ 6) (hs : s.sent ≤ 200) (hc : h.c + s.sent + 1 < 100000) (hnum : ∀ q, s.num q ≤ 100000) :
    Calls Try.prog 9 #[.pointer (some ⟨mb, 0, none⟩), stepV p] W fun e W2 => e = .returned (.tuple #[]) ∧ ∃ h2, Tmov W2 mb n (doT n s p) h2 ∧ TStp mb W h W2 h2 (s.sent + 1) := by
  obtain ⟨⟨g, hi⟩, _⟩ := al
  cases ok_of hp with
  | send w hw ew ek ed =>
    rw [ed]
    unfold stepV
    rw [ek]
    refine (do_send m p.who p.msg hs).mono ?_
    rintro e W2 ⟨rfl, h2, m2, st2⟩
    exact ⟨rfl, h2, m2, st2.mono (by omega)⟩
  | take w x hw hm ew em ek h0 ed =>
    rw [ed]
    unfold stepV
    rw [ek, ew, em]
    refine (do_take m hw hn (by omega) (by omega) (hnum w)).mono ?_
    rintro e W2 ⟨rfl, h2, m2, st2⟩
    exact ⟨rfl, h2, m2, st2.mono (by omega)⟩
  | tell w x hw hm ew em ek ht ha ed =>
    rw [ed]
    unfold stepV
    rw [ek, ew, em]
    exact do_tell m hw hn (by omega) hs hc (inv_tell hi (by omega) hw ha ht)
end Go.Proofs.Ytipoopbkapgfiaa
