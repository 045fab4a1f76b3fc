/- folkmootkeep.RingFew, walked. -/
import Derived.Test.YtadanpghmfhhkaaRi0
namespace Go.Proofs.Ytadanpghmfhhkaa
open Go.RowKit
set_option linter.unusedVariables false

set_option maxRecDepth 100000 in
set_option maxHeartbeats 4000000 in
theorem rfew_bad {W : World} {pa qa : Option Addr} {n pc pl qc : Nat} {zs : List Int} {ps : List Tu} (hp : RowI W pa n pc zs) (hz : ringCode zs pl ≠ 0) :
    Calls Try.prog 5 #[.slice pa n pc, .slice qa pl qc] W fun e W2 => e = .returned (.bool true) ∧ Below W.heap.size W W2 := by
  have HP := hidMk (play_badG (qa := qa) (qc := qc) hp hz)
  generalize ringCode zs pl = rc at *
  have q1 : (rc != 0) = true := by simpa using hz
  clear hp hz
  go_enter Try.func5, Try.ntmps5
  go_wp2_with (fail)
  go_at_call 8
  refine (HP.out).mono ?_
  rintro e w1 ⟨rfl, hk1⟩
  have HK1 := hidMk (hk1.alloc (.cells #[.slice none 0 0, .slice none 0 0, .int .i64 0, .int .i64 0] 26))
  clear hk1 HP
  go_wp2
  go_ret
  exact ⟨rfl, Stil.below HK1.out⟩

set_option maxRecDepth 100000 in
set_option maxHeartbeats 4000000 in
theorem rfew_ok {W : World} {pa qa : Option Addr} {n pc pl qc : Nat} {zs : List Int} {ps : List Tu} (hp : RowI W pa n pc zs) (hq : CameT W qa pl qc ps) (hz : ringCode zs pl = 0) :
    Calls Try.prog 5 #[.slice pa n pc, .slice qa pl qc] W fun e W2 => e = .returned (.bool true) ∧ Below W.heap.size W W2 := by
  have HP := hidMk (play_seenG hp hq hz)
  obtain ⟨z1, z2, z3, z4⟩ := ringCode_zero hz
  have hzl := hp.1
  have hpl' : (pl : Int) ≤ 120 := by omega
  have hfew := few_at (show 0 < n by omega) (dist_of hzl z4) ps pl
  have haw : awayG (gsAt n (nmL zs) ps pl) n ≤ (gsAt n (nmL zs) ps pl).sent := aw_at n (nmL zs) ps pl
  generalize gsAt n (nmL zs) ps pl = S at *
  generalize gcAt n (nmL zs) ps = cd at *
  clear hq hz hp
  have h16 : n = 1 ∨ n = 2 ∨ n = 3 ∨ n = 4 ∨ n = 5 ∨ n = 6 := by omega
  clear hzl z1 z2 z4
  generalize awayG S n = aw at *
  generalize hcl : S.ch.length = cl at *
  generalize hse : S.sent = se at *
  rcases h16 with rfl | rfl | rfl | rfl | rfl | rfl
  all_goals
    have haw' : (aw : Int) ≤ (se : Int) := by omega
    go_enter Try.func5, Try.ntmps5
    go_wp2_with (fail)
    go_at_call 8
    refine (HP.out).mono ?_
    rintro e w1 ⟨⟨C1, va, vc, rfl, hS1⟩, hk1⟩
    have HK1 := hidMk (hk1.alloc (.cells #[.slice (some ⟨C1, 0, none⟩) pl pl, .slice va cl vc, .int .i64 (se : Int), .int .i64 (aw : Int)] 26))
    clear hS1 hk1 HP
    go_wp2
    go_ret
    exact ⟨by first | rfl | (simp; done) | (simp; omega), Stil.below HK1.out⟩

theorem rfew_walk {W : World} {pa qa : Option Addr} {n pc pl qc : Nat} {zs : List Int} {ps : List Tu} (hp : CameI W pa n pc zs) (hq : CameT W qa pl qc ps) :
    Calls Try.prog 5 #[.slice pa n pc, .slice qa pl qc] W fun e W2 => e = .returned (.bool true) ∧ Below W.heap.size W W2 := by
  by_cases hz : ringCode zs pl = 0
  · exact rfew_ok hp hq hz
  · exact rfew_bad (ps := ps) hp hz
end Go.Proofs.Ytadanpghmfhhkaa
