/- folkmootkeep.RingGreatest, walked. -/
import Derived.Test.YtadanpghmfhhkaaRi0
namespace Go.Proofs.Ytadanpghmfhhkaa
open Go.RowKit
set_option linter.unusedVariables false

set_option maxRecDepth 100000 in
set_option maxHeartbeats 4000000 in
theorem rgreat_bad {W : World} {pa qa : Option Addr} {n pc pl qc : Nat} {zs : List Int} {ps : List Tu} (hp : RowI W pa n pc zs) (hz : ringCode zs pl ≠ 0) :
    Calls Try.prog 4 #[.slice pa n pc, .slice qa pl qc] W fun e W2 => e = .returned (.bool true) ∧ Below W.heap.size W W2 := by
  have HP := hidMk (play_badG (qa := qa) (qc := qc) hp hz)
  generalize ringCode zs pl = rc at *
  have q1 : (rc != 0) = true := by simpa using hz
  clear hp hz
  go_enter Try.func4, Try.ntmps4
  go_wp2_with (fail)
  go_at_call 8
  refine (HP.out).mono ?_
  rintro e w1 ⟨rfl, hk1⟩
  have HK1 := hidMk (hk1.alloc (.cells #[.slice none 0 0, .slice none 0 0, .int .i64 0, .int .i64 0] 26))
  clear hk1 HP
  go_wp2
  go_ret
  exact ⟨rfl, Stil.below HK1.out⟩

set_option maxRecDepth 100000 in
set_option maxHeartbeats 4000000 in
theorem rgreat_ok {W : World} {pa qa : Option Addr} {n pc pl qc : Nat} {zs : List Int} {ps : List Tu} (hp : RowI W pa n pc zs) (hq : CameT W qa pl qc ps) (hz : ringCode zs pl = 0) :
    Calls Try.prog 4 #[.slice pa n pc, .slice qa pl qc] W fun e W2 => e = .returned (.bool true) ∧ Below W.heap.size W W2 := by
  have HP := hidMk (play_seenG hp hq hz)
  obtain ⟨z1, z2, z3, z4⟩ := ringCode_zero hz
  have hzl := hp.1
  have hpl' : (pl : Int) ≤ 120 := by omega
  have hgr := great_at (dist_of hzl z4) ps pl
  have HN := hidMk hp
  generalize gsAt n (nmL zs) ps pl = S at *
  generalize gcAt n (nmL zs) ps = cd at *
  clear hq hz
  rcases hgr with hgr | ⟨g, hg, hgr, hG⟩
  · have hl : S.ch.length = 0 := by rw [hgr]; rfl
    rw [hl] at HP
    clear hp hgr hl
    generalize awayG S n = aw at *
    go_enter Try.func4, Try.ntmps4
    go_wp2_with (fail)
    go_at_call 8
    refine (HP.out).mono ?_
    rintro e w1 ⟨⟨C1, va, vc, rfl, hS1⟩, hk1⟩
    generalize S.sent = se at *
    have HK1 := hidMk (hk1.alloc (.cells #[.slice (some ⟨C1, 0, none⟩) pl pl, .slice va 0 vc, .int .i64 (se : Int), .int .i64 (aw : Int)] 26))
    have l0 : (w1.alloc (.cells #[.slice (some ⟨C1, 0, none⟩) pl pl, .slice va 0 vc, .int .i64 (se : Int), .int .i64 (aw : Int)] 26)).cell? ⟨w1.heap.size, 0, none⟩ = some (.slice (some ⟨C1, 0, none⟩) pl pl) := by rw [cell_of_row _ _ _ _ _ _ (al_new _ _)]; rfl
    have l1 : (w1.alloc (.cells #[.slice (some ⟨C1, 0, none⟩) pl pl, .slice va 0 vc, .int .i64 (se : Int), .int .i64 (aw : Int)] 26)).cell? ⟨w1.heap.size, 1, none⟩ = some (.slice va 0 vc) := by rw [cell_of_row _ _ _ _ _ _ (al_new _ _)]; rfl
    clear hS1 hk1 HP
    go_wp2_with (fail)
    generalize w1.alloc (.cells #[.slice (some ⟨C1, 0, none⟩) pl pl, .slice va 0 vc, .int .i64 (se : Int), .int .i64 (aw : Int)] 26) = w2 at *
    go_quiet (fail)
    go_wp2
    go_ret
    exact ⟨rfl, Stil.below (HK1.out.drewN _)⟩
  · have hl : S.ch.length = 1 := by rw [hgr]; rfl
    have HCh : Hid (S.ch = [g]) := hgr
    rw [hl] at HP
    clear hp hgr
    generalize awayG S n = aw at *
    go_enter Try.func4, Try.ntmps4
    go_wp2_with (fail)
    go_at_call 8
    refine (HP.out).mono ?_
    rintro e w1 ⟨⟨C1, va, vc, rfl, hS1⟩, hk1⟩
    generalize S.sent = se at *
    have HK1 := hidMk (hk1.alloc (.cells #[.slice (some ⟨C1, 0, none⟩) pl pl, .slice va 1 vc, .int .i64 (se : Int), .int .i64 (aw : Int)] 26))
    have hrow := hS1.ch.still (Stil.new w1 (.cells #[.slice (some ⟨C1, 0, none⟩) pl pl, .slice va 1 vc, .int .i64 (se : Int), .int .i64 (aw : Int)] 26))
    rw [hl, HCh.out] at hrow
    obtain ⟨_, r2, _, r4⟩ := hrow
    rcases r4 with r4 | ⟨b, off, rfl, _, hcell⟩
    · omega
    have c0 := hcell 0 (g : Int) rfl
    rw [Nat.add_zero] at c0
    have r2' : (1 : Int) ≤ (vc : Int) := by omega
    have l0 : (w1.alloc (.cells #[.slice (some ⟨C1, 0, none⟩) pl pl, .slice (some ⟨b, off, none⟩) 1 vc, .int .i64 (se : Int), .int .i64 (aw : Int)] 26)).cell? ⟨w1.heap.size, 0, none⟩ = some (.slice (some ⟨C1, 0, none⟩) pl pl) := by rw [cell_of_row _ _ _ _ _ _ (al_new _ _)]; rfl
    have l1 : (w1.alloc (.cells #[.slice (some ⟨C1, 0, none⟩) pl pl, .slice (some ⟨b, off, none⟩) 1 vc, .int .i64 (se : Int), .int .i64 (aw : Int)] 26)).cell? ⟨w1.heap.size, 1, none⟩ = some (.slice (some ⟨b, off, none⟩) 1 vc) := by rw [cell_of_row _ _ _ _ _ _ (al_new _ _)]; rfl
    have HGr : Hid (∀ q, Calls Try.prog 12 #[.slice pa n pc] ((w1.alloc (.cells #[.slice (some ⟨C1, 0, none⟩) pl pl, .slice (some ⟨b, off, none⟩) 1 vc, .int .i64 (se : Int), .int .i64 (aw : Int)] 26)).drewN q) fun e w5 => e = .returned (.int .i64 (g : Int)) ∧ ∃ m, w5 = (w1.alloc (.cells #[.slice (some ⟨C1, 0, none⟩) pl pl, .slice (some ⟨b, off, none⟩) 1 vc, .int .i64 (se : Int), .int .i64 (aw : Int)] 26)).drewN m) := fun q => by
      refine (greatest_any ((HN.out.still HK1.out).still (Stil.drewN _ q)) (by omega) hg hG).mono ?_
      rintro e w5 ⟨rfl, m, rfl⟩
      exact ⟨rfl, q + m, drewN_plus _ _ _⟩
    clear hS1 hk1 HP hcell
    go_wp2_with (fail)
    generalize w1.alloc (.cells #[.slice (some ⟨C1, 0, none⟩) pl pl, .slice (some ⟨b, off, none⟩) 1 vc, .int .i64 (se : Int), .int .i64 (aw : Int)] 26) = w2 at *
    go_quiet (first | (go_at_call 12; exact HGr.out _))
    go_wp2
    go_ret
    exact ⟨rfl, Stil.below (HK1.out.drewN _)⟩

theorem rgreat_walk {W : World} {pa qa : Option Addr} {n pc pl qc : Nat} {zs : List Int} {ps : List Tu} (hp : CameI W pa n pc zs) (hq : CameT W qa pl qc ps) :
    Calls Try.prog 4 #[.slice pa n pc, .slice qa pl qc] W fun e W2 => e = .returned (.bool true) ∧ Below W.heap.size W W2 := by
  by_cases hz : ringCode zs pl = 0
  · exact rgreat_ok hp hq hz
  · exact rgreat_bad (ps := ps) hp hz
end Go.Proofs.Ytadanpghmfhhkaa
