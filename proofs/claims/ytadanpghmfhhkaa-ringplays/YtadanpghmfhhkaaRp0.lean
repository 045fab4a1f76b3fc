/- folkmootref.RingCheck. -/
import Derived.Test.YtadanpghmfhhkaaRi0
namespace Go.Proofs.Ytadanpghmfhhkaa
open Go.RowKit
set_option linter.unusedVariables false

set_option maxRecDepth 100000 in
set_option maxHeartbeats 4000000 in
theorem rcheck_any {W : World} {pa : Option Addr} {n pc pl : Nat} {zs : List Int} (hp : RowI W pa n pc zs) (hpl : pl ≤ maxLen) :
    Calls Try.prog 9 #[.slice pa n pc, .int .i64 (pl : Int)] W fun e W2 => e = .returned (.int .i64 (ringCode zs pl)) ∧ ∃ m, W2 = W.drewN m := by
  obtain ⟨hl, h2, h3, h4⟩ := hp
  by_cases h0 : n = 0
  · have hT : ringCode zs pl = 1 := by unfold ringCode; rw [if_pos (by omega)]
    rw [hT]
    subst h0
    have q1 : ((0 : Int) == 0) = true := rfl
    clear h4
    go_enter Try.func9, Try.ntmps9
    go_wp2
    go_ret
    exact ⟨rfl, 0, rfl⟩
  have q0 : ((n : Int) == 0) = false := by rw [beq_eq_false_iff_ne]; omega
  by_cases h6 : 6 < n
  · have hT : ringCode zs pl = 1 := by unfold ringCode; rw [if_pos (by omega)]
    rw [hT]
    have q1 : decide (6 < (n : Int)) = true := decide_eq_true (by omega)
    clear h4
    go_enter Try.func9, Try.ntmps9
    go_wp2
    go_ret
    exact ⟨rfl, 0, rfl⟩
  have q1 : decide (6 < (n : Int)) = false := decide_eq_false (by omega)
  by_cases h120 : 120 < pl
  · have hT : ringCode zs pl = 1 := by unfold ringCode; rw [if_pos (by omega)]
    rw [hT]
    have q2 : decide (120 < (pl : Int)) = true := decide_eq_true (by omega)
    clear h4
    go_enter Try.func9, Try.ntmps9
    go_wp2
    go_ret
    exact ⟨rfl, 0, rfl⟩
  have q2 : decide (120 < (pl : Int)) = false := decide_eq_false (by omega)
  rcases h4 with h4 | ⟨g, off, rfl, hb, hc⟩
  · exact absurd h4 h0
  have hT : ringCode zs pl = ndCode zs := by unfold ringCode; rw [if_neg (by omega)]
  rw [hT]
  have HC : Hid (∀ i, i < n → W.cell? ⟨g, off + i, none⟩ = some (.int .i64 (nmL zs i))) := fun i hi => hc i _ (nmL_at (by omega))
  have HL := hidMk hl
  have hn6 : n ≤ 6 := by omega
  clear hc hT hl h3
  go_enter Try.func9, Try.ntmps9
  go_wp2
  go_loopw [5] (fun u wr => ∃ k q : Nat, k ≤ n ∧ u = .int .i64 (k : Int) ∧ wr = W.drewN q ∧ Hid (∀ j, j < k → ∀ i, i < j → nmL zs i ≠ nmL zs j)) (fun u _ => n - (intOf u).toNat)
  case atStart => exact ⟨0, 0, Nat.zero_le _, rfl, rfl, fun j hj => by omega⟩
  case round =>
    obtain ⟨k, q, hk, rfl, hwr, HA⟩ := hrel
    by_cases hlt : k < n
    · have hlt' : (k : Int) < (n : Int) := by omega
      have HW := hidMk hwr
      clear hwr
      go_wp2
      obtain ⟨wx, hwx⟩ : ∃ w' : World, w' = wr := ⟨_, rfl⟩
      subst hwx
      go_loopw [6] (fun u wr => ∃ j q : Nat, j ≤ k ∧ u = .int .i64 (j : Int) ∧ wr = W.drewN q ∧ Hid (∀ i, i < j → nmL zs i ≠ nmL zs k)) (fun u _ => k - (intOf u).toNat)
      case atStart => exact ⟨0, q, Nat.zero_le _, rfl, HW.out, fun j hj => by omega⟩
      case round =>
        obtain ⟨j, q2, hj, rfl, hwr, HB⟩ := hrel
        by_cases hlt2 : j < k
        · have hlt2' : (j : Int) < (k : Int) := by omega
          have hjn' : (j : Int) < (n : Int) := by omega
          have d1 : wr.cell? ⟨g, off + k, none⟩ = some (.int .i64 (nmL zs k)) := by rw [hwr]; exact HC.out k hlt
          have d2 : wr.cell? ⟨g, off + j, none⟩ = some (.int .i64 (nmL zs j)) := by rw [hwr]; exact HC.out j (by omega)
          have HW2 := hidMk hwr
          clear hwr
          by_cases hx : nmL zs k = nmL zs j
          · have hnd : ¬ zs.Nodup := fun hn => by
              have := nm_nodup hn (i := k) (j := j) (by rw [HL.out]; omega) (by rw [HL.out]; omega) hx
              omega
            have HN : Hid (ndCode zs = 3) := by show _ = _; unfold ndCode; rw [if_neg hnd]
            have q3 : (nmL zs k == nmL zs j) = true := by rw [beq_iff_eq]; exact hx
            clear hx hnd
            go_wp2_with (fail)
            go_quiet (fail)
            go_wp2
            go_ret
            exact ⟨ret_int' HN.out.symm, q2 + nq, by rw [HW2.out, drewN_plus]⟩
          · have q3 : (nmL zs k == nmL zs j) = false := by rw [beq_eq_false_iff_ne]; exact hx
            have HX := hidMk hx
            clear hx
            go_wp2_with (fail)
            go_quiet (fail)
            go_wp2
            go_roundw
            case rel =>
              refine ⟨j + 1, q2 + nq, by omega, by go_num, by rw [HW2.out, drewN_plus], fun i hi => ?_⟩
              by_cases e : i = j
              · subst e; exact fun e => HX.out e.symm
              · exact HB.out i (by omega)
            case measure => simp [intOf]; omega
        · obtain rfl : j = k := by omega
          have HW2 := hidMk hwr
          clear hwr
          go_wp2
          go_roundw
          case rel =>
            refine ⟨j + 1, q2, by omega, by go_num, HW2.out, fun i hi a ha => ?_⟩
            by_cases e : i = j
            · subst e; exact HB.out a ha
            · exact HA.out i (by omega) a ha
          case measure => simp [intOf]; omega
    · obtain rfl : k = n := by omega
      have hnd : zs.Nodup := nodup_nm (by rw [HL.out]; exact HA.out)
      have HN : Hid (ndCode zs = 0) := by show _ = _; unfold ndCode; rw [if_pos hnd]
      have HW := hidMk hwr
      clear hnd hwr
      go_wp2
      go_ret
      exact ⟨ret_int' HN.out.symm, q, HW.out⟩
end Go.Proofs.Ytadanpghmfhhkaa
