/- folkmootkeep.RingEnds, walked. -/
import Derived.Test.YtadanpghmfhhkaaRn0
namespace Go.Proofs.Ytadanpghmfhhkaa
open Go.RowKit
set_option linter.unusedVariables false

set_option maxRecDepth 100000 in
set_option maxHeartbeats 4000000 in
theorem rends_out {W : World} {pa qa : Option Addr} {n pc pl qc : Nat} {zs : List Int} (hp : RowI W pa n pc zs) (hpl : pl ≤ maxLen) (hz : ringCode zs pl ≠ 0 ∨ 4 < n ∨ 60 < pl) :
    Calls Try.prog 6 #[.slice pa n pc, .slice qa pl qc] W fun e W2 => e = .returned (.bool true) ∧ Below W.heap.size W W2 := by
  have HP := hidMk (rcheck_any hp hpl)
  clear hp hpl
  generalize ringCode zs pl = rc at *
  by_cases h1 : rc = 0
  · have q1 : (rc != 0) = false := by simpa using h1
    by_cases h4 : 4 < n
    · have q2 : decide (4 < (n : Int)) = true := decide_eq_true (by omega)
      clear hz h1
      go_enter Try.func6, Try.ntmps6
      go_wp2_with (go_at_call 9; refine (HP.out).mono ?_; rintro e w1 ⟨rfl, m, hw⟩; obtain rfl := hw.symm)
      go_ret
      exact ⟨rfl, Stil.below (Stil.drewN W _)⟩
    · have q2 : decide (4 < (n : Int)) = false := decide_eq_false (by omega)
      have q3 : decide (60 < (pl : Int)) = true := decide_eq_true (by omega)
      clear hz h1
      go_enter Try.func6, Try.ntmps6
      go_wp2_with (go_at_call 9; refine (HP.out).mono ?_; rintro e w1 ⟨rfl, m, hw⟩; obtain rfl := hw.symm)
      go_ret
      exact ⟨rfl, Stil.below (Stil.drewN W _)⟩
  · have q1 : (rc != 0) = true := by simpa using h1
    clear hz h1
    go_enter Try.func6, Try.ntmps6
    go_wp2_with (go_at_call 9; refine (HP.out).mono ?_; rintro e w1 ⟨rfl, m, hw⟩; obtain rfl := hw.symm)
    go_ret
    exact ⟨rfl, Stil.below (Stil.drewN W _)⟩

set_option maxRecDepth 100000 in
set_option maxHeartbeats 8000000 in
theorem rends_ok {W : World} {pa qa : Option Addr} {n pc pl qc : Nat} {zs : List Int} {ps : List Tu} (hp : RowI W pa n pc zs) (hq : CameT W qa pl qc ps) (hz : ringCode zs pl = 0) (h4 : n ≤ 4) (h60 : pl ≤ 60) :
    Calls Try.prog 6 #[.slice pa n pc, .slice qa pl qc] W fun e W2 => e = .returned (.bool true) ∧ Below W.heap.size W W2 := by
  have HP := hidMk (rcheck_any hp hq.2.2.1)
  obtain ⟨z1, z2, z3, z4⟩ := ringCode_zero hz
  have hzl := hp.1
  have hlp := hq.1
  have hn0 : 0 < n := by omega
  have hn4' : (n : Int) ≤ 4 := by omega
  rw [hz] at HP
  have hpl' : (pl : Int) ≤ 60 := by omega
  have q1 : ((0 : Int) != 0) = false := rfl
  have q2 : decide (4 < (n : Int)) = false := decide_eq_false (by omega)
  have q3 : decide (60 < (pl : Int)) = false := decide_eq_false (by omega)
  obtain ⟨P, hP⟩ : ∃ P : Nat, P = n * (n + 1) := ⟨_, rfl⟩
  obtain ⟨R, hR⟩ : ∃ R : Nat, R = P / 2 := ⟨_, rfl⟩
  have hP20 : P ≤ 20 := by
    have : n * (n + 1) ≤ 4 * 5 := Nat.mul_le_mul h4 (by omega)
    omega
  have hPR : n * (n + 1) ≤ 2 * R := by
    have : n = 1 ∨ n = 2 ∨ n = 3 ∨ n = 4 := by omega
    rcases this with rfl | rfl | rfl | rfl <;> omega
  have hR10 : R ≤ 10 := by omega
  have hPi : (n : Int) * ((n : Int) + 1) = (P : Int) := by rw [hP]; simp
  have hRi : (P : Int).tdiv 2 = (R : Int) := by rw [hR]; rfl
  have hRi2 : (P : Int) / 2 = (R : Int) := by rw [hR]; rfl
  have hRn : R * n ≤ 40 := by
    have : R * n ≤ 10 * 4 := Nat.mul_le_mul hR10 h4
    omega
  obtain ⟨haw, g, hg, hgr, hG⟩ := ends_scr hn0 (dist_of hzl z4) ps R hPR
  have HN := hidMk hp
  have HQ := hidMk hq
  have HZ := hidMk z4
  have HZL := hidMk hzl
  obtain ⟨i0, hi, hz0, hz1, hz2⟩ := info_parts cInfoTurn
  have HFin := hidMk (show awayG (gsAt n (nmL zs) (scrT ps n R 0) (scrT ps n R 0).length) n = 0 ∧ (gsAt n (nmL zs) (scrT ps n R 0) (scrT ps n R 0).length).ch = [g] from ⟨haw, hgr⟩)
  clear hp hq hz z1 z2 z3 z4 hzl haw hgr hP hR hPR
  go_enter Try.func6, Try.ntmps6
  go_upto_region 4 with (go_at_call 9; refine (HP.out).mono ?_; rintro e w1 ⟨rfl, m, hw⟩; obtain rfl := hw.symm)
  have HK3 : Hid (Stil W (W.drewN m)) := Stil.drewN W m
  clear HP
  generalize W.drewN m = w3 at *
  have hw3 : W.heap.size ≤ w3.heap.size := HK3.out.size
  have HS0 : Hid (Seg (w3.alloc (.cells #[] 36)) (fun g => W.heap.size ≤ g) 36 2 (.slice (some ⟨w3.heap.size, 0, none⟩) 0 0) 0 []) :=
    ⟨by simp, .inr ⟨_, 0, 0, #[], rfl, hw3, al_new _ _, Nat.le_refl _, Nat.zero_le _, by simp, by simp⟩⟩
  have HP2 := hidMk (HQ.out.still (HK3.out.alloc (.cells #[] 36)))
  go_wp2_with (at_builtin; refine wpList_append_turn rfl _ _ rfl (fun g => W.heap.size ≤ g) w3.heap.size 0 0 0 [] rfl HS0.out qa pl qc ps rfl HP2.out (by omega) ?_)
  intro v4 w4 hs4 hg4
  have HS4 : Hid (Seg w4 (fun g => W.heap.size ≤ g) 36 2 v4 pl (flatT ps)) := by
    have h1 := hs4.mono (ok2 := fun g => W.heap.size ≤ g) (fun g _ e => by
      rcases e with ⟨_, e⟩ | e
      · exact e
      · (try simp at e); omega)
    show Seg w4 (fun g => W.heap.size ≤ g) 36 2 v4 pl (flatT ps)
    simpa using h1
  have HK4 : Hid (Stil W w4) := (HK3.out.alloc _).grown hg4 (fun k e hk => by cases e; omega)
  clear hs4 hg4 HS0 HP2 HK3 hw3
  obtain ⟨a4, c4, hv4⟩ := segForm HS4.out
  subst hv4
  go_wp2_with (at_builtin; refine wpList_append_seg _ rfl _ _ 23 rfl 36 i0 (.agg #[.int .i64 0, .int .i64 0]) 2 16 Try.underlying23 hi hz0 hz1 hz2 rfl (by decide) _ _ _ rfl (segAlloc HS4.out _) ⟨w4.heap.size, 0, none⟩ 1 1 (cellsT ⟨1, 0⟩) rfl rfl (cells_turn_at _ _ _ _ _ rfl) (turnCells _ _) (by unfold maxLen; omega) (by omega) ?_)
  intro v5 w5 hs5 hg5
  have HS5 : Hid (SegTs w5 W.heap.size v5 (scrT ps n 0 0)) := by
    have h1 := hs5.mono (ok2 := fun g => W.heap.size ≤ g) (fun g _ e => by
      rcases e with ⟨_, e⟩ | e
      · exact e
      · have := HK4.out.size; (try simp at e); omega)
    show Seg w5 _ _ 2 v5 _ _
    rw [scrT_zero, flatT_append, flatT_one, List.length_append, hlp]
    exact h1
  have HK5 : Hid (Stil W w5) := (HK4.out.alloc _).grown hg5 (fun q e hq => by have := (HS4.out.block e).1; omega)
  have HLen : Hid (∀ d p, d < R → p ≤ n → (scrT ps n d p).length ≤ 1000) := fun d p hd hp => by
    rw [scrT_len, hlp]
    have : d * n ≤ 10 * 4 := Nat.mul_le_mul (by omega) h4
    omega
  have hlenAll : (scrT ps n R 0).length ≤ 120 := by rw [scrT_len, hlp]; omega
  clear hs5 hg5 HS4 HK4
  obtain ⟨a5, c5, hv5⟩ := segForm HS5.out
  subst hv5
  go_wp2
  go_loopw [6, 7] (fun v u wr => ∃ (d : Nat), d ≤ R ∧ u = .int .i64 (d : Int) ∧ Hid (SegTs wr W.heap.size v (scrT ps n d 0)) ∧ Hid (Stil W wr)) (fun _ u _ => R - (intOf u).toNat)
  case atStart => exact ⟨0, Nat.zero_le _, rfl, HS5, HK5⟩
  case round =>
    obtain ⟨d, hd, rfl, HS6, HK6⟩ := hrel
    by_cases hdl : d < R
    · have hdl' : (d : Int) < (R : Int) := by omega
      obtain ⟨a6, c6, hv6⟩ := segForm HS6.out
      generalize hww : wr = w6 at *
      clear hww
      go_wp2
      go_loopw [6, 8] (fun v u wr => ∃ p : Nat, p ≤ n ∧ u = .int .i64 (p : Int) ∧ Hid (SegTs wr W.heap.size v (scrT ps n d p)) ∧ Hid (Stil W wr)) (fun _ u _ => n - (intOf u).toNat)
      case atStart => exact ⟨0, Nat.zero_le _, rfl, HS6, HK6⟩
      case round =>
        obtain ⟨p, hp2, rfl, HS7, HK7⟩ := hrel
        by_cases hpl2 : p < n
        · have hpl3 : (p : Int) < (n : Int) := by omega
          obtain ⟨a7, c7, hv7⟩ := segForm HS7.out
          subst hv7
          have hsl := HLen.out d p hdl hp2
          have HM7 := hidMk (scrT_more ps n d p)
          generalize hscr : scrT ps n d p = l7 at *
          clear hscr
          go_wp2_with (at_builtin; refine wpList_append_seg _ rfl _ _ 23 rfl 36 i0 (.agg #[.int .i64 0, .int .i64 0]) 2 16 Try.underlying23 hi hz0 hz1 hz2 rfl (by decide) _ _ _ rfl (segAlloc HS7.out _) ⟨wr.heap.size, 0, none⟩ 1 1 (cellsT ⟨2, (p : Int)⟩) rfl rfl (cells_turn_at _ _ _ _ _ rfl) (turnCells _ _) (by unfold maxLen; omega) (by omega) ?_)
          intro v8 w8 hs8 hg8
          have HS8 : Hid (SegTs w8 W.heap.size v8 (scrT ps n d (p + 1))) := by
            have h1 := hs8.mono (ok2 := fun g => W.heap.size ≤ g) (fun g _ e => by
              rcases e with ⟨_, e⟩ | e
              · exact e
              · have := HK7.out.size; (try simp at e); omega)
            show Seg w8 _ _ 2 v8 _ _
            rw [HM7.out, flatT_append, flatT_one, List.length_append]
            exact h1
          have HK8 : Hid (Stil W w8) := (HK7.out.alloc _).grown hg8 (fun q e hq => by have := (HS7.out.block e).1; omega)
          clear hs8 hg8 HS7 HK7
          go_wp2
          go_roundw
          case rel => exact ⟨p + 1, by omega, by go_num, HS8, HK8⟩
          case measure => simp [intOf]; omega
        · obtain rfl : p = n := by omega
          have HS8 := HS7
          rw [← scrT_row] at HS8
          clear HS7
          go_wp2
          go_roundw
          case rel => exact ⟨d + 1, by omega, by go_num, HS8, HK7⟩
          case measure => simp [intOf]; omega
    · obtain rfl : d = R := by omega
      obtain ⟨a7, c7, hv7, hca⟩ := segT_came HS6.out
      subst hv7
      have hz3 : ringCode zs (scrT ps n d 0).length = 0 := by
        have := HZL.out
        unfold ringCode ndCode
        rw [if_neg (by omega), if_pos HZ.out]
      have HPl := hidMk (play_seenG (HN.out.still HK6.out) hca hz3)
      obtain ⟨f1, f2⟩ := HFin.out
      rw [f1] at HPl
      have hl : (gsAt n (nmL zs) (scrT ps n d 0) (scrT ps n d 0).length).ch.length = 1 := by rw [f2]; rfl
      have HCh := hidMk f2
      rw [hl] at HPl
      generalize gsAt n (nmL zs) (scrT ps n d 0) (scrT ps n d 0).length = S at *
      generalize gcAt n (nmL zs) (scrT ps n d 0) = cdd at *
      clear hca HS6 HFin f1 f2 hz3 HLen
      generalize (scrT ps n d 0).length = al at *
      go_wp2_with (fail)
      go_at_call 8
      refine (HPl.out).mono ?_
      rintro e w1 ⟨⟨C1, va, vc, rfl, hS1⟩, hk1⟩
      generalize S.sent = se at *
      have HK1 := hidMk ((HK6.out.tr hk1).alloc (.cells #[.slice (some ⟨C1, 0, none⟩) al al, .slice va 1 vc, .int .i64 (se : Int), .int .i64 0] 26))
      have hrow := hS1.ch.still (Stil.new w1 (.cells #[.slice (some ⟨C1, 0, none⟩) al al, .slice va 1 vc, .int .i64 (se : Int), .int .i64 0] 26))
      rw [hl, HCh.out] at hrow
      obtain ⟨_, r2, _, r4⟩ := hrow
      rcases r4 with r4 | ⟨b, off, rfl, _, hcell⟩
      · omega
      have c0 := hcell 0 (g : Int) rfl
      rw [Nat.add_zero] at c0
      have r2' : (1 : Int) ≤ (vc : Int) := by omega
      have l1 : (w1.alloc (.cells #[.slice (some ⟨C1, 0, none⟩) al al, .slice (some ⟨b, off, none⟩) 1 vc, .int .i64 (se : Int), .int .i64 0] 26)).cell? ⟨w1.heap.size, 1, none⟩ = some (.slice (some ⟨b, off, none⟩) 1 vc) := by rw [cell_of_row _ _ _ _ _ _ (al_new _ _)]; rfl
      have l3 : (w1.alloc (.cells #[.slice (some ⟨C1, 0, none⟩) al al, .slice (some ⟨b, off, none⟩) 1 vc, .int .i64 (se : Int), .int .i64 0] 26)).cell? ⟨w1.heap.size, 3, none⟩ = some (.int .i64 0) := by rw [cell_of_row _ _ _ _ _ _ (al_new _ _)]; rfl
      have HGr : Hid (∀ q, Calls Try.prog 12 #[.slice pa n pc] ((w1.alloc (.cells #[.slice (some ⟨C1, 0, none⟩) al al, .slice (some ⟨b, off, none⟩) 1 vc, .int .i64 (se : Int), .int .i64 0] 26)).drewN q) fun e w5 => e = .returned (.int .i64 (g : Int)) ∧ ∃ m, w5 = (w1.alloc (.cells #[.slice (some ⟨C1, 0, none⟩) al al, .slice (some ⟨b, off, none⟩) 1 vc, .int .i64 (se : Int), .int .i64 0] 26)).drewN m) := fun q => by
        refine (greatest_any ((HN.out.still HK1.out).still (Stil.drewN _ q)) (by omega) hg hG).mono ?_
        rintro e w5 ⟨rfl, m, rfl⟩
        exact ⟨rfl, q + m, drewN_plus _ _ _⟩
      clear hS1 hk1 HPl hcell HK6
      go_wp2_with (fail)
      generalize w1.alloc (.cells #[.slice (some ⟨C1, 0, none⟩) al al, .slice (some ⟨b, off, none⟩) 1 vc, .int .i64 (se : Int), .int .i64 0] 26) = w2 at *
      go_quiet (first | (go_at_call 12; exact HGr.out _))
      go_wp2
      go_ret
      exact ⟨rfl, Stil.below (HK1.out.drewN _)⟩

theorem rends_walk {W : World} {pa qa : Option Addr} {n pc pl qc : Nat} {zs : List Int} {ps : List Tu} (hp : CameI W pa n pc zs) (hq : CameT W qa pl qc ps) :
    Calls Try.prog 6 #[.slice pa n pc, .slice qa pl qc] W fun e W2 => e = .returned (.bool true) ∧ Below W.heap.size W W2 := by
  by_cases hz : ringCode zs pl = 0
  · by_cases h4 : n ≤ 4
    · by_cases h60 : pl ≤ 60
      · exact rends_ok hp hq hz h4 h60
      · exact rends_out hp hq.2.2.1 (.inr (.inr (by omega)))
    · exact rends_out hp hq.2.2.1 (.inr (.inl (by omega)))
  · exact rends_out hp hq.2.2.1 (.inl hz)
end Go.Proofs.Ytadanpghmfhhkaa
