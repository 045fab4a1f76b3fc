/- folkmootkeep.SnapEnds, walked to its end. -/
import Derived.Test.YtdigkdebdlpnpaaW3
namespace Go.Proofs.Ytdigkdebdlpnpaa
open Go.RowKit
set_option linter.unusedVariables false

theorem tk_len (i j : Nat) : (tk i j).length ≤ j := by
  unfold tk
  rw [List.length_map]
  exact Nat.le_trans (List.length_filter_le _ _) (by simp)
theorem turnTo_len (n : Nat) : ∀ i, (turnTo n i).length ≤ i * n
  | 0 => by simp [turnTo]
  | i + 1 => by
    show (turnTo n i ++ tk i n).length ≤ _
    rw [List.length_append, Nat.add_mul, Nat.one_mul]
    have h1 := turnTo_len n i
    have h2 := tk_len i n
    omega
theorem turnsL_len (n : Nat) : ∀ t, (turnsL n t).length ≤ t * (n * n)
  | 0 => by simp [turnsL]
  | t + 1 => by
    show (turnsL n t ++ turnTo n n).length ≤ _
    rw [List.length_append, Nat.add_mul, Nat.one_mul]
    have h1 := turnsL_len n t
    have h2 := turnTo_len n n
    omega
theorem turns_17 {n : Nat} (h : n = 2 ∨ n = 3) : (turnsL n 17).length ≤ 102 := by
  rcases h with rfl | rfl <;> decide
/-- The script, so far. -/
def scr (n : Nat) (ps : List Pass) (t i j : Nat) : List Pass := ps ++ [beginP] ++ turnsL n t ++ turnTo n i ++ tk i j
theorem scr_len {n : Nat} {ps : List Pass} {t i j : Nat} (hn : n ≤ 3) (hp : ps.length ≤ 12) (ht : t ≤ 17) (hi : i ≤ n) (hj : j ≤ n) : (scr n ps t i j).length ≤ 200 := by
  unfold scr
  simp only [List.length_append, List.length_singleton]
  have h1 := turnsL_len n t
  have h2 := turnTo_len n i
  have h3 := tk_len i j
  have h4 : n * n ≤ 9 := Nat.mul_le_mul hn hn
  have h5 : i * n ≤ 9 := Nat.mul_le_mul (Nat.le_trans hi hn) hn
  have h6 : t * (n * n) ≤ 17 * 9 := Nat.mul_le_mul ht h4
  omega
theorem scr_skip (n : Nat) (ps : List Pass) (t i : Nat) : scr n ps t i (i + 1) = scr n ps t i i := by unfold scr; rw [tk_succ, if_pos rfl, List.append_nil]
theorem scr_more {n : Nat} {ps : List Pass} {t i j : Nat} (h : j ≠ i) : scr n ps t i (j + 1) = scr n ps t i j ++ [takeP i j] := by unfold scr; rw [tk_succ, if_neg h]; simp
theorem scr_row (n : Nat) (ps : List Pass) (t i : Nat) : scr n ps t (i + 1) 0 = scr n ps t i n := by unfold scr; simp [tk, turnTo]
theorem scr_turn (n : Nat) (ps : List Pass) (t : Nat) : scr n ps (t + 1) 0 0 = scr n ps t n 0 := by unfold scr; simp [tk, turnTo, turnsL]
theorem scr_zero (n : Nat) (ps : List Pass) : scr n ps 0 0 0 = ps ++ [beginP] := by unfold scr; simp [tk, turnTo, turnsL]

theorem code_len {zs : List Int} {a b : Nat} (h : snapCode zs a = 0) (hb : b ≤ 120) : snapCode zs b = 0 := by
  unfold snapCode at h ⊢
  split at h
  · omega
  · rename_i h1
    rw [if_neg (by omega)]
    exact h

abbrev SegP (w : World) (lo : Nat) (v : Value) (l : List Pass) : Prop := Seg w (fun g => lo ≤ g) 35 4 v l.length (flatP l)

set_option maxRecDepth 100000 in
set_option maxHeartbeats 4000000 in
theorem ends_ok {W : World} {ma pa : Option Addr} {mn mc pl pc : Nat} {zs : List Int} {ps : List Pass} (hm : CameI W ma mn mc zs) (hp : CameP W pa pl pc ps) (hz : snapCode zs pl = 0) (h23 : mn = 2 ∨ mn = 3) (hp12 : pl ≤ 12) :
    Calls Try.prog 5 #[.slice ma mn mc, .slice pa pl pc] W fun e W2 => e = .returned (.bool true) ∧ Below W.heap.size W W2 := by
  obtain ⟨i0, hi, hz0, hz1, hz2⟩ := info_parts Try.info35
  obtain ⟨h0, h6, hpl, hzs⟩ := code_zero hm.1 hz
  have HP := hidMk (play_seen hm hp hz h0 h6 hpl hzs)
  generalize doneB mn (stAt mn (st0 (monF zs)) ps pl) = dn0 at *
  have m2 : (2 : Int) ≤ (mn : Int) := by omega
  have m3 : (mn : Int) ≤ 3 := by omega
  have p12 : (pl : Int) ≤ 12 := by omega
  have hn3 : mn ≤ 3 := by omega
  have hpsl : ps.length = pl := hp.1
  have HM := hidMk hm
  have HPs := hidMk hp
  have HZs := hidMk hzs
  have HZ := hidMk hz
  clear hm hp hz hzs
  go_enter Try.func5, Try.ntmps5
  go_wp2_with (fail)
  go_at_call 8
  refine (HP.out).mono ?_
  rintro e w1 ⟨⟨C, B, gm, om, cm, go, oo, co, rfl, _, _, _⟩, hk⟩
  have HK1 := hidMk (hk.alloc (.cells #[.slice (some ⟨C, 0, none⟩) pl pl, .slice (some ⟨gm, om, none⟩) mn cm, .slice (some ⟨go, oo, none⟩) mn co, .slice (some ⟨B, 0, none⟩) (mn * mn) (mn * mn), .bool dn0] 27))
  have hsz1 : (w1.alloc (.cells #[.slice (some ⟨C, 0, none⟩) pl pl, .slice (some ⟨gm, om, none⟩) mn cm, .slice (some ⟨go, oo, none⟩) mn co, .slice (some ⟨B, 0, none⟩) (mn * mn) (mn * mn), .bool dn0] 27)).heap.size = w1.heap.size + 1 := by simp
  have HS0 : Hid (Seg ((w1.alloc (.cells #[.slice (some ⟨C, 0, none⟩) pl pl, .slice (some ⟨gm, om, none⟩) mn cm, .slice (some ⟨go, oo, none⟩) mn co, .slice (some ⟨B, 0, none⟩) (mn * mn) (mn * mn), .bool dn0] 27)).alloc (.cells #[] 35)) (fun g => W.heap.size ≤ g) 35 4 (.slice (some ⟨w1.heap.size + 1, 0, none⟩) 0 0) 0 []) := by
    have hn := al_new (w1.alloc (.cells #[.slice (some ⟨C, 0, none⟩) pl pl, .slice (some ⟨gm, om, none⟩) mn cm, .slice (some ⟨go, oo, none⟩) mn co, .slice (some ⟨B, 0, none⟩) (mn * mn) (mn * mn), .bool dn0] 27)) (.cells #[] 35)
    rw [hsz1] at hn
    exact ⟨by simp, .inr ⟨_, 0, 0, #[], rfl, by have := hk.size; show W.heap.size ≤ w1.heap.size + 1; omega, hn, Nat.le_refl _, Nat.zero_le _, by simp, by simp⟩⟩
  have HP2 := hidMk (HPs.out.keep (HK1.out.alloc (.cells #[] 35)) (fun _ _ e => e))
  have hw1 : W.heap.size ≤ w1.heap.size := hk.size
  have HZ1 := hidMk hsz1
  clear hk hsz1 HP
  go_wp2_with (at_builtin; refine wpList_append_came rfl _ _ rfl (fun g => W.heap.size ≤ g) (w1.heap.size + 1) 0 0 0 [] rfl HS0.out pa pl pc ps rfl HP2.out (by omega) ?_)
  intro v2 w2 hs2 hg2
  have HS2 : Hid (Seg w2 (fun g => W.heap.size ≤ g) 35 4 v2 ps.length (flatP ps)) := by
    have h1 := hs2.mono (ok2 := fun g => W.heap.size ≤ g) (fun g _ e => by
      rcases e with ⟨_, e⟩ | e
      · exact e
      · (try simp at e); omega)
    rw [hpsl]
    show Seg w2 (fun g => W.heap.size ≤ g) 35 4 v2 pl (flatP ps)
    simpa using h1
  have HK2 : Hid (Keep (fun _ => False) W w2) := (HK1.out.alloc _).grown hg2 (fun k e hk => by cases e; omega)
  clear hs2 hg2 HS0 HP2 HK1 HZ1
  obtain ⟨a2, c2, rfl⟩ := HS2.out.form
  go_wp2_with (at_builtin; refine wpList_append_seg _ rfl _ _ 23 rfl 35 i0 (.agg #[.int .i64 0, .int .i64 0, .int .i64 0, .int .i64 0]) 4 32 Try.underlying23 hi hz0 hz1 hz2 rfl (by decide) _ _ _ rfl (HS2.out.alloc _) ⟨w2.heap.size, 0, none⟩ 1 1 (cellsP beginP) rfl rfl (cells_pass_at _ _ _ _ _ _ _ (by simp)) (pass_cells _ _ _ _) (by unfold maxLen; omega) (by omega) ?_)
  intro v3 w3 hs3 hg3
  have HS3 : Hid (SegP w3 W.heap.size v3 (scr mn ps 0 0 0)) := by
    have h1 := hs3.mono (ok2 := fun g => W.heap.size ≤ g) (fun g _ e => by
      rcases e with ⟨_, e⟩ | e
      · exact e
      · have := HK2.out.size; (try simp at e); omega)
    show Seg w3 _ _ 4 v3 _ _
    rw [scr_zero, flatP_append, flatP_one, List.length_append, hpsl]
    exact h1
  have HK3 : Hid (Keep (fun _ => False) W w3) := (HK2.out.alloc _).grown hg3 (fun q e hq => by have := (HS2.out.block (show (Value.slice a2 ps.length c2).ownBlock = some q by rw [hpsl]; exact e)).1; omega)
  clear hs3 hg3 HS2 HK2
  have hpl12 : ps.length ≤ 12 := by omega
  go_wp2
  go_loopw [8, 9] (fun v u wr => ∃ t : Nat, t ≤ 17 ∧ u = .int .i64 (t : Int) ∧ Hid (SegP wr W.heap.size v (scr mn ps t 0 0)) ∧ Hid (Keep (fun _ => False) W wr)) (fun _ u _ => 17 - (intOf u).toNat)
  case atStart => exact ⟨0, Nat.zero_le _, rfl, HS3, HK3⟩
  case round =>
    obtain ⟨t, ht, rfl, HS4, HK4⟩ := hrel
    by_cases htl : t < 17
    · have htl' : (t : Int) < 17 := by omega
      obtain ⟨va, vc, rfl⟩ := HS4.out.form
      generalize hww : wr = w4 at *
      clear hww
      generalize hvv : Value.slice va (scr mn ps t 0 0).length vc = v4 at *
      clear hvv
      go_wp2
      go_loopw [8, 10] (fun v u wr => ∃ i : Nat, i ≤ mn ∧ u = .int .i64 (i : Int) ∧ Hid (SegP wr W.heap.size v (scr mn ps t i 0)) ∧ Hid (Keep (fun _ => False) W wr)) (fun _ u _ => mn - (intOf u).toNat)
      case atStart => exact ⟨0, Nat.zero_le _, rfl, HS4, HK4⟩
      case round =>
        obtain ⟨i, hi2, rfl, HS5, HK5⟩ := hrel
        rename Value => v5
        by_cases hil : i < mn
        · have hil' : (i : Int) < (mn : Int) := by omega
          generalize hww : wr = w5 at *
          clear hww
          go_wp2
          go_loopw [8, 11] (fun v u wr => ∃ j : Nat, j ≤ mn ∧ u = .int .i64 (j : Int) ∧ Hid (SegP wr W.heap.size v (scr mn ps t i j)) ∧ Hid (Keep (fun _ => False) W wr)) (fun _ u _ => mn - (intOf u).toNat)
          case atStart => exact ⟨0, Nat.zero_le _, rfl, HS5, HK5⟩
          case round =>
            obtain ⟨j, hj2, rfl, HS6, HK6⟩ := hrel
            by_cases hjl : j < mn
            · have hjl' : (j : Int) < (mn : Int) := by omega
              by_cases hij : i = j
              · have hij' : ((i : Int) != (j : Int)) = false := by simp [hij]
                have e7 : scr mn ps t i (j + 1) = scr mn ps t i j := by rw [← hij, scr_skip]
                have HS7 := HS6
                rw [← e7] at HS7
                clear HS6 e7
                go_wp2
                go_roundw
                case rel => exact ⟨j + 1, by omega, by go_num, HS7, HK6⟩
                case measure => simp [intOf]; omega
              · have hij' : ((i : Int) != (j : Int)) = true := by simp; omega
                have hsl := scr_len (n := mn) (ps := ps) (t := t) (i := i) (j := j) hn3 hpl12 (by omega) hi2 hj2
                obtain ⟨a6, c6, rfl⟩ := HS6.out.form
                have HM6 := hidMk (scr_more (n := mn) (ps := ps) (t := t) (i := i) (j := j) (Ne.symm hij))
                generalize hscr : scr mn ps t i j = l6 at *
                clear hscr
                go_wp2_with (at_builtin; refine wpList_append_seg _ rfl _ _ 23 rfl 35 i0 (.agg #[.int .i64 0, .int .i64 0, .int .i64 0, .int .i64 0]) 4 32 Try.underlying23 hi hz0 hz1 hz2 rfl (by decide) _ _ _ rfl (HS6.out.alloc _) ⟨wr.heap.size, 0, none⟩ 1 1 (cellsP (takeP i j)) rfl rfl (cells_pass_at _ _ _ _ _ _ _ rfl) (pass_cells _ _ _ _) (by unfold maxLen; omega) (by omega) ?_)
                intro v7 w7 hs7 hg7
                have HS7 : Hid (SegP w7 W.heap.size v7 (scr mn ps t i (j + 1))) := by
                  have h1 := hs7.mono (ok2 := fun g => W.heap.size ≤ g) (fun g _ e => by
                    rcases e with ⟨_, e⟩ | e
                    · exact e
                    · have := HK6.out.size; (try simp at e); omega)
                  show Seg w7 _ _ 4 v7 _ _
                  rw [HM6.out, flatP_append, flatP_one, List.length_append]
                  exact h1
                have HK7 : Hid (Keep (fun _ => False) W w7) := (HK6.out.alloc _).grown hg7 (fun q e hq => by have := (HS6.out.block e).1; omega)
                clear hs7 hg7 HS6 HK6
                go_wp2
                go_roundw
                case rel => exact ⟨j + 1, by omega, by go_num, HS7, HK7⟩
                case measure => simp [intOf]; omega
            · obtain rfl : j = mn := by omega
              have HS7 := HS6
              rw [← scr_row] at HS7
              clear HS6
              go_wp2
              go_roundw
              case rel => exact ⟨i + 1, by omega, by go_num, HS7, HK6⟩
              case measure => simp [intOf]; omega
        · obtain rfl : i = mn := by omega
          have HS6 := HS5
          rw [← scr_turn] at HS6
          clear HS5
          go_wp2
          go_roundw
          case rel => exact ⟨t + 1, by omega, by go_num, HS6, HK5⟩
          case measure => simp [intOf]; omega
    · obtain rfl : t = 17 := by omega
      have hl115 : (scr mn ps 17 0 0).length ≤ 115 := by
        have h1 := turns_17 h23
        unfold scr
        simp [tk, turnTo]
        omega
      have hpl2 := ends_plain (n := mn) (m := monF zs) (fun i _ => (mon_ok HZs.out i).1) h0 (ps := ps) hpl12
      have escr : scr mn ps 17 0 0 = ps ++ [beginP] ++ turnsL mn 17 := by unfold scr; simp [tk, turnTo]
      rw [← escr, ← stAt_all] at hpl2
      clear escr
      generalize scr mn ps 17 0 0 = L at *
      generalize hww : wr = w9 at *
      clear hww
      obtain ⟨va, vc, rfl, hcame⟩ := seg_came HS4.out
      have hm2 := HM.out.keep HK4.out (fun _ _ e => e)
      have HPl := hidMk (play_seen hm2 hcame (code_len HZ.out (by omega)) h0 (by omega) (by omega) HZs.out)
      rw [hpl2.1] at HPl
      have HSum := hidMk hpl2.2
      have hinv := (at_inv (inv0 (n := mn) (m := monF zs) (fun i _ => (mon_ok HZs.out i).1)) L L.length).1
      have h3 : sumN (monF zs) mn ≤ 6000 := by
        have := sumN_bound (n := mn) (fun i _ => (mon_ok HZs.out i).2)
        have e : (1000 : Int) * (mn : Int) ≤ 6000 := by omega
        omega
      have HI := hidMk hinv
      have HM0 := hidMk (fun i => mon_ok HZs.out i)
      obtain ⟨_, _, _, hmr⟩ := hm2
      rcases hmr with hmr | ⟨bm, ofm, rfl, hbm, hcm⟩
      · omega
      have HMon : Hid (∀ i, i < mn → w9.cell? ⟨bm, ofm + i, none⟩ = some (.int .i64 (monF zs i))) := fun i hi => by
        have hil : i < zs.length := by have := HM.out.1; omega
        have e : zs[i]? = some zs[i] := List.getElem?_eq_getElem hil
        rw [hcm i _ e]
        simp [monF, hil]
      have hlen' : ((L.length : Nat) : Int) ≤ 115 := by omega
      clear hcame hcm hinv hpl2 HM HPs HZs HZ HS4
      generalize stAt mn (st0 (monF zs)) L L.length = S at *
      generalize codeAt mn (st0 (monF zs)) L = cd at *
      generalize monF zs = m at *
      generalize hll : L.length = ln at *
      clear hll
      go_wp2_with (fail)
      go_at_call 8
      refine (HPl.out).mono ?_
      rintro e w1 ⟨⟨C, B, gm, om, cm, go, oo, co, rfl, hS, hcm, hco⟩, hk1⟩
      have HSn := hidMk (hS.keep ((Keep.refl (fun _ => False) w1).alloc (.cells #[.slice (some ⟨C, 0, none⟩) ln ln, .slice (some ⟨gm, om, none⟩) mn cm, .slice (some ⟨go, oo, none⟩) mn co, .slice (some ⟨B, 0, none⟩) (mn * mn) (mn * mn), .bool true] 27)) (fun _ _ e => e))
      have HK1 := hidMk (hk1.alloc (.cells #[.slice (some ⟨C, 0, none⟩) ln ln, .slice (some ⟨gm, om, none⟩) mn cm, .slice (some ⟨go, oo, none⟩) mn co, .slice (some ⟨B, 0, none⟩) (mn * mn) (mn * mn), .bool true] 27))
      clear hS hk1 HPl
      go_wp2
      have l1 : (w1.alloc (.cells #[.slice (some ⟨C, 0, none⟩) ln ln, .slice (some ⟨gm, om, none⟩) mn cm, .slice (some ⟨go, oo, none⟩) mn co, .slice (some ⟨B, 0, none⟩) (mn * mn) (mn * mn), .bool true] 27)).cell? ⟨w1.heap.size, 1, none⟩ = some (.slice (some ⟨gm, om, none⟩) mn cm) := by go_simp
      have l4 : (w1.alloc (.cells #[.slice (some ⟨C, 0, none⟩) ln ln, .slice (some ⟨gm, om, none⟩) mn cm, .slice (some ⟨go, oo, none⟩) mn co, .slice (some ⟨B, 0, none⟩) (mn * mn) (mn * mn), .bool true] 27)).cell? ⟨w1.heap.size, 4, none⟩ = some (.bool true) := by go_simp
      generalize w1.alloc (.cells #[.slice (some ⟨C, 0, none⟩) ln ln, .slice (some ⟨gm, om, none⟩) mn cm, .slice (some ⟨go, oo, none⟩) mn co, .slice (some ⟨B, 0, none⟩) (mn * mn) (mn * mn), .bool true] 27) = w2 at *
      go_loopw [13, 14, 15] (fun u8 u9 u wr => ∃ k : Nat, k ≤ mn ∧ u = .int .i64 (k : Int) ∧ u8 = .int .i64 (sumN m k) ∧ u9 = .int .i64 (sumN S.money k) ∧ wr = w2) (fun _ _ u _ => mn - (intOf u).toNat)
      case atStart => exact ⟨0, Nat.zero_le _, rfl, rfl, rfl, rfl⟩
      case round =>
        obtain ⟨k, hk, rfl, rfl, rfl, hwr2⟩ := hrel
        subst hwr2
        by_cases hlt : k < mn
        · have hlt' : (k : Int) < (mn : Int) := by omega
          have q0 : wr.cell? ⟨bm, ofm + k, none⟩ = some (.int .i64 (m k)) := (World.cell?_of_block (HK1.out.block bm hbm (fun e => e))).trans (HMon.out k hlt)
          have q1 := HSn.out.money k hlt
          have b1 : sumN m (k + 1) ≤ sumN m mn := sumN_mono (by omega) (fun i hi => (HM0.out i).1)
          have b1' : 0 ≤ sumN m (k + 1) := sumN_nonneg (fun i hi => (HM0.out i).1)
          have b2 : sumN S.money (k + 1) ≤ sumN S.money mn := sumN_mono (by omega) HI.out.mon
          have b2' : 0 ≤ sumN S.money (k + 1) := sumN_nonneg (fun i hi => HI.out.mon i (by omega))
          have hsm := HSum.out
          have e1 : IntKind.i64.wrap (sumN m k + m k) = sumN m (k + 1) := by show IntKind.i64.wrap (sumN m (k + 1)) = _; exact wrap7 ⟨by omega, by omega⟩
          have e3 : IntKind.i64.wrap (sumN S.money k + S.money k) = sumN S.money (k + 1) := by show IntKind.i64.wrap (sumN S.money (k + 1)) = _; exact wrap7 ⟨by omega, by omega⟩
          clear b1 b1' b2 b2' hsm
          go_wp2
          go_roundw
          case rel => exact ⟨k + 1, by omega, by go_num, rfl, rfl, by trivial⟩
          case measure => simp [intOf]; omega
        · obtain rfl : k = mn := by omega
          have hf : (sumN S.money k == sumN m k) = true := by simpa using HSum.out
          go_wp2
          go_ret
          exact ⟨by first | rfl | simp, keep_below3 (HK4.out.trans HK1.out (fun _ _ e => e) (fun _ _ e => e))⟩

theorem ends_walk {W : World} {ma pa : Option Addr} {mn mc pl pc : Nat} {zs : List Int} {ps : List Pass} (hm : CameI W ma mn mc zs) (hp : CameP W pa pl pc ps) :
    Calls Try.prog 5 #[.slice ma mn mc, .slice pa pl pc] W fun e W2 => e = .returned (.bool true) ∧ Below W.heap.size W W2 := by
  by_cases hz : snapCode zs pl = 0
  · have h0 := (code_zero hm.1 hz).1
    by_cases hf : mn = 1 ∨ 3 < mn ∨ 12 < pl
    · exact ends_far hm hp hz hf
    · exact ends_ok hm hp hz (by omega) (by omega)
  · exact ends_bad hm hz
end Go.Proofs.Ytdigkdebdlpnpaa
