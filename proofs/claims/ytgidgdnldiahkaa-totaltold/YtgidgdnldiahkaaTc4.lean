/- folkmootkeep.TotalTold, walked. -/
import Derived.Test.YtgidgdnldiahkaaTb1
namespace Go.Proofs.Ytgidgdnldiahkaa
open Go.RowKit
set_option linter.unusedVariables false

theorem tell_next (ps : List Cst) (cd : Nat → Int) (p : Nat) {k : Nat} {c : Cst} (hc : ps[k]? = some c) : tellTo ps cd p (k + 1) = if c.kind = 3 ∧ c.who = (p : Int) ∧ cd k = 0 then tellTo ps cd p k + 1 else tellTo ps cd p k := by
  rw [tellTo, List.getD_eq_getElem?_getD, hc]; rfl

set_option maxRecDepth 100000 in
set_option maxHeartbeats 4000000 in
theorem told_bad {W : World} {pa : Option Addr} {pl pc : Nat} {z : Int} (hz : castCode z pl ≠ 0) (hpl : pl ≤ maxLen) :
    Calls Try.prog 7 #[.int .i64 z, .slice pa pl pc] W fun e W2 => e = .returned (.bool true) ∧ Below W.heap.size W W2 := by
  have HP := hidMk (play_badT (W := W) (pa := pa) (pc := pc) hz hpl)
  clear hz hpl
  go_enter Try.func7, Try.ntmps7
  go_wp2_with (go_at_call 8; refine (HP.out).mono ?_; rintro e w1 ⟨rfl, hk1⟩)
  go_ret
  exact ⟨rfl, Stil.below (hk1.alloc _)⟩

set_option maxRecDepth 100000 in
set_option maxHeartbeats 8000000 in
theorem told_ok {W : World} {pa : Option Addr} {n pl pc : Nat} {ps : List Cst} (hp : CameC W pa pl pc ps) (h0 : 0 < n) (h6 : n ≤ 6) (hpl : pl ≤ 120) :
    Calls Try.prog 7 #[.int .i64 (n : Int), .slice pa pl pc] W fun e W2 => e = .returned (.bool true) ∧ Below W.heap.size W W2 := by
  have HP := hidMk (play_seenT hp h0 h6 hpl)
  have hlp := hp.1
  have hsc := sent_count (n := n) (by omega) ps pl (by omega)
  have HF := hidMk (fun p => heard_few (n := n) (by omega) ps p pl (by omega))
  have HLL : Hid (∀ p, ((tsAt n ps pl).ls p).length ≤ 120) := fun p => by have := tlen_le h6 ps pl p; omega
  have HIn : Hid (∀ p, ∀ x ∈ (tsAt n ps pl).ls p, x < (sentTo ps (tcAt n ps) pl).length) := fun p x hx => by
    obtain ⟨g, hi⟩ := (tat_all (n := n) (by omega) ps pl).inv
    rw [← hsc]
    exact ls_lt hi hx
  have hSl : (sentTo ps (tcAt n ps) pl).length ≤ 120 := by have := sentTo_len ps (tcAt n ps) pl; omega
  have HSn := hidMk (fun (w1 : World) (C : Nat) (hw1 : Stil W w1) (hc : RowI w1 (some ⟨C, 0, none⟩) pl pl ((List.range pl).map (tcAt n ps))) => sent_any (hp.keep hw1 (fun _ _ e => e)) (by omega) hc)
  have HNx := hidMk (fun (p k : Nat) (c : Cst) (hc : ps[k]? = some c) => tell_next ps (tcAt n ps) p hc)
  have HTL := hidMk (fun p k => tellTo_le ps (tcAt n ps) p k)
  have HT0 : Hid (∀ p, tellTo ps (tcAt n ps) p 0 = 0) := fun _ => rfl
  have HCm := hidMk hp
  have hpl' : (pl : Int) ≤ 120 := by omega
  clear hp hsc
  generalize (tsAt n ps pl).ls = S at *
  generalize hsn : (sentTo ps (tcAt n ps) pl).length = sl at *
  clear hsn
  generalize hTT : tellTo ps (tcAt n ps) = TT at *
  clear hTT
  generalize tcAt n ps = cd at *
  go_enter Try.func7, Try.ntmps7
  go_wp2_with (fail)
  go_at_call 8
  refine (HP.out).mono ?_
  rintro e w1 ⟨⟨C, L, rfl, hS⟩, hk1⟩
  have HK2 : Hid (Stil W (w1.alloc (.cells #[.slice (some ⟨C, 0, none⟩) pl pl, .slice (some ⟨L, 0, none⟩) n n] 26))) := hk1.alloc _
  have HSe := hidMk (hS.still (Stil.new w1 (.cells #[.slice (some ⟨C, 0, none⟩) pl pl, .slice (some ⟨L, 0, none⟩) n n] 26)))
  have HB0 : Hid ((w1.alloc (.cells #[.slice (some ⟨C, 0, none⟩) pl pl, .slice (some ⟨L, 0, none⟩) n n] 26)).cell? ⟨w1.heap.size, 0, none⟩ = some (.slice (some ⟨C, 0, none⟩) pl pl)) := by
    show _ = _
    rw [cell_of_row _ _ _ _ _ _ (al_new w1 _)]; rfl
  have HB1 : Hid ((w1.alloc (.cells #[.slice (some ⟨C, 0, none⟩) pl pl, .slice (some ⟨L, 0, none⟩) n n] 26)).cell? ⟨w1.heap.size, 1, none⟩ = some (.slice (some ⟨L, 0, none⟩) n n)) := by
    show _ = _
    rw [cell_of_row _ _ _ _ _ _ (al_new w1 _)]; rfl
  clear hk1 hS HP
  go_wp2_with (fail)
  go_at_call 14
  refine (HSn.out _ C HK2.out HSe.out.codes).mono ?_
  rintro e w3 ⟨sa, scp, rfl, _, _, hk3⟩
  have HK3 := hidMk (HK2.out.tr hk3)
  have HS3 := hidMk (HSe.out.still hk3)
  have HB0 := hidMk (Stil.cell hk3 HB0.out)
  have HB1 := hidMk (Stil.cell hk3 HB1.out)
  clear hk3 HK2 HSe HSn
  generalize w1.heap.size = Lb at *
  go_wp2
  go_loopw [8] (fun u wr => ∃ k : Nat, k ≤ n ∧ u = .int .i64 (k : Int) ∧ Hid (Stil w3 wr)) (fun u _ => n - (intOf u).toNat)
  case atStart => exact ⟨0, Nat.zero_le _, rfl, Keep.refl _ _⟩
  case round =>
    obtain ⟨k, hk, rfl, HKr⟩ := hrel
    by_cases hlt : k < n
    · have hlt' : (k : Int) < (n : Int) := by omega
      have HZ0 := hidMk (HKr.out.cell HB0.out)
      have HZ1 := hidMk (HKr.out.cell HB1.out)
      have HSk := hidMk (HS3.out.still HKr.out)
      have HKW := hidMk (HK3.out.tr HKr.out)
      have HT0k := HT0.out k
      generalize hww : wr = w5 at *
      clear hww
      go_wp2
      go_loopw [49, 9] (fun u t ws => ∃ j : Nat, j ≤ pl ∧ u = .int .i64 (j : Int) ∧ t = .int .i64 (TT k j : Int) ∧ Hid (Stil w5 ws)) (fun u _ _ => pl - (intOf u).toNat)
      case atStart => exact ⟨0, Nat.zero_le _, rfl, by rw [HT0k]; rfl, Keep.refl _ _⟩
      case round =>
        obtain ⟨j, hj, rfl, rfl, HKs⟩ := hrel
        clear HT0k
        by_cases hltj : j < pl
        · have hltj' : (j : Int) < (pl : Int) := by omega
          have hpk : ps[j]? = some (ps[j]'(by omega)) := List.getElem?_eq_getElem (by omega)
          generalize ps[j]'(by omega) = p at hpk
          obtain ⟨hpl1, hpl2, hpl3, hpr⟩ := HCm.out
          rcases hpr with hpr | ⟨b, off, rfl, hbW, hpr⟩
          · omega
          obtain ⟨d0, d1, d2⟩ := (hpr.keep hbW (HKW.out.tr HKs.out) (fun e => e)) j p hpk
          have hnx := HNx.out k j p hpk
          have hc0 : wr.cell? ⟨C, j, none⟩ = some (.int .i64 (cd j)) := by
            obtain ⟨_, _, _, hh⟩ := (HSk.out.still HKs.out).codes
            rcases hh with hh | ⟨b2, o2, e2, _, hh⟩
            · omega
            · simp only [Option.some.injEq, Addr.mk.injEq] at e2
              obtain ⟨rfl, rfl, _⟩ := e2
              have := hh j (cd j) (by simp [hltj])
              simpa using this
          have hz0 := HKs.out.cell HZ0.out
          have htl := HTL.out k j
          obtain ⟨kd, wh, ms⟩ := p
          simp only at d0 d1 d2 hnx
          have HNX := hidMk hnx
          have HTLj := hidMk htl
          have htt : (TT k j : Int) ≤ 1000 := by omega
          have hz0a := Stil.cell (Stil.new wr (.cells #[.int .i64 kd, .int .i64 wh, .int .i64 ms] 39)) hz0
          have hc0a := Stil.cell (Stil.new wr (.cells #[.int .i64 kd, .int .i64 wh, .int .i64 ms] 39)) hc0
          have HKa : Hid (Stil w5 (wr.alloc (.cells #[.int .i64 kd, .int .i64 wh, .int .i64 ms] 39))) := HKs.out.alloc _
          clear hnx htl hpr hpk hpl3
          generalize cd j = cj at *
          by_cases e1 : kd = 3
          · have q1 : (kd == 3) = true := by simp [e1]
            by_cases e2 : wh = (k : Int)
            · have q2 : (wh == (k : Int)) = true := by simp [e2]
              by_cases e3 : cj = 0
              · have q3 : (cj == 0) = true := by simp [e3]
                have HN : Hid (TT k (j + 1) = TT k j + 1) := by show _ = _; rw [HNX.out, if_pos ⟨e1, e2, e3⟩]
                clear HNX e1 e2 e3
                go_wp2
                go_roundw
                case rel => exact ⟨j + 1, by omega, by go_num, by rw [HN.out]; go_num, HKa⟩
                case measure => simp [intOf]; omega
              · have q3 : (cj == 0) = false := by simp [e3]
                have HN : Hid (TT k (j + 1) = TT k j) := by show _ = _; rw [HNX.out, if_neg (fun h => e3 h.2.2)]
                clear HNX e1 e2 e3
                go_wp2
                go_roundw
                case rel => exact ⟨j + 1, by omega, by go_num, by rw [HN.out], HKa⟩
                case measure => simp [intOf]; omega
            · have q2 : (wh == (k : Int)) = false := by simp [e2]
              have HN : Hid (TT k (j + 1) = TT k j) := by show _ = _; rw [HNX.out, if_neg (fun h => e2 h.2.1)]
              clear HNX e1 e2
              go_wp2
              go_roundw
              case rel => exact ⟨j + 1, by omega, by go_num, by rw [HN.out], HKa⟩
              case measure => simp [intOf]; omega
          · have q1 : (kd == 3) = false := by simp [e1]
            have HN : Hid (TT k (j + 1) = TT k j) := by show _ = _; rw [HNX.out, if_neg (fun h => e1 h.1)]
            clear HNX e1
            go_wp2
            go_roundw
            case rel => exact ⟨j + 1, by omega, by go_num, by rw [HN.out], HKa⟩
            case measure => simp [intOf]; omega
        · obtain rfl : j = pl := by omega
          obtain ⟨la, lc, e1, e2⟩ := (HSk.out.still HKs.out).lists k hlt
          have hz1 := HKs.out.cell HZ1.out
          have hfew := HF.out k
          have hll := HLL.out k
          have HI := hidMk (inside_true (sl : Int) e2 (by omega) (fun x hx => by
            obtain ⟨m, hm1, rfl⟩ := natsI_mem hx
            have := HIn.out k m hm1
            omega))
          clear e2
          generalize (S k).length = ll at *
          generalize TT k j = tt at *
          have q1 : decide ((tt : Int) < (ll : Int)) = false := decide_eq_false (by omega)
          have q2 : (ll : Int) ≤ (tt : Int) := by omega
          go_wp2_with (go_at_call 17; refine (HI.out).mono ?_; rintro e w' ⟨rfl, hw⟩; obtain rfl := hw.symm)
          go_roundw
          case rel => exact ⟨k + 1, by omega, by go_num, HKr.out.tr HKs.out⟩
          case measure => simp [intOf]; omega
    · obtain rfl : k = n := by omega
      go_wp2
      go_ret
      exact ⟨rfl, Stil.below (HK3.out.tr HKr.out)⟩

theorem told_walk {W : World} {z : Int} {pa : Option Addr} {pl pc : Nat} {ps : List Cst} (hp : CameC W pa pl pc ps) :
    Calls Try.prog 7 #[.int .i64 z, .slice pa pl pc] W fun e W2 => e = .returned (.bool true) ∧ Below W.heap.size W W2 := by
  by_cases hz : castCode z pl = 0
  · obtain ⟨n, rfl, h0, h6, h120⟩ := castCode_zero hz
    exact told_ok hp h0 h6 h120
  · exact told_bad hz hp.2.2.1
end Go.Proofs.Ytgidgdnldiahkaa
