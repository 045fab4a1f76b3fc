/- folkmootkeep.CausalOrder, walked. -/
import Derived.Test.YtpdccjhabolccaaCa11
namespace Go.Proofs.Ytpdccjhabolccaa
open Go.RowKit
set_option linter.unusedVariables false

theorem order_at {n : Nat} {s : CS} (h : CInv n s) (p : Nat) {k c : Nat} (hc : c ∈ causC s k) :
    posI (natsI (s.ls p)) (k : Int) < 0 ∨ (0 ≤ posI (natsI (s.ls p)) (k : Int) ∧ 0 ≤ posI (natsI (s.ls p)) (c : Int) ∧ posI (natsI (s.ls p)) (c : Int) ≤ posI (natsI (s.ls p)) (k : Int)) := by
  by_cases hm : k ∈ s.ls p
  · obtain ⟨a, ha, e⟩ := mem_at hm
    obtain ⟨b, hb, e2⟩ := h.i7 p a k e c hc
    rw [posN_at (h.i3 p) e, posN_at (h.i3 p) e2]
    omega
  · rw [posN_none hm]
    omega
theorem caus_was {n : Nat} (ps : List Cst) {pl k i w : Nat} (hs : Sent n ps pl k i w) : causC (csAt n ps pl) k = (csAt n ps i).ls w := by
  obtain ⟨r, hr⟩ := (cat_step (n := n) ps i (pl - i)).pre w
  rw [show i + (pl - i) = pl by have := hs.lt; omega] at hr
  unfold causC
  rw [hs.msg]
  simp only
  rw [hr, List.take_append_of_le_length (Nat.le_refl _), List.take_length]

set_option maxRecDepth 100000 in
set_option maxHeartbeats 4000000 in
theorem order_bad {W : World} {pa : Option Addr} {pl pc : Nat} {z : Int} (hz : castCode z pl ≠ 0) (hpl : pl ≤ maxLen) :
    Calls Try.prog 5 #[.int .i64 z, .slice pa pl pc] W fun e W2 => e = .returned (.bool true) ∧ Below W.heap.size W W2 := by
  have HP := hidMk (play_badC (W := W) (pa := pa) (pc := pc) hz hpl)
  clear hz hpl
  go_enter Try.func5, Try.ntmps5
  go_wp2_with (go_at_call 12; refine (HP.out).mono ?_; rintro e w1 ⟨rfl, hk1⟩)
  go_ret
  exact ⟨rfl, Stil.below (hk1.alloc _)⟩

set_option maxRecDepth 100000 in
set_option maxHeartbeats 8000000 in
theorem order_ok {W : World} {pa : Option Addr} {n pl pc : Nat} {ps : List Cst} (hp : CameC W pa pl pc ps) (h0 : 0 < n) (h6 : n ≤ 6) (hpl : pl ≤ 120) :
    Calls Try.prog 5 #[.int .i64 (n : Int), .slice pa pl pc] W fun e W2 => e = .returned (.bool true) ∧ Below W.heap.size W W2 := by
  have HP := hidMk (play_seenC hp h0 h6 hpl)
  have hlp := hp.1
  obtain ⟨hs1, hs2⟩ := sent_msgs (n := n) ps pl (by omega)
  have hinv := cat_inv (n := n) ps pl
  have hml := cat_msgs_len (n := n) ps pl
  have HCW := hidMk (fun (k i w : Nat) (h : Sent n ps pl k i w) => caus_was ps h)
  have HCm := hidMk hp
  have HS2 := hidMk hs2
  have HI := hidMk hinv
  have hpl' : (pl : Int) ≤ 120 := by omega
  have hSl : (sentTo ps (ccAt n ps) pl).length ≤ 120 := by omega
  have HSn := hidMk (fun (w1 : World) (C : Nat) (hw1 : Stil W w1) (hc : RowI w1 (some ⟨C, 0, none⟩) pl pl ((List.range pl).map (ccAt n ps))) => sent_any (hp.keep hw1 (fun _ _ e => e)) (by omega) hc)
  have HPi := hidMk (fun (w1 : World) (hw1 : Stil W w1) (i : Nat) (hi : i ≤ pl) => play_seenC (n := n) ((hp.take hi).keep hw1 (fun _ _ e => e)) h0 h6 (by omega))
  have HE1 : Hid (∀ i, csAt n (ps.take i) i = csAt n ps i) := fun i => cat_same _ _ _ (fun j hj => take_same ps i j hj)
  have hcap := hp.2.1
  generalize hSS : csAt n ps pl = S at *
  generalize hsn : sentTo ps (ccAt n ps) pl = sn at *
  clear hp hs2 hinv hsn
  go_enter Try.func5, Try.ntmps5
  go_wp2_with (fail)
  go_at_call 12
  refine (HP.out).mono ?_
  rintro e w1 ⟨⟨C, L, rfl, hS⟩, hk1⟩
  have HK2 : Hid (Stil W (w1.alloc (.cells #[.slice (some ⟨C, 0, none⟩) pl pl, .slice (some ⟨L, 0, none⟩) n n] 36))) := hk1.alloc _
  have HSe := hidMk (hS.still (Stil.new w1 (.cells #[.slice (some ⟨C, 0, none⟩) pl pl, .slice (some ⟨L, 0, none⟩) n n] 36)))
  have HB5 : Hid ((w1.alloc (.cells #[.slice (some ⟨C, 0, none⟩) pl pl, .slice (some ⟨L, 0, none⟩) n n] 36)).cell? ⟨w1.heap.size, 1, none⟩ = some (.slice (some ⟨L, 0, none⟩) n n)) := by
    show _ = _
    rw [cell_of_row _ _ _ _ _ _ (al_new w1 _)]; rfl
  clear hk1 hS HP
  go_wp2_with (fail)
  go_at_call 16
  refine (HSn.out _ C HK2.out HSe.out.codes).mono ?_
  rintro e w3 ⟨sa, scp, rfl, hrow, _, hk3⟩
  have HRow := hidMk hrow
  have HB3 := hidMk (Stil.cell hk3 HB5.out)
  have b3 := HB3.out
  have HK3 := hidMk (HK2.out.tr hk3)
  have HS3 := hidMk (HSe.out.still hk3)
  clear hrow hk3 HB5 HK2 HSe HSn
  generalize w1.heap.size = b5 at *
  generalize hsnl : sn.length = sl at *
  go_wp2
  go_loop [53] (fun u => ∃ k : Nat, k ≤ n ∧ u = .int .i64 (k : Int)) (fun u => n - (intOf u).toNat)
  case atStart => exact ⟨0, Nat.zero_le _, rfl⟩
  case round =>
    obtain ⟨k, hk, rfl⟩ := hrel
    by_cases hlt : k < n
    · have hlt' : (k : Int) < (n : Int) := by omega
      obtain ⟨la, lc, e1, e2⟩ := HS3.out.lists k hlt
      have hll : (S.ls k).length ≤ 120 := by have := ls_len HI.out k; omega
      have HO := hidMk (once_true e2 (by omega) (natsI_nodup (HI.out.i3 k)))
      have HIn := hidMk (inside_true (sl : Int) e2 (by omega) (fun x hx => by
        obtain ⟨m, hm1, rfl⟩ := natsI_mem hx
        have := HI.out.i1 k m hm1
        omega))
      clear e2
      generalize (S.ls k).length = ll at *
      go_wp2_with (first
        | (go_at_call 17; refine (HO.out).mono ?_; rintro e w' ⟨rfl, hw⟩; obtain rfl := hw.symm)
        | (go_at_call 18; refine (HIn.out).mono ?_; rintro e w' ⟨rfl, hw⟩; obtain rfl := hw.symm))
      go_round
      case rel => exact ⟨k + 1, by omega, by go_num⟩
      case measure => simp [intOf]; omega
    · obtain rfl : k = n := by omega
      go_wp2
      go_loopw [70] (fun u wr => ∃ m : Nat, m ≤ sl ∧ u = .int .i64 (m : Int) ∧ Hid (Stil w3 wr)) (fun u _ => sl - (intOf u).toNat)
      case atStart => exact ⟨0, Nat.zero_le _, rfl, Keep.refl _ _⟩
      case round =>
        obtain ⟨m, hm, rfl, HKr⟩ := hrel
        by_cases hltm : m < sl
        · have hltm' : (m : Int) < (sl : Int) := by omega
          have hx : sn[m]? = some (sn[m]'(by omega)) := List.getElem?_eq_getElem (by omega)
          generalize sn[m]'(by omega) = i at hx
          obtain ⟨w, hsent⟩ := HS2.out m i hx
          obtain ⟨p, hpi, hpw⟩ := hsent.at_
          have hwn := hsent.wn
          have hil := hsent.lt
          have hcw := HCW.out m i w hsent
          have hmsg := hsent.msg
          rw [hSS] at hmsg
          have h2 := HI.out.i2 m _ hmsg
          have hpos : 0 ≤ posI (natsI (S.ls w)) (m : Int) := by rw [posN_at (HI.out.i3 w) h2]; omega
          have HOr := hidMk (fun (p c : Nat) (hc : c ∈ (csAt k ps i).ls w) => order_at HI.out p (k := m) (c := c) (by rw [hcw]; exact hc))
          have hBl : ((csAt k ps i).ls w).length ≤ 120 := by have := ls_len (cat_inv (n := k) ps i) w; have := cat_msgs_len (n := k) ps i; omega
          obtain ⟨hpl1, hpl2, hpl3, hpr⟩ := HCm.out
          rcases hpr with hpr | ⟨bb, off, rfl, hbW, hpr⟩
          · omega
          obtain ⟨_, d1, _⟩ := hpr i p hpi
          have d1 := HKr.out.cell (HK3.out.cell d1)
          rw [hpw] at d1
          obtain ⟨rl, rc, _, hrr⟩ := HRow.out
          rcases hrr with hrr | ⟨sb, so, hsa, hsb, hsc⟩
          · omega
          subst hsa
          have d2 := HKr.out.cell (hsc m _ (natsI_at hx))
          have hil' : (i : Int) < (pl : Int) := by omega
          have hic : (i : Int) ≤ (pc : Int) := by omega
          have hwn' : (w : Int) < (k : Int) := by omega
          have HPl := hidMk (HPi.out wr (HK3.out.tr HKr.out) i (by omega))
          rw [HE1.out i] at HPl
          generalize csAt k ps i = B at *
          generalize ccAt k (List.take i ps) = cdi at *
          have HD1 := hidMk d1
          clear hx hsent hpi hpw hcw hmsg h2 hpr hsc hpl3 b3
          go_wp2_with (fail)
          go_at_call 12
          refine (HPl.out).mono ?_
          rintro e w5 ⟨⟨C2, L2, rfl, hS5⟩, hk5⟩
          have K6 : Stil wr (w5.alloc (.cells #[.slice (some ⟨C2, 0, none⟩) i i, .slice (some ⟨L2, 0, none⟩) k k] 36)) := hk5.alloc _
          have HK6 : Hid (Stil w3 (w5.alloc (.cells #[.slice (some ⟨C2, 0, none⟩) i i, .slice (some ⟨L2, 0, none⟩) k k] 36))) := HKr.out.tr K6
          have HS6 := hidMk (hS5.still (Stil.new w5 (.cells #[.slice (some ⟨C2, 0, none⟩) i i, .slice (some ⟨L2, 0, none⟩) k k] 36)))
          have e1 := K6.cell HD1.out
          have e2 := HK6.out.cell HB3.out
          have e3 : (w5.alloc (.cells #[.slice (some ⟨C2, 0, none⟩) i i, .slice (some ⟨L2, 0, none⟩) k k] 36)).cell? ⟨w5.heap.size, 1, none⟩ = some (.slice (some ⟨L2, 0, none⟩) k k) := by rw [cell_of_row _ _ _ _ _ _ (al_new _ _)]; rfl
          have HSL := hidMk (HS3.out.still HK6.out)
          obtain ⟨la, lc, e4, e5⟩ := HSL.out.lists w hwn
          have HPo := hidMk (position_any e5 (by have := ls_len HI.out w; omega) (m : Int))
          clear K6 hk5 hS5 HPl HD1 d1 d2 e5
          generalize posI (natsI (S.ls w)) (m : Int) = at0 at *
          have hpos' : decide (at0 < 0) = false := decide_eq_false (by omega)
          generalize (S.ls w).length = lw at *
          go_wp2_with (fail)
          generalize w5.alloc (.cells #[.slice (some ⟨C2, 0, none⟩) i i, .slice (some ⟨L2, 0, none⟩) k k] 36) = w6 at *
          generalize w5.heap.size = b6 at *
          go_at_call 19
          refine (HPo.out).mono ?_
          rintro e w' ⟨rfl, hw⟩
          obtain rfl := hw.symm
          clear HPo hw
          go_wp2
          clear e4
          go_loop [110] (fun u => ∃ q : Nat, q ≤ k ∧ u = .int .i64 (q : Int)) (fun u => k - (intOf u).toNat)
          case atStart => exact ⟨0, Nat.zero_le _, rfl⟩
          case round =>
            obtain ⟨q, hq, rfl⟩ := hrel
            by_cases hlq : q < k
            · have hlq' : (q : Int) < (k : Int) := by omega
              obtain ⟨qa, qc, f4, f5⟩ := HSL.out.lists q hlq
              obtain ⟨ba, bc, g4, g5⟩ := HS6.out.lists w hwn
              have hql : (S.ls q).length ≤ 120 := by have := ls_len HI.out q; omega
              have HPq := hidMk (fun x : Int => position_any f5 (by omega) x)
              have HOq := hidMk (fun c hc => HOr.out q c hc)
              clear f5
              generalize natsI (S.ls q) = xs at *
              generalize (S.ls q).length = lq at *
              have HPm := hidMk (HPq.out (m : Int))
              generalize posI xs (m : Int) = pm at *
              go_wp2_with (go_at_call 19; refine (HPm.out).mono ?_; rintro e w' ⟨rfl, hw⟩; obtain rfl := hw.symm; clear hw)
              generalize hbl : (B.ls w).length = bl at *
              go_loop [123] (fun u => ∃ j : Nat, j ≤ bl ∧ u = .int .i64 (j : Int)) (fun u => bl - (intOf u).toNat)
              case atStart => exact ⟨0, Nat.zero_le _, rfl⟩
              case round =>
                obtain ⟨j, hj, rfl⟩ := hrel
                by_cases hlj : j < bl
                · have hlj' : (j : Int) < (bl : Int) := by omega
                  have hc : (B.ls w)[j]? = some ((B.ls w)[j]'(by omega)) := List.getElem?_eq_getElem (by omega)
                  generalize (B.ls w)[j]'(by omega) = c at hc
                  obtain ⟨_, _, _, g6⟩ := g5
                  rcases g6 with g6 | ⟨gb, go, rfl, _, g7⟩
                  · omega
                  have g8 := g7 j _ (natsI_at hc)
                  have hor := HOq.out c (List.mem_of_getElem? hc)
                  have HPc := hidMk (HPq.out (c : Int))
                  generalize posI xs (c : Int) = pcc at *
                  clear g7 hc
                  rcases hor with hor | ⟨o1, o2, o3⟩
                  · have hor' : decide (0 ≤ pm) = false := decide_eq_false (by omega)
                    go_wp2_with (go_at_call 19; refine (HPc.out).mono ?_; rintro e w' ⟨rfl, hw⟩; obtain rfl := hw.symm; clear hw)
                    go_round
                    case rel => exact ⟨j + 1, by omega, by go_num⟩
                    case measure => simp [intOf]; omega
                  · go_wp2_with (go_at_call 19; refine (HPc.out).mono ?_; rintro e w' ⟨rfl, hw⟩; obtain rfl := hw.symm; clear hw)
                    go_round
                    case rel => exact ⟨j + 1, by omega, by go_num⟩
                    case measure => simp [intOf]; omega
                · obtain rfl : j = bl := by omega
                  go_wp2
                  go_round
                  case rel => exact ⟨q + 1, by omega, by go_num⟩
                  case measure => simp [intOf]; omega
            · obtain rfl : q = k := by omega
              go_wp2
              go_roundw
              case rel => exact ⟨m + 1, by omega, by go_num, HK6⟩
              case measure => simp [intOf]; omega
        · obtain rfl : m = sl := by omega
          go_wp2
          go_ret
          exact ⟨rfl, Stil.below (HK3.out.tr HKr.out)⟩

theorem order_walk {W : World} {z : Int} {pa : Option Addr} {pl pc : Nat} {ps : List Cst} (hp : CameC W pa pl pc ps) :
    Calls Try.prog 5 #[.int .i64 z, .slice pa pl pc] W fun e W2 => e = .returned (.bool true) ∧ Below W.heap.size W W2 := by
  by_cases hz : castCode z pl = 0
  · obtain ⟨n, rfl, h0, h6, h120⟩ := castCode_zero hz
    exact order_ok hp h0 h6 h120
  · exact order_bad hz hp.2.2.1
end Go.Proofs.Ytpdccjhabolccaa
