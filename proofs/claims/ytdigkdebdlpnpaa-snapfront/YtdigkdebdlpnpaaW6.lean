/- folkmootkeep.SnapFront, walked to its end. -/
import Derived.Test.YtdigkdebdlpnpaaW5
namespace Go.Proofs.Ytdigkdebdlpnpaa
open Go.RowKit
set_option linter.unusedVariables false

theorem keep_drewN (w : World) (q : Nat) : Keep (fun _ => False) w (w.drewN q) := (Keep.refl _ w).drewN q
set_option maxRecDepth 100000 in
set_option maxHeartbeats 4000000 in
theorem front_ok {W : World} {ma pa : Option Addr} {mn mc pl pc : Nat} {zs : List Int} {ps : List Pass} {kn : Nat} (hm : CameI W ma mn mc zs) (hp : CameP W pa pl pc ps) (hk : kn ≤ 255) (hz : snapCode zs pl = 0) :
    Calls Try.prog 6 #[.slice ma mn mc, .slice pa pl pc, .int .u8 (kn : Int)] W fun e W2 => e = .returned (.bool true) ∧ Below W.heap.size W W2 := by
  obtain ⟨h0, h6, hpl, hzs⟩ := code_zero hm.1 hz
  have HP := hidMk (play_seen hm hp hz h0 h6 hpl hzs)
  generalize hat : kn % (pl + 1) = at0
  have hat1 : at0 ≤ pl := by rw [← hat]; have := Nat.mod_lt kn (show 0 < pl + 1 by omega); omega
  have hmod : (kn : Int).tmod ((pl : Int) + 1) = (at0 : Int) := by rw [← hat]; rfl
  have hmod2 : (kn : Int) % ((pl : Int) + 1) = (at0 : Int) := by rw [← hat]; rfl
  have hpl' : (pl : Int) ≤ 120 := by omega
  have hcap := hp.2.1
  have hat2 : (at0 : Int) ≤ (pc : Int) := by omega
  have hkn : (kn : Int) ≤ 255 := by omega
  have hz2 : snapCode zs at0 = 0 := by
    unfold snapCode at hz ⊢
    split at hz
    · omega
    · rename_i h1
      rw [if_neg (by omega)]
      exact hz
  have HP2 := hidMk (fun (w1 : World) (hw1 : Keep (fun _ => False) W w1) => play_seen (hm.keep hw1 (fun _ _ e => e)) ((hp.take hat1).keep hw1 (fun _ _ e => e)) hz2 h0 h6 (by omega) hzs)
  have hlat := later_at (n := mn) (st0 (monF zs)) ps (k := at0) (by have := hp.1; omega)
  rw [hp.1] at hlat
  have hinv0 := inv0 (n := mn) (m := monF zs) (fun i _ => (mon_ok hzs i).1)
  have hi1 := (at_inv hinv0 ps pl).1
  have hi2 := (at_inv hinv0 (ps.take at0) at0).1
  have hl1 := at_len (n := mn) (monF zs) ps pl
  have hl2 := at_len (n := mn) (monF zs) (ps.take at0) at0
  clear hm hp hz hz2 hzs hinv0 hat
  generalize stAt mn (st0 (monF zs)) ps pl = S1 at *
  generalize stAt mn (st0 (monF zs)) (ps.take at0) at0 = S2 at *
  generalize codeAt mn (st0 (monF zs)) ps = cd1 at *
  generalize codeAt mn (st0 (monF zs)) (ps.take at0) = cd2 at *
  have HD := hidMk (fun hd : doneB mn S2 = true => later_done hlat hd)
  have HLat := hidMk hlat
  have HI1 := hidMk hi1
  have HI2 := hidMk hi2
  have HL1 := hidMk hl1
  have HL2 := hidMk hl2
  clear hlat hi1 hi2 hl1 hl2
  have hsq : mn * mn ≤ 36 := Nat.mul_le_mul h6 h6
  have enn : ((mn * mn : Nat) : Int) = (mn : Int) * (mn : Int) := Int.natCast_mul mn mn
  have hwr : IntKind.i64.wrap ((mn : Int) * (mn : Int)) = (mn : Int) * (mn : Int) := wrap7 ⟨by omega, by omega⟩
  generalize hdd1 : doneB mn S1 = dn1 at *
  generalize hdd2 : doneB mn S2 = dn2 at *
  clear hdd1 hdd2
  go_enter Try.func6, Try.ntmps6
  go_wp2_with (fail)
  go_at_call 8
  refine (HP.out).mono ?_
  rintro e w1 ⟨⟨C1, B1, gm1, om1, cm1, go1, oo1, co1, rfl, hS1, hcm1, hco1⟩, hk1⟩
  have HK1 := hidMk (hk1.alloc (.cells #[.slice (some ⟨C1, 0, none⟩) pl pl, .slice (some ⟨gm1, om1, none⟩) mn cm1, .slice (some ⟨go1, oo1, none⟩) mn co1, .slice (some ⟨B1, 0, none⟩) (mn * mn) (mn * mn), .bool dn1] 27))
  have HS1 := hidMk (hS1.keep ((Keep.refl (fun _ => False) w1).alloc (.cells #[.slice (some ⟨C1, 0, none⟩) pl pl, .slice (some ⟨gm1, om1, none⟩) mn cm1, .slice (some ⟨go1, oo1, none⟩) mn co1, .slice (some ⟨B1, 0, none⟩) (mn * mn) (mn * mn), .bool dn1] 27)) (fun _ _ e => e))
  have HL0 := hidMk (al_new w1 (.cells #[.slice (some ⟨C1, 0, none⟩) pl pl, .slice (some ⟨gm1, om1, none⟩) mn cm1, .slice (some ⟨go1, oo1, none⟩) mn co1, .slice (some ⟨B1, 0, none⟩) (mn * mn) (mn * mn), .bool dn1] 27))
  clear hk1 hS1 HP
  go_wp2_with (fail)
  go_at_call 8
  refine (HP2.out _ HK1.out).mono ?_
  rintro e w2 ⟨⟨C2, B2, gm2, om2, cm2, go2, oo2, co2, rfl, hS2, hcm2, hco2⟩, hk2⟩
  have k3 := hk2.alloc (.cells #[.slice (some ⟨C2, 0, none⟩) at0 at0, .slice (some ⟨gm2, om2, none⟩) mn cm2, .slice (some ⟨go2, oo2, none⟩) mn co2, .slice (some ⟨B2, 0, none⟩) (mn * mn) (mn * mn), .bool dn2] 27)
  have HK2 := hidMk (HK1.out.trans k3 (q := fun _ => False) (fun _ _ e => e) (fun _ _ e => e))
  have HS3 := hidMk (HS1.out.keep k3 (fun _ _ e => e))
  have HS4 := hidMk (hS2.keep ((Keep.refl (fun _ => False) w2).alloc (.cells #[.slice (some ⟨C2, 0, none⟩) at0 at0, .slice (some ⟨gm2, om2, none⟩) mn cm2, .slice (some ⟨go2, oo2, none⟩) mn co2, .slice (some ⟨B2, 0, none⟩) (mn * mn) (mn * mn), .bool dn2] 27)) (fun _ _ e => e))
  have HLb : Hid ((w2.alloc (.cells #[.slice (some ⟨C2, 0, none⟩) at0 at0, .slice (some ⟨gm2, om2, none⟩) mn cm2, .slice (some ⟨go2, oo2, none⟩) mn co2, .slice (some ⟨B2, 0, none⟩) (mn * mn) (mn * mn), .bool dn2] 27)).heap[w2.heap.size]? = some (.cells #[.slice (some ⟨C2, 0, none⟩) at0 at0, .slice (some ⟨gm2, om2, none⟩) mn cm2, .slice (some ⟨go2, oo2, none⟩) mn co2, .slice (some ⟨B2, 0, none⟩) (mn * mn) (mn * mn), .bool dn2] 27)) := al_new _ _
  have HLa : Hid ((w2.alloc (.cells #[.slice (some ⟨C2, 0, none⟩) at0 at0, .slice (some ⟨gm2, om2, none⟩) mn cm2, .slice (some ⟨go2, oo2, none⟩) mn co2, .slice (some ⟨B2, 0, none⟩) (mn * mn) (mn * mn), .bool dn2] 27)).heap[w1.heap.size]? = some (.cells #[.slice (some ⟨C1, 0, none⟩) pl pl, .slice (some ⟨gm1, om1, none⟩) mn cm1, .slice (some ⟨go1, oo1, none⟩) mn co1, .slice (some ⟨B1, 0, none⟩) (mn * mn) (mn * mn), .bool dn1] 27)) := (k3.block w1.heap.size (by simp) (fun e => e)).trans HL0.out
  have a2 : (w2.alloc (.cells #[.slice (some ⟨C2, 0, none⟩) at0 at0, .slice (some ⟨gm2, om2, none⟩) mn cm2, .slice (some ⟨go2, oo2, none⟩) mn co2, .slice (some ⟨B2, 0, none⟩) (mn * mn) (mn * mn), .bool dn2] 27)).cell? ⟨w1.heap.size, 2, none⟩ = some (.slice (some ⟨go1, oo1, none⟩) mn co1) := by rw [cell_of_row _ _ _ _ _ _ HLa.out]; rfl
  have a0 : (w2.alloc (.cells #[.slice (some ⟨C2, 0, none⟩) at0 at0, .slice (some ⟨gm2, om2, none⟩) mn cm2, .slice (some ⟨go2, oo2, none⟩) mn co2, .slice (some ⟨B2, 0, none⟩) (mn * mn) (mn * mn), .bool dn2] 27)).cell? ⟨w1.heap.size, 0, none⟩ = some (.slice (some ⟨C1, 0, none⟩) pl pl) := by rw [cell_of_row _ _ _ _ _ _ HLa.out]; rfl
  have a3 : (w2.alloc (.cells #[.slice (some ⟨C2, 0, none⟩) at0 at0, .slice (some ⟨gm2, om2, none⟩) mn cm2, .slice (some ⟨go2, oo2, none⟩) mn co2, .slice (some ⟨B2, 0, none⟩) (mn * mn) (mn * mn), .bool dn2] 27)).cell? ⟨w1.heap.size, 3, none⟩ = some (.slice (some ⟨B1, 0, none⟩) (mn * mn) (mn * mn)) := by rw [cell_of_row _ _ _ _ _ _ HLa.out]; rfl
  have a4 : (w2.alloc (.cells #[.slice (some ⟨C2, 0, none⟩) at0 at0, .slice (some ⟨gm2, om2, none⟩) mn cm2, .slice (some ⟨go2, oo2, none⟩) mn co2, .slice (some ⟨B2, 0, none⟩) (mn * mn) (mn * mn), .bool dn2] 27)).cell? ⟨w1.heap.size, 4, none⟩ = some (.bool dn1) := by rw [cell_of_row _ _ _ _ _ _ HLa.out]; rfl
  have b2 : (w2.alloc (.cells #[.slice (some ⟨C2, 0, none⟩) at0 at0, .slice (some ⟨gm2, om2, none⟩) mn cm2, .slice (some ⟨go2, oo2, none⟩) mn co2, .slice (some ⟨B2, 0, none⟩) (mn * mn) (mn * mn), .bool dn2] 27)).cell? ⟨w2.heap.size, 2, none⟩ = some (.slice (some ⟨go2, oo2, none⟩) mn co2) := by rw [cell_of_row _ _ _ _ _ _ HLb.out]; rfl
  have b3 : (w2.alloc (.cells #[.slice (some ⟨C2, 0, none⟩) at0 at0, .slice (some ⟨gm2, om2, none⟩) mn cm2, .slice (some ⟨go2, oo2, none⟩) mn co2, .slice (some ⟨B2, 0, none⟩) (mn * mn) (mn * mn), .bool dn2] 27)).cell? ⟨w2.heap.size, 3, none⟩ = some (.slice (some ⟨B2, 0, none⟩) (mn * mn) (mn * mn)) := by rw [cell_of_row _ _ _ _ _ _ HLb.out]; rfl
  have b4 : (w2.alloc (.cells #[.slice (some ⟨C2, 0, none⟩) at0 at0, .slice (some ⟨gm2, om2, none⟩) mn cm2, .slice (some ⟨go2, oo2, none⟩) mn co2, .slice (some ⟨B2, 0, none⟩) (mn * mn) (mn * mn), .bool dn2] 27)).cell? ⟨w2.heap.size, 4, none⟩ = some (.bool dn2) := by rw [cell_of_row _ _ _ _ _ _ HLb.out]; rfl
  have hnn : (((mn * mn : Nat) : Int) != (mn : Int) * (mn : Int)) = false := by rw [enn]; simp
  have hdd : (dn2 && !dn1) = false := by
    cases dn2 with
    | false => rfl
    | true => have := (HD.out rfl).1; rw [this]; rfl
  have HK3 := hidMk k3
  clear k3 HK1 HS1 HL0 hk2 hS2 HP2
  cases dn2 with
  | false =>
    go_wp2
    generalize w2.alloc (.cells #[.slice (some ⟨C2, 0, none⟩) at0 at0, .slice (some ⟨gm2, om2, none⟩) mn cm2, .slice (some ⟨go2, oo2, none⟩) mn co2, .slice (some ⟨B2, 0, none⟩) (mn * mn) (mn * mn), .bool false] 27) = w3 at *
    generalize w1.heap.size = La at *
    generalize w2.heap.size = Lb at *
    clear HLa HLb
    go_loopw [13] (fun u wr => ∃ k q : Nat, k ≤ mn ∧ u = .int .i64 (k : Int) ∧ wr = w3.drewN q) (fun u _ => mn - (intOf u).toNat)
    case atStart => exact ⟨0, 0, Nat.zero_le _, rfl, rfl⟩
    case round =>
      obtain ⟨k, q, hkn2, rfl, hwrq⟩ := hrel
      by_cases hlt : k < mn
      · have hlt' : (k : Int) < (mn : Int) := by omega
        have c1 : wr.cell? ⟨La, 2, none⟩ = some (.slice (some ⟨go1, oo1, none⟩) mn co1) := by rw [hwrq]; exact a2
        have c2 : wr.cell? ⟨Lb, 2, none⟩ = some (.slice (some ⟨go2, oo2, none⟩) mn co2) := by rw [hwrq]; exact b2
        have d1 : wr.cell? ⟨go1, oo1 + k, none⟩ = some (.int .i64 (S1.own k)) := by rw [hwrq]; exact HS3.out.own k hlt
        have d2 : wr.cell? ⟨go2, oo2 + k, none⟩ = some (.int .i64 (S2.own k)) := by rw [hwrq]; exact HS4.out.own k hlt
        have HW := hidMk hwrq
        clear hwrq
        by_cases hpos : 0 ≤ S2.own k
        · have e1 : S1.own k = S2.own k := HLat.out.own k hlt (by omega)
          rw [e1] at d1
          clear e1
          go_wp2
          go_quiet (fail)
          go_wp2
          go_roundw
          case rel => exact ⟨k + 1, q + nq, by omega, by go_num, by rw [HW.out, drewN_add]⟩
          case measure => simp [intOf]; omega
        · have hpos' : decide (0 ≤ S2.own k) = false := by simp; omega
          go_wp2
          go_quiet (fail)
          go_wp2
          go_roundw
          case rel => exact ⟨k + 1, q + nq, by omega, by go_num, by rw [HW.out, drewN_add]⟩
          case measure => simp [intOf]; omega
      · obtain rfl : k = mn := by omega
        generalize hww : wr = w4 at *
        clear hww
        go_wp2
        go_loopw [14] (fun u wr => ∃ p q : Nat, p ≤ k * k ∧ u = .int .i64 (p : Int) ∧ wr = w3.drewN q) (fun u _ => k * k - (intOf u).toNat)
        case atStart => exact ⟨0, q, Nat.zero_le _, rfl, by first | rfl | exact hwrq⟩
        case round =>
          obtain ⟨p, q2, hpk, rfl, hwrp⟩ := hrel
          by_cases hlp : p < k * k
          · have hlp' : (p : Int) < ((k * k : Nat) : Int) := by omega
            have hlp2 : (p : Int) < (k : Int) * (k : Int) := by omega
            have hdv : p / k < k := Nat.div_lt_of_lt_mul hlp
            have hmd : p % k < k := Nat.mod_lt p h0
            obtain ⟨ra, rc, hr1, hr2⟩ := (HS3.out.keep (keep_drewN w3 q2) (fun _ _ e => e)).came hlp (by have := (HL1.out _ _ hdv hmd).2; omega)
            obtain ⟨sa, scp, hs1, hs2⟩ := (HS4.out.keep (keep_drewN w3 q2) (fun _ _ e => e)).came hlp (by have := (HL2.out _ _ hdv hmd).2; omega)
            rw [← hwrp] at hr1 hr2 hs1 hs2
            obtain ⟨rr, hrr⟩ := HLat.out.nt _ _ hdv hmd
            have hl1 : (S1.ways (p / k) (p % k)).noted.length ≤ 120 := by have := (HL1.out _ _ hdv hmd).2; omega
            have hlenD : Hid (false = true → (S2.ways (p / k) (p % k)).noted.length = (S1.ways (p / k) (p % k)).noted.length) := fun e => by
              by_cases hij : p / k = p % k
              · rw [hij, HI1.out.i4 _ hmd, HI2.out.i4 _ hmd]
              · rw [(HD.out (by first | exact e | trivial)).2 _ _ hdv hmd hij]
            have HBg : Hid (∀ q, Calls Try.prog 11 #[.slice sa (S2.ways (p / k) (p % k)).noted.length scp, .slice ra (S1.ways (p / k) (p % k)).noted.length rc] (wr.drewN q) fun e w2 => e = .returned (.bool true) ∧ ∃ n, w2 = wr.drewN n) := fun q => by
              have hr3 := hr2.keep (keep_drewN wr q) (fun _ _ e => e)
              rw [hrr] at hr3
              have := begins_any (hs2.keep (keep_drewN wr q) (fun _ _ e => e)) hr3 (by rw [← hrr]; omega)
              rw [← hrr] at this
              refine this.mono ?_
              rintro e w5 ⟨rfl, n5, rfl⟩
              exact ⟨rfl, q + n5, drewN_add _ _ _⟩
            have c1 : wr.cell? ⟨La, 3, none⟩ = some (.slice (some ⟨B1, 0, none⟩) (k * k) (k * k)) := by rw [hwrp]; exact a3
            have c2 : wr.cell? ⟨Lb, 3, none⟩ = some (.slice (some ⟨B2, 0, none⟩) (k * k) (k * k)) := by rw [hwrp]; exact b3
            have c3 : wr.cell? ⟨Lb, 4, none⟩ = some (.bool false) := by rw [hwrp]; exact b4
            have HW := hidMk hwrp
            clear hwrp hr2 hs2 hrr
            generalize (S2.ways (p / k) (p % k)).noted.length = n2 at *
            generalize (S1.ways (p / k) (p % k)).noted.length = n1 at *
            clear hlenD
            go_wp2
            go_quiet ((go_at_call 11; exact HBg.out _))
            go_wp2
            go_roundw
            case rel => exact ⟨p + 1, q2 + nq, by omega, by go_num, by rw [HW.out, drewN_add]⟩
            case measure => simp [intOf]; omega
          · obtain rfl : p = k * k := by omega
            go_wp2
            go_ret
            exact ⟨rfl, by first | exact keep_below5 (by rw [hwrp]; exact HK2.out.drewN _) | exact keep_below5 (HK2.out.drewN _)⟩
  | true =>
    have hd1 : dn1 = true := (HD.out rfl).1
    subst hd1
    go_wp2
    generalize w2.alloc (.cells #[.slice (some ⟨C2, 0, none⟩) at0 at0, .slice (some ⟨gm2, om2, none⟩) mn cm2, .slice (some ⟨go2, oo2, none⟩) mn co2, .slice (some ⟨B2, 0, none⟩) (mn * mn) (mn * mn), .bool true] 27) = w3 at *
    generalize w1.heap.size = La at *
    generalize w2.heap.size = Lb at *
    clear HLa HLb
    go_loopw [13] (fun u wr => ∃ k q : Nat, k ≤ mn ∧ u = .int .i64 (k : Int) ∧ wr = w3.drewN q) (fun u _ => mn - (intOf u).toNat)
    case atStart => exact ⟨0, 0, Nat.zero_le _, rfl, rfl⟩
    case round =>
      obtain ⟨k, q, hkn2, rfl, hwrq⟩ := hrel
      by_cases hlt : k < mn
      · have hlt' : (k : Int) < (mn : Int) := by omega
        have c1 : wr.cell? ⟨La, 2, none⟩ = some (.slice (some ⟨go1, oo1, none⟩) mn co1) := by rw [hwrq]; exact a2
        have c2 : wr.cell? ⟨Lb, 2, none⟩ = some (.slice (some ⟨go2, oo2, none⟩) mn co2) := by rw [hwrq]; exact b2
        have d1 : wr.cell? ⟨go1, oo1 + k, none⟩ = some (.int .i64 (S1.own k)) := by rw [hwrq]; exact HS3.out.own k hlt
        have d2 : wr.cell? ⟨go2, oo2 + k, none⟩ = some (.int .i64 (S2.own k)) := by rw [hwrq]; exact HS4.out.own k hlt
        have HW := hidMk hwrq
        clear hwrq
        by_cases hpos : 0 ≤ S2.own k
        · have e1 : S1.own k = S2.own k := HLat.out.own k hlt (by omega)
          rw [e1] at d1
          clear e1
          go_wp2
          go_quiet (fail)
          go_wp2
          go_roundw
          case rel => exact ⟨k + 1, q + nq, by omega, by go_num, by rw [HW.out, drewN_add]⟩
          case measure => simp [intOf]; omega
        · have hpos' : decide (0 ≤ S2.own k) = false := by simp; omega
          go_wp2
          go_quiet (fail)
          go_wp2
          go_roundw
          case rel => exact ⟨k + 1, q + nq, by omega, by go_num, by rw [HW.out, drewN_add]⟩
          case measure => simp [intOf]; omega
      · obtain rfl : k = mn := by omega
        generalize hww : wr = w4 at *
        clear hww
        go_wp2
        go_loopw [14] (fun u wr => ∃ p q : Nat, p ≤ k * k ∧ u = .int .i64 (p : Int) ∧ wr = w3.drewN q) (fun u _ => k * k - (intOf u).toNat)
        case atStart => exact ⟨0, q, Nat.zero_le _, rfl, by first | rfl | exact hwrq⟩
        case round =>
          obtain ⟨p, q2, hpk, rfl, hwrp⟩ := hrel
          by_cases hlp : p < k * k
          · have hlp' : (p : Int) < ((k * k : Nat) : Int) := by omega
            have hlp2 : (p : Int) < (k : Int) * (k : Int) := by omega
            have hdv : p / k < k := Nat.div_lt_of_lt_mul hlp
            have hmd : p % k < k := Nat.mod_lt p h0
            obtain ⟨ra, rc, hr1, hr2⟩ := (HS3.out.keep (keep_drewN w3 q2) (fun _ _ e => e)).came hlp (by have := (HL1.out _ _ hdv hmd).2; omega)
            obtain ⟨sa, scp, hs1, hs2⟩ := (HS4.out.keep (keep_drewN w3 q2) (fun _ _ e => e)).came hlp (by have := (HL2.out _ _ hdv hmd).2; omega)
            rw [← hwrp] at hr1 hr2 hs1 hs2
            obtain ⟨rr, hrr⟩ := HLat.out.nt _ _ hdv hmd
            have hl1 : (S1.ways (p / k) (p % k)).noted.length ≤ 120 := by have := (HL1.out _ _ hdv hmd).2; omega
            have hlenD : Hid (true = true → (S2.ways (p / k) (p % k)).noted.length = (S1.ways (p / k) (p % k)).noted.length) := fun e => by
              by_cases hij : p / k = p % k
              · rw [hij, HI1.out.i4 _ hmd, HI2.out.i4 _ hmd]
              · rw [(HD.out (by first | exact e | trivial)).2 _ _ hdv hmd hij]
            have HBg : Hid (∀ q, Calls Try.prog 11 #[.slice sa (S2.ways (p / k) (p % k)).noted.length scp, .slice ra (S1.ways (p / k) (p % k)).noted.length rc] (wr.drewN q) fun e w2 => e = .returned (.bool true) ∧ ∃ n, w2 = wr.drewN n) := fun q => by
              have hr3 := hr2.keep (keep_drewN wr q) (fun _ _ e => e)
              rw [hrr] at hr3
              have := begins_any (hs2.keep (keep_drewN wr q) (fun _ _ e => e)) hr3 (by rw [← hrr]; omega)
              rw [← hrr] at this
              refine this.mono ?_
              rintro e w5 ⟨rfl, n5, rfl⟩
              exact ⟨rfl, q + n5, drewN_add _ _ _⟩
            have c1 : wr.cell? ⟨La, 3, none⟩ = some (.slice (some ⟨B1, 0, none⟩) (k * k) (k * k)) := by rw [hwrp]; exact a3
            have c2 : wr.cell? ⟨Lb, 3, none⟩ = some (.slice (some ⟨B2, 0, none⟩) (k * k) (k * k)) := by rw [hwrp]; exact b3
            have c3 : wr.cell? ⟨Lb, 4, none⟩ = some (.bool true) := by rw [hwrp]; exact b4
            have HW := hidMk hwrp
            clear hwrp hr2 hs2 hrr
            generalize (S2.ways (p / k) (p % k)).noted.length = n2 at *
            generalize (S1.ways (p / k) (p % k)).noted.length = n1 at *
            have hnl : n2 = n1 := hlenD.out rfl
            subst hnl
            go_wp2
            go_quiet ((go_at_call 11; exact HBg.out _))
            go_wp2
            go_roundw
            case rel => exact ⟨p + 1, q2 + nq, by omega, by go_num, by rw [HW.out, drewN_add]⟩
            case measure => simp [intOf]; omega
          · obtain rfl : p = k * k := by omega
            go_wp2
            go_ret
            exact ⟨rfl, by first | exact keep_below5 (by rw [hwrp]; exact HK2.out.drewN _) | exact keep_below5 (HK2.out.drewN _)⟩

theorem front_walk {W : World} {ma pa : Option Addr} {mn mc pl pc : Nat} {zs : List Int} {ps : List Pass} {z : Int} (hm : CameI W ma mn mc zs) (hp : CameP W pa pl pc ps) (hsz : pl * 32 ≤ 140737488351232) (hk : (Lit.int .u8 z).wf = true) :
    Calls Try.prog 6 #[.slice ma mn mc, .slice pa pl pc, .int .u8 z] W fun e W2 => e = .returned (.bool true) ∧ Below W.heap.size W W2 := by
  obtain ⟨h1, h2⟩ := u8_of hk
  obtain ⟨kn, rfl⟩ : ∃ x : Nat, z = x := ⟨z.toNat, by omega⟩
  by_cases hz : snapCode zs pl = 0
  · exact front_ok hm hp (by omega) hz
  · exact front_bad hm hp hsz (by omega) hz
end Go.Proofs.Ytdigkdebdlpnpaa
