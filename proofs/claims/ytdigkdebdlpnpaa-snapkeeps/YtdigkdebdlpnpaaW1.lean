/- folkmootkeep.SnapKeeps, walked. -/
import Derived.Test.YtdigkdebdlpnpaaV1
import Derived.Test.YtdigkdebdlpnpaaV2
namespace Go.Proofs.Ytdigkdebdlpnpaa
open Go.RowKit
set_option linter.unusedVariables false

theorem keep_below {A B : World} (h : Keep (fun _ => False) A B) : Below A.heap.size A B := h.below (Nat.le_refl _) (fun _ _ e => e)

set_option maxRecDepth 100000 in
set_option maxHeartbeats 4000000 in
theorem keeps_bad {W : World} {ma pa : Option Addr} {mn mc pl pc : Nat} {zs : List Int} (hm : CameI W ma mn mc zs) (hz : snapCode zs pl ≠ 0) :
    Calls Try.prog 4 #[.slice ma mn mc, .slice pa pl pc] W fun e W2 => e = .returned (.bool true) ∧ Below W.heap.size W W2 := by
  have HP := hidMk (play_bad (pa := pa) (pc := pc) hm hz)
  unfold zeroSnapped at HP
  have hz' : (snapCode zs pl != 0) = true := by simpa using hz
  generalize snapCode zs pl = code at *
  clear hm hz
  go_enter Try.func4, Try.ntmps4
  go_wp2_with (go_at_call 8; refine (HP.out).mono ?_; rintro e w1 ⟨rfl, hk⟩)
  go_ret
  exact ⟨rfl, keep_below (hk.alloc _)⟩

set_option maxRecDepth 100000 in
set_option maxHeartbeats 4000000 in
theorem keeps_ok {W : World} {ma pa : Option Addr} {mn mc pl pc : Nat} {zs : List Int} {ps : List Pass} (hm : CameI W ma mn mc zs) (hp : CameP W pa pl pc ps) (hz : snapCode zs pl = 0) :
    Calls Try.prog 4 #[.slice ma mn mc, .slice pa pl pc] W fun e W2 => e = .returned (.bool true) ∧ Below W.heap.size W W2 := by
  obtain ⟨h0, h6, hpl, hzs⟩ := code_zero hm.1 hz
  have HP := hidMk (play_seen hm hp hz h0 h6 hpl hzs)
  obtain ⟨hinv, htot, hpic⟩ := at_inv (inv0 (n := mn) (fun i _ => (mon_ok hzs i).1)) ps pl
  rw [tot0] at htot
  rw [pict0] at hpic
  have h3 : sumN (monF zs) mn ≤ 6000 := by
    have := sumN_bound (n := mn) (fun i _ => (mon_ok hzs i).2)
    have e : (1000 : Int) * (mn : Int) ≤ 6000 := by omega
    omega
  have HLn := hidMk (at_len (n := mn) (monF zs) ps pl)
  generalize stAt mn (st0 (monF zs)) ps pl = S at *
  generalize codeAt mn (st0 (monF zs)) ps = cd at *
  obtain ⟨_, _, _, hmr⟩ := hm
  rcases hmr with hmr | ⟨b, off, rfl, hbW, hcm⟩
  · omega
  have hmon : ∀ i, i < mn → W.cell? ⟨b, off + i, none⟩ = some (.int .i64 (monF zs i)) := fun i hi => by
    have hil : i < zs.length := by omega
    have e : zs[i]? = some zs[i] := List.getElem?_eq_getElem hil
    rw [hcm i _ e]
    simp [monF, hil]
  have hm0 := fun i (hi : i < mn) => (mon_ok hzs i)
  generalize monF zs = m at *
  have hsq : mn * mn ≤ 36 := Nat.mul_le_mul h6 h6
  have enn : ((mn * mn : Nat) : Int) = (mn : Int) * (mn : Int) := Int.natCast_mul mn mn
  have hwr : IntKind.i64.wrap ((mn : Int) * (mn : Int)) = (mn : Int) * (mn : Int) := wrap7 ⟨by omega, by omega⟩
  have HA := hidMk (fun hd : doneB mn S = true => noted_all hinv h0 hd)
  have HO := hidMk (fun (hd : doneB mn S = true) i (hi : i < mn) => own_done hinv hd hi)
  have HL := hidMk (noted_le hinv h0)
  have HI := hidMk hinv
  have hhas := money_all hinv
  have HT := hidMk htot
  have HPc := hidMk hpic
  have HMon := hidMk hmon
  have HM0 := hidMk hm0
  clear hm0 hmon hcm hinv hpic hp hz hzs
  generalize doneB mn S = dn at *
  go_enter Try.func4, Try.ntmps4
  go_wp2_with (fail)
  go_at_call 8
  refine (HP.out).mono ?_
  rintro e w1 ⟨⟨C, B, gm, om, cm, go, oo, co, rfl, hS, hcm, hco⟩, hk⟩
  have HS := hidMk (hS.keep ((Keep.refl (fun _ => False) w1).alloc (.cells #[.slice (some ⟨C, 0, none⟩) pl pl, .slice (some ⟨gm, om, none⟩) mn cm, .slice (some ⟨go, oo, none⟩) mn co, .slice (some ⟨B, 0, none⟩) (mn * mn) (mn * mn), .bool dn] 27)) (fun _ _ e => e))
  have HK := hidMk (hk.alloc (.cells #[.slice (some ⟨C, 0, none⟩) pl pl, .slice (some ⟨gm, om, none⟩) mn cm, .slice (some ⟨go, oo, none⟩) mn co, .slice (some ⟨B, 0, none⟩) (mn * mn) (mn * mn), .bool dn] 27))
  clear hS hk HP
  go_wp2
  have l0 : (w1.alloc (.cells #[.slice (some ⟨C, 0, none⟩) pl pl, .slice (some ⟨gm, om, none⟩) mn cm, .slice (some ⟨go, oo, none⟩) mn co, .slice (some ⟨B, 0, none⟩) (mn * mn) (mn * mn), .bool dn] 27)).cell? ⟨w1.heap.size, 0, none⟩ = some (.slice (some ⟨C, 0, none⟩) pl pl) := by go_simp
  have l1 : (w1.alloc (.cells #[.slice (some ⟨C, 0, none⟩) pl pl, .slice (some ⟨gm, om, none⟩) mn cm, .slice (some ⟨go, oo, none⟩) mn co, .slice (some ⟨B, 0, none⟩) (mn * mn) (mn * mn), .bool dn] 27)).cell? ⟨w1.heap.size, 1, none⟩ = some (.slice (some ⟨gm, om, none⟩) mn cm) := by go_simp
  have l2 : (w1.alloc (.cells #[.slice (some ⟨C, 0, none⟩) pl pl, .slice (some ⟨gm, om, none⟩) mn cm, .slice (some ⟨go, oo, none⟩) mn co, .slice (some ⟨B, 0, none⟩) (mn * mn) (mn * mn), .bool dn] 27)).cell? ⟨w1.heap.size, 2, none⟩ = some (.slice (some ⟨go, oo, none⟩) mn co) := by go_simp
  have l3 : (w1.alloc (.cells #[.slice (some ⟨C, 0, none⟩) pl pl, .slice (some ⟨gm, om, none⟩) mn cm, .slice (some ⟨go, oo, none⟩) mn co, .slice (some ⟨B, 0, none⟩) (mn * mn) (mn * mn), .bool dn] 27)).cell? ⟨w1.heap.size, 3, none⟩ = some (.slice (some ⟨B, 0, none⟩) (mn * mn) (mn * mn)) := by go_simp
  have l4 : (w1.alloc (.cells #[.slice (some ⟨C, 0, none⟩) pl pl, .slice (some ⟨gm, om, none⟩) mn cm, .slice (some ⟨go, oo, none⟩) mn co, .slice (some ⟨B, 0, none⟩) (mn * mn) (mn * mn), .bool dn] 27)).cell? ⟨w1.heap.size, 4, none⟩ = some (.bool dn) := by go_simp
  generalize w1.alloc (.cells #[.slice (some ⟨C, 0, none⟩) pl pl, .slice (some ⟨gm, om, none⟩) mn cm, .slice (some ⟨go, oo, none⟩) mn co, .slice (some ⟨B, 0, none⟩) (mn * mn) (mn * mn), .bool dn] 27) = w2 at *
  go_loopw [8, 9, 10, 11] (fun u8 u9 u10 u wr => ∃ k : Nat, k ≤ mn ∧ u = .int .i64 (k : Int) ∧ u8 = .int .i64 (sumN m k) ∧ u9 = .int .i64 (sumN S.own k) ∧ u10 = .int .i64 (sumN S.money k) ∧ wr = w2) (fun _ _ _ u _ => mn - (intOf u).toNat)
  case atStart => exact ⟨0, Nat.zero_le _, rfl, rfl, rfl, rfl, rfl⟩
  case round =>
    obtain ⟨k, hk, rfl, rfl, rfl, rfl, hwr2⟩ := hrel
    subst hwr2
    by_cases hlt : k < mn
    · have hlt' : (k : Int) < (mn : Int) := by omega
      have q0 : wr.cell? ⟨b, off + k, none⟩ = some (.int .i64 (m k)) := (World.cell?_of_block (HK.out.block b hbW (fun e => e))).trans (HMon.out k hlt)
      have q1 := HS.out.money k hlt
      have q2 := HS.out.own k hlt
      have hmk := HI.out.mon k hlt
      have hok := own_ge HI.out hlt
      have b1 : sumN m (k + 1) ≤ sumN m mn := sumN_mono (by omega) (fun i hi => (HM0.out i hi).1)
      have b1' : 0 ≤ sumN m (k + 1) := sumN_nonneg (fun i hi => (HM0.out i (by omega)).1)
      have b2 : sumN S.money (k + 1) ≤ sumN S.money mn := sumN_mono (by omega) HI.out.mon
      have b2' : 0 ≤ sumN S.money (k + 1) := sumN_nonneg (fun i hi => HI.out.mon i (by omega))
      have b3 : -((k + 1 : Nat) : Int) ≤ sumN S.own (k + 1) := sumN_low (fun i hi => own_ge HI.out (by omega))
      have b4 : sumN S.own (k + 1) ≤ 6000 + 6 := by
        have h1 : sumN (fun i => S.own i + 1) (k + 1) ≤ sumN (fun i => S.own i + 1) mn := sumN_mono (by omega) (fun i hi => by have := own_ge HI.out hi; omega)
        have h2 := HL.out
        have h4 : 0 ≤ sumN (notedQ mn S) (mn * mn) := sumN_nonneg (fun q hq => notedQ_nonneg HI.out h0 hq)
        have ad : ∀ j, sumN (fun i => S.own i + 1) j = sumN S.own j + (j : Int) := fun j => by
          induction j with
          | zero => simp [sumN]
          | succ j ih => show sumN _ j + (S.own j + 1) = sumN S.own j + S.own j + _; rw [ih]; omega
        rw [ad, ad] at h1
        have := HPc.out
        omega
      have hto := HT.out
      have e1 : IntKind.i64.wrap (sumN m k + m k) = sumN m (k + 1) := by show IntKind.i64.wrap (sumN m (k + 1)) = _; exact wrap7 ⟨by omega, by omega⟩
      have e2 : IntKind.i64.wrap (sumN S.own k + S.own k) = sumN S.own (k + 1) := by show IntKind.i64.wrap (sumN S.own (k + 1)) = _; exact wrap7 ⟨by omega, by omega⟩
      have e3 : IntKind.i64.wrap (sumN S.money k + S.money k) = sumN S.money (k + 1) := by show IntKind.i64.wrap (sumN S.money (k + 1)) = _; exact wrap7 ⟨by omega, by omega⟩
      clear b1 b1' b2 b2' b3 b4 hto
      cases dn with
      | false =>
        go_wp2
        go_roundw
        case rel => exact ⟨k + 1, by omega, by go_num, rfl, rfl, rfl, by trivial⟩
        case measure => simp [intOf]; omega
      | true =>
        have hod := HO.out rfl k hlt
        go_wp2
        go_roundw
        case rel => exact ⟨k + 1, by omega, by go_num, rfl, rfl, rfl, by trivial⟩
        case measure => simp [intOf]; omega
    · obtain rfl : k = mn := by omega
      generalize hww : wr = w2 at *
      clear hww
      go_wp2
      go_loopw [9, 105] (fun u9 u wr => ∃ q : Nat, q ≤ k * k ∧ u = .int .i64 (q : Int) ∧ u9 = .int .i64 (sumN S.own k + sumN (notedQ k S) q) ∧ wr = w2) (fun _ u _ => k * k - (intOf u).toNat)
      case atStart => exact ⟨0, Nat.zero_le _, rfl, by simp [sumN], rfl⟩
      case round =>
        obtain ⟨q, hq, rfl, rfl, hwr3⟩ := hrel
        subst hwr3
        by_cases hlq : q < k * k
        · have hlq' : (q : Int) < ((k * k : Nat) : Int) := by omega
          obtain ⟨a, c, hcell, hlc, hrow⟩ := HS.out.rows q hlq
          have HN : Hid (notedQ k S q = lsum (S.ways (q / k) (q % k)).noted) := rfl
          have hln : (S.ways (q / k) (q % k)).noted.length ≤ c := hlc
          have hnn := HI.out.ntd (q / k) (q % k) (Nat.div_lt_of_lt_mul hlq) (Nat.mod_lt q h0)
          have hb1 : -6 ≤ sumN S.own k + sumN (notedQ k S) q := by
            have h1 := sumN_low (k := k) (f := S.own) (fun i hi => own_ge HI.out hi)
            have h2 : 0 ≤ sumN (notedQ k S) q := sumN_nonneg (fun i hi => notedQ_nonneg HI.out h0 (by omega))
            omega
          have hb2 : sumN S.own k + sumN (notedQ k S) q + notedQ k S q ≤ 6000 := by
            have h1 : sumN (notedQ k S) (q + 1) ≤ sumN (notedQ k S) (k * k) := sumN_mono (by omega) (fun i hi => notedQ_nonneg HI.out h0 hi)
            have h2 := HL.out
            have h4 := HPc.out
            have e : sumN (notedQ k S) (q + 1) = sumN (notedQ k S) q + notedQ k S q := rfl
            omega
          have HB1 := hidMk hb1
          have HB2 := hidMk hb2
          have HNN := hidMk hnn
          have HE : Hid (sumN S.own k + sumN (notedQ k S) (q + 1) = sumN S.own k + sumN (notedQ k S) q + notedQ k S q) := by show sumN S.own k + (sumN (notedQ k S) q + notedQ k S q) = _; omega
          have hl120 : (((S.ways (q / k) (q % k)).noted.length : Nat) : Int) ≤ 120 := by have := (HLn.out (q / k) (q % k) (Nat.div_lt_of_lt_mul hlq) (Nat.mod_lt q h0)).2; omega
          clear hb1 hb2 hnn hlc
          generalize sumN S.own k + sumN (notedQ k S) q = bs at *
          rw [HN.out] at HE HB2
          clear HN
          generalize (S.ways (q / k) (q % k)).noted = l at *
          have HRow := hidMk hrow
          clear hrow
          by_cases hl0 : l.length = 0
          · have hl : l = [] := List.eq_nil_of_length_eq_zero hl0
            subst hl
            have HE2 : Hid (sumN S.own k + sumN (notedQ k S) (q + 1) = bs) := by show _ = _; rw [HE.out]; show bs + 0 = bs; omega
            simp only [List.length_nil] at hcell
            generalize hww : wr = w2 at *
            clear hww
            go_wp2
            go_loopw [9, 111] (fun u9 u wr => u = .int .i64 0 ∧ u9 = .int .i64 bs ∧ wr = w2) (fun _ u _ => 0)
            case atStart => exact ⟨rfl, rfl, rfl⟩
            case round =>
              obtain ⟨rfl, rfl, hwr4⟩ := hrel
              subst hwr4
              go_wp2
              go_roundw
              case rel => exact ⟨q + 1, by omega, by go_num, by rw [HE2.out], by trivial⟩
              case measure => simp [intOf]; omega
          · obtain ⟨x0, hx0⟩ : ∃ x0, l[0]? = some x0 := ⟨l[0]'(by omega), List.getElem?_eq_getElem (by omega)⟩
            obtain ⟨g, of2, rfl, hcs⟩ := HRow.out 0 x0 hx0
            have HCs := hidMk hcs
            clear hcs HRow hx0
            have hlm : (l.length : Int) ≤ (l.length : Int) := Int.le_refl _
            generalize hll : l.length = ln at *
            generalize hww : wr = w2 at *
            clear hww hlm
            go_wp2
            go_loopw [9, 111] (fun u9 u wr => ∃ t : Nat, t ≤ ln ∧ u = .int .i64 (t : Int) ∧ u9 = .int .i64 (bs + lsum (l.take t)) ∧ wr = w2) (fun _ u _ => ln - (intOf u).toNat)
            case atStart => exact ⟨0, Nat.zero_le _, rfl, by simp [lsum], rfl⟩
            case round =>
              obtain ⟨t, ht, rfl, rfl, hwr4⟩ := hrel
              subst hwr4
              by_cases htl : t < ln
              · have htl' : (t : Int) < (ln : Int) := by omega
                obtain ⟨y, hy⟩ : ∃ y, l[t]? = some y := ⟨l[t]'(by omega), List.getElem?_eq_getElem (by omega)⟩
                have hcy := HCs.out t y hy
                have h1 := lsum_take l t hy
                have h2 := lsum_take_le HNN.out (t + 1)
                have h3 := HB1.out
                have h4 := HB2.out
                have e1 : IntKind.i64.wrap (bs + lsum (l.take t) + y) = bs + lsum (l.take (t + 1)) := by
                  rw [h1, ← Int.add_assoc]
                  exact wrap7 ⟨by omega, by omega⟩
                clear h1 h2 h3 h4 hy
                go_wp2
                go_roundw
                case rel => exact ⟨t + 1, by omega, by go_num, rfl, by trivial⟩
                case measure => simp [intOf]; omega
              · obtain rfl : t = ln := by omega
                have HE2 : Hid (sumN S.own k + sumN (notedQ k S) (q + 1) = bs + lsum (l.take t)) := by show _ = _; rw [HE.out, List.take_of_length_le (by omega)]
                go_wp2
                go_roundw
                case rel => exact ⟨q + 1, by omega, by go_num, by rw [HE2.out], by trivial⟩
                case measure => simp [intOf]; omega
        · obtain rfl : q = k * k := by omega
          have hto := HT.out
          have hle : sumN S.money k ≤ sumN m k := by omega
          have HF : Hid (dn = true → sumN S.own k + sumN (notedQ k S) (k * k) = sumN m k) := fun hd => (HA.out hd).trans HPc.out
          generalize sumN S.own k + sumN (notedQ k S) (k * k) = is at *
          cases dn with
          | false =>
            go_wp2
            go_ret
            exact ⟨rfl, keep_below HK.out⟩
          | true =>
            have hf : is = sumN m k := HF.out rfl
            have hf' : (is == sumN m k) = true := by simpa using hf
            clear hf
            go_wp2
            go_ret
            exact ⟨rfl, keep_below HK.out⟩

theorem keeps_walk {W : World} {ma pa : Option Addr} {mn mc pl pc : Nat} {zs : List Int} {ps : List Pass} (hm : CameI W ma mn mc zs) (hp : CameP W pa pl pc ps) :
    Calls Try.prog 4 #[.slice ma mn mc, .slice pa pl pc] W fun e W2 => e = .returned (.bool true) ∧ Below W.heap.size W W2 := by
  by_cases hz : snapCode zs pl = 0
  · exact keeps_ok hm hp hz
  · exact keeps_bad hm hz
end Go.Proofs.Ytdigkdebdlpnpaa
