/- folkmootkeep.SnapNone, walked. -/
import Derived.Test.YtdigkdebdlpnpaaV3
import Derived.Test.YtdigkdebdlpnpaaU3
namespace Go.Proofs.Ytdigkdebdlpnpaa
open Go.RowKit
set_option linter.unusedVariables false

theorem keep_below2 {A B : World} (h : Keep (fun _ => False) A B) : Below A.heap.size A B := h.below (Nat.le_refl _) (fun _ _ e => e)
def fl (ps : List Pass) (k : Nat) : List Pass := (ps.take k).filter fun p => p.kind != 3
theorem fl_succ {ps : List Pass} {k : Nat} {p : Pass} (h : ps[k]? = some p) : fl ps (k + 1) = fl ps k ++ (if (p.kind != 3) = true then [p] else []) := by
  unfold fl
  rw [List.take_add_one, h, List.filter_append]
  simp [List.filter_cons]
theorem fl_len (ps : List Pass) (k : Nat) : (fl ps k).length ≤ k := by
  unfold fl
  exact Nat.le_trans (List.length_filter_le _ _) (by simp; omega)
theorem fl_not {ps : List Pass} {k : Nat} : ∀ p ∈ fl ps k, p.kind ≠ 3 := by
  intro p hp
  unfold fl at hp
  simpa using (List.mem_filter.1 hp).2

set_option maxRecDepth 100000 in
set_option maxHeartbeats 4000000 in
theorem none_walk {W : World} {ma pa : Option Addr} {mn mc pl pc : Nat} {zs : List Int} {ps : List Pass} (hm : CameI W ma mn mc zs) (hp : CameP W pa pl pc ps) (hsz : pl * 32 ≤ 140737488351232) :
    Calls Try.prog 7 #[.slice ma mn mc, .slice pa pl pc] W fun e W2 => e = .returned (.bool true) ∧ Below W.heap.size W W2 := by
  obtain ⟨i0, hi, hz0, hz1, hz2⟩ := info_parts Try.info35
  obtain ⟨hpl1, hpl2, hpl3, hpr⟩ := hp
  have hplm : (pl : Int) ≤ 4398046511104 := by omega
  have HM := hidMk hm
  have HP := hidMk hpr
  clear hm hpr hpl2 hpl3
  go_enter Try.func7, Try.ntmps7
  go_wp2
  go_loopw [5, 16] (fun v u wr => ∃ k : Nat, k ≤ pl ∧ u = .int .i64 (k : Int) ∧ Hid (Seg wr (fun g => W.heap.size ≤ g) 35 4 v (fl ps k).length (flatP (fl ps k))) ∧ Hid (Keep (fun _ => False) W wr)) (fun _ u _ => pl - (intOf u).toNat)
  case atStart => exact ⟨0, Nat.zero_le _, rfl, Seg.nil _ _ _ _, Keep.refl _ _⟩
  case round =>
    obtain ⟨k, hk, rfl, HS, HK⟩ := hrel
    by_cases hlt : k < pl
    · have hlt' : (k : Int) < (pl : Int) := by omega
      rcases HP.out with hp0 | ⟨b, off, rfl, hbW, hpr⟩
      · omega
      have hpk : ps[k]? = some (ps[k]'(by omega)) := List.getElem?_eq_getElem (by omega)
      generalize ps[k]'(by omega) = p at hpk
      obtain ⟨d0, d1, d2, d3⟩ := (hpr.keep hbW HK.out (fun e => e)) k p hpk
      have HF := hidMk (fl_succ hpk)
      have hfl := fl_len ps k
      obtain ⟨va, vc, rfl⟩ := HS.out.form
      obtain ⟨kd, wh, ot, x⟩ := p
      simp only at d0 d1 d2 d3 HF
      clear hpr hpk
      by_cases h3 : kd = 3
      · have h3' : (kd != 3) = false := by simp [h3]
        have HF2 : Hid (fl ps (k + 1) = fl ps k) := by show _ = _; rw [HF.out, if_neg (by simp [h3])]; simp
        go_wp2
        go_roundw
        case rel => exact ⟨k + 1, by omega, by go_num, by rw [HF2.out]; exact HS.out.alloc _, HK.out.alloc _⟩
        case measure => simp [intOf]; omega
      · have h3' : (kd != 3) = true := by simp [h3]
        have HF2 : Hid (fl ps (k + 1) = fl ps k ++ [⟨kd, wh, ot, x⟩]) := by show _ = _; rw [HF.out, if_pos h3']
        go_wp2_with (at_builtin; refine wpList_append_seg _ rfl _ _ 23 rfl 35 i0 (.agg #[.int .i64 0, .int .i64 0, .int .i64 0, .int .i64 0]) 4 32 Try.underlying23 hi hz0 hz1 hz2 rfl (by decide) _ _ _ rfl ((HS.out.alloc _).alloc _) ⟨wr.heap.size + 1, 0, none⟩ 1 1 (cellsP ⟨kd, wh, ot, x⟩) rfl rfl (cells_pass_at _ _ _ _ _ _ _ (by simp)) (pass_cells _ _ _ _) (by unfold maxLen; omega) (by omega) ?_)
        intro v3 w3 hs3 hg3
        have HS3 : Hid (Seg w3 (fun g => W.heap.size ≤ g) 35 4 v3 (fl ps (k + 1)).length (flatP (fl ps (k + 1)))) := by
          have h1 := hs3.mono (ok2 := fun g => W.heap.size ≤ g) (fun g _ e => by
            rcases e with ⟨_, e⟩ | e
            · exact e
            · have := HK.out.size; (try simp at e); omega)
          rw [HF2.out, flatP_append, flatP_one]
          show Seg w3 _ _ 4 v3 (fl ps k ++ [_]).length _
          rw [List.length_append]
          exact h1
        have HK3 : Hid (Keep (fun _ => False) W w3) := ((HK.out.alloc _).alloc _).grown hg3 (fun q e hq => by have := (HS.out.block e).1; omega)
        clear hs3 hg3 HS HK d0 d1 d2 d3
        go_wp2
        go_roundw
        case rel => exact ⟨k + 1, by omega, by go_num, HS3, HK3⟩
        case measure => simp [intOf]; omega
    · obtain rfl : k = pl := by omega
      have hno := fl_not (ps := ps) (k := k)
      have hfl := fl_len ps k
      generalize fl ps k = l at *
      generalize hww : wr = w9 at *
      clear hww
      obtain ⟨va, vc, rfl, hcame⟩ := seg_came HS.out
      have hm2 := HM.out.keep HK.out (fun _ _ e => e)
      by_cases hz : snapCode zs l.length = 0
      · obtain ⟨h0, h6, hl120, hzs⟩ := code_zero hm2.1 hz
        have HPl := hidMk (play_seen hm2 hcame hz h0 h6 hl120 hzs)
        have hstill := still_at (n := mn) hno (monF zs) l.length
        have hinv0 := inv0 (n := mn) (m := monF zs) (fun i _ => (mon_ok hzs i).1)
        have htot : tot mn (st0 (monF zs)) ≤ 6000 := by
          rw [tot0]
          have := sumN_bound (n := mn) (fun i _ => (mon_ok hzs i).2)
          have e : (1000 : Int) * (mn : Int) ≤ 6000 := by omega
          omega
        have htot0 : 0 ≤ tot mn (st0 (monF zs)) := by rw [tot0]; exact sumN_nonneg (fun i _ => (mon_ok hzs i).1)
        rw [still_done hstill h0] at HPl
        have HOw := hidMk hstill.1
        have HHas := hidMk (fun i (hi : i < mn) => has_le hinv0 l i hi l.length)
        have HBd := hidMk (fun i (hi : i < mn) k => has_bounds hinv0 l i hi k)
        have HMk := hidMk (fun i => mon_ok hzs i)
        obtain ⟨_, _, _, hmr⟩ := hm2
        rcases hmr with hmr | ⟨bm, ofm, rfl, hbm, hcm⟩
        · omega
        have HMon : Hid (∀ i, i < mn → w9.cell? ⟨bm, ofm + i, none⟩ = some (.int .i64 (monF zs i))) := fun i hi => by
          have hil : i < zs.length := by have := HM.out.1; omega
          have e : zs[i]? = some zs[i] := List.getElem?_eq_getElem hil
          rw [hcm i _ e]
          simp [monF, hil]
        have HCm := hidMk hcame
        clear hcame hcm hstill hinv0 hzs hz HM HP
        generalize hll : l.length = ln at *
        have HLL := hidMk hll
        clear hll
        generalize stAt mn (st0 (monF zs)) l ln = S at *
        go_wp2_with (fail)
        go_at_call 8
        refine (HPl.out).mono ?_
        rintro e w1 ⟨⟨C, B, gm, om, cm, go, oo, co, rfl, hS, hcm, hco⟩, hk1⟩
        have HSn := hidMk (hS.keep ((Keep.refl (fun _ => False) w1).alloc (.cells #[.slice (some ⟨C, 0, none⟩) ln ln, .slice (some ⟨gm, om, none⟩) mn cm, .slice (some ⟨go, oo, none⟩) mn co, .slice (some ⟨B, 0, none⟩) (mn * mn) (mn * mn), .bool false] 27)) (fun _ _ e => e))
        have HK1 := hidMk (hk1.alloc (.cells #[.slice (some ⟨C, 0, none⟩) ln ln, .slice (some ⟨gm, om, none⟩) mn cm, .slice (some ⟨go, oo, none⟩) mn co, .slice (some ⟨B, 0, none⟩) (mn * mn) (mn * mn), .bool false] 27))
        have l0 : (w1.alloc (.cells #[.slice (some ⟨C, 0, none⟩) ln ln, .slice (some ⟨gm, om, none⟩) mn cm, .slice (some ⟨go, oo, none⟩) mn co, .slice (some ⟨B, 0, none⟩) (mn * mn) (mn * mn), .bool false] 27)).heap[w1.heap.size]? = some (.cells #[.slice (some ⟨C, 0, none⟩) ln ln, .slice (some ⟨gm, om, none⟩) mn cm, .slice (some ⟨go, oo, none⟩) mn co, .slice (some ⟨B, 0, none⟩) (mn * mn) (mn * mn), .bool false] 27 (0, 0)) := al_new _ _
        have HL0 := hidMk l0
        clear hS hk1 HPl l0
        go_wp2
        generalize w1.alloc (.cells #[.slice (some ⟨C, 0, none⟩) ln ln, .slice (some ⟨gm, om, none⟩) mn cm, .slice (some ⟨go, oo, none⟩) mn co, .slice (some ⟨B, 0, none⟩) (mn * mn) (mn * mn), .bool false] 27) = w2 at *
        have hLw : w1.heap.size < w2.heap.size := (Array.getElem?_eq_some_iff.1 HL0.out).1
        generalize w1.heap.size = L at *
        go_loopw [10] (fun u wr => ∃ i : Nat, i ≤ mn ∧ u = .int .i64 (i : Int) ∧ Hid (Keep (fun _ => False) w2 wr)) (fun u _ => mn - (intOf u).toNat)
        case atStart => exact ⟨0, Nat.zero_le _, rfl, Keep.refl _ _⟩
        case round =>
          obtain ⟨i, hi2, rfl, HK2⟩ := hrel
          by_cases hil : i < mn
          · have hil' : (i : Int) < (mn : Int) := by omega
            have q0 : wr.cell? ⟨bm, ofm + i, none⟩ = some (.int .i64 (monF zs i)) := (World.cell?_of_block ((HK1.out.trans HK2.out (q := fun _ => False) (fun _ _ e => e) (fun _ _ e => e)).block bm hbm (fun e => e))).trans (HMon.out i hil)
            have HMi := hidMk (HMk.out i)
            generalize hww : wr = w3 at *
            clear hww
            go_wp2
            go_loopw [11, 70] (fun ua u wr => ∃ k : Nat, k ≤ ln ∧ u = .int .i64 (k : Int) ∧ ua = .int .i64 (hasTo mn (st0 (monF zs)) l i k) ∧ Hid (Keep (fun _ => False) w2 wr)) (fun _ u _ => ln - (intOf u).toNat)
            case atStart => exact ⟨0, Nat.zero_le _, rfl, rfl, HK2⟩
            case round =>
              obtain ⟨k2, hk2, rfl, rfl, HK3⟩ := hrel
              by_cases hkl : k2 < ln
              · have hkl' : (k2 : Int) < (ln : Int) := by omega
                obtain ⟨_, _, _, hcr⟩ := HCm.out
                rcases hcr with hcr | ⟨b, off, rfl, hbW, hpr⟩
                · omega
                have hpk : l[k2]? = some (l[k2]'(by have := HLL.out; omega)) := List.getElem?_eq_getElem (by have := HLL.out; omega)
                generalize l[k2]'(by have := HLL.out; omega) = p at hpk
                obtain ⟨d0, d1, d2, d3⟩ := (hpr.keep hbW (HK1.out.trans HK3.out (q := fun _ => False) (fun _ _ e => e) (fun _ _ e => e)) (fun e => e)) k2 p hpk
                have hcd := (HSn.out.keep HK3.out (fun _ _ e => e)).codes k2 hkl
                have hL3 := (HK3.out.block L hLw (fun e => e)).trans HL0.out
                have c0 : wr.cell? ⟨L, 0, none⟩ = some (.slice (some ⟨C, 0, none⟩) ln ln) := by rw [cell_of_row wr _ _ _ _ _ hL3]; rfl
                have c0' : (wr.alloc (.cells #[.int .i64 p.kind, .int .i64 p.who, .int .i64 p.other, .int .i64 p.n] 35)).cell? ⟨L, 0, none⟩ = some (.slice (some ⟨C, 0, none⟩) ln ln) := (World.cell?_of_block (al_old _ _ _ (World.block_lt_of_cell? _ _ c0))).trans c0
                have hcd' : (wr.alloc (.cells #[.int .i64 p.kind, .int .i64 p.who, .int .i64 p.other, .int .i64 p.n] 35)).cell? ⟨C, k2, none⟩ = some (.int .i64 (codeAt mn (st0 (monF zs)) l k2)) := (World.cell?_of_block (al_old _ _ _ (World.block_lt_of_cell? _ _ hcd))).trans hcd
                have HSd : Hid (sends mn (st0 (monF zs)) l i k2 = if codeAt mn (st0 (monF zs)) l k2 = 0 ∧ p.kind = 1 ∧ p.who = (i : Int) then some p.n else none) := by show _ = _; unfold sends; rw [hpk]
                have HHs : Hid (hasTo mn (st0 (monF zs)) l i (k2 + 1) = hasTo mn (st0 (monF zs)) l i k2 - (sends mn (st0 (monF zs)) l i k2).getD 0) := rfl
                have hb1 := HBd.out i hil (k2 + 1)
                have hb2 := HBd.out i hil k2
                have hmi := HMi.out
                have hms : (st0 (monF zs)).money i = monF zs i := rfl
                rw [hms] at hb1 hb2
                have hpr1 : tot mn (st0 (monF zs)) * ((k2 + 1 : Nat) : Int) ≤ 6000 * 120 := Int.mul_le_mul htot (by omega) (by omega) (by omega)
                have hpr2 : tot mn (st0 (monF zs)) * (k2 : Int) ≤ 6000 * 120 := Int.mul_le_mul htot (by omega) (by omega) (by omega)
                have hr1 : -1000000 ≤ hasTo mn (st0 (monF zs)) l i (k2 + 1) ∧ hasTo mn (st0 (monF zs)) l i (k2 + 1) ≤ 1000000 := by omega
                have HR1 := hidMk hr1
                clear hb1 hb2 hmi hms hpr1 hpr2 hr1 hpr hpk hL3 hcd
                obtain ⟨kd, wh, ot, x⟩ := p
                simp only at d0 d1 d2 d3 HSd c0' hcd'
                generalize codeAt mn (st0 (monF zs)) l k2 = cdk at *
                generalize hh1 : hasTo mn (st0 (monF zs)) l i (k2 + 1) = h1 at *
                have HH1 := hidMk hh1
                clear hh1
                generalize hasTo mn (st0 (monF zs)) l i k2 = hk0 at *
                by_cases hs : cdk = 0 ∧ kd = 1 ∧ wh = (i : Int)
                · obtain ⟨rfl, rfl, rfl⟩ := hs
                  have e1 : h1 = hk0 - x := by rw [HHs.out, HSd.out, if_pos ⟨rfl, rfl, rfl⟩]; rfl
                  have e2 : IntKind.i64.wrap (hk0 - x) = h1 := by rw [← e1]; exact wrap7 ⟨by have := HR1.out; omega, by have := HR1.out; omega⟩
                  clear e1
                  go_wp2
                  go_roundw
                  case rel => exact ⟨k2 + 1, by omega, by go_num, by rw [HH1.out], HK3.out.alloc _⟩
                  case measure => simp [intOf]; omega
                · have e1 : h1 = hk0 := by rw [HHs.out, HSd.out, if_neg hs]; show hk0 - 0 = hk0; omega
                  by_cases z1 : cdk = 0
                  · have z1' : (cdk == 0) = true := by simp [z1]
                    by_cases z2 : kd = 1
                    · have z2' : (kd == 1) = true := by simp [z2]
                      have z3' : (wh == (i : Int)) = false := by simpa using (fun e => hs ⟨z1, z2, e⟩)
                      clear hs z1 z2
                      go_wp2
                      go_roundw
                      case rel => exact ⟨k2 + 1, by omega, by go_num, by rw [HH1.out, e1], HK3.out.alloc _⟩
                      case measure => simp [intOf]; omega
                    · have z2' : (kd == 1) = false := by simpa using z2
                      clear hs z1 z2
                      go_wp2
                      go_roundw
                      case rel => exact ⟨k2 + 1, by omega, by go_num, by rw [HH1.out, e1], HK3.out.alloc _⟩
                      case measure => simp [intOf]; omega
                  · have z1' : (cdk == 0) = false := by simpa using z1
                    clear hs z1
                    go_wp2
                    go_roundw
                    case rel => exact ⟨k2 + 1, by omega, by go_num, by rw [HH1.out, e1], HK3.out.alloc _⟩
                    case measure => simp [intOf]; omega
              · obtain rfl : k2 = ln := by omega
                have hS3 := HSn.out.keep HK3.out (fun _ _ e => e)
                have m1 := hS3.money i hil
                have m2 := hS3.own i hil
                rw [HOw.out i hil] at m2
                have hle : hasTo mn (st0 (monF zs)) l i k2 ≤ S.money i := HHas.out i hil
                have hL3 := (HK3.out.block L hLw (fun e => e)).trans HL0.out
                have c1 : wr.cell? ⟨L, 1, none⟩ = some (.slice (some ⟨gm, om, none⟩) mn cm) := by rw [cell_of_row wr _ _ _ _ _ hL3]; rfl
                have c2 : wr.cell? ⟨L, 2, none⟩ = some (.slice (some ⟨go, oo, none⟩) mn co) := by rw [cell_of_row wr _ _ _ _ _ hL3]; rfl
                clear hS3 hL3
                generalize hasTo mn (st0 (monF zs)) l i k2 = hh at *
                go_wp2
                go_roundw
                case rel => exact ⟨i + 1, by omega, by go_num, HK3⟩
                case measure => simp [intOf]; omega
          · obtain rfl : i = mn := by omega
            go_wp2
            go_ret
            exact ⟨rfl, keep_below2 (((HK.out.trans HK1.out (fun _ _ e => e) (fun _ _ e => e)).trans HK2.out (fun _ _ e => e) (fun _ _ e => e)))⟩
      · have HPl := hidMk (play_bad (pa := va) (pc := vc) hm2 hz)
        unfold zeroSnapped at HPl
        have hz' : (snapCode zs l.length != 0) = true := by simpa using hz
        generalize snapCode zs l.length = code at *
        clear hz
        go_wp2_with (go_at_call 8; refine (HPl.out).mono ?_; rintro e w1 ⟨rfl, hk1⟩)
        go_ret
        exact ⟨rfl, keep_below2 ((HK.out.trans hk1 (fun _ _ e => e) (fun _ _ e => e)).alloc _)⟩
end Go.Proofs.Ytdigkdebdlpnpaa
