/- folkmootkeep.MutexFair, walked. -/
import Derived.Test.YteighidkhopcoaaMb6
import Derived.Deep.RegionWith
namespace Go.Proofs.Yteighidkhopcoaa
open Go.RowKit
set_option linter.unusedVariables false

set_option maxRecDepth 100000 in
set_option maxHeartbeats 4000000 in
theorem fair_bad {W : World} {pa : Option Addr} {z zi zj : Int} {pl pc kn : Nat} {ps : List Cst} (hp : CameC W pa pl pc ps) (hsz : pl * 24 ≤ 140737488351232) (hk : kn ≤ 255) (hz : castCode z pl ≠ 0) :
    Calls Try.prog 6 #[.int .i64 z, .slice pa pl pc, .int .u8 (kn : Int), .int .i64 zi, .int .i64 zj] W fun e W2 => e = .returned (.bool true) ∧ Below W.heap.size W W2 := by
  have HP := hidMk (play_badM (W := W) (pa := pa) (pc := pc) hz hp.2.2.1)
  generalize hat : kn % (pl + 1) = at0
  have hat1 : at0 ≤ pl := by rw [← hat]; have := Nat.mod_lt kn (show 0 < pl + 1 by omega); omega
  have hmod : (kn : Int).tmod ((pl : Int) + 1) = (at0 : Int) := by rw [← hat]; rfl
  have hmod2 : (kn : Int) % ((pl : Int) + 1) = (at0 : Int) := by rw [← hat]; rfl
  have hpl' : (pl : Int) ≤ 5864062014806 := by omega
  have hcap := hp.2.1
  have hat2 : (at0 : Int) ≤ (pc : Int) := by omega
  have hkn : (kn : Int) ≤ 255 := by omega
  have HP2 := hidMk (fun (w1 : World) (hw1 : Stil W w1) => play_anyM (z := z) ((hp.take hat1).keep hw1 (fun _ _ e => e)))
  clear hz hp hat
  go_enter Try.func6, Try.ntmps6
  go_wp2_with (fail)
  go_at_call 7
  refine (HP.out).mono ?_
  rintro e w1 ⟨rfl, hk1⟩
  have HK1 := hidMk (hk1.alloc (.cells #[.slice none 0 0, .slice none 0 0, .slice none 0 0, .int .i64 0] 26))
  have HL0 := hidMk (al_new w1 (.cells #[.slice none 0 0, .slice none 0 0, .slice none 0 0, .int .i64 0] 26))
  clear hk1 HP
  go_wp2_with (fail)
  go_at_call 7
  refine (HP2.out _ HK1.out).mono ?_
  rintro e w2 ⟨⟨a, b, c, d, f, g, a2, b2, c2, y, x, rfl⟩, hk2⟩
  have HK2 := hidMk (Stil.tr HK1.out hk2)
  have a0 : (w2.alloc (.cells #[.slice a b c, .slice d f g, .slice a2 b2 c2, .int .i64 y] 26)).cell? ⟨w1.heap.size, 0, none⟩ = some (.slice none 0 0) := Stil.cell (hk2.alloc _) (by rw [cell_of_row _ _ _ _ _ _ HL0.out]; rfl)
  clear hk2 HK1 HP2
  go_wp2
  go_ret
  exact ⟨rfl, Stil.below (HK2.out.alloc _)⟩


/-- A play, with the slice of those who came inside as it lies. -/
theorem play_seenG {W : World} {pa : Option Addr} {n pl pc : Nat} {ps : List Cst} (hp : CameC W pa pl pc ps) (h0 : 0 < n) (h6 : n ≤ 6) (hpl : pl ≤ 120) :
    Calls Try.prog 7 #[.int .i64 (n : Int), .slice pa pl pc] W fun e W2 => (∃ C va vc ia ic, e = .returned (.tuple #[.agg #[.slice (some ⟨C, 0, none⟩) pl pl, .slice va (msAt n ps pl).ins.length vc, .slice ia (insideM n (msAt n ps pl)).length ic, .int .i64 (awayM n (msAt n ps pl) : Int)], .int .i64 0]) ∧ SeenM W2 C n pl (msAt n ps pl) (mcAt n ps) va vc ia ic ∧
      ((va = none ∧ (msAt n ps pl).ins.length = 0 ∧ vc = 0) ∨ ∃ g o, va = some ⟨g, o, none⟩ ∧ (msAt n ps pl).ins.length ≤ vc ∧ vc ≤ maxLen)) ∧ Stil W W2 := by
  refine (play_okM hp h0 h6 hpl).mono ?_
  rintro e W2 ⟨C, iv, ia, ic, rfl, P⟩
  have hs := P.ins
  obtain ⟨va, vc, rfl⟩ := segForm hs
  refine ⟨⟨C, va, vc, ia, ic, rfl, ⟨⟨by simp, Nat.le_refl _, by unfold maxLen; omega, .inr ⟨C, 0, rfl, (Array.getElem?_eq_some_iff.1 P.codes).1, fun j x hx => ?_⟩⟩, seg_row hs, P.inside⟩, ?_⟩, P.keep⟩
  · rw [cell_of_row W2 _ _ _ _ _ P.codes]
    simp only [List.getElem?_toArray, Nat.zero_add]
    have hj := (List.getElem?_eq_some_iff.1 hx).1
    simp at hj
    rw [mcRow_at hj, if_pos hj]
    simp [hj] at hx
    rw [hx]
  · obtain ⟨_, ⟨h2, h3⟩ | ⟨g, off, cap, cur, h2, _, _, h5, h6, _⟩⟩ := hs
    · simp only [Value.slice.injEq] at h2
      exact .inl ⟨h2.1, h3, h2.2.2⟩
    · simp only [Value.slice.injEq] at h2
      exact .inr ⟨g, off, h2.1, by rw [h2.2.2]; exact h5, by rw [h2.2.2]; exact h6⟩

set_option maxRecDepth 100000 in
set_option maxHeartbeats 16000000 in
theorem fair_ok {W : World} {pa : Option Addr} {n pl pc kn : Nat} {zi zj : Int} {ps : List Cst} (hp : CameC W pa pl pc ps) (hk : kn ≤ 255) (h0 : 0 < n) (h6 : n ≤ 6) (hpl : pl ≤ 120) :
    Calls Try.prog 6 #[.int .i64 (n : Int), .slice pa pl pc, .int .u8 (kn : Int), .int .i64 zi, .int .i64 zj] W fun e W2 => e = .returned (.bool true) ∧ Below W.heap.size W W2 := by
  have HP := hidMk (play_seenG hp h0 h6 hpl)
  generalize hat : kn % (pl + 1) = at0
  have hat1 : at0 ≤ pl := by rw [← hat]; have := Nat.mod_lt kn (show 0 < pl + 1 by omega); omega
  have hmod : (kn : Int).tmod ((pl : Int) + 1) = (at0 : Int) := by rw [← hat]; rfl
  have hmod2 : (kn : Int) % ((pl : Int) + 1) = (at0 : Int) := by rw [← hat]; rfl
  have hpl' : (pl : Int) ≤ 120 := by omega
  have hcap := hp.2.1
  have hat2 : (at0 : Int) ≤ (pc : Int) := by omega
  have hat3 : (at0 : Int) ≤ (pl : Int) := by omega
  have hkn : (kn : Int) ≤ 255 := by omega
  have HP2 := hidMk (fun (w1 : World) (hw1 : Stil W w1) => play_seenM ((hp.take hat1).keep hw1 (fun _ _ e => e)) h0 h6 (by omega))
  have HAk := hidMk (fun (w9 : World) (C : Nat) (h9 : Stil W w9) (hc : RowI w9 (some ⟨C, 0, none⟩) at0 at0 ((List.range at0).map (mcAt n (ps.take at0)))) => asking_any ((hp.take hat1).keep h9 (fun _ _ e => e)) (by omega) hc)
  have e1 : msAt n (ps.take at0) at0 = msAt n ps at0 := msat_same n _ _ _ (fun j hj => takeM_same ps at0 j hj)
  have e3 : askTo (ps.take at0) (mcAt n (ps.take at0)) at0 = askTo ps (mcAt n ps) at0 := askTo_same at0 (fun j hj => takeM_same ps at0 j hj) (fun j hj => mc_same n _ _ _ (fun q hq => takeM_same ps at0 q (by omega)))
  obtain ⟨rr, hrr⟩ : ∃ r, (msAt n ps pl).ins = (msAt n ps at0).ins ++ r := by
    have := ins_pre n ps at0 (pl - at0)
    rwa [show at0 + (pl - at0) = pl by omega] at this
  have hll : (msAt n ps pl).ins.length ≤ 120 := by have := (mb_at (n := n) (by omega) ps pl).ins; omega
  have hfew : (insideM n (msAt n ps at0)).length ≤ 1 := inside_few (mb_at (n := n) (by omega) ps at0).inv
  have HFp := hidMk (fun ha hi hi2 hj => fair_plain (n := n) (by omega) ps hat1 hp.1.symm (i := zi) (j := zj) ha hi hi2 hj hrr)
  have hal := askTo_len ps (mcAt n ps) at0
  rw [e1] at HP2
  rw [e3] at HAk
  have HRr := hidMk hrr
  generalize msAt n ps pl = S1 at *
  generalize msAt n ps at0 = S2 at *
  generalize askTo ps (mcAt n ps) at0 = A at *
  generalize mcAt n ps = cd1 at *
  generalize mcAt n (ps.take at0) = cd2 at *
  clear hp hat e1 e3 hrr
  have hi12 : S1.ins.length = S2.ins.length + rr.length := by rw [HRr.out, List.length_append]
  generalize hf2v : (insideM n S2).length = f2 at *
  generalize hi1v : S1.ins.length = i1 at *
  generalize hi2v : S2.ins.length = i2 at *
  generalize hd1v : rr.length = d1 at *
  generalize haw2 : awayM n S2 = aw2 at *
  generalize halv : A.length = al at *
  have HF2 := hidMk hf2v
  have HI1 := hidMk hi1v
  have HI2 := hidMk hi2v
  have HD1 := hidMk hd1v
  have HAl := hidMk halv
  have HI12 := hidMk hi12
  clear hf2v hi1v hi2v hd1v haw2 halv hi12
  go_enter Try.func6, Try.ntmps6
  go_wp2_with (fail)
  go_at_call 7
  refine (HP.out).mono ?_
  rintro e w1 ⟨⟨C1, va1, vc1, ia1, ic1, rfl, hS1, hform⟩, hk1⟩
  have HFo := hidMk hform
  generalize (insideM n S1).length = f1 at *
  generalize awayM n S1 = aw1 at *
  have HK1 := hidMk (hk1.alloc (.cells #[.slice (some ⟨C1, 0, none⟩) pl pl, .slice va1 i1 vc1, .slice ia1 f1 ic1, .int .i64 (aw1 : Int)] 26))
  have HS1 := hidMk (hS1.still (Stil.new w1 (.cells #[.slice (some ⟨C1, 0, none⟩) pl pl, .slice va1 i1 vc1, .slice ia1 f1 ic1, .int .i64 (aw1 : Int)] 26)))
  have HL0 := hidMk (al_new w1 (.cells #[.slice (some ⟨C1, 0, none⟩) pl pl, .slice va1 i1 vc1, .slice ia1 f1 ic1, .int .i64 (aw1 : Int)] 26))
  clear hk1 hS1 HP hform
  go_wp2_with (fail)
  go_at_call 7
  refine (HP2.out _ HK1.out).mono ?_
  rintro e w2 ⟨⟨C2, va2, vc2, ia2, ic2, rfl, hS2⟩, hk2⟩
  have k3 : Stil _ (w2.alloc (.cells #[.slice (some ⟨C2, 0, none⟩) at0 at0, .slice va2 i2 vc2, .slice ia2 f2 ic2, .int .i64 (aw2 : Int)] 26)) := hk2.alloc _
  have HK2 := hidMk (Stil.tr HK1.out k3)
  have HS3 := hidMk (HS1.out.still k3)
  have HS4 := hidMk (hS2.still (Stil.new w2 (.cells #[.slice (some ⟨C2, 0, none⟩) at0 at0, .slice va2 i2 vc2, .slice ia2 f2 ic2, .int .i64 (aw2 : Int)] 26)))
  have b0 : (w2.alloc (.cells #[.slice (some ⟨C2, 0, none⟩) at0 at0, .slice va2 i2 vc2, .slice ia2 f2 ic2, .int .i64 (aw2 : Int)] 26)).cell? ⟨w2.heap.size, 0, none⟩ = some (.slice (some ⟨C2, 0, none⟩) at0 at0) := by rw [cell_of_row _ _ _ _ _ _ (al_new _ _)]; rfl
  have b1 : (w2.alloc (.cells #[.slice (some ⟨C2, 0, none⟩) at0 at0, .slice va2 i2 vc2, .slice ia2 f2 ic2, .int .i64 (aw2 : Int)] 26)).cell? ⟨w2.heap.size, 1, none⟩ = some (.slice va2 i2 vc2) := by rw [cell_of_row _ _ _ _ _ _ (al_new _ _)]; rfl
  have b2 : (w2.alloc (.cells #[.slice (some ⟨C2, 0, none⟩) at0 at0, .slice va2 i2 vc2, .slice ia2 f2 ic2, .int .i64 (aw2 : Int)] 26)).cell? ⟨w2.heap.size, 2, none⟩ = some (.slice ia2 f2 ic2) := by rw [cell_of_row _ _ _ _ _ _ (al_new _ _)]; rfl
  have b3 : (w2.alloc (.cells #[.slice (some ⟨C2, 0, none⟩) at0 at0, .slice va2 i2 vc2, .slice ia2 f2 ic2, .int .i64 (aw2 : Int)] 26)).cell? ⟨w2.heap.size, 3, none⟩ = some (.int .i64 (aw2 : Int)) := by rw [cell_of_row _ _ _ _ _ _ (al_new _ _)]; rfl
  have a0 : (w2.alloc (.cells #[.slice (some ⟨C2, 0, none⟩) at0 at0, .slice va2 i2 vc2, .slice ia2 f2 ic2, .int .i64 (aw2 : Int)] 26)).cell? ⟨w1.heap.size, 0, none⟩ = some (.slice (some ⟨C1, 0, none⟩) pl pl) := k3.cell (by rw [cell_of_row _ _ _ _ _ _ HL0.out]; rfl)
  have a1 : (w2.alloc (.cells #[.slice (some ⟨C2, 0, none⟩) at0 at0, .slice va2 i2 vc2, .slice ia2 f2 ic2, .int .i64 (aw2 : Int)] 26)).cell? ⟨w1.heap.size, 1, none⟩ = some (.slice va1 i1 vc1) := k3.cell (by rw [cell_of_row _ _ _ _ _ _ HL0.out]; rfl)
  clear hk2 k3 hS2 HK1 HS1 HL0 HP2
  go_wp2_with (fail)
  generalize (w2.alloc (.cells #[.slice (some ⟨C2, 0, none⟩) at0 at0, .slice va2 i2 vc2, .slice ia2 f2 ic2, .int .i64 (aw2 : Int)] 26)) = w3 at *
  generalize w1.heap.size = La at *
  generalize w2.heap.size = Lb at *
  have HBg : Hid (Calls Try.prog 12 #[.slice va2 i2 vc2, .slice va1 i1 vc1] w3 fun e w5 => e = .returned (.bool true) ∧ Stil w3 w5) := by
    have r1 := HS4.out.ins
    have r2 := HS3.out.ins
    rw [HRr.out, natsI_app] at r2
    have := beginsI_true r1 r2 (by rw [← HRr.out, HI1.out]; omega)
    rw [← HRr.out, HI1.out, HI2.out] at this
    refine this.mono ?_
    rintro e w5 ⟨rfl, n5, rfl⟩
    exact ⟨rfl, Stil.drewN _ _⟩
  go_at_call 12
  refine (HBg.out).mono ?_
  rintro e w4 ⟨rfl, hk4⟩
  have HK4 := hidMk (HK2.out.tr hk4)
  have c0 := hk4.cell b0
  have c1 := hk4.cell b1
  have c2 := hk4.cell b2
  have c3 := hk4.cell b3
  have d1' := hk4.cell a1
  have HS5 := hidMk (HS3.out.still hk4)
  have HS6 := hidMk (HS4.out.still hk4)
  clear hk4 b0 b1 b2 b3 a0 a1 HS3 HS4 HBg HK2
  go_wp2_with (fail)
  have HAk2 := hidMk (fun (w9 : World) (h9 : Stil w4 w9) => HAk.out w9 C2 (HK4.out.tr h9) (HS6.out.codes.still h9))
  go_region_with (go_at_call 13; refine (HAk2.out _ ?hk).mono ?_; (case hk => exact (Keep.refl _ _).drew); rintro e w5 ⟨la, lc, rfl, hrow, hk5⟩; have hk6 : Stil w4 w5 := Stil.tr ((Keep.refl _ _).drew) hk5; have HRow := hidMk hrow; have HK6 := hidMk hk6; clear hrow hk5)
  have HK5 := hidMk (HK4.out.tr HK6.out)
  have x1 := HK6.out.cell c1
  have x2 := HK6.out.cell c2
  have x3 := HK6.out.cell c3
  have x4 := HK6.out.cell d1'
  have HIn := hidMk (HS6.out.inside.still HK6.out)
  have HRi := hidMk (HS5.out.ins.still HK6.out)
  rw [HF2.out] at HIn
  rw [HI1.out] at HRi
  clear c0 c1 c2 c3 d1' HS5 HS6 HAk2 HK4 hk6
  try rw [HAl.out]
  have HPa := hidMk (fun z : Int => position_any HRow.out (by omega) z)
  have HPb := hidMk (fun z : Int => position_any HIn.out (by omega) z)
  by_cases ea : aw2 = 0
  case neg =>
    have ea' : decide (0 < (aw2 : Int)) = true := decide_eq_true (by omega)
    have ea2 : (0 : Int) < (aw2 : Int) := by omega
    go_wp2
    go_ret
    exact ⟨rfl, Stil.below HK5.out⟩
  case pos =>
    subst ea
    by_cases h1 : posI A zi < 0
    case pos =>
      have h1' : decide (posI A zi < 0) = true := decide_eq_true h1
      go_wp2_with (fail)
      go_at_call 14
      refine (HPa.out zi).mono ?_
      rintro e w' ⟨rfl, hw⟩
      obtain rfl := hw.symm
      generalize posI A zi = p1 at *
      go_wp2
      go_ret
      exact ⟨rfl, Stil.below HK5.out⟩
    case neg =>
      have h1' : decide (posI A zi < 0) = false := decide_eq_false h1
      have hm1 := posI_mem (show 0 ≤ posI A zi by omega)
      have HM1 := hidMk hm1
      go_wp2_with (fail)
      go_at_call 14
      refine (HPa.out zi).mono ?_
      rintro e w' ⟨rfl, hw⟩
      obtain rfl := hw.symm
      generalize hp1 : posI A zi = p1 at *
      clear hp1 hm1
      by_cases h2 : 0 ≤ posI (natsI (insideM n S2)) zi
      case pos =>
        have h2' : decide (0 ≤ posI (natsI (insideM n S2)) zi) = true := decide_eq_true h2
        go_wp2_with (fail)
        go_at_call 14
        refine (HPb.out zi).mono ?_
        rintro e w' ⟨rfl, hw⟩
        obtain rfl := hw.symm
        generalize posI (natsI (insideM n S2)) zi = p2 at *
        go_wp2
        go_ret
        exact ⟨rfl, Stil.below HK5.out⟩
      case neg =>
        have h2' : decide (0 ≤ posI (natsI (insideM n S2)) zi) = false := decide_eq_false h2
        have HM2 : Hid (zi ∉ natsI (insideM n S2)) := fun e => h2 (posI_ge e)
        go_wp2_with (fail)
        go_at_call 14
        refine (HPb.out zi).mono ?_
        rintro e w' ⟨rfl, hw⟩
        obtain rfl := hw.symm
        generalize hp2 : posI (natsI (insideM n S2)) zi = p2 at *
        clear hp2
        by_cases h3 : 0 ≤ posI A zj
        case pos =>
          have h3' : decide (0 ≤ posI A zj) = true := decide_eq_true h3
          go_wp2_with (fail)
          go_at_call 14
          refine (HPa.out zj).mono ?_
          rintro e w' ⟨rfl, hw⟩
          obtain rfl := hw.symm
          generalize posI A zj = p3 at *
          go_wp2
          go_ret
          exact ⟨rfl, Stil.below HK5.out⟩
        case neg =>
          have h3' : decide (0 ≤ posI A zj) = false := decide_eq_false h3
          have HM3 : Hid (zj ∉ A) := fun e => h3 (posI_ge e)
          have hfin := HFp.out (by first | exact rfl | trivial) HM1.out HM2.out HM3.out
          go_wp2_with (fail)
          go_at_call 14
          refine (HPa.out zj).mono ?_
          rintro e w' ⟨rfl, hw⟩
          obtain rfl := hw.symm
          generalize hp3 : posI A zj = p3 at *
          clear hp3 HM1 HM2 HM3 HPa HPb
          rcases HFo.out with ⟨rfl, hl0, rfl⟩ | ⟨gv, ov, rfl, hlc, hlm⟩
          · obtain rfl : i1 = 0 := hl0
            have hi12 := HI12.out
            obtain rfl : i2 = 0 := by omega
            obtain rfl : d1 = 0 := by omega
            clear hi12
            have hrn : rr = [] := List.eq_nil_of_length_eq_zero HD1.out
            have HRs : Hid (∀ z, Calls Try.prog 14 #[.slice none 0 0, .int .i64 z] w5 fun e w' => e = .returned (.int .i64 (posI (natsI rr) z)) ∧ w' = w5) := fun z => by
              have e0 : rr = [] := hrn
              rw [e0]
              exact position_any (RowI.nil w5) (by omega) z
            rcases hfin with hf | ⟨hf1, hf2⟩
            · have q1 : decide (posI (natsI rr) zj < 0) = true := decide_eq_true hf
              go_wp2_with (fail)
              go_at_call 14
              refine (HRs.out  zi).mono ?_
              rintro e w' ⟨rfl, hw⟩
              obtain rfl := hw.symm
              go_wp2_with (fail)
              go_at_call 14
              refine (HRs.out  zj).mono ?_
              rintro e w' ⟨rfl, hw⟩
              obtain rfl := hw.symm
              go_wp2
              go_ret
              exact ⟨rfl, Stil.below HK5.out⟩
            · have q1 : decide (posI (natsI rr) zj < 0) = false := decide_eq_false (by omega)
              have q2 : decide (0 ≤ posI (natsI rr) zi) = true := decide_eq_true hf1
              have q3 : decide (posI (natsI rr) zi < posI (natsI rr) zj) = true := decide_eq_true hf2
              go_wp2_with (fail)
              go_at_call 14
              refine (HRs.out  zi).mono ?_
              rintro e w' ⟨rfl, hw⟩
              obtain rfl := hw.symm
              go_wp2_with (fail)
              go_at_call 14
              refine (HRs.out  zj).mono ?_
              rintro e w' ⟨rfl, hw⟩
              obtain rfl := hw.symm
              go_wp2
              go_ret
              exact ⟨rfl, Stil.below HK5.out⟩
          · by_cases hce : vc1 = i2
            · subst hce
              have hi12 := HI12.out
              obtain rfl : d1 = 0 := by omega
              obtain rfl : i1 = vc1 := by omega
              clear hi12
              have hrn : rr = [] := List.eq_nil_of_length_eq_zero HD1.out
              have HRs : Hid (∀ (a : Option Addr) (c : Nat) z, Calls Try.prog 14 #[.slice a 0 c, .int .i64 z] w5 fun e w' => e = .returned (.int .i64 (posI (natsI rr) z)) ∧ w' = w5) := fun a c z => by
                have e0 : rr = [] := hrn
                rw [e0]
                exact position_any (⟨rfl, Nat.zero_le _, Nat.zero_le _, .inl rfl⟩ : RowI w5 a 0 c []) (by omega) z
              rcases hfin with hf | ⟨hf1, hf2⟩
              · have q1 : decide (posI (natsI rr) zj < 0) = true := decide_eq_true hf
                go_wp2_with (fail)
                go_at_call 14
                refine (HRs.out _ _ zi).mono ?_
                rintro e w' ⟨rfl, hw⟩
                obtain rfl := hw.symm
                go_wp2_with (fail)
                go_at_call 14
                refine (HRs.out _ _ zj).mono ?_
                rintro e w' ⟨rfl, hw⟩
                obtain rfl := hw.symm
                go_wp2
                go_ret
                exact ⟨rfl, Stil.below HK5.out⟩
              · have q1 : decide (posI (natsI rr) zj < 0) = false := decide_eq_false (by omega)
                have q2 : decide (0 ≤ posI (natsI rr) zi) = true := decide_eq_true hf1
                have q3 : decide (posI (natsI rr) zi < posI (natsI rr) zj) = true := decide_eq_true hf2
                go_wp2_with (fail)
                go_at_call 14
                refine (HRs.out _ _ zi).mono ?_
                rintro e w' ⟨rfl, hw⟩
                obtain rfl := hw.symm
                go_wp2_with (fail)
                go_at_call 14
                refine (HRs.out _ _ zj).mono ?_
                rintro e w' ⟨rfl, hw⟩
                obtain rfl := hw.symm
                go_wp2
                go_ret
                exact ⟨rfl, Stil.below HK5.out⟩
            · obtain ⟨c1, rfl⟩ : ∃ c1, vc1 = i2 + (c1 + 1) := ⟨vc1 - i2 - 1, by have hi12 := HI12.out; omega⟩
              obtain rfl : i1 = i2 + d1 := HI12.out
              have hrow5 : RowI w5 (some ⟨gv, ov + i2, none⟩) d1 (c1 + 1) (natsI rr) := by
                obtain ⟨r1, r2, r3, r4⟩ := HRi.out
                refine ⟨by rw [natsI_len]; exact HD1.out, by omega, by omega, ?_⟩
                rcases r4 with r4 | ⟨b, off, e5, hb, hr⟩
                · exact .inl (by omega)
                · simp only [Option.some.injEq, Addr.mk.injEq] at e5
                  obtain ⟨rfl, rfl, _⟩ := e5
                  refine .inr ⟨_, _, rfl, hb, fun q x hx => ?_⟩
                  have h7 := hr (i2 + q) x (by rw [HRr.out, natsI_app, List.getElem?_append_right (by rw [natsI_len, HI2.out]; omega), natsI_len, HI2.out, show i2 + q - i2 = q by omega]; exact hx)
                  rw [← Nat.add_assoc] at h7
                  exact h7
              have HRs : Hid (∀ z, Calls Try.prog 14 #[.slice (some ⟨gv, ov + i2, none⟩) d1 (c1 + 1), .int .i64 z] w5 fun e w' => e = .returned (.int .i64 (posI (natsI rr) z)) ∧ w' = w5) := fun z => position_any hrow5 (by omega) z
              clear hrow5 HRi
              rcases hfin with hf | ⟨hf1, hf2⟩
              · have q1 : decide (posI (natsI rr) zj < 0) = true := decide_eq_true hf
                go_wp2_with (fail)
                go_at_call 14
                refine (HRs.out  zi).mono ?_
                rintro e w' ⟨rfl, hw⟩
                obtain rfl := hw.symm
                go_wp2_with (fail)
                go_at_call 14
                refine (HRs.out  zj).mono ?_
                rintro e w' ⟨rfl, hw⟩
                obtain rfl := hw.symm
                go_wp2
                go_ret
                exact ⟨rfl, Stil.below HK5.out⟩
              · have q1 : decide (posI (natsI rr) zj < 0) = false := decide_eq_false (by omega)
                have q2 : decide (0 ≤ posI (natsI rr) zi) = true := decide_eq_true hf1
                have q3 : decide (posI (natsI rr) zi < posI (natsI rr) zj) = true := decide_eq_true hf2
                go_wp2_with (fail)
                go_at_call 14
                refine (HRs.out  zi).mono ?_
                rintro e w' ⟨rfl, hw⟩
                obtain rfl := hw.symm
                go_wp2_with (fail)
                go_at_call 14
                refine (HRs.out  zj).mono ?_
                rintro e w' ⟨rfl, hw⟩
                obtain rfl := hw.symm
                go_wp2
                go_ret
                exact ⟨rfl, Stil.below HK5.out⟩

theorem fair_walk {W : World} {z k zi zj : Int} {pa : Option Addr} {pl pc : Nat} {ps : List Cst} (hp : CameC W pa pl pc ps) (hsz : pl * 24 ≤ 140737488351232) (hk : (Lit.int .u8 k).wf = true) :
    Calls Try.prog 6 #[.int .i64 z, .slice pa pl pc, .int .u8 k, .int .i64 zi, .int .i64 zj] W fun e W2 => e = .returned (.bool true) ∧ Below W.heap.size W W2 := by
  obtain ⟨h1, h2⟩ := u8_in hk
  obtain ⟨kn, rfl⟩ : ∃ x : Nat, k = x := ⟨k.toNat, by omega⟩
  by_cases hz : castCode z pl = 0
  · obtain ⟨n, rfl, h0, h6, h120⟩ := castCode_zero hz
    exact fair_ok hp (by omega) h0 h6 h120
  · exact fair_bad hp hsz (by omega) hz
end Go.Proofs.Yteighidkhopcoaa
