/- folkmootkeep.MutexOne, walked. -/
import Derived.Test.YteighidkhopcoaaMd0
namespace Go.Proofs.Yteighidkhopcoaa
open Go.RowKit
set_option linter.unusedVariables false

set_option maxRecDepth 100000 in
set_option maxHeartbeats 4000000 in
theorem one_bad {W : World} {pa : Option Addr} {z : Int} {pl pc kn : Nat} {ps : List Cst} (hp : CameC W pa pl pc ps) (hsz : pl * 24 ≤ 140737488351232) (hk : kn ≤ 255) (hz : castCode z pl ≠ 0) :
    Calls Try.prog 4 #[.int .i64 z, .slice pa pl pc, .int .u8 (kn : Int)] W fun e W2 => e = .returned (.bool true) ∧ Below W.heap.size W W2 := by
  have HP := hidMk (play_badM (W := W) (pa := pa) (pc := pc) hz hp.2.2.1)
  generalize hat : kn % (pl + 1) = at0
  have hat1 : at0 ≤ pl := by rw [← hat]; have := Nat.mod_lt kn (show 0 < pl + 1 by omega); omega
  have hmod : (kn : Int).tmod ((pl : Int) + 1) = (at0 : Int) := by rw [← hat]; rfl
  have hmod2 : (kn : Int) % ((pl : Int) + 1) = (at0 : Int) := by rw [← hat]; rfl
  have hpl' : (pl : Int) ≤ 5864062014806 := by omega
  have hcap := hp.2.1
  have hat2 : (at0 : Int) ≤ (pc : Int) := by omega
  have hkn : (kn : Int) ≤ 255 := by omega
  have HP2 := hidMk (fun (w1 : World) (hw1 : Stil W w1) => play_anyM (z := z) ((hp.take hat1).keep hw1 (fun _ _ e => e)))
  clear hz hp hat
  go_enter Try.func4, Try.ntmps4
  go_wp2_with (fail)
  go_at_call 7
  refine (HP.out).mono ?_
  rintro e w1 ⟨rfl, hk1⟩
  have HK1 := hidMk (hk1.alloc (.cells #[.slice none 0 0, .slice none 0 0, .slice none 0 0, .int .i64 0] 26))
  have HL0 := hidMk (al_new w1 (.cells #[.slice none 0 0, .slice none 0 0, .slice none 0 0, .int .i64 0] 26))
  clear hk1 HP
  go_wp2_with (fail)
  go_at_call 7
  refine (HP2.out _ HK1.out).mono ?_
  rintro e w2 ⟨⟨a, b, c, d, f, g, a2, b2, c2, y, x, rfl⟩, hk2⟩
  have HK2 := hidMk (Stil.tr HK1.out hk2)
  have a0 : (w2.alloc (.cells #[.slice a b c, .slice d f g, .slice a2 b2 c2, .int .i64 y] 26)).cell? ⟨w1.heap.size, 0, none⟩ = some (.slice none 0 0) := Stil.cell (hk2.alloc _) (by rw [cell_of_row _ _ _ _ _ _ HL0.out]; rfl)
  clear hk2 HK1 HP2
  go_wp2
  go_ret
  exact ⟨rfl, Stil.below (HK2.out.alloc _)⟩

set_option maxRecDepth 100000 in
set_option maxHeartbeats 8000000 in
theorem one_ok {W : World} {pa : Option Addr} {n pl pc kn : Nat} {ps : List Cst} (hp : CameC W pa pl pc ps) (hk : kn ≤ 255) (h0 : 0 < n) (h6 : n ≤ 6) (hpl : pl ≤ 120) :
    Calls Try.prog 4 #[.int .i64 (n : Int), .slice pa pl pc, .int .u8 (kn : Int)] W fun e W2 => e = .returned (.bool true) ∧ Below W.heap.size W W2 := by
  have HP := hidMk (play_seenM hp h0 h6 hpl)
  generalize hat : kn % (pl + 1) = at0
  have hat1 : at0 ≤ pl := by rw [← hat]; have := Nat.mod_lt kn (show 0 < pl + 1 by omega); omega
  have hmod : (kn : Int).tmod ((pl : Int) + 1) = (at0 : Int) := by rw [← hat]; rfl
  have hmod2 : (kn : Int) % ((pl : Int) + 1) = (at0 : Int) := by rw [← hat]; rfl
  have hpl' : (pl : Int) ≤ 120 := by omega
  have hcap := hp.2.1
  have hat2 : (at0 : Int) ≤ (pc : Int) := by omega
  have hat3 : (at0 : Int) ≤ (pl : Int) := by omega
  have hkn : (kn : Int) ≤ 255 := by omega
  have HP2 := hidMk (fun (w1 : World) (hw1 : Stil W w1) => play_seenM ((hp.take hat1).keep hw1 (fun _ _ e => e)) h0 h6 (by omega))
  have e1 : msAt n (ps.take at0) at0 = msAt n ps at0 := msat_same n _ _ _ (fun j hj => takeM_same ps at0 j hj)
  have e2 : (List.range at0).map (mcAt n (ps.take at0)) = (List.range at0).map (mcAt n ps) := by
    apply List.map_congr_left
    intro k hk
    rw [List.mem_range] at hk
    exact mc_same n _ _ _ (fun j hj => takeM_same ps at0 j (by omega))
  have hpre : ∃ r, (msAt n ps pl).ins = (msAt n ps at0).ins ++ r := by
    have := ins_pre n ps at0 (pl - at0)
    rwa [show at0 + (pl - at0) = pl by omega] at this
  have hll : (msAt n ps pl).ins.length ≤ 120 := by have := (mb_at (n := n) (by omega) ps pl).ins; omega
  have hf1 : (insideM n (msAt n ps pl)).length ≤ 1 := inside_few (mb_at (n := n) (by omega) ps pl).inv
  have hf2 : (insideM n (msAt n ps at0)).length ≤ 1 := inside_few (mb_at (n := n) (by omega) ps at0).inv
  rw [e1] at HP2
  have HE2 := hidMk e2
  have HPre := hidMk hpre
  have hf1' : ((insideM n (msAt n ps pl)).length : Int) ≤ 1 := by omega
  have hf2' : ((insideM n (msAt n ps at0)).length : Int) ≤ 1 := by omega
  generalize msAt n ps pl = S1 at *
  generalize msAt n ps at0 = S2 at *
  generalize mcAt n ps = cd1 at *
  generalize mcAt n (ps.take at0) = cd2 at *
  clear hp hat e1 e2 hpre
  go_enter Try.func4, Try.ntmps4
  go_wp2_with (fail)
  go_at_call 7
  refine (HP.out).mono ?_
  rintro e w1 ⟨⟨C1, va1, vc1, ia1, ic1, rfl, hS1⟩, hk1⟩
  generalize (insideM n S1).length = f1 at *
  generalize (insideM n S2).length = f2 at *
  generalize (awayM n S1 : Int) = aw1 at *
  generalize (awayM n S2 : Int) = aw2 at *
  have HK1 := hidMk (hk1.alloc (.cells #[.slice (some ⟨C1, 0, none⟩) pl pl, .slice va1 S1.ins.length vc1, .slice ia1 f1 ic1, .int .i64 aw1] 26))
  have HS1 := hidMk (hS1.still (Stil.new w1 (.cells #[.slice (some ⟨C1, 0, none⟩) pl pl, .slice va1 S1.ins.length vc1, .slice ia1 f1 ic1, .int .i64 aw1] 26)))
  have HL0 := hidMk (al_new w1 (.cells #[.slice (some ⟨C1, 0, none⟩) pl pl, .slice va1 S1.ins.length vc1, .slice ia1 f1 ic1, .int .i64 aw1] 26))
  clear hk1 hS1 HP
  go_wp2_with (fail)
  go_at_call 7
  refine (HP2.out _ HK1.out).mono ?_
  rintro e w2 ⟨⟨C2, va2, vc2, ia2, ic2, rfl, hS2⟩, hk2⟩
  have k3 : Stil _ (w2.alloc (.cells #[.slice (some ⟨C2, 0, none⟩) at0 at0, .slice va2 S2.ins.length vc2, .slice ia2 f2 ic2, .int .i64 aw2] 26)) := hk2.alloc _
  have HK2 := hidMk (Stil.tr HK1.out k3)
  have HS3 := hidMk (HS1.out.still k3)
  have HS4 := hidMk (hS2.still (Stil.new w2 (.cells #[.slice (some ⟨C2, 0, none⟩) at0 at0, .slice va2 S2.ins.length vc2, .slice ia2 f2 ic2, .int .i64 aw2] 26)))
  have b0 : (w2.alloc (.cells #[.slice (some ⟨C2, 0, none⟩) at0 at0, .slice va2 S2.ins.length vc2, .slice ia2 f2 ic2, .int .i64 aw2] 26)).cell? ⟨w2.heap.size, 0, none⟩ = some (.slice (some ⟨C2, 0, none⟩) at0 at0) := by rw [cell_of_row _ _ _ _ _ _ (al_new _ _)]; rfl
  have b1 : (w2.alloc (.cells #[.slice (some ⟨C2, 0, none⟩) at0 at0, .slice va2 S2.ins.length vc2, .slice ia2 f2 ic2, .int .i64 aw2] 26)).cell? ⟨w2.heap.size, 1, none⟩ = some (.slice va2 S2.ins.length vc2) := by rw [cell_of_row _ _ _ _ _ _ (al_new _ _)]; rfl
  have b2 : (w2.alloc (.cells #[.slice (some ⟨C2, 0, none⟩) at0 at0, .slice va2 S2.ins.length vc2, .slice ia2 f2 ic2, .int .i64 aw2] 26)).cell? ⟨w2.heap.size, 2, none⟩ = some (.slice ia2 f2 ic2) := by rw [cell_of_row _ _ _ _ _ _ (al_new _ _)]; rfl
  have a0 : (w2.alloc (.cells #[.slice (some ⟨C2, 0, none⟩) at0 at0, .slice va2 S2.ins.length vc2, .slice ia2 f2 ic2, .int .i64 aw2] 26)).cell? ⟨w1.heap.size, 0, none⟩ = some (.slice (some ⟨C1, 0, none⟩) pl pl) := k3.cell (by rw [cell_of_row _ _ _ _ _ _ HL0.out]; rfl)
  have a1 : (w2.alloc (.cells #[.slice (some ⟨C2, 0, none⟩) at0 at0, .slice va2 S2.ins.length vc2, .slice ia2 f2 ic2, .int .i64 aw2] 26)).cell? ⟨w1.heap.size, 1, none⟩ = some (.slice va1 S1.ins.length vc1) := k3.cell (by rw [cell_of_row _ _ _ _ _ _ HL0.out]; rfl)
  have a2 : (w2.alloc (.cells #[.slice (some ⟨C2, 0, none⟩) at0 at0, .slice va2 S2.ins.length vc2, .slice ia2 f2 ic2, .int .i64 aw2] 26)).cell? ⟨w1.heap.size, 2, none⟩ = some (.slice ia1 f1 ic1) := k3.cell (by rw [cell_of_row _ _ _ _ _ _ HL0.out]; rfl)
  clear hk2 k3 hS2 HK1 HS1 HL0 HP2
  go_wp2_with (fail)
  generalize w2.alloc (.cells #[.slice (some ⟨C2, 0, none⟩) at0 at0, .slice va2 S2.ins.length vc2, .slice ia2 f2 ic2, .int .i64 aw2] 26) = w3 at *
  generalize w1.heap.size = La at *
  generalize w2.heap.size = Lb at *
  have HCo : Hid (∀ q, Calls Try.prog 11 #[.slice (some ⟨C2, 0, none⟩) at0 at0, .slice (some ⟨C1, 0, none⟩) at0 pl] (w3.drewN q) fun e w5 => e = .returned (.bool true) ∧ ∃ m, w5 = w3.drewN m) := fun q => by
    have r1 := (HS4.out.still (Stil.drewN w3 q)).codes
    have r2 := ((HS3.out.still (Stil.drewN w3 q)).codes).take hat1
    have e3 : ((List.range pl).map cd1).take at0 = (List.range at0).map cd2 := by
      rw [HE2.out, ← List.map_take, List.take_range, Nat.min_eq_left hat1]
    rw [e3] at r2
    refine (codesI_same r1 r2 (by omega)).mono ?_
    rintro e w5 ⟨rfl, m, rfl⟩
    exact ⟨rfl, q + m, drewN_plus _ _ _⟩
  have HBg : Hid (∀ q, Calls Try.prog 12 #[.slice va2 S2.ins.length vc2, .slice va1 S1.ins.length vc1] (w3.drewN q) fun e w5 => e = .returned (.bool true) ∧ ∃ m, w5 = w3.drewN m) := fun q => by
    obtain ⟨rr, hrr⟩ := HPre.out
    have r1 := (HS4.out.still (Stil.drewN w3 q)).ins
    have r2 := (HS3.out.still (Stil.drewN w3 q)).ins
    rw [hrr, natsI_app] at r2
    have := beginsI_true r1 r2 (by rw [← hrr]; omega)
    rw [← hrr] at this
    refine this.mono ?_
    rintro e w5 ⟨rfl, n5, rfl⟩
    exact ⟨rfl, q + n5, drewN_plus _ _ _⟩
  clear hll
  generalize S1.ins.length = i1 at *
  generalize S2.ins.length = i2 at *
  go_quiet (first | (go_at_call 11; exact HCo.out _) | (go_at_call 12; exact HBg.out _))
  go_wp2
  go_ret
  exact ⟨rfl, Stil.below (HK2.out.tr (Stil.drewN _ _))⟩

theorem one_walk {W : World} {z k : Int} {pa : Option Addr} {pl pc : Nat} {ps : List Cst} (hp : CameC W pa pl pc ps) (hsz : pl * 24 ≤ 140737488351232) (hk : (Lit.int .u8 k).wf = true) :
    Calls Try.prog 4 #[.int .i64 z, .slice pa pl pc, .int .u8 k] W fun e W2 => e = .returned (.bool true) ∧ Below W.heap.size W W2 := by
  obtain ⟨h1, h2⟩ := u8_in hk
  obtain ⟨kn, rfl⟩ : ∃ x : Nat, k = x := ⟨k.toNat, by omega⟩
  by_cases hz : castCode z pl = 0
  · obtain ⟨n, rfl, h0, h6, h120⟩ := castCode_zero hz
    exact one_ok hp (by omega) h0 h6 h120
  · exact one_bad hp hsz (by omega) hz
end Go.Proofs.Yteighidkhopcoaa
