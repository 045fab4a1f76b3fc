/- folkmootkeep.BakeryFront, walked. -/
import Derived.Test.YtgnigjfgddhgiaaBb0
namespace Go.Proofs.Ytgnigjfgddhgiaa
open Go.RowKit
set_option linter.unusedVariables false

set_option maxRecDepth 100000 in
set_option maxHeartbeats 4000000 in
theorem bfront_bad {W : World} {pa : Option Addr} {z : Int} {pl pc kn : Nat} {zs : List Int} (hp : RowI W pa pl pc zs) (hsz : pl * 8 ≤ 140737488351232) (hk : kn ≤ 255) (hz : bakCode z pl ≠ 0) :
    Calls Try.prog 7 #[.int .i64 z, .slice pa pl pc, .int .u8 (kn : Int)] W fun e W2 => e = .returned (.bool true) ∧ Below W.heap.size W W2 := by
  have HP := hidMk (play_badB (W := W) (pa := pa) (pc := pc) hz hp.2.2.1)
  generalize hat : kn % (pl + 1) = at0
  have hat1 : at0 ≤ pl := by rw [← hat]; have := Nat.mod_lt kn (show 0 < pl + 1 by omega); omega
  have hmod : (kn : Int).tmod ((pl : Int) + 1) = (at0 : Int) := by rw [← hat]; rfl
  have hmod2 : (kn : Int) % ((pl : Int) + 1) = (at0 : Int) := by rw [← hat]; rfl
  have hpl' : (pl : Int) ≤ 17592186043904 := by omega
  have hcap := hp.2.1
  have hat2 : (at0 : Int) ≤ (pc : Int) := by omega
  have hkn : (kn : Int) ≤ 255 := by omega
  have HP2 := hidMk (fun (w1 : World) (hw1 : Stil W w1) => play_anyB (z := z) ((hp.take hat1).still hw1))
  clear hz hp hat
  go_enter Try.func7, Try.ntmps7
  go_wp2_with (fail)
  go_at_call 8
  refine (HP.out).mono ?_
  rintro e w1 ⟨rfl, hk1⟩
  have HK1 := hidMk (hk1.alloc (.cells #[.slice none 0 0, .slice none 0 0, .slice none 0 0, .slice none 0 0, .slice none 0 0] 26))
  clear hk1 HP
  go_wp2_with (fail)
  go_at_call 8
  refine (HP2.out _ HK1.out).mono ?_
  rintro e w2 ⟨⟨a, b, c, d, f, g, a2, b2, c2, a3, b3, c3, a4, b4, c4, x, rfl⟩, hk2⟩
  have HK2 := hidMk (Stil.tr HK1.out hk2)
  clear hk2 HK1 HP2
  go_wp2
  go_ret
  exact ⟨rfl, Stil.below (HK2.out.alloc _)⟩

set_option maxRecDepth 100000 in
set_option maxHeartbeats 8000000 in
theorem bfront_ok {W : World} {pa : Option Addr} {n pl pc kn : Nat} {zs : List Int} (hp : RowI W pa pl pc zs) (hk : kn ≤ 255) (h0 : 0 < n) (h4 : n ≤ 4) (hpl : pl ≤ 120) :
    Calls Try.prog 7 #[.int .i64 (n : Int), .slice pa pl pc, .int .u8 (kn : Int)] W fun e W2 => e = .returned (.bool true) ∧ Below W.heap.size W W2 := by
  have HP := hidMk (play_seenB hp h0 h4 hpl)
  generalize hat : kn % (pl + 1) = at0
  have hat1 : at0 ≤ pl := by rw [← hat]; have := Nat.mod_lt kn (show 0 < pl + 1 by omega); omega
  have hmod : (kn : Int).tmod ((pl : Int) + 1) = (at0 : Int) := by rw [← hat]; rfl
  have hmod2 : (kn : Int) % ((pl : Int) + 1) = (at0 : Int) := by rw [← hat]; rfl
  have hpl' : (pl : Int) ≤ 120 := by omega
  have hcap := hp.2.1
  have hat2 : (at0 : Int) ≤ (pc : Int) := by omega
  have hat3 : (at0 : Int) ≤ (pl : Int) := by omega
  have hkn : (kn : Int) ≤ 255 := by omega
  have HP2 := hidMk (fun (w1 : World) (hw1 : Stil W w1) => play_seenB ((hp.take hat1).still hw1) h0 h4 (by omega))
  have e1 : bsAt n (zs.take at0) at0 = bsAt n zs at0 := bsat_same n _ _ _ (fun j hj => takeB_same zs at0 j hj)
  have e2 : (List.range at0).map (bcAt n (zs.take at0)) = (List.range at0).map (bcAt n zs) := by
    apply List.map_congr_left
    intro k hk
    rw [List.mem_range] at hk
    exact bc_same n _ _ _ (fun j hj => takeB_same zs at0 j (by omega))
  have hpre : ∃ r, (bsAt n zs pl).ins = (bsAt n zs at0).ins ++ r := by
    have := ins_preB n zs at0 (pl - at0)
    rwa [show at0 + (pl - at0) = pl by omega] at this
  have hll : (bsAt n zs pl).ins.length ≤ 120 := by have := (binv_at n zs pl).ins; omega
  rw [e1] at HP2
  have HE2 := hidMk e2
  have HPre := hidMk hpre
  generalize bsAt n zs pl = S1 at *
  generalize bsAt n zs at0 = S2 at *
  generalize bcAt n zs = cd1 at *
  generalize bcAt n (zs.take at0) = cd2 at *
  clear hp hat e1 e2 hpre
  go_enter Try.func7, Try.ntmps7
  go_wp2_with (fail)
  go_at_call 8
  refine (HP.out).mono ?_
  rintro e w1 ⟨⟨C1, a1, c1, a2, c2, a3, c3, va1, vc1, rfl, hS1⟩, hk1⟩
  have HK1 := hidMk (hk1.alloc (.cells #[.slice (some ⟨C1, 0, none⟩) pl pl, .slice a1 n c1, .slice a2 n c2, .slice a3 n c3, .slice va1 S1.ins.length vc1] 26))
  have HS1 := hidMk (hS1.still (Stil.new w1 (.cells #[.slice (some ⟨C1, 0, none⟩) pl pl, .slice a1 n c1, .slice a2 n c2, .slice a3 n c3, .slice va1 S1.ins.length vc1] 26)))
  have HL0 := hidMk (al_new w1 (.cells #[.slice (some ⟨C1, 0, none⟩) pl pl, .slice a1 n c1, .slice a2 n c2, .slice a3 n c3, .slice va1 S1.ins.length vc1] 26))
  clear hk1 hS1 HP
  go_wp2_with (fail)
  go_at_call 8
  refine (HP2.out _ HK1.out).mono ?_
  rintro e w2 ⟨⟨C2, b1, d1, b2, d2, b3, d3, va2, vc2, rfl, hS2⟩, hk2⟩
  have k3 : Stil _ (w2.alloc (.cells #[.slice (some ⟨C2, 0, none⟩) at0 at0, .slice b1 n d1, .slice b2 n d2, .slice b3 n d3, .slice va2 S2.ins.length vc2] 26)) := hk2.alloc _
  have HK2 := hidMk (Stil.tr HK1.out k3)
  have HS3 := hidMk (HS1.out.still k3)
  have HS4 := hidMk (hS2.still (Stil.new w2 (.cells #[.slice (some ⟨C2, 0, none⟩) at0 at0, .slice b1 n d1, .slice b2 n d2, .slice b3 n d3, .slice va2 S2.ins.length vc2] 26)))
  have y0 : (w2.alloc (.cells #[.slice (some ⟨C2, 0, none⟩) at0 at0, .slice b1 n d1, .slice b2 n d2, .slice b3 n d3, .slice va2 S2.ins.length vc2] 26)).cell? ⟨w2.heap.size, 0, none⟩ = some (.slice (some ⟨C2, 0, none⟩) at0 at0) := by rw [cell_of_row _ _ _ _ _ _ (al_new _ _)]; rfl
  have y4 : (w2.alloc (.cells #[.slice (some ⟨C2, 0, none⟩) at0 at0, .slice b1 n d1, .slice b2 n d2, .slice b3 n d3, .slice va2 S2.ins.length vc2] 26)).cell? ⟨w2.heap.size, 4, none⟩ = some (.slice va2 S2.ins.length vc2) := by rw [cell_of_row _ _ _ _ _ _ (al_new _ _)]; rfl
  have x0 : (w2.alloc (.cells #[.slice (some ⟨C2, 0, none⟩) at0 at0, .slice b1 n d1, .slice b2 n d2, .slice b3 n d3, .slice va2 S2.ins.length vc2] 26)).cell? ⟨w1.heap.size, 0, none⟩ = some (.slice (some ⟨C1, 0, none⟩) pl pl) := k3.cell (by rw [cell_of_row _ _ _ _ _ _ HL0.out]; rfl)
  have x1 : (w2.alloc (.cells #[.slice (some ⟨C2, 0, none⟩) at0 at0, .slice b1 n d1, .slice b2 n d2, .slice b3 n d3, .slice va2 S2.ins.length vc2] 26)).cell? ⟨w1.heap.size, 1, none⟩ = some (.slice a1 n c1) := k3.cell (by rw [cell_of_row _ _ _ _ _ _ HL0.out]; rfl)
  have x4 : (w2.alloc (.cells #[.slice (some ⟨C2, 0, none⟩) at0 at0, .slice b1 n d1, .slice b2 n d2, .slice b3 n d3, .slice va2 S2.ins.length vc2] 26)).cell? ⟨w1.heap.size, 4, none⟩ = some (.slice va1 S1.ins.length vc1) := k3.cell (by rw [cell_of_row _ _ _ _ _ _ HL0.out]; rfl)
  clear hk2 k3 hS2 HK1 HS1 HL0 HP2
  go_wp2_with (fail)
  generalize w2.alloc (.cells #[.slice (some ⟨C2, 0, none⟩) at0 at0, .slice b1 n d1, .slice b2 n d2, .slice b3 n d3, .slice va2 S2.ins.length vc2] 26) = w3 at *
  generalize w1.heap.size = La at *
  generalize w2.heap.size = Lb at *
  have HCo : Hid (∀ q, Calls Try.prog 14 #[.slice (some ⟨C2, 0, none⟩) at0 at0, .slice (some ⟨C1, 0, none⟩) at0 pl] (w3.drewN q) fun e w5 => e = .returned (.bool true) ∧ ∃ m, w5 = w3.drewN m) := fun q => by
    have r1 := (HS4.out.still (Stil.drewN w3 q)).codes
    have r2 := ((HS3.out.still (Stil.drewN w3 q)).codes).take hat1
    have e3 : ((List.range pl).map cd1).take at0 = (List.range at0).map cd2 := by
      rw [HE2.out, ← List.map_take, List.take_range, Nat.min_eq_left hat1]
    rw [e3] at r2
    refine (codesI_same r1 r2 (by omega)).mono ?_
    rintro e w5 ⟨rfl, m, rfl⟩
    exact ⟨rfl, q + m, drewN_plus _ _ _⟩
  have HBg : Hid (∀ q, Calls Try.prog 11 #[.slice va2 S2.ins.length vc2, .slice va1 S1.ins.length vc1] (w3.drewN q) fun e w5 => e = .returned (.bool true) ∧ ∃ m, w5 = w3.drewN m) := fun q => by
    obtain ⟨rr, hrr⟩ := HPre.out
    have r1 := (HS4.out.still (Stil.drewN w3 q)).ins
    have r2 := (HS3.out.still (Stil.drewN w3 q)).ins
    rw [hrr, natsI_app] at r2
    have := beginsI_true r1 r2 (by rw [← hrr]; omega)
    rw [← hrr] at this
    refine this.mono ?_
    rintro e w5 ⟨rfl, n5, rfl⟩
    exact ⟨rfl, q + n5, drewN_plus _ _ _⟩
  clear hll
  generalize S1.ins.length = i1 at *
  generalize S2.ins.length = i2 at *
  go_quiet (first | (go_at_call 14; exact HCo.out _) | (go_at_call 11; exact HBg.out _))
  go_wp2
  go_ret
  exact ⟨rfl, Stil.below (HK2.out.tr (Stil.drewN _ _))⟩

theorem bfront_walk {W : World} {z k : Int} {pa : Option Addr} {pl pc : Nat} {zs : List Int} (hp : CameI W pa pl pc zs) (hsz : pl * 8 ≤ 140737488351232) (hk : (Lit.int .u8 k).wf = true) :
    Calls Try.prog 7 #[.int .i64 z, .slice pa pl pc, .int .u8 k] W fun e W2 => e = .returned (.bool true) ∧ Below W.heap.size W W2 := by
  obtain ⟨h1, h2⟩ := u8_in hk
  obtain ⟨kn, rfl⟩ : ∃ x : Nat, k = x := ⟨k.toNat, by omega⟩
  by_cases hz : bakCode z pl = 0
  · obtain ⟨n, rfl, h0, h6, h120⟩ := bakCode_zero hz
    exact bfront_ok hp (by omega) h0 h6 h120
  · exact bfront_bad hp hsz (by omega) hz
end Go.Proofs.Ytgnigjfgddhgiaa
