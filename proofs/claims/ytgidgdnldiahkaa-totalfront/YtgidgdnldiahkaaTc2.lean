/- folkmootkeep.TotalFront, walked. -/
import Derived.Test.YtgidgdnldiahkaaTb1
namespace Go.Proofs.Ytgidgdnldiahkaa
open Go.RowKit
set_option linter.unusedVariables false

/-- What a play tells, whatever it tells. -/
theorem play_anyT {W : World} {pa : Option Addr} {z : Int} {pl pc : Nat} {ps : List Cst} (hp : CameC W pa pl pc ps) :
    Calls Try.prog 8 #[.int .i64 z, .slice pa pl pc] W fun e W2 => (∃ a b c d f g x, e = .returned (.tuple #[.agg #[.slice a b c, .slice d f g], .int .i64 x])) ∧ Stil W W2 := by
  by_cases hz : castCode z pl = 0
  · obtain ⟨n, rfl, h0, h6, h120⟩ := castCode_zero hz
    refine (play_seenT hp h0 h6 h120).mono ?_
    rintro e W2 ⟨⟨C, L, rfl, _⟩, hk⟩
    exact ⟨⟨_, _, _, _, _, _, _, rfl⟩, hk⟩
  · refine (play_badT hz hp.2.2.1).mono ?_
    rintro e W2 ⟨rfl, hk⟩
    exact ⟨⟨_, _, _, _, _, _, _, rfl⟩, hk⟩

set_option maxRecDepth 100000 in
set_option maxHeartbeats 4000000 in
theorem tfront_bad {W : World} {pa : Option Addr} {z : Int} {pl pc kn : Nat} {ps : List Cst} (hp : CameC W pa pl pc ps) (hsz : pl * 24 ≤ 140737488351232) (hk : kn ≤ 255) (hz : castCode z pl ≠ 0) :
    Calls Try.prog 6 #[.int .i64 z, .slice pa pl pc, .int .u8 (kn : Int)] W fun e W2 => e = .returned (.bool true) ∧ Below W.heap.size W W2 := by
  have HP := hidMk (play_badT (W := W) (pa := pa) (pc := pc) hz hp.2.2.1)
  generalize hat : kn % (pl + 1) = at0
  have hat1 : at0 ≤ pl := by rw [← hat]; have := Nat.mod_lt kn (show 0 < pl + 1 by omega); omega
  have hmod : (kn : Int).tmod ((pl : Int) + 1) = (at0 : Int) := by rw [← hat]; rfl
  have hmod2 : (kn : Int) % ((pl : Int) + 1) = (at0 : Int) := by rw [← hat]; rfl
  have hpl' : (pl : Int) ≤ 5864062014806 := by omega
  have hcap := hp.2.1
  have hat2 : (at0 : Int) ≤ (pc : Int) := by omega
  have hkn : (kn : Int) ≤ 255 := by omega
  have HP2 := hidMk (fun (w1 : World) (hw1 : Stil W w1) => play_anyT (z := z) ((hp.take hat1).keep hw1 (fun _ _ e => e)))
  clear hz hp hat
  go_enter Try.func6, Try.ntmps6
  go_wp2_with (fail)
  go_at_call 8
  refine (HP.out).mono ?_
  rintro e w1 ⟨rfl, hk1⟩
  have HK1 := hidMk (hk1.alloc (.cells #[.slice none 0 0, .slice none 0 0] 26))
  clear hk1 HP
  go_wp2_with (fail)
  go_at_call 8
  refine (HP2.out _ HK1.out).mono ?_
  rintro e w2 ⟨⟨a, b, c, d, f, g, x, rfl⟩, hk2⟩
  have HK2 := hidMk (Stil.tr HK1.out hk2)
  clear hk2 HK1 HP2
  go_wp2
  go_ret
  exact ⟨rfl, Stil.below (HK2.out.alloc _)⟩

set_option maxRecDepth 100000 in
set_option maxHeartbeats 8000000 in
theorem tfront_ok {W : World} {pa : Option Addr} {n pl pc kn : Nat} {ps : List Cst} (hp : CameC W pa pl pc ps) (hk : kn ≤ 255) (h0 : 0 < n) (h6 : n ≤ 6) (hpl : pl ≤ 120) :
    Calls Try.prog 6 #[.int .i64 (n : Int), .slice pa pl pc, .int .u8 (kn : Int)] W fun e W2 => e = .returned (.bool true) ∧ Below W.heap.size W W2 := by
  have HP := hidMk (play_seenT hp h0 h6 hpl)
  generalize hat : kn % (pl + 1) = at0
  have hat1 : at0 ≤ pl := by rw [← hat]; have := Nat.mod_lt kn (show 0 < pl + 1 by omega); omega
  have hmod : (kn : Int).tmod ((pl : Int) + 1) = (at0 : Int) := by rw [← hat]; rfl
  have hmod2 : (kn : Int) % ((pl : Int) + 1) = (at0 : Int) := by rw [← hat]; rfl
  have hpl' : (pl : Int) ≤ 120 := by omega
  have hcap := hp.2.1
  have hat2 : (at0 : Int) ≤ (pc : Int) := by omega
  have hat3 : (at0 : Int) ≤ (pl : Int) := by omega
  have hkn : (kn : Int) ≤ 255 := by omega
  have HP2 := hidMk (fun (w1 : World) (hw1 : Stil W w1) => play_seenT ((hp.take hat1).keep hw1 (fun _ _ e => e)) h0 h6 (by omega))
  have e1 : tsAt n (ps.take at0) at0 = tsAt n ps at0 := tat_same _ _ _ (fun j hj => take_same ps at0 j hj)
  have e2 : (List.range at0).map (tcAt n (ps.take at0)) = (List.range at0).map (tcAt n ps) := by
    apply List.map_congr_left
    intro k hk
    rw [List.mem_range] at hk
    exact tc_same _ _ _ (fun j hj => take_same ps at0 j (by omega))
  have hpre : ∀ p, ∃ r, (tsAt n ps pl).ls p = (tsAt n ps at0).ls p ++ r := by
    intro p
    have := tat_pre (n := n) (by omega) ps p at0 (pl - at0)
    rwa [show at0 + (pl - at0) = pl by omega] at this
  have hll : ∀ p, ((tsAt n ps pl).ls p).length ≤ 120 := fun p => by have := tlen_le h6 ps pl p; omega
  rw [e1] at HP2
  have HE2 := hidMk e2
  have HPre := hidMk hpre
  have HLL := hidMk hll
  generalize (tsAt n ps pl).ls = S1 at *
  generalize (tsAt n ps at0).ls = S2 at *
  generalize tcAt n ps = cd1 at *
  generalize tcAt n (ps.take at0) = cd2 at *
  clear hp hat e1 e2 hpre hll
  go_enter Try.func6, Try.ntmps6
  go_wp2_with (fail)
  go_at_call 8
  refine (HP.out).mono ?_
  rintro e w1 ⟨⟨C1, L1, rfl, hS1⟩, hk1⟩
  have HK1 := hidMk (hk1.alloc (.cells #[.slice (some ⟨C1, 0, none⟩) pl pl, .slice (some ⟨L1, 0, none⟩) n n] 26))
  have HS1 := hidMk (hS1.still (Stil.new w1 (.cells #[.slice (some ⟨C1, 0, none⟩) pl pl, .slice (some ⟨L1, 0, none⟩) n n] 26)))
  have HL0 := hidMk (al_new w1 (.cells #[.slice (some ⟨C1, 0, none⟩) pl pl, .slice (some ⟨L1, 0, none⟩) n n] 26))
  clear hk1 hS1 HP
  go_wp2_with (fail)
  go_at_call 8
  refine (HP2.out _ HK1.out).mono ?_
  rintro e w2 ⟨⟨C2, L2, rfl, hS2⟩, hk2⟩
  have k3 : Stil _ (w2.alloc (.cells #[.slice (some ⟨C2, 0, none⟩) at0 at0, .slice (some ⟨L2, 0, none⟩) n n] 26)) := hk2.alloc _
  have HK2 := hidMk (Stil.tr HK1.out k3)
  have HS3 := hidMk (HS1.out.still k3)
  have HS4 := hidMk (hS2.still (Stil.new w2 (.cells #[.slice (some ⟨C2, 0, none⟩) at0 at0, .slice (some ⟨L2, 0, none⟩) n n] 26)))
  have b0 : (w2.alloc (.cells #[.slice (some ⟨C2, 0, none⟩) at0 at0, .slice (some ⟨L2, 0, none⟩) n n] 26)).cell? ⟨w2.heap.size, 0, none⟩ = some (.slice (some ⟨C2, 0, none⟩) at0 at0) := by rw [cell_of_row _ _ _ _ _ _ (al_new _ _)]; rfl
  have b1 : (w2.alloc (.cells #[.slice (some ⟨C2, 0, none⟩) at0 at0, .slice (some ⟨L2, 0, none⟩) n n] 26)).cell? ⟨w2.heap.size, 1, none⟩ = some (.slice (some ⟨L2, 0, none⟩) n n) := by rw [cell_of_row _ _ _ _ _ _ (al_new _ _)]; rfl
  have a0 : (w2.alloc (.cells #[.slice (some ⟨C2, 0, none⟩) at0 at0, .slice (some ⟨L2, 0, none⟩) n n] 26)).cell? ⟨w1.heap.size, 0, none⟩ = some (.slice (some ⟨C1, 0, none⟩) pl pl) := k3.cell (by rw [cell_of_row _ _ _ _ _ _ HL0.out]; rfl)
  have a1 : (w2.alloc (.cells #[.slice (some ⟨C2, 0, none⟩) at0 at0, .slice (some ⟨L2, 0, none⟩) n n] 26)).cell? ⟨w1.heap.size, 1, none⟩ = some (.slice (some ⟨L1, 0, none⟩) n n) := k3.cell (by rw [cell_of_row _ _ _ _ _ _ HL0.out]; rfl)
  clear hk2 k3 hS2 HK1 HS1 HL0 HP2
  go_wp2_with (fail)
  generalize w2.alloc (.cells #[.slice (some ⟨C2, 0, none⟩) at0 at0, .slice (some ⟨L2, 0, none⟩) n n] 26) = w3 at *
  generalize w1.heap.size = La at *
  generalize w2.heap.size = Lb at *
  have HCo : Hid (∀ q, Calls Try.prog 16 #[.slice (some ⟨C2, 0, none⟩) at0 at0, .slice (some ⟨C1, 0, none⟩) at0 pl] (w3.drewN q) fun e w5 => e = .returned (.bool true) ∧ ∃ m, w5 = w3.drewN m) := fun q => by
    have r1 := (HS4.out.still (Stil.drewN w3 q)).codes
    have r2 := ((HS3.out.still (Stil.drewN w3 q)).codes).take hat1
    have e3 : ((List.range pl).map cd1).take at0 = (List.range at0).map cd2 := by
      rw [HE2.out, ← List.map_take, List.take_range, Nat.min_eq_left hat1]
    rw [e3] at r2
    refine (codesI_same r1 r2 (by omega)).mono ?_
    rintro e w5 ⟨rfl, m, rfl⟩
    exact ⟨rfl, q + m, drewN_plus _ _ _⟩
  go_quiet ((go_at_call 16; exact HCo.out _))
  go_wp2
  go_loopw [12] (fun u wr => ∃ k q : Nat, k ≤ n ∧ u = .int .i64 (k : Int) ∧ wr = w3.drewN q) (fun u _ => n - (intOf u).toNat)
  case atStart => exact ⟨0, nq, Nat.zero_le _, rfl, rfl⟩
  case round =>
    obtain ⟨k, q, hkn2, rfl, hwrq⟩ := hrel
    by_cases hlt : k < n
    · have hlt' : (k : Int) < (n : Int) := by omega
      have c1 : wr.cell? ⟨La, 1, none⟩ = some (.slice (some ⟨L1, 0, none⟩) n n) := by rw [hwrq]; exact a1
      have c2 : wr.cell? ⟨Lb, 1, none⟩ = some (.slice (some ⟨L2, 0, none⟩) n n) := by rw [hwrq]; exact b1
      obtain ⟨ra, rc, hr1, hr2⟩ := (HS3.out.still (Stil.drewN w3 q)).lists k hlt
      obtain ⟨sa, scp, hs1, hs2⟩ := (HS4.out.still (Stil.drewN w3 q)).lists k hlt
      rw [← hwrq] at hr1 hr2 hs1 hs2
      obtain ⟨rr, hrr⟩ := HPre.out k
      have hl1 := HLL.out k
      have HBg : Hid (∀ q, Calls Try.prog 13 #[.slice sa (S2 k).length scp, .slice ra (S1 k).length rc] (wr.drewN q) fun e w2 => e = .returned (.bool true) ∧ ∃ n, w2 = wr.drewN n) := fun q => by
        have hr3 := hr2.still (Stil.drewN wr q)
        rw [hrr, natsI_app] at hr3
        have := beginsI_true (hs2.still (Stil.drewN wr q)) hr3 (by rw [← hrr]; omega)
        rw [← hrr] at this
        refine this.mono ?_
        rintro e w5 ⟨rfl, n5, rfl⟩
        exact ⟨rfl, q + n5, drewN_plus _ _ _⟩
      have HW := hidMk hwrq
      clear hwrq hr2 hs2 hrr
      generalize (S1 k).length = n1 at *
      generalize (S2 k).length = n2 at *
      go_wp2
      go_quiet ((go_at_call 13; exact HBg.out _))
      go_wp2
      go_roundw
      case rel => exact ⟨k + 1, q + nq, by omega, by go_num, by rw [HW.out, drewN_plus]⟩
      case measure => simp [intOf]; omega
    · obtain rfl : k = n := by omega
      go_wp2
      go_ret
      exact ⟨rfl, by first | exact Stil.below (by rw [hwrq]; exact HK2.out.tr (Stil.drewN _ _)) | exact Stil.below (HK2.out.tr (Stil.drewN _ _))⟩

theorem tfront_walk {W : World} {z k : Int} {pa : Option Addr} {pl pc : Nat} {ps : List Cst} (hp : CameC W pa pl pc ps) (hsz : pl * 24 ≤ 140737488351232) (hk : (Lit.int .u8 k).wf = true) :
    Calls Try.prog 6 #[.int .i64 z, .slice pa pl pc, .int .u8 k] W fun e W2 => e = .returned (.bool true) ∧ Below W.heap.size W W2 := by
  obtain ⟨h1, h2⟩ := u8_in hk
  obtain ⟨kn, rfl⟩ : ∃ x : Nat, k = x := ⟨k.toNat, by omega⟩
  by_cases hz : castCode z pl = 0
  · obtain ⟨n, rfl, h0, h6, h120⟩ := castCode_zero hz
    exact tfront_ok hp (by omega) h0 h6 h120
  · exact tfront_bad hp hsz (by omega) hz
end Go.Proofs.Ytgidgdnldiahkaa
