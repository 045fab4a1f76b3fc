/- folkmootkeep.RingFront, walked. -/
import Derived.Test.YtadanpghmfhhkaaRi0
namespace Go.Proofs.Ytadanpghmfhhkaa
open Go.RowKit
set_option linter.unusedVariables false

theorem u8_in {z : Int} (hz : (Lit.int .u8 z).wf = true) : 0 ≤ z ∧ z ≤ 255 := by
  have h2 : IntKind.u8.min ≤ z ∧ z ≤ IntKind.u8.max := by simpa [Lit.wf] using hz
  have e1 : IntKind.u8.min = 0 := by decide
  have e2 : IntKind.u8.max = 255 := by decide
  omega
/-- A play, whatever it tells. -/
theorem play_anyG {W : World} {pa qa : Option Addr} {n pc pl qc : Nat} {zs : List Int} {ps : List Tu} (hp : RowI W pa n pc zs) (hq : CameT W qa pl qc ps) :
    Calls Try.prog 8 #[.slice pa n pc, .slice qa pl qc] W fun e W2 => (∃ a b c d f g x y z, e = .returned (.tuple #[.agg #[.slice a b c, .slice d f g, .int .i64 x, .int .i64 y], .int .i64 z])) ∧ Stil W W2 := by
  by_cases hz : ringCode zs pl = 0
  · refine (play_seenG hp hq hz).mono ?_
    rintro e w1 ⟨⟨C, va, vc, rfl, _⟩, hk⟩
    exact ⟨⟨_, _, _, _, _, _, _, _, _, rfl⟩, hk⟩
  · refine (play_badG hp hz).mono ?_
    rintro e w1 ⟨rfl, hk⟩
    exact ⟨⟨_, _, _, _, _, _, _, _, _, rfl⟩, hk⟩

set_option maxRecDepth 100000 in
set_option maxHeartbeats 4000000 in
theorem rfront_bad {W : World} {pa qa : Option Addr} {n pc pl qc kn : Nat} {zs : List Int} {ps : List Tu} (hp : RowI W pa n pc zs) (hq : CameT W qa pl qc ps) (hsz : pl * 16 ≤ 140737488351232) (hk : kn ≤ 255) (hz : ringCode zs pl ≠ 0) :
    Calls Try.prog 7 #[.slice pa n pc, .slice qa pl qc, .int .u8 (kn : Int)] W fun e W2 => e = .returned (.bool true) ∧ Below W.heap.size W W2 := by
  have HP := hidMk (play_badG (qa := qa) (qc := qc) hp hz)
  generalize hat : kn % (pl + 1) = at0
  have hat1 : at0 ≤ pl := by rw [← hat]; have := Nat.mod_lt kn (show 0 < pl + 1 by omega); omega
  have hmod : (kn : Int).tmod ((pl : Int) + 1) = (at0 : Int) := by rw [← hat]; rfl
  have hmod2 : (kn : Int) % ((pl : Int) + 1) = (at0 : Int) := by rw [← hat]; rfl
  have hpl' : (pl : Int) ≤ 17592186043904 := by omega
  have hcap := hq.2.1
  have hat2 : (at0 : Int) ≤ (qc : Int) := by omega
  have hkn : (kn : Int) ≤ 255 := by omega
  have HP2 := hidMk (fun (w1 : World) (hw1 : Stil W w1) => play_anyG (hp.still hw1) ((hq.take hat1).still hw1))
  generalize ringCode zs pl = rc at *
  have q1 : (rc != 0) = true := by simpa using hz
  clear hz hp hq hat
  go_enter Try.func7, Try.ntmps7
  go_wp2_with (fail)
  go_at_call 8
  refine (HP.out).mono ?_
  rintro e w1 ⟨rfl, hk1⟩
  have HK1 := hidMk (hk1.alloc (.cells #[.slice none 0 0, .slice none 0 0, .int .i64 0, .int .i64 0] 26))
  clear hk1 HP
  go_wp2_with (fail)
  go_at_call 8
  refine (HP2.out _ HK1.out).mono ?_
  rintro e w2 ⟨⟨a, b, c, d, f, g, x, y, z, rfl⟩, hk2⟩
  have HK2 := hidMk (Stil.tr HK1.out hk2)
  clear hk2 HK1 HP2
  go_wp2
  go_ret
  exact ⟨rfl, Stil.below (HK2.out.alloc _)⟩

set_option maxRecDepth 100000 in
set_option maxHeartbeats 8000000 in
theorem rfront_ok {W : World} {pa qa : Option Addr} {n pc pl qc kn : Nat} {zs : List Int} {ps : List Tu} (hp : RowI W pa n pc zs) (hq : CameT W qa pl qc ps) (hk : kn ≤ 255) (hz : ringCode zs pl = 0) :
    Calls Try.prog 7 #[.slice pa n pc, .slice qa pl qc, .int .u8 (kn : Int)] W fun e W2 => e = .returned (.bool true) ∧ Below W.heap.size W W2 := by
  have HP := hidMk (play_seenG hp hq hz)
  obtain ⟨z1, z2, z3, z4⟩ := ringCode_zero hz
  generalize hat : kn % (pl + 1) = at0
  have hat1 : at0 ≤ pl := by rw [← hat]; have := Nat.mod_lt kn (show 0 < pl + 1 by omega); omega
  have hmod : (kn : Int).tmod ((pl : Int) + 1) = (at0 : Int) := by rw [← hat]; rfl
  have hmod2 : (kn : Int) % ((pl : Int) + 1) = (at0 : Int) := by rw [← hat]; rfl
  have hpl' : (pl : Int) ≤ 120 := by omega
  have hcap := hq.2.1
  have hat2 : (at0 : Int) ≤ (qc : Int) := by omega
  have hat3 : (at0 : Int) ≤ (pl : Int) := by omega
  have hkn : (kn : Int) ≤ 255 := by omega
  have hz2 : ringCode zs at0 = 0 := by
    unfold ringCode ndCode
    rw [if_neg (by omega), if_pos z4]
  have HP2 := hidMk (fun (w1 : World) (hw1 : Stil W w1) => play_seenG (hp.still hw1) ((hq.take hat1).still hw1) hz2)
  have e1 : gsAt n (nmL zs) (ps.take at0) at0 = gsAt n (nmL zs) ps at0 := gsat_same n _ _ _ _ (fun j hj => takeT_same ps at0 j hj)
  have e2 : (List.range at0).map (gcAt n (nmL zs) (ps.take at0)) = (List.range at0).map (gcAt n (nmL zs) ps) := by
    apply List.map_congr_left
    intro k hk
    rw [List.mem_range] at hk
    exact gc_same n _ _ _ _ (fun j hj => takeT_same ps at0 j (by omega))
  have hpre : (∃ r, (gsAt n (nmL zs) ps pl).ch = (gsAt n (nmL zs) ps at0).ch ++ r) ∧ (gsAt n (nmL zs) ps at0).sent ≤ (gsAt n (nmL zs) ps pl).sent := by
    have := ch_pre n (nmL zs) ps at0 (pl - at0)
    rwa [show at0 + (pl - at0) = pl by omega] at this
  have hll : (gsAt n (nmL zs) ps pl).ch.length ≤ 120 := by have := (gb_at n (nmL zs) ps pl).ch; omega
  rw [e1] at HP2
  have HE2 := hidMk e2
  have HPre := hidMk hpre.1
  have hse : ((gsAt n (nmL zs) ps at0).sent : Int) ≤ ((gsAt n (nmL zs) ps pl).sent : Int) := by have := hpre.2; omega
  generalize gsAt n (nmL zs) ps pl = S1 at *
  generalize gsAt n (nmL zs) ps at0 = S2 at *
  generalize gcAt n (nmL zs) ps = cd1 at *
  generalize gcAt n (nmL zs) (ps.take at0) = cd2 at *
  generalize awayG S1 n = aw1 at *
  generalize awayG S2 n = aw2 at *
  clear hp hq hat e1 e2 hpre hz hz2 z4
  go_enter Try.func7, Try.ntmps7
  go_wp2_with (fail)
  go_at_call 8
  refine (HP.out).mono ?_
  rintro e w1 ⟨⟨C1, va1, vc1, rfl, hS1⟩, hk1⟩
  generalize S1.sent = se1 at *
  generalize S2.sent = se2 at *
  have HK1 := hidMk (hk1.alloc (.cells #[.slice (some ⟨C1, 0, none⟩) pl pl, .slice va1 S1.ch.length vc1, .int .i64 (se1 : Int), .int .i64 (aw1 : Int)] 26))
  have HS1 := hidMk (hS1.still (Stil.new w1 (.cells #[.slice (some ⟨C1, 0, none⟩) pl pl, .slice va1 S1.ch.length vc1, .int .i64 (se1 : Int), .int .i64 (aw1 : Int)] 26)))
  have HL0 := hidMk (al_new w1 (.cells #[.slice (some ⟨C1, 0, none⟩) pl pl, .slice va1 S1.ch.length vc1, .int .i64 (se1 : Int), .int .i64 (aw1 : Int)] 26))
  clear hk1 hS1 HP
  go_wp2_with (fail)
  go_at_call 8
  refine (HP2.out _ HK1.out).mono ?_
  rintro e w2 ⟨⟨C2, va2, vc2, rfl, hS2⟩, hk2⟩
  have k3 : Stil _ (w2.alloc (.cells #[.slice (some ⟨C2, 0, none⟩) at0 at0, .slice va2 S2.ch.length vc2, .int .i64 (se2 : Int), .int .i64 (aw2 : Int)] 26)) := hk2.alloc _
  have HK2 := hidMk (Stil.tr HK1.out k3)
  have HS3 := hidMk (HS1.out.still k3)
  have HS4 := hidMk (hS2.still (Stil.new w2 (.cells #[.slice (some ⟨C2, 0, none⟩) at0 at0, .slice va2 S2.ch.length vc2, .int .i64 (se2 : Int), .int .i64 (aw2 : Int)] 26)))
  have y0 : (w2.alloc (.cells #[.slice (some ⟨C2, 0, none⟩) at0 at0, .slice va2 S2.ch.length vc2, .int .i64 (se2 : Int), .int .i64 (aw2 : Int)] 26)).cell? ⟨w2.heap.size, 0, none⟩ = some (.slice (some ⟨C2, 0, none⟩) at0 at0) := by rw [cell_of_row _ _ _ _ _ _ (al_new _ _)]; rfl
  have y1 : (w2.alloc (.cells #[.slice (some ⟨C2, 0, none⟩) at0 at0, .slice va2 S2.ch.length vc2, .int .i64 (se2 : Int), .int .i64 (aw2 : Int)] 26)).cell? ⟨w2.heap.size, 1, none⟩ = some (.slice va2 S2.ch.length vc2) := by rw [cell_of_row _ _ _ _ _ _ (al_new _ _)]; rfl
  have y2 : (w2.alloc (.cells #[.slice (some ⟨C2, 0, none⟩) at0 at0, .slice va2 S2.ch.length vc2, .int .i64 (se2 : Int), .int .i64 (aw2 : Int)] 26)).cell? ⟨w2.heap.size, 2, none⟩ = some (.int .i64 (se2 : Int)) := by rw [cell_of_row _ _ _ _ _ _ (al_new _ _)]; rfl
  have x0 : (w2.alloc (.cells #[.slice (some ⟨C2, 0, none⟩) at0 at0, .slice va2 S2.ch.length vc2, .int .i64 (se2 : Int), .int .i64 (aw2 : Int)] 26)).cell? ⟨w1.heap.size, 0, none⟩ = some (.slice (some ⟨C1, 0, none⟩) pl pl) := k3.cell (by rw [cell_of_row _ _ _ _ _ _ HL0.out]; rfl)
  have x1 : (w2.alloc (.cells #[.slice (some ⟨C2, 0, none⟩) at0 at0, .slice va2 S2.ch.length vc2, .int .i64 (se2 : Int), .int .i64 (aw2 : Int)] 26)).cell? ⟨w1.heap.size, 1, none⟩ = some (.slice va1 S1.ch.length vc1) := k3.cell (by rw [cell_of_row _ _ _ _ _ _ HL0.out]; rfl)
  have x2 : (w2.alloc (.cells #[.slice (some ⟨C2, 0, none⟩) at0 at0, .slice va2 S2.ch.length vc2, .int .i64 (se2 : Int), .int .i64 (aw2 : Int)] 26)).cell? ⟨w1.heap.size, 2, none⟩ = some (.int .i64 (se1 : Int)) := k3.cell (by rw [cell_of_row _ _ _ _ _ _ HL0.out]; rfl)
  clear hk2 k3 hS2 HK1 HS1 HL0 HP2
  go_wp2_with (fail)
  generalize w2.alloc (.cells #[.slice (some ⟨C2, 0, none⟩) at0 at0, .slice va2 S2.ch.length vc2, .int .i64 (se2 : Int), .int .i64 (aw2 : Int)] 26) = w3 at *
  generalize w1.heap.size = La at *
  generalize w2.heap.size = Lb at *
  have HCo : Hid (∀ q, Calls Try.prog 13 #[.slice (some ⟨C2, 0, none⟩) at0 at0, .slice (some ⟨C1, 0, none⟩) at0 pl] (w3.drewN q) fun e w5 => e = .returned (.bool true) ∧ ∃ m, w5 = w3.drewN m) := fun q => by
    have r1 := (HS4.out.still (Stil.drewN w3 q)).codes
    have r2 := ((HS3.out.still (Stil.drewN w3 q)).codes).take hat1
    have e3 : ((List.range pl).map cd1).take at0 = (List.range at0).map cd2 := by
      rw [HE2.out, ← List.map_take, List.take_range, Nat.min_eq_left hat1]
    rw [e3] at r2
    refine (codesI_same r1 r2 (by omega)).mono ?_
    rintro e w5 ⟨rfl, m, rfl⟩
    exact ⟨rfl, q + m, drewN_plus _ _ _⟩
  have HBg : Hid (∀ q, Calls Try.prog 14 #[.slice va2 S2.ch.length vc2, .slice va1 S1.ch.length vc1] (w3.drewN q) fun e w5 => e = .returned (.bool true) ∧ ∃ m, w5 = w3.drewN m) := fun q => by
    obtain ⟨rr, hrr⟩ := HPre.out
    have r1 := (HS4.out.still (Stil.drewN w3 q)).ch
    have r2 := (HS3.out.still (Stil.drewN w3 q)).ch
    rw [hrr, natsI_app] at r2
    have := beginsI_true r1 r2 (by rw [← hrr]; omega)
    rw [← hrr] at this
    refine this.mono ?_
    rintro e w5 ⟨rfl, n5, rfl⟩
    exact ⟨rfl, q + n5, drewN_plus _ _ _⟩
  clear hll
  generalize S1.ch.length = i1 at *
  generalize S2.ch.length = i2 at *
  go_quiet (first | (go_at_call 13; exact HCo.out _) | (go_at_call 14; exact HBg.out _))
  go_wp2
  go_ret
  exact ⟨rfl, Stil.below (HK2.out.tr (Stil.drewN _ _))⟩

theorem rfront_walk {W : World} {k : Int} {pa qa : Option Addr} {n pc pl qc : Nat} {zs : List Int} {ps : List Tu} (hp : CameI W pa n pc zs) (hq : CameT W qa pl qc ps) (hsz : pl * 16 ≤ 140737488351232) (hk : (Lit.int .u8 k).wf = true) :
    Calls Try.prog 7 #[.slice pa n pc, .slice qa pl qc, .int .u8 k] W fun e W2 => e = .returned (.bool true) ∧ Below W.heap.size W W2 := by
  obtain ⟨h1, h2⟩ := u8_in hk
  obtain ⟨kn, rfl⟩ : ∃ x : Nat, k = x := ⟨k.toNat, by omega⟩
  by_cases hz : ringCode zs pl = 0
  · exact rfront_ok hp hq (by omega) hz
  · exact rfront_bad hp hq hsz (by omega) hz
end Go.Proofs.Ytadanpghmfhhkaa
