/- folkmootkeep.BakeryFirst, walked. -/
import Derived.Test.YtgnigjfgddhgiaaBb0
namespace Go.Proofs.Ytgnigjfgddhgiaa
open Go.RowKit
set_option linter.unusedVariables false

set_option maxRecDepth 100000 in
set_option maxHeartbeats 4000000 in
theorem bfirst_bad {W : World} {zi zj : Int} {pa : Option Addr} {z : Int} {pl pc kn : Nat} {zs : List Int} (hp : RowI W pa pl pc zs) (hsz : pl * 8 ≤ 140737488351232) (hk : kn ≤ 255) (hz : bakCode z pl ≠ 0) :
    Calls Try.prog 5 #[.int .i64 z, .slice pa pl pc, .int .u8 (kn : Int), .int .i64 zi, .int .i64 zj] W fun e W2 => e = .returned (.bool true) ∧ Below W.heap.size W W2 := by
  have HP := hidMk (play_badB (W := W) (pa := pa) (pc := pc) hz hp.2.2.1)
  generalize hat : kn % (pl + 1) = at0
  have hat1 : at0 ≤ pl := by rw [← hat]; have := Nat.mod_lt kn (show 0 < pl + 1 by omega); omega
  have hmod : (kn : Int).tmod ((pl : Int) + 1) = (at0 : Int) := by rw [← hat]; rfl
  have hmod2 : (kn : Int) % ((pl : Int) + 1) = (at0 : Int) := by rw [← hat]; rfl
  have hpl' : (pl : Int) ≤ 17592186043904 := by omega
  have hcap := hp.2.1
  have hat2 : (at0 : Int) ≤ (pc : Int) := by omega
  have hkn : (kn : Int) ≤ 255 := by omega
  have HP2 := hidMk (fun (w1 : World) (hw1 : Stil W w1) => play_anyB (z := z) ((hp.take hat1).still hw1))
  clear hz hp hat
  go_enter Try.func5, Try.ntmps5
  go_wp2_with (fail)
  go_at_call 8
  refine (HP.out).mono ?_
  rintro e w1 ⟨rfl, hk1⟩
  have HK1 := hidMk (hk1.alloc (.cells #[.slice none 0 0, .slice none 0 0, .slice none 0 0, .slice none 0 0, .slice none 0 0] 26))
  clear hk1 HP
  go_wp2_with (fail)
  go_at_call 8
  refine (HP2.out _ HK1.out).mono ?_
  rintro e w2 ⟨⟨a, b, c, d, f, g, a2, b2, c2, a3, b3, c3, a4, b4, c4, x, rfl⟩, hk2⟩
  have HK2 := hidMk (Stil.tr HK1.out hk2)
  clear hk2 HK1 HP2
  go_wp2
  go_ret
  exact ⟨rfl, Stil.below (HK2.out.alloc _)⟩

set_option maxRecDepth 100000 in
set_option maxHeartbeats 8000000 in
theorem bfirst_ok {W : World} {zi zj : Int} {pa : Option Addr} {n pl pc kn : Nat} {zs : List Int} (hp : RowI W pa pl pc zs) (hk : kn ≤ 255) (h0 : 0 < n) (h4 : n ≤ 4) (hpl : pl ≤ 120) :
    Calls Try.prog 5 #[.int .i64 (n : Int), .slice pa pl pc, .int .u8 (kn : Int), .int .i64 zi, .int .i64 zj] W fun e W2 => e = .returned (.bool true) ∧ Below W.heap.size W W2 := by
  have HP := hidMk (play_seenB hp h0 h4 hpl)
  generalize hat : kn % (pl + 1) = at0
  have hat1 : at0 ≤ pl := by rw [← hat]; have := Nat.mod_lt kn (show 0 < pl + 1 by omega); omega
  have hmod : (kn : Int).tmod ((pl : Int) + 1) = (at0 : Int) := by rw [← hat]; rfl
  have hmod2 : (kn : Int) % ((pl : Int) + 1) = (at0 : Int) := by rw [← hat]; rfl
  have hpl' : (pl : Int) ≤ 120 := by omega
  have hcap := hp.2.1
  have hat2 : (at0 : Int) ≤ (pc : Int) := by omega
  have hat3 : (at0 : Int) ≤ (pl : Int) := by omega
  have hkn : (kn : Int) ≤ 255 := by omega
  have HP2 := hidMk (fun (w1 : World) (hw1 : Stil W w1) => play_seenB ((hp.take hat1).still hw1) h0 h4 (by omega))
  have e1 : bsAt n (zs.take at0) at0 = bsAt n zs at0 := bsat_same n _ _ _ (fun j hj => takeB_same zs at0 j hj)
  have e2 : (List.range at0).map (bcAt n (zs.take at0)) = (List.range at0).map (bcAt n zs) := by
    apply List.map_congr_left
    intro k hk
    rw [List.mem_range] at hk
    exact bc_same n _ _ _ (fun j hj => takeB_same zs at0 j (by omega))
  have hpre : ∃ r, (bsAt n zs pl).ins = (bsAt n zs at0).ins ++ r := by
    have := ins_preB n zs at0 (pl - at0)
    rwa [show at0 + (pl - at0) = pl by omega] at this
  have hll : (bsAt n zs pl).ins.length ≤ 120 := by have := (binv_at n zs pl).ins; omega
  have HFst : Hid (∀ i j : Nat, i < n → j < n → ¬ i = j → ((bsAt n zs at0).pr i).pl = 3 ∨ ((bsAt n zs at0).pr i).pl = 4 → ((bsAt n zs at0).pr j).pl = 0 → ∃ r, (bsAt n zs pl).ins = (bsAt n zs at0).ins ++ r ∧ (posI (natsI r) (j : Int) < 0 ∨ (0 ≤ posI (natsI r) (i : Int) ∧ posI (natsI r) (i : Int) < posI (natsI r) (j : Int)))) := fun i j hi hj hij a b => by
    obtain ⟨r, h1, h2⟩ := first_at hi hj hij a b (pl - at0)
    rw [show at0 + (pl - at0) = pl by omega] at h1 h2
    refine ⟨r, h1, ?_⟩
    rcases h2 with ⟨_, h3, _⟩ | h2
    · left
      rw [posN_none h3]
      decide
    · exact ahead_pos hij h2
  rw [e1] at HP2
  have HE2 := hidMk e2
  have HPre := hidMk hpre
  generalize bsAt n zs pl = S1 at *
  generalize bsAt n zs at0 = S2 at *
  generalize bcAt n zs = cd1 at *
  generalize bcAt n (zs.take at0) = cd2 at *
  clear hp hat e1 e2 hpre
  go_enter Try.func5, Try.ntmps5
  go_wp2_with (fail)
  go_at_call 8
  refine (HP.out).mono ?_
  rintro e w1 ⟨⟨C1, a1, c1, a2, c2, a3, c3, va1, vc1, rfl, hS1⟩, hk1⟩
  have HK1 := hidMk (hk1.alloc (.cells #[.slice (some ⟨C1, 0, none⟩) pl pl, .slice a1 n c1, .slice a2 n c2, .slice a3 n c3, .slice va1 S1.ins.length vc1] 26))
  have HS1 := hidMk (hS1.still (Stil.new w1 (.cells #[.slice (some ⟨C1, 0, none⟩) pl pl, .slice a1 n c1, .slice a2 n c2, .slice a3 n c3, .slice va1 S1.ins.length vc1] 26)))
  have HL0 := hidMk (al_new w1 (.cells #[.slice (some ⟨C1, 0, none⟩) pl pl, .slice a1 n c1, .slice a2 n c2, .slice a3 n c3, .slice va1 S1.ins.length vc1] 26))
  clear hk1 hS1 HP
  go_wp2_with (fail)
  go_at_call 8
  refine (HP2.out _ HK1.out).mono ?_
  rintro e w2 ⟨⟨C2, b1, d1, b2, d2, b3, d3, va2, vc2, rfl, hS2⟩, hk2⟩
  have k3 : Stil _ (w2.alloc (.cells #[.slice (some ⟨C2, 0, none⟩) at0 at0, .slice b1 n d1, .slice b2 n d2, .slice b3 n d3, .slice va2 S2.ins.length vc2] 26)) := hk2.alloc _
  have HK2 := hidMk (Stil.tr HK1.out k3)
  have HS3 := hidMk (HS1.out.still k3)
  have HS4 := hidMk (hS2.still (Stil.new w2 (.cells #[.slice (some ⟨C2, 0, none⟩) at0 at0, .slice b1 n d1, .slice b2 n d2, .slice b3 n d3, .slice va2 S2.ins.length vc2] 26)))
  have y0 : (w2.alloc (.cells #[.slice (some ⟨C2, 0, none⟩) at0 at0, .slice b1 n d1, .slice b2 n d2, .slice b3 n d3, .slice va2 S2.ins.length vc2] 26)).cell? ⟨w2.heap.size, 0, none⟩ = some (.slice (some ⟨C2, 0, none⟩) at0 at0) := by rw [cell_of_row _ _ _ _ _ _ (al_new _ _)]; rfl
  have y4 : (w2.alloc (.cells #[.slice (some ⟨C2, 0, none⟩) at0 at0, .slice b1 n d1, .slice b2 n d2, .slice b3 n d3, .slice va2 S2.ins.length vc2] 26)).cell? ⟨w2.heap.size, 4, none⟩ = some (.slice va2 S2.ins.length vc2) := by rw [cell_of_row _ _ _ _ _ _ (al_new _ _)]; rfl
  have Y1 : Hid ((w2.alloc (.cells #[.slice (some ⟨C2, 0, none⟩) at0 at0, .slice b1 n d1, .slice b2 n d2, .slice b3 n d3, .slice va2 S2.ins.length vc2] 26)).cell? ⟨w2.heap.size, 1, none⟩ = some (.slice b1 n d1)) := by show _ = _; rw [cell_of_row _ _ _ _ _ _ (al_new _ _)]; rfl
  have x0 : (w2.alloc (.cells #[.slice (some ⟨C2, 0, none⟩) at0 at0, .slice b1 n d1, .slice b2 n d2, .slice b3 n d3, .slice va2 S2.ins.length vc2] 26)).cell? ⟨w1.heap.size, 0, none⟩ = some (.slice (some ⟨C1, 0, none⟩) pl pl) := k3.cell (by rw [cell_of_row _ _ _ _ _ _ HL0.out]; rfl)
  have x1 : (w2.alloc (.cells #[.slice (some ⟨C2, 0, none⟩) at0 at0, .slice b1 n d1, .slice b2 n d2, .slice b3 n d3, .slice va2 S2.ins.length vc2] 26)).cell? ⟨w1.heap.size, 1, none⟩ = some (.slice a1 n c1) := k3.cell (by rw [cell_of_row _ _ _ _ _ _ HL0.out]; rfl)
  have x4 : (w2.alloc (.cells #[.slice (some ⟨C2, 0, none⟩) at0 at0, .slice b1 n d1, .slice b2 n d2, .slice b3 n d3, .slice va2 S2.ins.length vc2] 26)).cell? ⟨w1.heap.size, 4, none⟩ = some (.slice va1 S1.ins.length vc1) := k3.cell (by rw [cell_of_row _ _ _ _ _ _ HL0.out]; rfl)
  clear hk2 k3 hS2 HK1 HS1 HL0 HP2
  go_wp2_with (fail)
  generalize w2.alloc (.cells #[.slice (some ⟨C2, 0, none⟩) at0 at0, .slice b1 n d1, .slice b2 n d2, .slice b3 n d3, .slice va2 S2.ins.length vc2] 26) = w3 at *
  generalize w1.heap.size = La at *
  generalize w2.heap.size = Lb at *
  have HBg : Hid (Calls Try.prog 11 #[.slice va2 S2.ins.length vc2, .slice va1 S1.ins.length vc1] w3 fun e w5 => e = .returned (.bool true) ∧ Stil w3 w5) := by
    obtain ⟨rr, hrr⟩ := HPre.out
    have r1 := HS4.out.ins
    have r2 := HS3.out.ins
    rw [hrr, natsI_app] at r2
    have := beginsI_true r1 r2 (by rw [← hrr]; omega)
    rw [← hrr] at this
    refine this.mono ?_
    rintro e w5 ⟨rfl, n5, rfl⟩
    exact ⟨rfl, Stil.drewN _ _⟩
  have hl1 := hll
  have hl2 : S2.ins.length ≤ S1.ins.length := by obtain ⟨rr, hrr⟩ := HPre.out; rw [hrr, List.length_append]; omega
  clear hll
  generalize hi1 : S1.ins.length = i1 at *
  generalize hi2 : S2.ins.length = i2 at *
  have HI1 := hidMk hi1
  have HI2 := hidMk hi2
  clear hi1 hi2
  have hvc1 := HS3.out.ins.2.1
  rw [HI1.out] at hvc1
  have hl1' : (i1 : Int) ≤ 120 := by omega
  have hl2' : (i2 : Int) ≤ (i1 : Int) := by omega
  have hvc1' : (i1 : Int) ≤ (vc1 : Int) := by omega
  go_wp2_with (fail)
  go_at_call 11
  refine (HBg.out).mono ?_
  rintro e w5 ⟨rfl, hk5⟩
  have HK5 := hidMk (HK2.out.tr hk5)
  have HS5 := hidMk (HS3.out.still hk5)
  have HS6 := hidMk (HS4.out.still hk5)
  have x4 := hk5.cell x4
  have y4 := hk5.cell y4
  have hy1 : w3.cell? ⟨Lb, 1, none⟩ = some (.slice b1 n d1) := Y1.out
  have y1 := hk5.cell hy1
  clear hk5 HS3 HS4 HK2 x0 x1 y0 HBg hy1 Y1
  go_upto_region 8 with fail
  have HIn : Hid (∀ w9 : World, w5.heap.size = w5.heap.size → Stil w5 w9 → True) := fun _ _ _ => trivial
  clear HIn
  have HIn := hidMk (inside_any (w := w5.alloc (.cells #[.int .i64 zi, .int .i64 zj] 3)) (a := some ⟨w5.heap.size, 0, none⟩) (m := 2) (c := 2) (xs := [zi, zj]) n ⟨rfl, Nat.le_refl _, by decide, .inr ⟨w5.heap.size, 0, rfl, by simp, fun j x hx => by
    rw [cell_of_row _ _ _ _ _ _ (al_new _ _)]
    match j, hx with
    | 0, hx => simp at hx; subst hx; rfl
    | 1, hx => simp at hx; subst hx; rfl⟩⟩ (by omega))
  have HK6 := hidMk (HK5.out.alloc (.cells #[.int .i64 zi, .int .i64 zj] 3))
  have HS7 := hidMk (HS5.out.still (Stil.new w5 (.cells #[.int .i64 zi, .int .i64 zj] 3)))
  have HS8 := hidMk (HS6.out.still (Stil.new w5 (.cells #[.int .i64 zi, .int .i64 zj] 3)))
  have x4 := (Stil.new w5 (.cells #[.int .i64 zi, .int .i64 zj] 3)).cell x4
  have y4 := (Stil.new w5 (.cells #[.int .i64 zi, .int .i64 zj] 3)).cell y4
  have y1 := (Stil.new w5 (.cells #[.int .i64 zi, .int .i64 zj] 3)).cell y1
  clear HK5 HS5 HS6
  go_wp2_with (fail)
  go_at_call 12
  refine (HIn.out).mono ?_
  rintro e w7 ⟨rfl, hw7⟩
  obtain rfl := hw7.symm
  clear HIn
  generalize w5.alloc (.cells #[.int .i64 zi, .int .i64 zj] 3) = w6 at *
  by_cases hin : ([zi, zj].all fun z => inP n z) = true
  · rw [hin]
    simp only [List.all_cons, List.all_nil, Bool.and_true, Bool.and_eq_true] at hin
    obtain ⟨hini, hinj⟩ := hin
    obtain ⟨ei, hi⟩ := inP_nat hini
    obtain ⟨ej, hj⟩ := inP_nat hinj
    generalize zi.toNat = i at *
    generalize zj.toNat = j at *
    subst ei
    subst ej
    have hi' : (i : Int) < (n : Int) := by omega
    have hj' : (j : Int) < (n : Int) := by omega
    clear hini hinj
    by_cases hij : i = j
    · have q1 : ((i : Int) == (j : Int)) = true := by rw [hij]; simp
      clear hij
      go_wp2
      go_ret
      exact ⟨rfl, Stil.below HK6.out⟩
    · have q1 : ((i : Int) == (j : Int)) = false := by rw [beq_eq_false_iff_ne]; omega
      obtain ⟨rl, rc, _, rr⟩ := HS8.out.at
      rcases rr with rr | ⟨gb, off, rfl, _, hcell⟩
      · omega
      have di := hcell i ((S2.pr i).pl : Int) (natsI_at (by simp [plL, hi]))
      have dj := hcell j ((S2.pr j).pl : Int) (natsI_at (by simp [plL, hj]))
      have HF : Hid ((S2.pr i).pl = 3 ∨ (S2.pr i).pl = 4 → (S2.pr j).pl = 0 → ∃ r, S1.ins = S2.ins ++ r ∧ (posI (natsI r) (j : Int) < 0 ∨ (0 ≤ posI (natsI r) (i : Int) ∧ posI (natsI r) (i : Int) < posI (natsI r) (j : Int)))) := fun a b => HFst.out i j hi hj hij a b
      clear hcell rl rc HFst hij
      generalize (S2.pr i).pl = pi at *
      generalize (S2.pr j).pl = pj at *
      by_cases a1 : pi < 3
      · have q2 : decide ((pi : Int) < 3) = true := decide_eq_true (by omega)
        go_wp2
        go_ret
        exact ⟨rfl, Stil.below HK6.out⟩
      · have q2 : decide ((pi : Int) < 3) = false := decide_eq_false (by omega)
        by_cases a2 : 4 < pi
        · have q3 : decide ((4 : Int) < (pi : Int)) = true := decide_eq_true (by omega)
          go_wp2
          go_ret
          exact ⟨rfl, Stil.below HK6.out⟩
        · have q3 : decide ((4 : Int) < (pi : Int)) = false := decide_eq_false (by omega)
          by_cases a3 : pj = 0
          · have q4 : ((pj : Int) != 0) = false := by simp; omega
            obtain ⟨r, hr, hpos⟩ := HF.out (by omega) a3
            have hrow := (HS7.out.ins)
            rw [hr, natsI_app, ← hr, HI1.out] at hrow
            have hl2n := natsI_len S2.ins
            rw [HI2.out] at hl2n
            have hrl : r.length = i1 - i2 := by have h9 := HI1.out; rw [hr, List.length_append, HI2.out] at h9; omega
            have HPos := hidMk hpos
            have q5 : decide (posI (natsI r) (j : Int) < 0) = true ∨ (decide (posI (natsI r) (j : Int) < 0) = false ∧ decide (0 ≤ posI (natsI r) (i : Int)) = true ∧ decide (posI (natsI r) (i : Int) < posI (natsI r) (j : Int)) = true) := by
              rcases hpos with h | ⟨h1, h2⟩
              · exact .inl (decide_eq_true h)
              · by_cases h3 : posI (natsI r) (j : Int) < 0
                · exact .inl (decide_eq_true h3)
                · exact .inr ⟨decide_eq_false h3, decide_eq_true h1, decide_eq_true h2⟩
            have hlow : (i2 : Int) ≤ (vc1 : Int) := by omega
            have hw2 : ((i1 : Int) - (i2 : Int)).toNat = i1 - i2 := by omega
            obtain ⟨rl1, rc1, _, rr1⟩ := hrow
            have HR1 := hidMk hr
            clear hr hpos
            have HEm := hidMk (fun (u : Option Addr) (c : Nat) (x : Int) => position_any (w := w6) (a := u) (n := 0) (c := c) (xs := []) ⟨rfl, Nat.zero_le _, Nat.zero_le _, .inl rfl⟩ (Nat.zero_le _) x)
            rcases rr1 with rr1 | ⟨gc, ofc, rfl, hgc, hcl⟩
            · subst rr1
              have hi20 : i2 = 0 := by omega
              subst hi20
              have em : ∀ x : Int, posI [] x = -1 := fun x => rfl
              simp only [em] at HEm
              clear q5 em
              by_cases hv0 : vc1 = 0
              · subst hv0
                go_wp2_with (go_at_call 13; refine (HEm.out _ _ _).mono ?_; rintro e w8 ⟨rfl, hw8⟩; obtain rfl := hw8.symm)
                all_goals
                  go_ret
                  exact ⟨rfl, Stil.below HK6.out⟩
              · cases va1 with
                | none =>
                  go_wp2_with (go_at_call 13; refine (HEm.out _ _ _).mono ?_; rintro e w8 ⟨rfl, hw8⟩; obtain rfl := hw8.symm)
                  all_goals
                    go_ret
                    exact ⟨rfl, Stil.below HK6.out⟩
                | some x =>
                  go_wp2_with (go_at_call 13; refine (HEm.out _ _ _).mono ?_; rintro e w8 ⟨rfl, hw8⟩; obtain rfl := hw8.symm)
                  all_goals
                    go_ret
                    exact ⟨rfl, Stil.below HK6.out⟩
            · by_cases hv2 : vc1 = i2
              · have hi12 : i1 = i2 := by omega
                subst hi12
                have hr0 : r = [] := List.eq_nil_of_length_eq_zero (by omega)
                have hz1 : i1 - i1 = 0 := Nat.sub_self _
                have em : ∀ x : Int, posI [] x = -1 := fun x => rfl
                simp only [em] at HEm
                have hvv : ((vc1 : Int) == (i1 : Int)) = true := by rw [beq_iff_eq]; omega
                subst hv2
                clear q5 hcl em
                go_wp2_with (go_at_call 13; (try rw [hz1]); refine (HEm.out _ _ _).mono ?_; rintro e w8 ⟨rfl, hw8⟩; obtain rfl := hw8.symm)
                all_goals
                  go_ret
                  exact ⟨rfl, Stil.below HK6.out⟩
              · have HRow : Hid (RowI w6 (some ⟨gc, ofc + i2, none⟩) (i1 - i2) (vc1 - i2) (natsI r)) := by
                  refine ⟨by rw [natsI_len]; exact hrl, by omega, by unfold maxLen; omega, ?_⟩
                  by_cases hz : i1 - i2 = 0
                  · exact .inl hz
                  · refine .inr ⟨gc, ofc + i2, rfl, hgc, fun q x hx => ?_⟩
                    have := hcl (i2 + q) x (by rw [List.getElem?_append_right (by omega)]; rw [hl2n, Nat.add_sub_cancel_left]; exact hx)
                    rwa [← Nat.add_assoc] at this
                clear hcl HEm
                have HPi := hidMk (position_any HRow.out (by omega) (i : Int))
                have HPj := hidMk (position_any HRow.out (by omega) (j : Int))
                generalize posI (natsI r) (i : Int) = px at *
                generalize posI (natsI r) (j : Int) = py at *
                rcases q5 with q5 | ⟨q5, q6, q7⟩
                · go_wp2_with (fail)
                  go_at_call 13
                  refine (HPi.out).mono ?_
                  rintro e w8 ⟨rfl, hw8⟩
                  obtain rfl := hw8.symm
                  go_wp2_with (fail)
                  go_at_call 13
                  refine (HPj.out).mono ?_
                  rintro e w8 ⟨rfl, hw8⟩
                  obtain rfl := hw8.symm
                  go_wp2
                  go_ret
                  exact ⟨rfl, Stil.below HK6.out⟩
                · go_wp2_with (fail)
                  go_at_call 13
                  refine (HPi.out).mono ?_
                  rintro e w8 ⟨rfl, hw8⟩
                  obtain rfl := hw8.symm
                  go_wp2_with (fail)
                  go_at_call 13
                  refine (HPj.out).mono ?_
                  rintro e w8 ⟨rfl, hw8⟩
                  obtain rfl := hw8.symm
                  go_wp2
                  go_ret
                  exact ⟨rfl, Stil.below HK6.out⟩
          · have q4 : ((pj : Int) != 0) = true := by simp; omega
            go_wp2
            go_ret
            exact ⟨rfl, Stil.below HK6.out⟩
  · have hin2 : ([zi, zj].all fun z => inP n z) = false := by simpa using hin
    rw [hin2]
    clear hin hin2
    go_wp2
    go_ret
    exact ⟨rfl, Stil.below HK6.out⟩

theorem bfirst_walk {W : World} {z k zi zj : Int} {pa : Option Addr} {pl pc : Nat} {zs : List Int} (hp : CameI W pa pl pc zs) (hsz : pl * 8 ≤ 140737488351232) (hk : (Lit.int .u8 k).wf = true) :
    Calls Try.prog 5 #[.int .i64 z, .slice pa pl pc, .int .u8 k, .int .i64 zi, .int .i64 zj] W fun e W2 => e = .returned (.bool true) ∧ Below W.heap.size W W2 := by
  obtain ⟨h1, h2⟩ := u8_in hk
  obtain ⟨kn, rfl⟩ : ∃ x : Nat, k = x := ⟨k.toNat, by omega⟩
  by_cases hz : bakCode z pl = 0
  · obtain ⟨n, rfl, h0, h6, h120⟩ := bakCode_zero hz
    exact bfirst_ok hp (by omega) h0 h6 h120
  · exact bfirst_bad hp hsz (by omega) hz
end Go.Proofs.Ytgnigjfgddhgiaa
