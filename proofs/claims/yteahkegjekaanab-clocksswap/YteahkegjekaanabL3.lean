/- folkmootkeep.ClocksSwap, walked: the other case. -/
import Derived.Test.YteahkegjekaanabL2
namespace Go.Proofs.Yteahkegjekaanab
open Go.RowKit Go.Shelf
set_option linter.unusedVariables false

set_option maxRecDepth 100000 in
set_option maxHeartbeats 8000000 in
theorem swap_mainB (n i0 kn b off len cap : Nat) (es : List Ev) (w : World)
    (HE : Hid (Calls Try.prog 7 #[.int .i64 (n : Int), .slice (some ⟨b, off, none⟩) len cap] w fun e w2 => e = .returned (.bool true) ∧ Below w.heap.size w w2))
    (HV : Hid (∀ w1, Below w.heap.size w w1 → Calls Try.prog 9 #[.int .i64 (n : Int), .slice (some ⟨b, off, none⟩) len cap] w1 fun e w2 => (∃ O R, e = .returned (.tuple #[.slice (some ⟨O, 0, none⟩) len len, .int .i64 0]) ∧ Rows2 es w.heap.size len n w2 O R) ∧ Below w1.heap.size w1 w2))
    (hl : es.length = len) (hl2 : 2 ≤ len) (h60 : len ≤ 60) (hn6 : n ≤ 6) (HR : Hid (EvRow w b off es)) (HVa : Hid (Valid (n : Int) es)) (hz : Hid (evsCode (n : Int) es = 0))
    (hkn : kn ≤ 255) (hi1 : i0 + 1 < len) (hmod : (kn : Int).tmod ((len : Int) - 1) = (i0 : Int)) (hmod2 : (kn : Int) % ((len : Int) - 1) = (i0 : Int))
    (hw : (whoAt es i0 == whoAt es (i0 + 1)) = false) (hd : Hid (¬ takenAt es (i0 + 1) = some i0))
    (kd1 of1 : Int) (HK : Hid (∀ w1, Below w.heap.size w w1 → w1.cell? ⟨b, off + (i0 + 1) * 3, none⟩ = some (.int .i64 kd1) ∧ w1.cell? ⟨b, off + (i0 + 1) * 3 + 2, none⟩ = some (.int .i64 of1))) (hkd : kd1 = 3) (hof : (of1 == (i0 : Int)) = false) :
    Calls Try.prog 4 #[.int .i64 (n : Int), .slice (some ⟨b, off, none⟩) len cap, .int .u8 (kn : Int)] w fun e w2 => e = .returned (.bool true) ∧ Below w.heap.size w w2 := by
  have h60' : (len : Int) ≤ 60 := by omega
  have hl2' : (2 : Int) ≤ (len : Int) := by omega
  have hi1' : (i0 : Int) + 1 < (len : Int) := by omega
  have HL := hidMk hl
  clear hl
  go_enter Try.func4, Try.ntmps4
  go_wp2_with (first | (go_at_call 9; refine (HV.out _ hB1).mono ?_; rintro e w2 ⟨⟨O, R, rfl, hO⟩, hB2⟩; have hB3 := below_from hB1 hB2) | (go_at_call 7; refine (HE.out).mono ?_; rintro e w1 ⟨rfl, hB1⟩))
  have HW : Hid (∀ (x : Nat) w1, x < len → Below w.heap.size w w1 → w1.cell? ⟨b, off + x * 3 + 1, none⟩ = some (.int .i64 (whoAt es x))) := fun x w1 hx hb => by
    obtain ⟨ev, he, _, _, _, hd2, _⟩ := (HR.out.below HR.out.1 hb).at (k := x) (by rw [HL.out]; exact hx)
    rw [whoAt_eq he]; exact hd2
  have hw1 := HW.out i0 _ (by omega) hB3
  have hw2 := HW.out (i0 + 1) _ hi1 hB3
  obtain ⟨hk1, ho1⟩ := HK.out _ hB3
  rw [hkd] at hk1
  go_quiet (fail)
  go_wp2
  obtain ⟨info, hi, hz0, hz1, hz2⟩ := info_parts Try.info36
  have hB4 := below_drewN hB3 nq
  have hO4 : Rows2 es w.heap.size len n (w2.drewN nq) O R := hO
  clear hw1 hw2 hk1 ho1 hO
  generalize w2.drewN nq = wL at *
  go_loopw [10, 83] (fun v u wr => ∃ k : Nat, k ≤ len ∧ u = .int .i64 (k : Int) ∧ wr.ownsRow wL.heap.size 36 3 v k (flatE ((es.map (mev i0)).take k)) ∧ Hid (Below wL.heap.size wL wr)) (fun _ u _ => len - (intOf u).toNat)
  case atStart => exact ⟨0, Nat.zero_le _, rfl, by simpa [flatE] using World.ownsRow_nil _ _ _ _, Below.refl _ _⟩
  case round =>
    obtain ⟨k, hk, rfl, hown, HB⟩ := hrel
    by_cases hlt : k < len
    · have hlt' : (k : Int) < (len : Int) := by omega
      have hBw : Below w.heap.size w wr := hB4.trans (HB.out.mono hB4.size)
      have hsz := HB.out.size
      obtain ⟨⟨kd, wh, of⟩, he, hm, hf, hc1, hc2, hc3⟩ := (HR.out.below HR.out.1 hBw).at (k := k) (by rw [HL.out]; exact hlt)
      dsimp only at hc1 hc2 hc3
      have HTK : Hid ((es.map (mev i0)).take (k + 1) = (es.map (mev i0)).take k ++ [mev i0 ⟨kd, wh, of⟩]) := by
        have hk1 : k < (es.map (mev i0)).length := by rw [List.length_map, HL.out]; exact hlt
        show _ = _
        rw [List.take_succ_eq_append_getElem hk1, List.getElem_map, (List.getElem?_eq_some_iff.1 he).2]
      have hof : I64 of := hf.2.2
      unfold I64 at hof
      clear he hm hf hBw
      by_cases c1 : kd = 3
      · subst c1
        by_cases c2 : of = (i0 : Int)
        · have HME : mev i0 ⟨3, wh, of⟩ = ⟨3, wh, 2 * (i0 : Int) + 1 - (i0 : Int)⟩ := by unfold mev; rw [if_pos ⟨rfl, .inl c2⟩, c2]
          rw [c2] at hc3
          clear c2
          go_wp2_with (at_builtin; refine wpList_append_own _ rfl _ _ 22 rfl wL.heap.size 36 info (.agg #[.int .i64 0, .int .i64 0, .int .i64 0]) 3 24 Try.underlying22 hi hz0 hz1 hz2 rfl (by decide) _ _ _ rfl (World.ownsRow.alloc (World.ownsRow.alloc hown _) _) ⟨wr.heap.size + 1, 0, none⟩ 1 1 [.int .i64 3, .int .i64 wh, .int .i64 (2 * (i0 : Int) + 1 - (i0 : Int))] rfl rfl (cell_three_at _ _ _ _ _ _ (by simp)) (three_cells _ _ _) (by unfold maxLen; omega) (by omega) (by simp; omega) ?_)
          intro v3 w3 hown3 hgrow3 _
          obtain ⟨g3, c3, rfl⟩ := ownsRow_succ hown3
          have HO3 : Hid (w3.ownsRow wL.heap.size 36 3 (.slice (some ⟨g3, 0, none⟩) (k + 1) c3) (k + 1) (flatE ((es.map (mev i0)).take (k + 1)))) := by
            show World.ownsRow _ _ _ _ _ _ _
            rw [HTK.out, flatE_snoc, HME]
            exact hown3
          have HB3 : Hid (Below wL.heap.size wL w3) := ((HB.out.alloc HB.out.size _).alloc (by have := HB.out.size; simp; omega) _).grown hgrow3 (by simp; omega) (fun k e => (World.ownsRow.lt hown k e).1)
          clear hown3 hgrow3
          go_wp2
          go_roundw
          case rel => exact ⟨k + 1, by omega, by go_num, HO3.out, HB3⟩
          case measure => simp [intOf]; omega
        · have c2' : (of == (i0 : Int)) = false := by simpa using c2
          by_cases c3 : of = (i0 : Int) + 1
          · have HME : mev i0 ⟨3, wh, of⟩ = ⟨3, wh, 2 * (i0 : Int) + 1 - ((i0 : Int) + 1)⟩ := by unfold mev; rw [if_pos ⟨rfl, .inr c3⟩, c3]
            have c2'' : ((i0 : Int) + 1 == (i0 : Int)) = false := by simp; omega
            rw [c3] at hc3
            clear c2 c3 c2'
            go_wp2_with (at_builtin; refine wpList_append_own _ rfl _ _ 22 rfl wL.heap.size 36 info (.agg #[.int .i64 0, .int .i64 0, .int .i64 0]) 3 24 Try.underlying22 hi hz0 hz1 hz2 rfl (by decide) _ _ _ rfl (World.ownsRow.alloc (World.ownsRow.alloc hown _) _) ⟨wr.heap.size + 1, 0, none⟩ 1 1 [.int .i64 3, .int .i64 wh, .int .i64 (2 * (i0 : Int) + 1 - ((i0 : Int) + 1))] rfl rfl (cell_three_at _ _ _ _ _ _ (by simp)) (three_cells _ _ _) (by unfold maxLen; omega) (by omega) (by simp; omega) ?_)
            intro v3 w3 hown3 hgrow3 _
            obtain ⟨g3, c3, rfl⟩ := ownsRow_succ hown3
            have HO3 : Hid (w3.ownsRow wL.heap.size 36 3 (.slice (some ⟨g3, 0, none⟩) (k + 1) c3) (k + 1) (flatE ((es.map (mev i0)).take (k + 1)))) := by
              show World.ownsRow _ _ _ _ _ _ _
              rw [HTK.out, flatE_snoc, HME]
              exact hown3
            have HB3 : Hid (Below wL.heap.size wL w3) := ((HB.out.alloc HB.out.size _).alloc (by have := HB.out.size; simp; omega) _).grown hgrow3 (by simp; omega) (fun k e => (World.ownsRow.lt hown k e).1)
            clear hown3 hgrow3
            go_wp2
            go_roundw
            case rel => exact ⟨k + 1, by omega, by go_num, HO3.out, HB3⟩
            case measure => simp [intOf]; omega
          · have HME : mev i0 ⟨3, wh, of⟩ = ⟨3, wh, of⟩ := by unfold mev; rw [if_neg (fun h => h.2.elim c2 c3)]
            have c3' : (of == (i0 : Int) + 1) = false := by simpa using c3
            clear c2 c3
            go_wp2_with (at_builtin; refine wpList_append_own _ rfl _ _ 22 rfl wL.heap.size 36 info (.agg #[.int .i64 0, .int .i64 0, .int .i64 0]) 3 24 Try.underlying22 hi hz0 hz1 hz2 rfl (by decide) _ _ _ rfl (World.ownsRow.alloc (World.ownsRow.alloc hown _) _) ⟨wr.heap.size + 1, 0, none⟩ 1 1 [.int .i64 3, .int .i64 wh, .int .i64 of] rfl rfl (cell_three_at _ _ _ _ _ _ (by simp)) (three_cells _ _ _) (by unfold maxLen; omega) (by omega) (by simp; omega) ?_)
            intro v3 w3 hown3 hgrow3 _
            obtain ⟨g3, c3, rfl⟩ := ownsRow_succ hown3
            have HO3 : Hid (w3.ownsRow wL.heap.size 36 3 (.slice (some ⟨g3, 0, none⟩) (k + 1) c3) (k + 1) (flatE ((es.map (mev i0)).take (k + 1)))) := by
              show World.ownsRow _ _ _ _ _ _ _
              rw [HTK.out, flatE_snoc, HME]
              exact hown3
            have HB3 : Hid (Below wL.heap.size wL w3) := ((HB.out.alloc HB.out.size _).alloc (by have := HB.out.size; simp; omega) _).grown hgrow3 (by simp; omega) (fun k e => (World.ownsRow.lt hown k e).1)
            clear hown3 hgrow3
            go_wp2
            go_roundw
            case rel => exact ⟨k + 1, by omega, by go_num, HO3.out, HB3⟩
            case measure => simp [intOf]; omega
      · have c1' : (kd == 3) = false := by simpa using c1
        have HME : mev i0 ⟨kd, wh, of⟩ = ⟨kd, wh, of⟩ := by unfold mev; rw [if_neg (fun h => c1 h.1)]
        clear c1
        go_wp2_with (at_builtin; refine wpList_append_own _ rfl _ _ 22 rfl wL.heap.size 36 info (.agg #[.int .i64 0, .int .i64 0, .int .i64 0]) 3 24 Try.underlying22 hi hz0 hz1 hz2 rfl (by decide) _ _ _ rfl (World.ownsRow.alloc (World.ownsRow.alloc hown _) _) ⟨wr.heap.size + 1, 0, none⟩ 1 1 [.int .i64 kd, .int .i64 wh, .int .i64 of] rfl rfl (cell_three_at _ _ _ _ _ _ (by simp)) (three_cells _ _ _) (by unfold maxLen; omega) (by omega) (by simp; omega) ?_)
        intro v3 w3 hown3 hgrow3 _
        obtain ⟨g3, c3, rfl⟩ := ownsRow_succ hown3
        have HO3 : Hid (w3.ownsRow wL.heap.size 36 3 (.slice (some ⟨g3, 0, none⟩) (k + 1) c3) (k + 1) (flatE ((es.map (mev i0)).take (k + 1)))) := by
          show World.ownsRow _ _ _ _ _ _ _
          rw [HTK.out, flatE_snoc, HME]
          exact hown3
        have HB3 : Hid (Below wL.heap.size wL w3) := ((HB.out.alloc HB.out.size _).alloc (by have := HB.out.size; simp; omega) _).grown hgrow3 (by simp; omega) (fun k e => (World.ownsRow.lt hown k e).1)
        clear hown3 hgrow3
        go_wp2
        go_roundw
        case rel => exact ⟨k + 1, by omega, by go_num, HO3.out, HB3⟩
        case measure => simp [intOf]; omega
    · obtain rfl : k = len := by omega
      have hfull : (es.map (mev i0)).take k = es.map (mev i0) := List.take_of_length_le (by rw [List.length_map, HL.out]; exact Nat.le_refl _)
      rw [hfull] at hown
      obtain ⟨m, hm⟩ : ∃ m, k = m + 1 := ⟨k - 1, by omega⟩
      have hsh : ∃ g c, u10 = .slice (some ⟨g, 0, none⟩) k c := by
        rw [hm] at hown
        obtain ⟨g2, c2, e⟩ := ownsRow_succ hown
        exact ⟨g2, c2, by rw [hm]; exact e⟩
      obtain ⟨g, c, rfl⟩ := hsh
      have hcc : k ≤ c := by
        obtain ⟨_, h1 | ⟨g4, c4, cur, h1, _, _, h2, _⟩⟩ := id hown
        · exact absurd h1.1 (by simp)
        · cases h1; exact h2
      have hcc' : (k : Int) ≤ (c : Int) := by omega
      obtain ⟨ea, hea⟩ : ∃ ea, es[i0]? = some ea := ⟨_, List.getElem?_eq_getElem (by rw [HL.out]; omega)⟩
      obtain ⟨eb, heb⟩ : ∃ eb, es[i0 + 1]? = some eb := ⟨_, List.getElem?_eq_getElem (by rw [HL.out]; omega)⟩
      have hla : (es.map (mev i0))[i0]? = some (mev i0 ea) := by rw [List.getElem?_map, hea]; rfl
      have hlb : (es.map (mev i0))[i0 + 1]? = some (mev i0 eb) := by rw [List.getElem?_map, heb]; rfl
      have HEA := hidMk hea
      have HEB := hidMk heb
      obtain ⟨fa1, fa2, fa3⟩ := flatE_at _ hla
      obtain ⟨fb1, fb2, fb3⟩ := flatE_at _ hlb
      have ga1 : wr.cell? ⟨g, i0 * 3, none⟩ = some (.int .i64 (mev i0 ea).kind) := by rw [World.ownsRow.cellAt hown _ (by omega), fa1]
      have ga2 : wr.cell? ⟨g, i0 * 3 + 1, none⟩ = some (.int .i64 (mev i0 ea).who) := by rw [World.ownsRow.cellAt hown _ (by omega), fa2]
      have ga3 : wr.cell? ⟨g, i0 * 3 + 2, none⟩ = some (.int .i64 (mev i0 ea).of) := by rw [World.ownsRow.cellAt hown _ (by omega), fa3]
      have gb1 : wr.cell? ⟨g, (i0 + 1) * 3, none⟩ = some (.int .i64 (mev i0 eb).kind) := by rw [World.ownsRow.cellAt hown _ (by omega), fb1]
      have gb2 : wr.cell? ⟨g, (i0 + 1) * 3 + 1, none⟩ = some (.int .i64 (mev i0 eb).who) := by rw [World.ownsRow.cellAt hown _ (by omega), fb2]
      have gb3 : wr.cell? ⟨g, (i0 + 1) * 3 + 2, none⟩ = some (.int .i64 (mev i0 eb).of) := by rw [World.ownsRow.cellAt hown _ (by omega), fb3]
      have hgl := (World.ownsRow.lt hown g rfl).2
      generalize hma : mev i0 ea = ma at ga1 ga2 ga3
      generalize hmb : mev i0 eb = mb at gb1 gb2 gb3
      have HMA := hidMk hma
      have HMB := hidMk hmb
      have HOW := hidMk hown
      clear hma hmb hea heb hla hlb fa1 fa2 fa3 fb1 fb2 fb3 hown hfull hm
      go_wp2
      go_region
      · obtain ⟨pA1, pA2, pA3, pB1, pB2, pB3, hG1⟩ := two_new wr ma mb
        have hne1 : g ≠ wr.heap.size := by omega
        have hne2 : g ≠ wr.heap.size + 1 := by omega
        generalize ((wr.alloc (.cells #[.int .i64 ma.kind, .int .i64 ma.who, .int .i64 ma.of] 36)).alloc (.cells #[.int .i64 mb.kind, .int .i64 mb.who, .int .i64 mb.of] 36)).drew = W1 at *
        generalize wr.heap.size + 1 = pb at *
        generalize wr.heap.size = pa at *
        have hown1 := World.ownsRow.kept HOW.out hG1 (by simp [Value.ownBlock])
        have q1 : W1.cell? ⟨g, i0 * 3, none⟩ = some (.int .i64 ma.kind) := grown_cell hG1 ga1
        have q2 : W1.cell? ⟨g, i0 * 3 + 1, none⟩ = some (.int .i64 ma.who) := grown_cell hG1 ga2
        have q3 : W1.cell? ⟨g, i0 * 3 + 2, none⟩ = some (.int .i64 ma.of) := grown_cell hG1 ga3
        have q4 : W1.cell? ⟨g, (i0 + 1) * 3, none⟩ = some (.int .i64 mb.kind) := grown_cell hG1 gb1
        have q5 : W1.cell? ⟨g, (i0 + 1) * 3 + 1, none⟩ = some (.int .i64 mb.who) := grown_cell hG1 gb2
        have q6 : W1.cell? ⟨g, (i0 + 1) * 3 + 2, none⟩ = some (.int .i64 mb.of) := grown_cell hG1 gb3
        have z1 := World.ownsRow.frozenAt hown1 (i0 * 3)
        have z2 := World.ownsRow.frozenAt hown1 (i0 * 3 + 1)
        have z3 := World.ownsRow.frozenAt hown1 (i0 * 3 + 2)
        have z4 := World.ownsRow.frozenAt hown1 ((i0 + 1) * 3)
        have z5 := World.ownsRow.frozenAt hown1 ((i0 + 1) * 3 + 1)
        have z6 := World.ownsRow.frozenAt hown1 ((i0 + 1) * 3 + 2)
        clear ga1 ga2 ga3 gb1 gb2 gb3
        have hs1 := store3 hown1 i0 mb
        have hs2 := store3 hs1.1 (i0 + 1) ma
        have hgS : W1.grownBy _ (some g) := grown_same hs1.2 hs2.2
        have hms : ((es.map (mev i0)).set i0 mb).set (i0 + 1) ma = swapped i0 es := by
          unfold swapped
          rw [HEA.out, HEB.out]
          dsimp only
          rw [HMA.out, HMB.out]
        rw [hms] at hs2
        have HS2 := hidMk hs2
        have hgl2 := (World.ownsRow.lt HOW.out g rfl).1
        have HSW := hidMk (swapped_is (es := es) (i := i0) (by rw [HL.out]; exact hi1))
        have HZ2 := hidMk (sw_ok hz.out HSW.out (by rw [HL.out]; exact hi1) hd.out)
        have hcame := rowE_came HS2.out.1 (by rw [HSW.out.1, HL.out]) hcc (by unfold maxLen; omega) (swapped_fits (by omega) HR.out.2.1)
        have HVV := hidMk (Vectors_ok n (some ⟨g, 0, none⟩) k c (swapped i0 es) _ hcame HZ2.out)
        have HBL := hidMk (HB.out.trans (⟨hG1.os, hG1.tape, hG1.output, hG1.size, fun q hq => hG1.block q (by have := HB.out.size; omega) (by simp)⟩ : Below wL.heap.size wr W1))
        have HBS := hidMk (HBL.out.grown hgS HBL.out.size (fun q e => by cases e; exact hgl2))
        clear hs1 hs2 hms hcame hgS
        go_wp2_with (go_at_call 9; refine (HVV.out).mono ?_; rintro e w5 ⟨⟨O2, R2, rfl, hO2⟩, hB5⟩)
        have HB5 : Hid (Below wL.heap.size wL w5) := HBS.out.trans (hB5.mono HBS.out.size)
        have HV1 := hidMk (rows2_below hO4 HB5.out)
        have HV2 := hidMk hO2
        have HBW : Hid (Below w.heap.size w w5) := hB4.trans (HB5.out.mono hB4.size)
        have HEQ : Hid (∀ j, j < k → rowN n (fun p => vc (swapped i0 es) p (sw i0 j)) = rowN n (fun p => vc es p j)) := fun j hj => rowN_congr fun p _ => sw_vc HVa.out (valid_of HZ2.out) HSW.out (by rw [HL.out]; exact hi1) (fun e => by rw [e] at hw; simp at hw) p (j + 1) j (by omega) (by rw [HL.out]; exact hj)
        clear hO2 hB5 q1 q2 q3 q4 q5 q6 z1 z2 z3 z4 z5 z6 hown1 pA1 pA2 pA3 pB1 pB2 pB3 HVV
        go_loopw [16] (fun u wq => ∃ j : Nat, j ≤ k ∧ u = .int .i64 (j : Int) ∧ Hid (∃ q, wq = w5.drewN q)) (fun u _ => k - (intOf u).toNat)
        case atStart => exact ⟨0, Nat.zero_le _, rfl, ⟨0, rfl⟩⟩
        case round =>
          obtain ⟨j, hj, rfl, HQ⟩ := hrel
          by_cases hjk : j < k
          · have hjk' : (j : Int) < (k : Int) := by omega
            have hsl : sw i0 j < k := sw_lt hi1 hjk
            have hv1 := rows2_out HV1.out hjk
            have hv2 := rows2_out HV2.out hsl
            have hze := HEQ.out j hjk
            have hr1 := rowZ_of (HV1.out.2 j hjk)
            have hr2 := rowZ_of (HV2.out.2 (sw i0 j) hsl)
            rw [hze] at hr2
            have hts : (j = i0 ∧ sw i0 j = i0 + 1) ∨ (j = i0 + 1 ∧ sw i0 j = i0) ∨ ((j ≠ i0 ∧ j ≠ i0 + 1) ∧ sw i0 j = j) := by
              unfold sw
              by_cases e1 : j = i0
              · left; exact ⟨e1, if_pos e1⟩
              · by_cases e2 : j = i0 + 1
                · right; left; exact ⟨e2, by rw [if_neg e1, if_pos e2]⟩
                · right; right; exact ⟨⟨e1, e2⟩, by rw [if_neg e1, if_neg e2]⟩
            generalize sw i0 j = t at *
            have d1 : wr.cell? ⟨O, j, none⟩ = some (.slice (some ⟨R j, 0, none⟩) n n) := by obtain ⟨q, e⟩ := HQ.out; rw [e]; exact hv1
            have d2 : wr.cell? ⟨O2, t, none⟩ = some (.slice (some ⟨R2 t, 0, none⟩) n n) := by obtain ⟨q, e⟩ := HQ.out; rw [e]; exact hv2
            have HI : Hid (∀ q, Calls Try.prog 13 #[.slice (some ⟨R j, 0, none⟩) n n, .slice (some ⟨R2 t, 0, none⟩) n n] (wr.drewN q) fun e w2 => e = .returned (.bool true) ∧ ∃ m2, w2 = (wr.drewN q).drewN m2) := fun q => by
              obtain ⟨q2, e⟩ := HQ.out
              subst e
              have h := ints_any _ _ n n n n _ _ ((w5.drewN q2).drewN q) hr1 hr2 (by omega) (by omega)
              simpa using h
            have htl' : (t : Int) < (k : Int) := by omega
            clear hv1 hv2 hze hr1 hr2
            rcases hts with ⟨e1, e2⟩ | ⟨e1, e2⟩ | ⟨⟨e1, e2⟩, e3⟩
            · have f1 : ((j : Int) == (i0 : Int)) = true := by simp; omega
              have f3 : 2 * (i0 : Int) + 1 - (j : Int) = (t : Int) := by omega
              have f4 : t < k := hsl
              clear e1 e2
              go_wp2
              go_quiet ((go_at_call 13; exact Calls.quiet_of (HI.out _)))
              go_wp2
              go_roundw
              case rel => exact ⟨j + 1, by omega, by go_num, drew_more HQ.out nq⟩
              case measure => simp [intOf]; omega
            · have f1 : ((j : Int) == (i0 : Int)) = false := by simp; omega
              have f2 : ((j : Int) == (i0 : Int) + 1) = true := by simp; omega
              have f3 : 2 * (i0 : Int) + 1 - (j : Int) = (t : Int) := by omega
              clear e1 e2
              go_wp2
              go_quiet ((go_at_call 13; exact Calls.quiet_of (HI.out _)))
              go_wp2
              go_roundw
              case rel => exact ⟨j + 1, by omega, by go_num, drew_more HQ.out nq⟩
              case measure => simp [intOf]; omega
            · have f1 : ((j : Int) == (i0 : Int)) = false := by simp; omega
              have f2 : ((j : Int) == (i0 : Int) + 1) = false := by simp; omega
              subst e3
              clear e1 e2
              go_wp2
              go_quiet ((go_at_call 13; exact Calls.quiet_of (HI.out _)))
              go_wp2
              go_roundw
              case rel => exact ⟨t + 1, by omega, by go_num, drew_more HQ.out nq⟩
              case measure => simp [intOf]; omega
          · obtain rfl : j = k := by omega
            go_wp2
            go_ret
            obtain ⟨q, e⟩ := HQ.out
            exact ⟨rfl, by rw [e]; exact below_drewN HBW.out q⟩
      · obtain ⟨pB1, pB2, pB3, pA1, pA2, pA3, hG1⟩ := two_new wr mb ma
        have hne1 : g ≠ wr.heap.size := by omega
        have hne2 : g ≠ wr.heap.size + 1 := by omega
        generalize ((wr.alloc (.cells #[.int .i64 mb.kind, .int .i64 mb.who, .int .i64 mb.of] 36)).alloc (.cells #[.int .i64 ma.kind, .int .i64 ma.who, .int .i64 ma.of] 36)).drew = W1 at *
        generalize wr.heap.size + 1 = pa at *
        generalize wr.heap.size = pb at *
        have hown1 := World.ownsRow.kept HOW.out hG1 (by simp [Value.ownBlock])
        have q1 : W1.cell? ⟨g, i0 * 3, none⟩ = some (.int .i64 ma.kind) := grown_cell hG1 ga1
        have q2 : W1.cell? ⟨g, i0 * 3 + 1, none⟩ = some (.int .i64 ma.who) := grown_cell hG1 ga2
        have q3 : W1.cell? ⟨g, i0 * 3 + 2, none⟩ = some (.int .i64 ma.of) := grown_cell hG1 ga3
        have q4 : W1.cell? ⟨g, (i0 + 1) * 3, none⟩ = some (.int .i64 mb.kind) := grown_cell hG1 gb1
        have q5 : W1.cell? ⟨g, (i0 + 1) * 3 + 1, none⟩ = some (.int .i64 mb.who) := grown_cell hG1 gb2
        have q6 : W1.cell? ⟨g, (i0 + 1) * 3 + 2, none⟩ = some (.int .i64 mb.of) := grown_cell hG1 gb3
        have z1 := World.ownsRow.frozenAt hown1 (i0 * 3)
        have z2 := World.ownsRow.frozenAt hown1 (i0 * 3 + 1)
        have z3 := World.ownsRow.frozenAt hown1 (i0 * 3 + 2)
        have z4 := World.ownsRow.frozenAt hown1 ((i0 + 1) * 3)
        have z5 := World.ownsRow.frozenAt hown1 ((i0 + 1) * 3 + 1)
        have z6 := World.ownsRow.frozenAt hown1 ((i0 + 1) * 3 + 2)
        clear ga1 ga2 ga3 gb1 gb2 gb3
        have hs1 := store3 hown1 i0 mb
        have hs2 := store3 hs1.1 (i0 + 1) ma
        have hgS : W1.grownBy _ (some g) := grown_same hs1.2 hs2.2
        have hms : ((es.map (mev i0)).set i0 mb).set (i0 + 1) ma = swapped i0 es := by
          unfold swapped
          rw [HEA.out, HEB.out]
          dsimp only
          rw [HMA.out, HMB.out]
        rw [hms] at hs2
        have HS2 := hidMk hs2
        have hgl2 := (World.ownsRow.lt HOW.out g rfl).1
        have HSW := hidMk (swapped_is (es := es) (i := i0) (by rw [HL.out]; exact hi1))
        have HZ2 := hidMk (sw_ok hz.out HSW.out (by rw [HL.out]; exact hi1) hd.out)
        have hcame := rowE_came HS2.out.1 (by rw [HSW.out.1, HL.out]) hcc (by unfold maxLen; omega) (swapped_fits (by omega) HR.out.2.1)
        have HVV := hidMk (Vectors_ok n (some ⟨g, 0, none⟩) k c (swapped i0 es) _ hcame HZ2.out)
        have HBL := hidMk (HB.out.trans (⟨hG1.os, hG1.tape, hG1.output, hG1.size, fun q hq => hG1.block q (by have := HB.out.size; omega) (by simp)⟩ : Below wL.heap.size wr W1))
        have HBS := hidMk (HBL.out.grown hgS HBL.out.size (fun q e => by cases e; exact hgl2))
        clear hs1 hs2 hms hcame hgS
        go_wp2_with (go_at_call 9; refine (HVV.out).mono ?_; rintro e w5 ⟨⟨O2, R2, rfl, hO2⟩, hB5⟩)
        have HB5 : Hid (Below wL.heap.size wL w5) := HBS.out.trans (hB5.mono HBS.out.size)
        have HV1 := hidMk (rows2_below hO4 HB5.out)
        have HV2 := hidMk hO2
        have HBW : Hid (Below w.heap.size w w5) := hB4.trans (HB5.out.mono hB4.size)
        have HEQ : Hid (∀ j, j < k → rowN n (fun p => vc (swapped i0 es) p (sw i0 j)) = rowN n (fun p => vc es p j)) := fun j hj => rowN_congr fun p _ => sw_vc HVa.out (valid_of HZ2.out) HSW.out (by rw [HL.out]; exact hi1) (fun e => by rw [e] at hw; simp at hw) p (j + 1) j (by omega) (by rw [HL.out]; exact hj)
        clear hO2 hB5 q1 q2 q3 q4 q5 q6 z1 z2 z3 z4 z5 z6 hown1 pA1 pA2 pA3 pB1 pB2 pB3 HVV
        go_loopw [16] (fun u wq => ∃ j : Nat, j ≤ k ∧ u = .int .i64 (j : Int) ∧ Hid (∃ q, wq = w5.drewN q)) (fun u _ => k - (intOf u).toNat)
        case atStart => exact ⟨0, Nat.zero_le _, rfl, ⟨0, rfl⟩⟩
        case round =>
          obtain ⟨j, hj, rfl, HQ⟩ := hrel
          by_cases hjk : j < k
          · have hjk' : (j : Int) < (k : Int) := by omega
            have hsl : sw i0 j < k := sw_lt hi1 hjk
            have hv1 := rows2_out HV1.out hjk
            have hv2 := rows2_out HV2.out hsl
            have hze := HEQ.out j hjk
            have hr1 := rowZ_of (HV1.out.2 j hjk)
            have hr2 := rowZ_of (HV2.out.2 (sw i0 j) hsl)
            rw [hze] at hr2
            have hts : (j = i0 ∧ sw i0 j = i0 + 1) ∨ (j = i0 + 1 ∧ sw i0 j = i0) ∨ ((j ≠ i0 ∧ j ≠ i0 + 1) ∧ sw i0 j = j) := by
              unfold sw
              by_cases e1 : j = i0
              · left; exact ⟨e1, if_pos e1⟩
              · by_cases e2 : j = i0 + 1
                · right; left; exact ⟨e2, by rw [if_neg e1, if_pos e2]⟩
                · right; right; exact ⟨⟨e1, e2⟩, by rw [if_neg e1, if_neg e2]⟩
            generalize sw i0 j = t at *
            have d1 : wr.cell? ⟨O, j, none⟩ = some (.slice (some ⟨R j, 0, none⟩) n n) := by obtain ⟨q, e⟩ := HQ.out; rw [e]; exact hv1
            have d2 : wr.cell? ⟨O2, t, none⟩ = some (.slice (some ⟨R2 t, 0, none⟩) n n) := by obtain ⟨q, e⟩ := HQ.out; rw [e]; exact hv2
            have HI : Hid (∀ q, Calls Try.prog 13 #[.slice (some ⟨R j, 0, none⟩) n n, .slice (some ⟨R2 t, 0, none⟩) n n] (wr.drewN q) fun e w2 => e = .returned (.bool true) ∧ ∃ m2, w2 = (wr.drewN q).drewN m2) := fun q => by
              obtain ⟨q2, e⟩ := HQ.out
              subst e
              have h := ints_any _ _ n n n n _ _ ((w5.drewN q2).drewN q) hr1 hr2 (by omega) (by omega)
              simpa using h
            have htl' : (t : Int) < (k : Int) := by omega
            clear hv1 hv2 hze hr1 hr2
            rcases hts with ⟨e1, e2⟩ | ⟨e1, e2⟩ | ⟨⟨e1, e2⟩, e3⟩
            · have f1 : ((j : Int) == (i0 : Int)) = true := by simp; omega
              have f3 : 2 * (i0 : Int) + 1 - (j : Int) = (t : Int) := by omega
              have f4 : t < k := hsl
              clear e1 e2
              go_wp2
              go_quiet ((go_at_call 13; exact Calls.quiet_of (HI.out _)))
              go_wp2
              go_roundw
              case rel => exact ⟨j + 1, by omega, by go_num, drew_more HQ.out nq⟩
              case measure => simp [intOf]; omega
            · have f1 : ((j : Int) == (i0 : Int)) = false := by simp; omega
              have f2 : ((j : Int) == (i0 : Int) + 1) = true := by simp; omega
              have f3 : 2 * (i0 : Int) + 1 - (j : Int) = (t : Int) := by omega
              clear e1 e2
              go_wp2
              go_quiet ((go_at_call 13; exact Calls.quiet_of (HI.out _)))
              go_wp2
              go_roundw
              case rel => exact ⟨j + 1, by omega, by go_num, drew_more HQ.out nq⟩
              case measure => simp [intOf]; omega
            · have f1 : ((j : Int) == (i0 : Int)) = false := by simp; omega
              have f2 : ((j : Int) == (i0 : Int) + 1) = false := by simp; omega
              subst e3
              clear e1 e2
              go_wp2
              go_quiet ((go_at_call 13; exact Calls.quiet_of (HI.out _)))
              go_wp2
              go_roundw
              case rel => exact ⟨t + 1, by omega, by go_num, drew_more HQ.out nq⟩
              case measure => simp [intOf]; omega
          · obtain rfl : j = k := by omega
            go_wp2
            go_ret
            obtain ⟨q, e⟩ := HQ.out
            exact ⟨rfl, by rw [e]; exact below_drewN HBW.out q⟩
end Go.Proofs.Yteahkegjekaanab
