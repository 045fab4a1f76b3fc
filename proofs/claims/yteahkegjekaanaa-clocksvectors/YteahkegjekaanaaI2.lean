/- folkmootkeep.ClocksOrder and ClocksLamport, walked. -/
import Derived.Test.YteahkegjekaanaaI1
import Derived.Test.YteahkegjekaanaaG4
namespace Go.Proofs.Yteahkegjekaanaa
open Go.RowKit Go.Shelf
set_option linter.unusedVariables false

theorem cells_lit (w : World) (t : TypeId) (zs : List Int) : ∀ (j : Nat) (z : Int), zs[j]? = some z → (w.alloc (.cells (zs.map (Value.int .i64)).toArray t)).cell? ⟨w.heap.size, j, none⟩ = some (.int .i64 z) := by
  intro j z hz
  rw [World.cell?_alloc_at _ _ _ _ rfl]
  simp [hz]

theorem befE_zero {N : Int} {es : List Ev} {i j : Int} (hz : evsCode N es = 0) (hi : 0 ≤ i ∧ i < es.length) (hj : 0 ≤ j ∧ j < es.length) : befE N es i j = 0 := by
  unfold befE; rw [if_neg (by simp [hz]), if_pos ⟨hi, hj⟩]
theorem befE_two {N : Int} {es : List Ev} {i j : Int} (hz : evsCode N es = 0) (h : ¬ ((0 ≤ i ∧ i < es.length) ∧ (0 ≤ j ∧ j < es.length))) : befE N es i j = 2 := by
  unfold befE; rw [if_neg (by simp [hz]), if_neg h]
theorem befA_in {N : Int} {es : List Ev} {i j : Nat} (hz : evsCode N es = 0) (hi : i < es.length) (hj : j < es.length) : befA N es (i : Int) (j : Int) = befB es i j := by
  unfold befA; rw [if_neg (by simp [hz]), if_pos (by omega)]; simp

set_option maxHeartbeats 2000000 in
theorem clocksOrder_walk (N i j k : Int) (a : Option Addr) (len cap : Nat) (es : List Ev) (w : World) (h : CameEv w a len cap es) :
    Calls Try.prog 7 #[.int .i64 N, .slice a len cap, .int .i64 i, .int .i64 j, .int .i64 k] w fun e w2 => e = .returned (.bool true) ∧ Below w.heap.size w w2 := by
  have HE : Hid (∀ w1, Below w.heap.size w w1 → Calls Try.prog 19 #[.int .i64 N, .slice a len cap] w1 fun e w2 => e = .returned (.bool (evsCode N es == 0)) ∧ Below w.heap.size w w2) := fun w1 hb => events_from N a len cap es w w1 h hb
  have HC : Hid (∀ w1, Below w.heap.size w w1 → Calls Try.prog 9 #[.int .i64 N, .slice a len cap] w1 fun e w2 => e = .returned (.int .i64 (evsCode N es)) ∧ Below w.heap.size w w2) := fun w1 hb => check_from N a len cap es w w1 h hb
  have HF : Hid (∀ i j w1, Below w.heap.size w w1 → Calls Try.prog 11 #[.int .i64 N, .slice a len cap, .int .i64 i, .int .i64 j] w1 fun e w2 => e = .returned (.tuple #[.bool (befA N es i j), .int .i64 (befE N es i j)]) ∧ Below w.heap.size w w2) := fun i j w1 hb => before_from N i j a len cap es w w1 h hb
  have hB0 : Below w.heap.size w w := Below.refl _ _
  by_cases hz : evsCode N es = 0
  · have hzb : (evsCode N es == 0) = true := by simpa using hz
    rw [hzb] at HE
    have hl := h.1
    have hmx := h.2.2.1
    by_cases hin : inB (len : Int) [i, j, k] = true
    · have hall : (0 ≤ i ∧ i < (len : Int)) ∧ (0 ≤ j ∧ j < (len : Int)) ∧ (0 ≤ k ∧ k < (len : Int)) := by simpa [inB] using hin
      obtain ⟨i0, rfl⟩ : ∃ x : Nat, i = x := ⟨i.toNat, by omega⟩
      obtain ⟨j0, rfl⟩ : ∃ x : Nat, j = x := ⟨j.toNat, by omega⟩
      obtain ⟨k0, rfl⟩ : ∃ x : Nat, k = x := ⟨k.toNat, by omega⟩
      have hv := valid_of hz
      have a1 := befA_in hz (i := i0) (j := j0) (by omega) (by omega)
      have a2 := befA_in hz (i := j0) (j := k0) (by omega) (by omega)
      have a3 := befA_in hz (i := i0) (j := k0) (by omega) (by omega)
      have a4 : befA N es (i0 : Int) (i0 : Int) = false := by rw [befA_in hz (by omega) (by omega)]; simp [befB]
      have e1 := befE_zero hz (i := (i0 : Int)) (j := (j0 : Int)) (by omega) (by omega)
      have e2 := befE_zero hz (i := (j0 : Int)) (j := (k0 : Int)) (by omega) (by omega)
      have e3 := befE_zero hz (i := (i0 : Int)) (j := (k0 : Int)) (by omega) (by omega)
      have e4 := befE_zero hz (i := (i0 : Int)) (j := (i0 : Int)) (by omega) (by omega)
      have HT : Hid (befB es i0 j0 = true → i0 < j0) := fun h => bef_lt hv h
      have HT2 : Hid (befB es i0 j0 = true → befB es j0 k0 = true → befB es i0 k0 = true) := fun h1 h2 => bef_trans hv h1 h2
      have HT3 : Hid (befB es i0 j0 = false → i0 < j0 → whoAt es i0 ≠ whoAt es j0) := fun h1 h2 h3 => by
        have := bef_same hv (i := i0) (j := j0) (by omega) h2 h3
        rw [h1] at this; cases this
      rcases h.2.2.2 with h0 | ⟨b, off, rfl, hr⟩
      · omega
      have HW : Hid (∀ (x : Nat) w1, x < len → Below w.heap.size w w1 → w1.cell? ⟨b, off + x * 3 + 1, none⟩ = some (.int .i64 (whoAt es x))) := fun x w1 hx hb => by
        obtain ⟨ev, he, _, _, _, hd2, _⟩ := (hr.below hr.1 hb).at (k := x) (by omega)
        rw [whoAt_eq he]; exact hd2
      have hi' : (i0 : Int) < (len : Int) := by omega
      have hj' : (j0 : Int) < (len : Int) := by omega
      have hmx' : (len : Int) ≤ 60 := by have := hv.2.2.1; omega
      clear hz hv hr h hall
      generalize hg1 : befB es i0 j0 = b1 at a1 HT HT2 HT3
      generalize hg2 : befB es j0 k0 = b2 at a2 HT2
      generalize hg3 : befB es i0 k0 = b3 at a3 HT2
      clear hg1 hg2 hg3
      go_enter Try.func7, Try.ntmps7
      go_wp2_with (first | (go_at_call 11; refine (HF.out _ _ _ (by assumption)).mono ?_; rintro e w2 ⟨rfl, hB2⟩) | (go_at_call 19; refine (HE.out _ (by assumption)).mono ?_; rintro e w2 ⟨rfl, hB1⟩) | (go_at_call 20; refine (inside_any _ _ 3 3 [(i0 : Int), (j0 : Int), (k0 : Int)] _ rfl (by decide) (cells_lit _ _ _)).mono ?_; rintro e w3 ⟨rfl, rfl⟩))
      have hBn := hB2.alloc hB2.size (.cells #[.int .i64 (i0 : Int), .int .i64 (j0 : Int), .int .i64 (k0 : Int)] 3)
      have hwi := HW.out i0 _ (by omega) hBn
      have hwj := HW.out j0 _ (by omega) hBn
      have HBN := hidMk hBn
      clear hBn HW
      cases b1 with
      | true =>
        have hlt : (i0 : Int) < (j0 : Int) := by have := HT.out rfl; omega
        cases b2 with
        | true =>
          have hb3 : b3 = true := HT2.out rfl rfl
          subst hb3
          go_quiet (fail)
          go_wp2
          go_ret
          exact ⟨by simp, below_drewN HBN.out _⟩
        | false =>
          go_quiet (fail)
          go_wp2
          go_ret
          exact ⟨by simp, below_drewN HBN.out _⟩
      | false =>
        by_cases hlt : i0 < j0
        · have hw : (whoAt es i0 != whoAt es j0) = true := bne_iff_ne.2 (HT3.out rfl hlt)
          have hlt' : ((j0 : Int) ≤ (i0 : Int)) = False := by simp; omega
          have hge : decide ((j0 : Int) ≤ (i0 : Int)) = false := by simp; omega
          have hge2 : decide (j0 ≤ i0) = false := by simp; omega
          go_quiet (fail)
          go_wp2
          go_ret
          exact ⟨by simp, below_drewN HBN.out _⟩
        · have hge : (j0 : Int) ≤ (i0 : Int) := by omega
          have hge2 : j0 ≤ i0 := by omega
          go_quiet (fail)
          go_wp2
          go_ret
          exact ⟨by simp, below_drewN HBN.out _⟩
    · have hin' : inB (len : Int) [i, j, k] = false := by simpa using hin
      have he : befE N es i j = 2 ∨ (befE N es i j = 0 ∧ befE N es j k = 2) := by
        by_cases h1 : (0 ≤ i ∧ i < (es.length : Int)) ∧ (0 ≤ j ∧ j < (es.length : Int))
        · have h2 : ¬ ((0 ≤ j ∧ j < (es.length : Int)) ∧ (0 ≤ k ∧ k < (es.length : Int))) := fun h2 => hin (by simp [inB]; omega)
          exact .inr ⟨befE_zero hz h1.1 h1.2, befE_two hz h2⟩
        · exact .inl (befE_two hz h1)
      clear hz h hin
      rcases he with he1 | ⟨he1, he2⟩
      all_goals go_enter Try.func7, Try.ntmps7
      all_goals go_wp2_with (first | (go_at_call 11; refine (HF.out _ _ _ (by assumption)).mono ?_; rintro e w2 ⟨rfl, hB2⟩) | (go_at_call 19; refine (HE.out _ (by assumption)).mono ?_; rintro e w2 ⟨rfl, hB1⟩) | (go_at_call 20; refine (inside_any _ _ 3 3 [i, j, k] _ rfl (by decide) (cells_lit _ _ _)).mono ?_; rintro e w3 ⟨rfl, rfl⟩))
      all_goals go_ret
      all_goals exact ⟨rfl, hB2.alloc hB2.size _⟩
  · have hzb : (evsCode N es == 0) = false := by simpa using hz
    have hzn : (evsCode N es != 0) = true := by simpa using hz
    rw [hzb] at HE
    generalize evsCode N es = c at HC hzn
    clear h hz hzb HF
    go_enter Try.func7, Try.ntmps7
    go_wp2_with (first | (go_at_call 19; refine (HE.out _ (by assumption)).mono ?_; rintro e w2 ⟨rfl, hB1⟩) | (go_at_call 9; refine (HC.out _ (by assumption)).mono ?_; rintro e w2 ⟨rfl, hB2⟩))
    go_ret
    exact ⟨rfl, hB2⟩
end Go.Proofs.Yteahkegjekaanaa
