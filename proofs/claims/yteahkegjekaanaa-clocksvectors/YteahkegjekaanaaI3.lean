/- folkmootkeep.ClocksLamport, walked. -/
import Derived.Test.YteahkegjekaanaaI2
namespace Go.Proofs.Yteahkegjekaanaa
open Go.RowKit Go.Shelf
set_option linter.unusedVariables false

theorem grown_of_below {A B : World} (h : Below A.heap.size A B) : A.grownBy B none := ⟨h.os, h.tape, h.output, h.size, fun k hk _ => h.block k hk⟩
theorem owns_below {A B : World} {base : Nat} {e : TypeId} {size : Nat} {v : Value} {n : Nat} {xs : List Value} (h : A.ownsRow base e size v n xs) (hb : Below A.heap.size A B) : B.ownsRow base e size v n xs :=
  h.kept (grown_of_below hb) (by cases hv : v.ownBlock <;> simp)

theorem before_rel (N i j : Int) (a : Option Addr) (len cap : Nat) (es : List Ev) (w w1 : World) (h : CameEv w a len cap es) (hb : Below w.heap.size w w1) :
    Calls Try.prog 11 #[.int .i64 N, .slice a len cap, .int .i64 i, .int .i64 j] w1 fun e w2 => e = .returned (.tuple #[.bool (befA N es i j), .int .i64 (befE N es i j)]) ∧ Below w1.heap.size w1 w2 :=
  before_from N i j a len cap es w1 w1 (h.below hb) (Below.refl _ _)
theorem scalars_rel (N : Int) (a : Option Addr) (len cap : Nat) (es : List Ev) (w w1 : World) (h : CameEv w a len cap es) (hz : evsCode N es = 0) (hb : Below w.heap.size w w1) :
    Calls Try.prog 13 #[.int .i64 N, .slice a len cap] w1 fun e w2 => (∃ O, e = .returned (.tuple #[.slice (some ⟨O, 0, none⟩) len len, .int .i64 0]) ∧ RowI w2 w.heap.size O len (sc es)) ∧ Below w1.heap.size w1 w2 :=
  (scalars_ok N a len cap es w1 (h.below hb) hz).mono fun e w2 ⟨⟨O, h1, h2⟩, h3⟩ => ⟨⟨O, h1, owns_le h2 hb.size⟩, h3⟩

set_option maxHeartbeats 2000000 in
theorem clocksLamport_walk (N i j : Int) (a : Option Addr) (len cap : Nat) (es : List Ev) (w : World) (h : CameEv w a len cap es) :
    Calls Try.prog 8 #[.int .i64 N, .slice a len cap, .int .i64 i, .int .i64 j] w fun e w2 => e = .returned (.bool true) ∧ Below w.heap.size w w2 := by
  have HE : Hid (Calls Try.prog 19 #[.int .i64 N, .slice a len cap] w fun e w2 => e = .returned (.bool (evsCode N es == 0)) ∧ Below w.heap.size w w2) := events_from N a len cap es w w h (Below.refl _ _)
  have HC : Hid (∀ w1, Below w.heap.size w w1 → Calls Try.prog 9 #[.int .i64 N, .slice a len cap] w1 fun e w2 => e = .returned (.int .i64 (evsCode N es)) ∧ Below w.heap.size w w2) := fun w1 hb => check_from N a len cap es w w1 h hb
  have HF : Hid (∀ i j w1, Below w.heap.size w w1 → Calls Try.prog 11 #[.int .i64 N, .slice a len cap, .int .i64 i, .int .i64 j] w1 fun e w2 => e = .returned (.tuple #[.bool (befA N es i j), .int .i64 (befE N es i j)]) ∧ Below w1.heap.size w1 w2) := fun i j w1 hb => before_rel N i j a len cap es w w1 h hb
  by_cases hz : evsCode N es = 0
  · have hzb : (evsCode N es == 0) = true := by simpa using hz
    rw [hzb] at HE
    have HS : Hid (∀ w1, Below w.heap.size w w1 → Calls Try.prog 13 #[.int .i64 N, .slice a len cap] w1 fun e w2 => (∃ O, e = .returned (.tuple #[.slice (some ⟨O, 0, none⟩) len len, .int .i64 0]) ∧ RowI w2 w.heap.size O len (sc es)) ∧ Below w1.heap.size w1 w2) := fun w1 hb => scalars_rel N a len cap es w w1 h hz hb
    have hl := h.1
    have hv := valid_of hz
    have hmx' : (len : Int) ≤ 60 := by have := hv.2.2.1; omega
    by_cases hin : inB (len : Int) [i, j] = true
    · have hall : (0 ≤ i ∧ i < (len : Int)) ∧ (0 ≤ j ∧ j < (len : Int)) := by simpa [inB] using hin
      obtain ⟨i0, rfl⟩ : ∃ x : Nat, i = x := ⟨i.toNat, by omega⟩
      obtain ⟨j0, rfl⟩ : ∃ x : Nat, j = x := ⟨j.toNat, by omega⟩
      have a1 := befA_in hz (i := i0) (j := j0) (by omega) (by omega)
      have e1 := befE_zero hz (i := (i0 : Int)) (j := (j0 : Int)) (by omega) (by omega)
      have HT : Hid (befB es i0 j0 = true → sc es i0 < sc es j0) := fun h => sc_bef hv (j0 + 1) (by omega) h
      have HP := hidMk (sc_pos hv i0)
      have hi0 : i0 < len := by omega
      have hj0 : j0 < len := by omega
      have hi' : (i0 : Int) < (len : Int) := by omega
      have hj' : (j0 : Int) < (len : Int) := by omega
      clear hz hv h hall
      generalize hg1 : befB es i0 j0 = b1 at a1 HT
      clear hg1
      go_enter Try.func8, Try.ntmps8
      go_wp2_with (first | (go_at_call 11; refine (HF.out _ _ _ hB3).mono ?_; rintro e w4 ⟨rfl, hB4⟩) | (go_at_call 13; refine (HS.out _ hB1).mono ?_; rintro e w2 ⟨⟨O, rfl, hO⟩, hB2⟩; have hB3 := below_from hB1 hB2) | (go_at_call 19; refine (HE.out).mono ?_; rintro e w1 ⟨rfl, hB1⟩) | (go_at_call 20; refine (inside_any _ _ 2 2 [(i0 : Int), (j0 : Int)] _ rfl (by decide) (cells_lit _ _ _)).mono ?_; rintro e w3 ⟨rfl, rfl⟩))
      have hO2 := owns_below (owns_below hO hB4) ((Below.refl _ w4).alloc (Nat.le_refl _) (.cells #[.int .i64 (i0 : Int), .int .i64 (j0 : Int)] 3))
      have hci : (w4.alloc (.cells #[.int .i64 (i0 : Int), .int .i64 (j0 : Int)] 3)).cell? ⟨O, i0, none⟩ = some (.int .i64 ((sc es i0 : Nat) : Int)) := by
        rw [World.ownsRow.cellAt hO2 i0 (by omega), List.getElem?_map, rowN_at hi0]; simp [encN]
      have hcj : (w4.alloc (.cells #[.int .i64 (i0 : Int), .int .i64 (j0 : Int)] 3)).cell? ⟨O, j0, none⟩ = some (.int .i64 ((sc es j0 : Nat) : Int)) := by
        rw [World.ownsRow.cellAt hO2 j0 (by omega), List.getElem?_map, rowN_at hj0]; simp [encN]
      have HBN : Hid (Below w.heap.size w (w4.alloc (.cells #[.int .i64 (i0 : Int), .int .i64 (j0 : Int)] 3))) := by
        have := below_from hB3 hB4
        exact this.alloc this.size _
      have hp1 : (1 : Int) ≤ ((sc es i0 : Nat) : Int) := by have := HP.out; omega
      clear hO hO2
      cases b1 with
      | true =>
        have hlt : ((sc es i0 : Nat) : Int) < ((sc es j0 : Nat) : Int) := by have := HT.out rfl; omega
        go_quiet (fail)
        go_wp2
        go_ret
        exact ⟨by simp, below_drewN HBN.out _⟩
      | false =>
        go_quiet (fail)
        go_wp2
        go_ret
        exact ⟨by simp, below_drewN HBN.out _⟩
    · have hin' : inB (len : Int) [i, j] = false := by simpa using hin
      have he1 : befE N es i j = 2 := befE_two hz (fun h2 => hin (by simp [inB]; omega))
      clear hz h hin hv
      go_enter Try.func8, Try.ntmps8
      go_wp2_with (first | (go_at_call 11; refine (HF.out _ _ _ hB3).mono ?_; rintro e w4 ⟨rfl, hB4⟩) | (go_at_call 13; refine (HS.out _ hB1).mono ?_; rintro e w2 ⟨⟨O, rfl, hO⟩, hB2⟩; have hB3 := below_from hB1 hB2) | (go_at_call 19; refine (HE.out).mono ?_; rintro e w1 ⟨rfl, hB1⟩) | (go_at_call 20; refine (inside_any _ _ 2 2 [i, j] _ rfl (by decide) (cells_lit _ _ _)).mono ?_; rintro e w3 ⟨rfl, rfl⟩))
      go_ret
      have hB5 := below_from hB3 hB4
      exact ⟨rfl, hB5.alloc hB5.size _⟩
  · have hzb : (evsCode N es == 0) = false := by simpa using hz
    have hzn : (evsCode N es != 0) = true := by simpa using hz
    rw [hzb] at HE
    generalize evsCode N es = c at HC hzn
    clear h hz hzb HF
    go_enter Try.func8, Try.ntmps8
    go_wp2_with (first | (go_at_call 9; refine (HC.out _ hB1).mono ?_; rintro e w2 ⟨rfl, hB2⟩) | (go_at_call 19; refine (HE.out).mono ?_; rintro e w1 ⟨rfl, hB1⟩))
    go_ret
    exact ⟨rfl, hB2⟩
end Go.Proofs.Yteahkegjekaanaa
