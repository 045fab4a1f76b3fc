/- Machines in a ring: StableSome, walked. -/
import Derived.Test.YtflmbhjighnicaaJa5
namespace Go.Proofs.Ytflmbhjighnicaa
open Go.RowKit
set_option linter.unusedVariables false

theorem natsI_frL {n : Nat} {s : Nat → Int} {j : Nat} {x : Int} (h : (natsI (frL n s n))[j]? = some x) : ∃ i : Nat, x = (i : Int) ∧ i < n ∧ frJ n s i = true := by
  obtain ⟨m, h1, h2⟩ := natsI_back h
  have := frL_mem.1 (List.mem_of_getElem? h1)
  exact ⟨m, h2, this.1, this.2⟩

set_option maxRecDepth 100000 in
set_option maxHeartbeats 4000000 in
theorem ssome_bad {W : World} {a : Option Addr} {n c : Nat} {zs : List Int} {k : Int} (h : RowI W a n c zs) (hz : codeJ k zs ≠ 0) :
    Calls Try.prog 6 #[.int .i64 k, .slice a n c] W fun e W2 => e = .returned (.bool true) ∧ Below W.heap.size W W2 := by
  have HC := hidMk (free_bad h hz)
  have HR : Hid (∀ w1, Stil W w1 → Calls Try.prog 16 #[.int .i64 k, .slice a n c] w1 fun e w2 => e = .returned (.bool false) ∧ w2 = w1) := hidMk (fun w1 hs => by
    have := states_any (h.still hs) k
    rw [show (codeJ k zs == 0) = false by simpa using hz] at this
    exact this)
  generalize codeJ k zs = rc at *
  have q1 : (rc != 0) = true := by simpa using hz
  clear h hz
  go_enter Try.func6, Try.ntmps6
  go_wp2_with (first | (go_at_call 11; refine (HC.out).mono ?_; rintro e w1 ⟨rfl, hk1⟩) | (go_at_call 16; refine (HR.out _ hk1).mono ?_; rintro e w2 ⟨rfl, hw⟩; obtain rfl := hw.symm))
  go_ret
  exact ⟨rfl, Stil.below hk1⟩

set_option maxRecDepth 100000 in
set_option maxHeartbeats 8000000 in
theorem ssome_ok {W : World} {a : Option Addr} {n c : Nat} {s : Nat → Int} {k : Int} (h : RowI W a n c (rwJ n s)) (h2 : 2 ≤ n) (h6 : n ≤ 6) (k2 : 2 ≤ k) (k3 : k ≤ 1000) (hv : OkJ k n s) :
    Calls Try.prog 6 #[.int .i64 k, .slice a n c] W fun e W2 => e = .returned (.bool true) ∧ Below W.heap.size W W2 := by
  have HC := hidMk (free_ok h h2 h6 k2 k3 hv)
  have HR : Hid (∀ w1, Stil W w1 → Calls Try.prog 16 #[.int .i64 k, .slice a n c] w1 fun e w2 => e = .returned (.bool true) ∧ w2 = w1) := hidMk (fun w1 hs => by
    have := states_any (h.still hs) k
    rw [codeJ_ok h2 h6 k2 k3 hv] at this
    exact this)
  have HW := hidMk h
  have hn6 : (n : Int) ≤ 6 := by omega
  have hlen := frL_le n s n
  have hpos := cn_pos h2 s
  rw [← frL_len] at hpos
  have HV := hidMk hv
  have HIn : Hid (∀ x ∈ natsI (frL n s n), 0 ≤ x ∧ x < (n : Int)) := hidMk (fun x hx => by
    obtain ⟨j, hj⟩ := List.getElem?_of_mem hx
    obtain ⟨i, rfl, hi, _⟩ := natsI_frL hj
    omega)
  obtain ⟨L, hL⟩ : ∃ L, (frL n s n).length = L := ⟨_, rfl⟩
  rw [hL] at HC hlen hpos
  have HL := hidMk hL
  have g1 : ((L : Int) == 0) = false := by rw [beq_eq_false_iff_ne]; omega
  have g2 : (L == 0) = false := by rw [beq_eq_false_iff_ne]; omega
  clear h hv hL
  go_enter Try.func6, Try.ntmps6
  go_wp2_with (first | (go_at_call 11; refine (HC.out).mono ?_; rintro e w1 ⟨a2, c2, rfl, hr1, hk1⟩; have HR1 := hidMk hr1; clear hr1) | (go_at_call 16; refine (HR.out _ hk1).mono ?_; rintro e w2 ⟨rfl, hw⟩; obtain rfl := hw.symm) | (go_at_call 17; refine (inside_true (n : Int) HR1.out (by omega) HIn.out).mono ?_; rintro e w3 ⟨rfl, hw3⟩; obtain rfl := hw3.symm))
  have HK := hidMk hk1
  obtain ⟨r1, r2, r3, r4⟩ := HR1.out
  rcases r4 with r4 | ⟨b, off, rfl, hb, hcell⟩
  · omega
  have HCe := hidMk hcell
  clear hk1 HC HR HR1 hcell r1 r3 hb HIn
  go_loopw [41] (fun u wr => ∃ j : Nat, j ≤ L ∧ u = .int .i64 (j : Int) ∧ Hid (Stil w1 wr)) (fun u _ => L - (intOf u).toNat)
  case atStart => exact ⟨0, Nat.zero_le _, rfl, Keep.refl _ _⟩
  case round =>
    obtain ⟨j, hj, rfl, HS⟩ := hrel
    by_cases hlt : j < L
    · have hlt' : (j : Int) < (L : Int) := by omega
      have hx : (natsI (frL n s n))[j]? = some ((natsI (frL n s n))[j]'(by rw [natsI_len, HL.out]; exact hlt)) := List.getElem?_eq_getElem _
      generalize (natsI (frL n s n))[j]'(by rw [natsI_len, HL.out]; exact hlt) = x at hx
      have d0 := HS.out.cell (HCe.out j x hx)
      obtain ⟨i, rfl, hi, hf⟩ := natsI_frL hx
      have HM := hidMk (move_ok ((HW.out.still HK.out).still HS.out) h2 h6 k2 k3 HV.out hi hf)
      have hle := fr_less HV.out h2 k2 hi hf
      have hps := cn_pos h2 (mvJ k s i)
      have HV2 := hidMk (mv_ok HV.out k2 hi)
      rw [← frL_len, ← frL_len, HL.out] at hle
      rw [← frL_len] at hps
      obtain ⟨L2, hL2⟩ : ∃ L2, (frL n (mvJ k s i) n).length = L2 := ⟨_, rfl⟩
      rw [hL2] at hle hps
      have HL2 := hidMk hL2
      have g3 : ((L2 : Int) == 0) = false := by rw [beq_eq_false_iff_ne]; omega
      have g4 : (L2 == 0) = false := by rw [beq_eq_false_iff_ne]; omega
      have g5 : decide ((L : Int) < (L2 : Int)) = false := decide_eq_false (by omega)
      have g6 : decide (L < L2) = false := decide_eq_false (by omega)
      clear hx hf hL2
      go_wp2_with (first | (go_at_call 14; refine (HM.out).mono ?_; rintro e w3 ⟨a3, c3, rfl, hr3, hk3⟩; have HR3 := hidMk hr3; have HK3 := hidMk hk3; clear hr3 hk3) | (go_at_call 11; refine (free_ok HR3.out h2 h6 k2 k3 HV2.out).mono ?_; rintro e w4 ⟨a4, c4, rfl, hr4, hk4⟩; rw [HL2.out]; clear hr4; have HK4 := hidMk hk4; clear hk4))
      go_roundw
      case rel => exact ⟨j + 1, by omega, by go_num, (HS.out.tr HK3.out).tr HK4.out⟩
      case measure => simp [intOf]; omega
    · obtain rfl : j = L := by omega
      go_wp2
      go_ret
      exact ⟨rfl, Stil.below (HK.out.tr HS.out)⟩
theorem ssome_walk {W : World} {a : Option Addr} {n c : Nat} {zs : List Int} (k : Int) (h : CameI W a n c zs) :
    Calls Try.prog 6 #[.int .i64 k, .slice a n c] W fun e W2 => e = .returned (.bool true) ∧ Below W.heap.size W W2 := by
  by_cases hz : codeJ k zs = 0
  · obtain ⟨s, _, h1, h2, h3, h4, h5, h6⟩ := stJ h hz
    exact ssome_ok h1 h2 h3 h4 h5 h6
  · exact ssome_bad h hz
end Go.Proofs.Ytflmbhjighnicaa
