/- The statement QuorumTwice, walked: whatever came in, it answers true and keeps what lay there. -/
import Derived.Test.YtblinhncklpidaaE9
namespace Go.Proofs.Ytblinhncklpidaa
open Go.RowKit

set_option maxHeartbeats 400000 in
theorem quorumTwice_err (n c : Int) (a : Option Addr) (len cap : Nat) (w : World) (hc : (c != 0) = true)
    (hF : Calls Try.prog 17 #[.int .i64 n, .slice a len cap] w fun e w' => e = .returned (.tuple #[.slice none 0 0, .int .i64 c]) ∧ Below w.heap.size w w')
    (hR : ∀ w1, Below w.heap.size w w1 → Calls Try.prog 20 #[.int .i64 n, .slice a len cap] w1 fun e w' => e = .returned (.bool (c == 0)) ∧ w' = w1) :
    Calls Try.prog 8 #[.int .i64 n, .slice a len cap] w fun e w' => e = .returned (.bool true) ∧ Below w.heap.size w w' := by
  rw [wrong_zero hc] at hR
  have HF := hidMk hF
  have HR := hidMk hR
  clear hF hR
  go_enter Try.func8, Try.ntmps8
  go_wp2_with (first | (go_at_call 17; refine (HF.out).mono ?_; rintro e w1 ⟨rfl, hB⟩) | (go_at_call 20; refine (HR.out _ hB).mono ?_; rintro e w2 ⟨rfl, hw⟩; obtain rfl := hw.symm))
  go_ret
  exact ⟨rfl, hB⟩

set_option maxHeartbeats 2000000 in
theorem quorumTwice_ok (n : Int) (b off len cap : Nat) (qs L : List Nat) (w : World) (hl : qs.length = len) (hl2 : len ≤ 64) (hq : Row w b off qs) (hL1 : 1 ≤ L.length) (hL2 : L.length ≤ 4096)
    (hLx : ∀ x ∈ L, x < 4294967296) (hin : ∀ (i j x y : Nat), L[i]? = some x → L[j]? = some y → i ≠ j → inB x y = false) (hh : ∀ x ∈ qs, holdsB L x = true)
    (hF : Calls Try.prog 17 #[.int .i64 n, .slice (some ⟨b, off, none⟩) len cap] w fun e w' => ∃ v, e = .returned (.tuple #[v, .int .i64 0]) ∧ Made w' w.heap.size v L ∧ Below w.heap.size w w')
    (hR : ∀ w1, Below w.heap.size w w1 → Calls Try.prog 20 #[.int .i64 n, .slice (some ⟨b, off, none⟩) len cap] w1 fun e w' => e = .returned (.bool true) ∧ w' = w1)
    (hC : ∀ a1 c1 w1, Came32 w1 a1 L.length c1 L → Calls Try.prog 17 #[.int .i64 n, .slice a1 L.length c1] w1 fun e w' => ∃ v, e = .returned (.tuple #[v, .int .i64 0]) ∧ Made w' w1.heap.size v L ∧ Below w1.heap.size w1 w') :
    Calls Try.prog 8 #[.int .i64 n, .slice (some ⟨b, off, none⟩) len cap] w fun e w' => e = .returned (.bool true) ∧ Below w.heap.size w w' := by
  have HF := hidMk hF
  have HR := hidMk hR
  have HC := hidMk hC
  have HLx := hidMk hLx
  have HIN := hidMk hin
  have HH := hidMk hh
  have HL := hidMk hl
  clear hF hR hC hLx hin hh hl
  have hb1 : (0 : Int) < (L.length : Int) := by omega
  have hb2 : (L.length : Int) ≤ 4096 := by omega
  have hl2' : (len : Int) ≤ 64 := by omega
  have hbz : ((L.length : Int) == 0) = false := by rw [beq_eq_false_iff_ne]; omega
  have hLL : (L == L) = true := by simp
  go_enter Try.func8, Try.ntmps8
  go_wp2_with (first
    | (go_at_call 17; refine (HC.out _ _ _ HC1.out).mono ?_; rintro e w2 ⟨v, rfl, hM2, hBb⟩; obtain ⟨a2, c2, rfl, hC2, _⟩ := came_owned hM2 HLx.out; have HC2 := hidMk hC2; clear hC2 hM2)
    | (go_at_call 17; refine (HF.out).mono ?_; rintro e w1 ⟨v, rfl, hM, hB⟩; obtain ⟨a1, c1, rfl, hC1, _⟩ := came_owned hM HLx.out; have HC1 := hidMk hC1; obtain ⟨b1, o1, rfl, hq1⟩ := hC1.2.2.2.resolve_left (by omega); clear hC1 hM HF)
    | (go_at_call 20; refine (HR.out _ hB).mono ?_; rintro e w2 ⟨rfl, hw⟩; obtain rfl := hw.symm)
    | (go_at_call 12; refine (words_any _ _ _ _ c1 c2 L L _ hL2 hL2 (HC1.out.below hBb) HC2.out).mono ?_; rw [hLL]; rintro e w3 ⟨rfl, hBd⟩))
  have hA1 := hB.trans (hBb.mono hB.size)
  have hA := hA1.trans (hBd.mono hA1.size)
  have hq2 := hq.below rfl hA
  have hqb := (hq1.below rfl hBb).below rfl hBd
  go_loop [52] (fun i => ∃ k : Nat, k ≤ L.length ∧ i = .int .i64 (k : Int)) (fun i => L.length - (intOf i).toNat)
  case atStart => exact ⟨0, Nat.zero_le _, rfl⟩
  case round =>
    obtain ⟨k, hk, rfl⟩ := hrel
    by_cases hlt : k < L.length
    · have hlt' : (k : Int) < (L.length : Int) := by omega
      obtain ⟨x, hx, hxm, hxb, hxc⟩ := hqb.at (k := k) hlt
      have HXX := hidMk hx
      clear hx
      go_wp2
      go_loop [59] (fun i => ∃ j : Nat, j ≤ L.length ∧ i = .int .i64 (j : Int)) (fun i => L.length - (intOf i).toNat)
      case atStart => exact ⟨0, Nat.zero_le _, rfl⟩
      case round =>
        obtain ⟨j, hj, rfl⟩ := hrel
        by_cases hlt2 : j < L.length
        · have hj' : (j : Int) < (L.length : Int) := by omega
          obtain ⟨y, hy, hym, hyb, hyc⟩ := hqb.at (k := j) hlt2
          have HYY := hidMk hy
          clear hy
          by_cases he : k = j
          · subst he
            have hne : ((k : Int) != (k : Int)) = false := by simp
            go_wp2
            go_round
            case rel => exact ⟨k + 1, by omega, by go_num⟩
            case measure => simp [intOf]; omega
          · have hz := or_in x y hxb hyb
            rw [HIN.out k j x y HXX.out HYY.out he] at hz
            have hne : ((k : Int) != (j : Int)) = true := by simp; omega
            have HE := hidMk he
            clear he
            go_wp2
            go_round
            case rel => exact ⟨j + 1, by omega, by go_num⟩
            case measure => simp [intOf]; omega
        · obtain rfl : j = L.length := by omega
          go_wp2
          go_round
          case rel => exact ⟨k + 1, by omega, by go_num⟩
          case measure => simp [intOf]; omega
    · obtain rfl : k = L.length := by omega
      go_wp2
      go_loop [78] (fun i => ∃ j : Nat, j ≤ len ∧ i = .int .i64 (j : Int)) (fun i => len - (intOf i).toNat)
      case atStart => exact ⟨0, Nat.zero_le _, rfl⟩
      case round =>
        obtain ⟨j, hj, rfl⟩ := hrel
        by_cases hlt2 : j < len
        · have hj' : (j : Int) < (len : Int) := by omega
          obtain ⟨y, hy, hym, hyb, hyc⟩ := hq2.at (k := j) (by rw [HL.out]; exact hlt2)
          clear hy
          have HHo := hidMk (holds_row y b1 o1 L.length c1 L w3 hyb rfl hL2 hqb)
          rw [HH.out y hym] at HHo
          go_wp2_with (go_at_call 21; refine (HHo.out).mono ?_; rintro e w4 ⟨rfl, hw⟩; obtain rfl := hw.symm)
          go_round
          case rel => exact ⟨j + 1, by omega, by go_num⟩
          case measure => simp [intOf]; omega
        · obtain rfl : j = len := by omega
          go_wp2
          go_ret
          exact ⟨rfl, hA⟩

theorem quorumTwice_walk (n : Int) (a : Option Addr) (len cap : Nat) (qs : List Nat) (w : World) (h : Came32 w a len cap qs) :
    Calls Try.prog 8 #[.int .i64 n, .slice a len cap] w fun e w' => e = .returned (.bool true) ∧ Below w.heap.size w w' := by
  have hR : ∀ w1, Below w.heap.size w w1 → _ := fun w1 hb => keepFamily_any n _ a len cap w1 (refFamily_any n a len cap qs w1 (h.below hb))
  by_cases hc : famCodeOf n qs = 0
  · obtain ⟨z1, z2, z3, z4, z5⟩ := famCodeOf_zero hc
    have hx : ∀ x ∈ qs, x < 2 ^ n.toNat := fun x hx => (good_lt z5 hx).2
    have hn : n.toNat ≤ 12 := by omega
    simp only [hc] at hR
    have hF := least_any n a len cap qs w h hc
    obtain ⟨h1, h2, h3, h4⟩ := h
    obtain ⟨b, off, rfl, hq⟩ := h4.resolve_left (by omega)
    refine quorumTwice_ok n b off len cap qs (leastsTo qs (2 ^ n.toNat)) w h1 (by omega) hq (leasts_pos hx z3) (leastsTo_len' qs hn)
      (fun x hx => leastsTo_32 hn hx) ?_ (fun x hxm => holds_iff.2 (leasts_in hx hxm)) hF hR ?_
    · intro i j x y hi hj hne
      obtain ⟨e1, e2⟩ := List.getElem?_eq_some_iff.1 hi
      obtain ⟨e3, e4⟩ := List.getElem?_eq_some_iff.1 hj
      have hxy : x ≠ y := by
        have hr := List.pairwise_iff_getElem.1 (leasts_rise qs (2 ^ n.toNat))
        rcases Nat.lt_or_gt_of_ne hne with h5 | h5
        · have := hr i j e1 e3 h5; omega
        · have := hr j i e3 e1 h5; omega
      exact leastB_iff.1 (leastsTo_iff.1 (List.mem_of_getElem? hj)).2.2 x (leastsTo_iff.1 (List.mem_of_getElem? hi)).2.1 hxy
    · intro a1 c1 w1 hC1
      have := least_any n a1 _ c1 _ w1 hC1 (leasts_family hc)
      rw [leasts_twice] at this
      exact this
  · have hc' : (famCodeOf n qs != 0) = true := by simpa using hc
    exact quorumTwice_err n _ a len cap w hc' (least_err n _ a len cap w hc' (family_any n a len cap qs w h)) hR
end Go.Proofs.Ytblinhncklpidaa
