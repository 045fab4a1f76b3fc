/- Contract of folkmootref.Masks: the same answer as the program's. -/
import Derived.Test.YtblinhncklpidaaD1
namespace Go.Proofs.Ytblinhncklpidaa
open Go.RowKit

theorem inB_refl (s : Nat) : inB s s = true := inB_iff.2 fun _ h => h
theorem inB_trans {a b c : Nat} (h1 : inB a b = true) (h2 : inB b c = true) : inB a c = true := inB_iff.2 fun i h => inB_iff.1 h2 i (inB_iff.1 h1 i h)
theorem wo_in (s i : Nat) (hi : i < 32) (hs : s < 4294967296) : inB (wo s i) s = true := inB_iff.2 fun j h => by
  rw [wo_bit s i j hi hs] at h
  exact (Bool.and_eq_true_iff.1 h).1
theorem wo_less {s i : Nat} (hb : s.testBit i = true) (hi : i < 32) (hs : s < 4294967296) : wo s i < s := by
  have hle : wo s i ≤ s := Nat.and_le_left
  rcases Nat.lt_or_eq_of_le hle with h | h
  · exact h
  · have := wo_bit s i i hi hs
    rw [h, hb] at this
    simp at this

theorem needs_false {qs : List Nat} {s : Nat} (h : needsB qs s = false) : ∃ i, i < 32 ∧ s.testBit i = true ∧ meetsB qs (wo s i) = true := by
  unfold needsB at h
  rw [List.all_eq_false] at h
  obtain ⟨i, hi, h2⟩ := h
  have h3 : s.testBit i = true ∧ meetsB qs (wo s i) = true := by simpa using h2
  exact ⟨i, List.mem_range.1 hi, h3.1, h3.2⟩

/-- What meets each has a least set in it that does. -/
theorem shrink {qs : List Nat} (s : Nat) (hs : s < 4294967296) (hm : meetsB qs s = true) : ∃ t, t ≤ s ∧ inB t s = true ∧ blockB qs t = true := by
  induction s using Nat.strongRecOn with
  | _ s ih =>
    cases hn : needsB qs s
    · obtain ⟨i, hi, hb, h2⟩ := needs_false hn
      have hlt := wo_less hb hi hs
      obtain ⟨t, h3, h4, h5⟩ := ih (wo s i) hlt (by omega) h2
      exact ⟨t, by omega, inB_trans h4 (wo_in s i hi hs), h5⟩
    · exact ⟨s, Nat.le_refl _, inB_refl s, by unfold blockB; rw [hm, hn]; rfl⟩

/-- Some set of at most m members, of the first k, meets each. -/
def someTo (qs : List Nat) (m : Int) (k : Nat) : Bool := (List.range k).any fun s => decide ((sz s : Int) ≤ m) && meetsB qs s
theorem someTo_succ (qs : List Nat) (m : Int) (k : Nat) : someTo qs m (k + 1) = (someTo qs m k || (decide ((sz k : Int) ≤ m) && meetsB qs k)) := by
  unfold someTo; rw [List.range_succ, List.any_append]; simp

theorem someTo_out (n : Nat) (hn : n ≤ 12) (qs : List Nat) (m : Int) : (!someTo qs m (2 ^ n)) = outB n qs m := by
  unfold outB
  congr 1
  rw [Bool.eq_iff_iff]
  unfold someTo
  rw [List.any_eq_true, List.any_eq_true]
  have hp := two_pow_lt n (by omega)
  constructor
  · rintro ⟨s, hs, h⟩
    have hs' := List.mem_range.1 hs
    obtain ⟨h1, h2⟩ := Bool.and_eq_true_iff.1 h
    obtain ⟨t, h3, h4, h5⟩ := shrink s (by omega) h2
    refine ⟨t, List.mem_filter.2 ⟨List.mem_range.2 (by omega), h5⟩, ?_⟩
    have := sz_mono h4
    have := of_decide_eq_true h1
    exact decide_eq_true (by omega)
  · rintro ⟨t, ht, h⟩
    obtain ⟨h1, h2⟩ := List.mem_filter.1 ht
    refine ⟨t, h1, ?_⟩
    rw [h, (Bool.and_eq_true_iff.1 h2).1]; rfl

/-- a has so many members in common with each of the first j. -/
def rowTo (qs : List Nat) (m : Int) (a j : Nat) : Bool := (qs.take j).all fun b => decide (2 * m + 1 ≤ (sz (a &&& b) : Int))
def allTo (qs : List Nat) (m : Int) (k : Nat) : Bool := (qs.take k).all fun a => qs.all fun b => decide (2 * m + 1 ≤ (sz (a &&& b) : Int))
theorem all_take_succ {α : Type} (p : α → Bool) (qs : List α) {k : Nat} {x : α} (h : qs[k]? = some x) : (qs.take (k + 1)).all p = ((qs.take k).all p && p x) := by
  have hk : k < qs.length := (List.getElem?_eq_some_iff.1 h).1
  have e : qs[k] = x := (List.getElem?_eq_some_iff.1 h).2
  rw [List.take_succ_eq_append_getElem hk, e]
  simp

theorem common_false {qs : List Nat} {m : Int} {a b : Nat} (ha : a ∈ qs) (hb : b ∈ qs) (h : (sz (a &&& b) : Int) < 2 * m + 1) : commonB qs m = false := by
  unfold commonB
  rw [List.all_eq_false]
  refine ⟨a, ha, ?_⟩
  intro hall
  rw [List.all_eq_true] at hall
  have := of_decide_eq_true (hall b hb)
  omega

set_option maxHeartbeats 2000000 in
theorem refMasks_row (n b off len cap : Nat) (m : Int) (qs : List Nat) (w : World) (hn : n ≤ 12) (hl : qs.length = len) (hl2 : len ≤ 64) (hq : Row w b off qs) (hm0 : 0 ≤ m) (hm1 : m ≤ 12) :
    Calls Try.prog 16 #[.int .i64 n, .slice (some ⟨b, off, none⟩) len cap, .int .i64 m] w fun e w' => e = .returned (.bool (masksB n qs m)) ∧ w' = w := by
  have HL := hidMk hl
  clear hl
  have hl2' : (len : Int) ≤ 64 := by omega
  have hpw := pow_mod n (by omega)
  have HT := hidMk (someTo_out n hn qs m)
  have hp : 0 < 2 ^ n := Nat.two_pow_pos n
  have hp2 : 2 ^ n ≤ 4096 := Nat.le_trans (Nat.pow_le_pow_right (by omega) hn) (by decide)
  obtain ⟨M, hM⟩ : ∃ M, 2 ^ n = M + 1 := ⟨2 ^ n - 1, by omega⟩
  rw [hM] at hp2 hpw HT
  have hpw' : (2 : Int) ^ n % 4294967296 = (M : Int) + 1 := by rw [hpw]; omega
  have hM' : (M : Int) ≤ 4095 := by omega
  clear hM hp hpw
  have hn' : (n : Int) ≤ 12 := by omega
  go_enter Try.func16, Try.ntmps16
  go_wp2
  go_loop [14] (fun i => ∃ k : Nat, k ≤ len ∧ i = .int .i64 (k : Int) ∧ Hid (allTo qs m k = true)) (fun i => len - (intOf i).toNat)
  case atStart => exact ⟨0, Nat.zero_le _, rfl, by simp [Hid, allTo]⟩
  case round =>
    obtain ⟨k, hk, rfl, hall⟩ := hrel
    by_cases hlt : k < len
    · obtain ⟨x, hx, hmem, hxb, hc⟩ := hq.at (k := k) (by rw [HL.out]; exact hlt)
      have HX := hidMk hx
      clear hx
      go_wp2
      go_loop [20] (fun i => ∃ j : Nat, j ≤ len ∧ i = .int .i64 (j : Int) ∧ Hid (rowTo qs m x j = true)) (fun i => len - (intOf i).toNat)
      case atStart => exact ⟨0, Nat.zero_le _, rfl, by simp [Hid, rowTo]⟩
      case round =>
        obtain ⟨j, hj, rfl, hall2⟩ := hrel
        by_cases hlt2 : j < len
        · obtain ⟨y, hy, hmem2, hyb, hc2⟩ := hq.at (k := j) (by rw [HL.out]; exact hlt2)
          have HY := hidMk hy
          clear hy
          have hz := and_bounds x y hxb hyb
          have HS := hidMk (size_int _ hz.1 hz.2)
          have hs : sz (bits .and .u32 (x : Int) (y : Int)).toNat = sz (x &&& y) := by rw [u32_and_nat x y hxb hyb]; rfl
          rw [hs] at HS
          clear hs hz
          have hle : sz (x &&& y) ≤ 32 := cnt_le 32 _
          by_cases h0 : (sz (x &&& y) : Int) < 2 * m + 1
          · have HC := hidMk (common_false hmem hmem2 h0)
            generalize sz (x &&& y) = v at *
            have hv : (v : Int) ≤ 32 := by omega
            go_wp2_with (go_at_call 30; refine (HS.out _).mono ?_; rintro e w' ⟨rfl, hw⟩; obtain rfl := hw.symm)
            go_ret
            exact ⟨ret_bool (by unfold masksB; rw [HC.out]; rfl), rfl⟩
          · have HR : Hid (rowTo qs m x (j + 1) = true) := by
              show rowTo qs m x (j + 1) = true
              unfold rowTo
              rw [all_take_succ _ _ HY.out]
              have := hall2.out
              unfold rowTo at this
              rw [this]
              exact decide_eq_true (by omega)
            have h0' : 2 * m + 1 ≤ (sz (x &&& y) : Int) := by omega
            generalize sz (x &&& y) = v at *
            have hv : (v : Int) ≤ 32 := by omega
            go_wp2_with (go_at_call 30; refine (HS.out _).mono ?_; rintro e w' ⟨rfl, hw⟩; obtain rfl := hw.symm)
            go_round
            case rel => exact ⟨j + 1, by omega, by go_num, HR⟩
            case measure => simp [intOf]; omega
        · obtain rfl : j = len := by omega
          go_wp2
          go_round
          case rel =>
            refine ⟨k + 1, by omega, by go_num, ?_⟩
            have e := hall2.out
            unfold rowTo at e
            rw [List.take_of_length_le (by rw [HL.out]; exact Nat.le_refl _)] at e
            show allTo qs m (k + 1) = true
            have e2 := hall.out
            unfold allTo at e2 ⊢
            rw [all_take_succ _ _ HX.out, e2]
            exact e
          case measure => simp [intOf]; omega
    · obtain rfl : k = len := by omega
      have HC : Hid (commonB qs m = true) := by
        have e := hall.out
        unfold allTo at e
        rw [List.take_of_length_le (by rw [HL.out]; exact Nat.le_refl _)] at e
        exact e
      clear hall
      go_wp2
      go_loop [11] (fun i => ∃ k : Nat, k ≤ M + 1 ∧ i = .int .u32 (k : Int) ∧ Hid (someTo qs m k = false)) (fun i => M + 1 - (intOf i).toNat)
      case atStart => exact ⟨0, Nat.zero_le _, rfl, by simp [Hid, someTo]⟩
      case round =>
        obtain ⟨s, hs, rfl, hno⟩ := hrel
        by_cases hlt3 : s < M + 1
        · have hlt' : (s : Int) < (M : Int) + 1 := by omega
          have hs' : (s : Int) ≤ 4095 := by omega
          have hs32 : s < 4294967296 := by omega
          have HS := hidMk (size_any s hs32)
          have HM := hidMk (refMeets_nat s b off k cap qs w hs32 HL.out (by omega) hq)
          have hsucc := someTo_succ qs m s
          rw [hno.out, Bool.false_or] at hsucc
          have HSU := hidMk hsucc
          clear hsucc
          have hle : sz s ≤ 32 := cnt_le 32 _
          by_cases h0 : (sz s : Int) ≤ m
          · cases hmt : meetsB qs s
            · have HSU' : Hid (someTo qs m (s + 1) = false) := by show someTo qs m (s + 1) = false; rw [HSU.out, hmt]; simp
              rw [hmt] at HM
              clear hmt HSU
              generalize sz s = v at *
              have hv : (v : Int) ≤ 32 := by omega
              go_wp2_with (first | (go_at_call 30; refine (HS.out _).mono ?_; rintro e w' ⟨rfl, hw⟩; obtain rfl := hw.symm) | (go_at_call 27; refine (HM.out).mono ?_; rintro e w' ⟨rfl, hw⟩; obtain rfl := hw.symm))
              go_round
              case rel => exact ⟨s + 1, by omega, by go_num, HSU'⟩
              case measure => simp [intOf]; omega
            · have HSU' : Hid (outB n qs m = false) := by
                show outB n qs m = false
                rw [← HT.out]
                have : someTo qs m (M + 1) = true := by
                  unfold someTo
                  exact List.any_eq_true.2 ⟨s, List.mem_range.2 hlt3, by rw [hmt]; simpa using h0⟩
                rw [this]; rfl
              rw [hmt] at HM
              clear hmt HSU
              generalize sz s = v at *
              have hv : (v : Int) ≤ 32 := by omega
              go_wp2_with (first | (go_at_call 30; refine (HS.out _).mono ?_; rintro e w' ⟨rfl, hw⟩; obtain rfl := hw.symm) | (go_at_call 27; refine (HM.out).mono ?_; rintro e w' ⟨rfl, hw⟩; obtain rfl := hw.symm))
              go_ret
              exact ⟨ret_bool (by unfold masksB; rw [HSU'.out]; simp), rfl⟩
          · have HSU' : Hid (someTo qs m (s + 1) = false) := by show someTo qs m (s + 1) = false; rw [HSU.out]; simp [h0]
            have h0' : m < (sz s : Int) := by omega
            clear HSU
            generalize sz s = v at *
            have hv : (v : Int) ≤ 32 := by omega
            go_wp2_with (go_at_call 30; refine (HS.out _).mono ?_; rintro e w' ⟨rfl, hw⟩; obtain rfl := hw.symm)
            go_round
            case rel => exact ⟨s + 1, by omega, by go_num, HSU'⟩
            case measure => simp [intOf]; omega
        · obtain rfl : s = M + 1 := by omega
          go_wp2
          go_ret
          refine ⟨ret_bool ?_, rfl⟩
          unfold masksB
          rw [HC.out, ← HT.out, hno.out]; rfl
end Go.Proofs.Ytblinhncklpidaa
