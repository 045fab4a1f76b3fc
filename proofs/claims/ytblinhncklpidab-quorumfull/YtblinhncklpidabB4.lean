/- The statement QuorumMasks, walked: whatever came in, it answers true and keeps what lay there. -/
import Derived.Test.YtblinhncklpidabB3
namespace Go.Proofs.Ytblinhncklpidab
open Go.RowKit

theorem common_none {qs : List Nat} (hb : ∀ x ∈ qs, x < 4294967296) (h : sysB qs = false) : commonB qs 0 = true := by
  unfold commonB
  rw [List.all_eq_true]
  intro a ha
  rw [List.all_eq_true]
  intro b hb'
  have h1 := List.any_eq_false.1 h a ha
  have h2 : apartB qs a = false := by simpa using h1
  have h3 := List.any_eq_false.1 h2 b hb'
  have h4 : a &&& b ≠ 0 := by simpa using h3
  have h5 : sz (a &&& b) ≠ 0 := fun e => h4 ((sz_zero (and_lt a b (hb a ha))).1 e)
  exact decide_eq_true (by omega)

theorem out_none {n : Nat} {qs : List Nat} (hn : n ≤ 12) (h1 : 1 ≤ qs.length) : outB n qs 0 = true := by
  unfold outB
  have : ((blocksTo qs (2 ^ n)).any fun s => decide ((sz s : Int) ≤ 0)) = false := by
    rw [List.any_eq_false]
    intro s hs h
    have h2 := of_decide_eq_true h
    have hlt : s < 4294967296 := Nat.lt_trans (blocksTo_lt hs) (two_pow_lt n (by omega))
    have h0 : s = 0 := (sz_zero hlt).1 (by omega)
    have hb := (List.mem_filter.1 hs).2
    unfold blockB at hb
    obtain ⟨x, hx⟩ : ∃ x, qs[0]? = some x := ⟨qs[0], List.getElem?_eq_getElem (by omega)⟩
    rw [h0, meets_hit hx (Nat.zero_and _)] at hb
    cases hb
  rw [this]; rfl

/-- Some set has no liar. -/
theorem some_free {n l : Nat} {m : Int} {qs : List Nat} (hn : n ≤ 12) (hl : l < 2 ^ n) (hs : (sz l : Int) ≤ m) (h : outB n qs m = true) : apartB qs l = true := by
  cases hm : apartB qs l
  · have h2 : meetsB qs l = true := by unfold meetsB; rw [hm]; rfl
    have h32 := two_pow_lt n (by omega)
    obtain ⟨t, h3, h4, h5⟩ := shrink l (by omega) h2
    unfold outB at h
    have h6 : ((blocksTo qs (2 ^ n)).any fun s => decide ((sz s : Int) ≤ m)) = true :=
      List.any_eq_true.2 ⟨t, List.mem_filter.2 ⟨List.mem_range.2 (by omega), h5⟩, decide_eq_true (by have := sz_mono h4; omega)⟩
    rw [h6] at h
    cases h
  · rfl

/-- More that do not lie are in both than that do. -/
theorem more_true {qs : List Nat} {a b l : Nat} {m : Int} (ha : a ∈ qs) (hb : b ∈ qs) (hl : l < 4294967296) (hs : (sz l : Int) ≤ m) (h : commonB qs m = true) :
    (sz ((a &&& b) &&& l) : Int) < sz ((a &&& b) &&& (4294967295 - l)) := by
  unfold commonB at h
  rw [List.all_eq_true] at h
  have h2 := h a ha
  rw [List.all_eq_true] at h2
  have h3 := of_decide_eq_true (h2 b hb)
  have h4 := sz_split (a &&& b) l hl
  have h5 : sz ((a &&& b) &&& l) ≤ sz l := sz_mono (inB_iff.2 fun i hi => by rw [Nat.testBit_and] at hi; exact (Bool.and_eq_true_iff.1 hi).2)
  omega

set_option maxHeartbeats 400000 in
theorem system_any (n c : Int) (a : Option Addr) (len cap : Nat) (w : World)
    (hR : Calls Try.prog 23 #[.int .i64 n, .slice a len cap] w fun e w' => e = .returned (.int .i64 c) ∧ w' = w) :
    Calls Try.prog 12 #[.int .i64 n, .slice a len cap] w fun e w' => e = .returned (.bool (c == 0)) ∧ w' = w := by
  have HR := hidMk hR
  clear hR
  go_enter Try.func12, Try.ntmps12
  go_wp2_with (go_at_call 23; refine (HR.out).mono ?_; rintro e w' ⟨rfl, hw⟩; obtain rfl := hw.symm)
  go_ret
  exact ⟨rfl, rfl⟩

set_option maxHeartbeats 400000 in
theorem quorumMasks_err (n c m : Int) (i j l : Int) (a : Option Addr) (len cap : Nat) (w : World) (hc : (c == 0) = false)
    (hF : Calls Try.prog 14 #[.int .i64 n, .slice a len cap, .int .i64 m] w fun e w' => e = .returned (.tuple #[.bool false, .int .i64 c]) ∧ Below w.heap.size w w')
    (hR : ∀ w1, Below w.heap.size w w1 → Calls Try.prog 12 #[.int .i64 n, .slice a len cap] w1 fun e w' => e = .returned (.bool false) ∧ w' = w1) :
    Calls Try.prog 5 #[.int .i64 n, .slice a len cap, .int .i64 m, .int .u8 i, .int .u8 j, .int .u32 l] w fun e w' => e = .returned (.bool true) ∧ Below w.heap.size w w' := by
  have HF := hidMk hF
  have HR := hidMk hR
  clear hF hR
  have hc2 : (c != 0) = true := by simpa using hc
  go_enter Try.func5, Try.ntmps5
  go_wp2_with (first | (go_at_call 14; refine (HF.out).mono ?_; rintro e w1 ⟨rfl, hB⟩) | (go_at_call 12; refine (HR.out _ hB).mono ?_; rintro e w2 ⟨rfl, hw⟩; obtain rfl := hw.symm))
  go_ret
  exact ⟨rfl, hB⟩

set_option maxHeartbeats 400000 in
theorem quorumMasks_arg (n m : Int) (i j l : Int) (a : Option Addr) (len cap : Nat) (w : World) (hm : m < 0 ∨ n < m)
    (hF : Calls Try.prog 14 #[.int .i64 n, .slice a len cap, .int .i64 m] w fun e w' => e = .returned (.tuple #[.bool false, .int .i64 2]) ∧ Below w.heap.size w w')
    (hR : ∀ w1, Below w.heap.size w w1 → Calls Try.prog 12 #[.int .i64 n, .slice a len cap] w1 fun e w' => e = .returned (.bool true) ∧ w' = w1) :
    Calls Try.prog 5 #[.int .i64 n, .slice a len cap, .int .i64 m, .int .u8 i, .int .u8 j, .int .u32 l] w fun e w' => e = .returned (.bool true) ∧ Below w.heap.size w w' := by
  have HF := hidMk hF
  have HR := hidMk hR
  clear hF hR
  by_cases h1 : m < 0
  · clear hm
    go_enter Try.func5, Try.ntmps5
    go_wp2_with (first | (go_at_call 14; refine (HF.out).mono ?_; rintro e w1 ⟨rfl, hB⟩) | (go_at_call 12; refine (HR.out _ hB).mono ?_; rintro e w2 ⟨rfl, hw⟩; obtain rfl := hw.symm))
    go_ret
    exact ⟨rfl, hB⟩
  · have h2 : n < m := by omega
    clear hm
    go_enter Try.func5, Try.ntmps5
    go_wp2_with (first | (go_at_call 14; refine (HF.out).mono ?_; rintro e w1 ⟨rfl, hB⟩) | (go_at_call 12; refine (HR.out _ hB).mono ?_; rintro e w2 ⟨rfl, hw⟩; obtain rfl := hw.symm))
    go_ret
    exact ⟨rfl, hB⟩

set_option maxHeartbeats 2000000 in
theorem quorumMasks_ok (n : Nat) (m : Int) (i j l b off len cap : Nat) (qs : List Nat) (r : Bool) (w : World) (hn : n ≤ 12) (hm0 : 0 ≤ m) (hm1 : m ≤ n) (hi : i ≤ 255) (hj : j ≤ 255) (hlb : l < 4294967296)
    (hl : qs.length = len) (hl1 : 1 ≤ len) (hl2 : len ≤ 64) (hq : Row w b off qs) (hr : r = masksB n qs m)
    (hF : ∀ w1, Below w.heap.size w w1 → Calls Try.prog 14 #[.int .i64 n, .slice (some ⟨b, off, none⟩) len cap, .int .i64 m] w1 fun e w' => e = .returned (.tuple #[.bool r, .int .i64 0]) ∧ Below w1.heap.size w1 w')
    (hF0 : ∀ w1, Below w.heap.size w w1 → Calls Try.prog 14 #[.int .i64 n, .slice (some ⟨b, off, none⟩) len cap, .int .i64 0] w1 fun e w' => e = .returned (.tuple #[.bool true, .int .i64 0]) ∧ Below w1.heap.size w1 w')
    (hR : ∀ w1, Below w.heap.size w w1 → Calls Try.prog 12 #[.int .i64 n, .slice (some ⟨b, off, none⟩) len cap] w1 fun e w' => e = .returned (.bool true) ∧ w' = w1) :
    Calls Try.prog 5 #[.int .i64 n, .slice (some ⟨b, off, none⟩) len cap, .int .i64 m, .int .u8 (i : Int), .int .u8 (j : Int), .int .u32 (l : Int)] w fun e w' => e = .returned (.bool true) ∧ Below w.heap.size w w' := by
  have HF := hidMk hF
  have HF0 := hidMk hF0
  have HR := hidMk hR
  have HL := hidMk hl
  have HRR := hidMk hr
  have hl2' : (len : Int) ≤ 64 := by omega
  clear hF hR hF0 hl hr
  go_enter Try.func5, Try.ntmps5
  go_wp2_with fail
  refine (HF.out _ (Below.refl _ _)).mono ?_
  rintro e w1 ⟨rfl, hB⟩
  go_wp2_with fail
  refine (HR.out _ hB).mono ?_
  rintro e w2 ⟨rfl, hw⟩
  obtain rfl := hw.symm
  go_wp2_with fail
  refine (HF0.out _ hB).mono ?_
  rintro e w2 ⟨rfl, hB2⟩
  have hB3 := hB.trans (hB2.mono hB.size)
  clear HF HF0 HR
  cases r
  · go_wp2
    go_ret
    exact ⟨rfl, hB3⟩
  · have HS := hidMk (size_any l hlb)
    have HO := hidMk (outside_any l n hlb (by omega))
    by_cases h1 : m < (sz l : Int)
    · generalize sz l = v at *
      go_wp2_with (go_at_call 15; refine (HS.out _).mono ?_; rintro e w3 ⟨rfl, hw⟩; obtain rfl := hw.symm)
      go_ret
      exact ⟨rfl, hB3⟩
    · by_cases h2 : 2 ^ n ≤ l
      · rw [decide_eq_true h2] at HO
        have h1' : (sz l : Int) ≤ m := by omega
        clear h2
        generalize sz l = v at *
        go_wp2_with (first | (go_at_call 15; refine (HS.out _).mono ?_; rintro e w3 ⟨rfl, hw⟩; obtain rfl := hw.symm) | (go_at_call 16; refine (HO.out _).mono ?_; rintro e w3 ⟨rfl, hw⟩; obtain rfl := hw.symm))
        go_ret
        exact ⟨rfl, hB3⟩
      · rw [decide_eq_false h2] at HO
        have h1' : (sz l : Int) ≤ m := by omega
        have H2 := hidMk h2
        have HV := hidMk h1'
        have HK : Hid (commonB qs m = true ∧ outB n qs m = true) := by
          have := HRR.out
          unfold masksB at this
          exact Bool.and_eq_true_iff.1 this.symm
        clear h2
        generalize hgv : sz l = v at HS h1 h1'
        clear hgv
        go_wp2_with (first | (go_at_call 15; refine (HS.out _).mono ?_; rintro e w3 ⟨rfl, hw⟩; obtain rfl := hw.symm) | (go_at_call 16; refine (HO.out _).mono ?_; rintro e w3 ⟨rfl, hw⟩; obtain rfl := hw.symm))
        have hi2 : i % len < len := Nat.mod_lt _ (by omega)
        have hj2 : j % len < len := Nat.mod_lt _ (by omega)
        obtain ⟨x, hx, hxm, hxb, hxc⟩ := (hq.below rfl hB3).at (k := i % len) (by rw [HL.out]; exact hi2)
        obtain ⟨y, hy, hym, hyb, hyc⟩ := (hq.below rfl hB3).at (k := j % len) (by rw [HL.out]; exact hj2)
        clear hx hy
        have hi3 : (i : Int) ≤ 255 := by omega
        have hj3 : (j : Int) ≤ 255 := by omega
        have hl3 : (1 : Int) ≤ (len : Int) := by omega
        have hi4 : (i : Int) % (len : Int) < (len : Int) := Int.emod_lt_of_pos _ (by omega)
        have hj4 : (j : Int) % (len : Int) < (len : Int) := Int.emod_lt_of_pos _ (by omega)
        have hi5 : 0 ≤ (i : Int) % (len : Int) := Int.emod_nonneg _ (by omega)
        have hj5 : 0 ≤ (j : Int) % (len : Int) := Int.emod_nonneg _ (by omega)
        have HM := hidMk (more_true hxm hym hlb HV.out HK.out.1)
        have HA := hidMk (some_free hn (Nat.lt_of_not_le H2.out) HV.out HK.out.2)
        have z1 : bits .andNot .u32 (bits .and .u32 (x : Int) (y : Int)) (l : Int) = ((x &&& y &&& (4294967295 - l) : Nat) : Int) := by rw [u32_and_nat x y hxb hyb, u32_andNot_nat _ l (and_lt x y hxb) hlb]
        have z2 : bits .and .u32 (bits .and .u32 (x : Int) (y : Int)) (l : Int) = ((x &&& y &&& l : Nat) : Int) := by rw [u32_and_nat x y hxb hyb, u32_and_nat _ l (and_lt x y hxb) hlb]
        have HS1 := hidMk (size_any (x &&& y &&& (4294967295 - l)) (Nat.lt_of_le_of_lt Nat.and_le_left (and_lt x y hxb)))
        have HS2 := hidMk (size_any (x &&& y &&& l) (Nat.lt_of_le_of_lt Nat.and_le_left (and_lt x y hxb)))
        rw [← z1] at HS1
        rw [← z2] at HS2
        clear z1 z2 hym hxm HK HV H2 HRR HS HO h1
        generalize sz (x &&& y &&& (4294967295 - l)) = v1 at *
        generalize sz (x &&& y &&& l) = v2 at *
        go_quiet (fail)
        go_wp2
        clear hxc hyc hi2 hj2 hi3 hj3 hi4 hj4 hi5 hj5
        go_loop [18, 91] (fun s k => ∃ t : Nat, t ≤ len ∧ k = .int .i64 (t : Int) ∧ s = .bool ((qs.take t).any fun a => a &&& l == 0)) (fun _ k => len - (intOf k).toNat)
        case atStart => exact ⟨0, Nat.zero_le _, rfl, rfl⟩
        case round =>
          obtain ⟨t, ht, rfl, rfl⟩ := hrel
          by_cases hlt : t < len
          · obtain ⟨z, hz, _, hzb, hzc⟩ := (hq.below rfl hB3).at (k := t) (by rw [HL.out]; exact hlt)
            have hsu := any_take_succ (fun a => a &&& l == 0) qs hz
            have hz0 := and_zero z l hzb hlb
            have HSU := hidMk hsu
            clear hsu hz
            generalize ((qs.take t).any fun a => a &&& l == 0) = c at *
            generalize (z &&& l == 0) = d at *
            cases c
            · go_wp2
              go_round
              case rel => exact ⟨t + 1, by omega, by go_num, by rw [HSU.out]; simp⟩
              case measure => simp [intOf]; omega
            · go_wp2
              go_round
              case rel => exact ⟨t + 1, by omega, by go_num, by rw [HSU.out]; simp⟩
              case measure => simp [intOf]; omega
          · obtain rfl : t = len := by omega
            have hany : ((qs.take t).any fun a => a &&& l == 0) = true := by
              rw [List.take_of_length_le (by rw [HL.out]; exact Nat.le_refl _), ← HA.out]
              unfold apartB
              exact any_congr fun a _ => by rw [Nat.and_comm]
            rw [hany]
            clear hany
            have hv : (v2 : Int) < (v1 : Int) := HM.out
            go_wp2_with fail
            refine (HS1.out _).mono ?_
            rintro e w5 ⟨rfl, hw⟩
            obtain rfl := hw.symm
            go_wp2_with fail
            refine (HS2.out _).mono ?_
            rintro e w5 ⟨rfl, hw⟩
            obtain rfl := hw.symm
            go_wp2
            go_ret
            exact ⟨rfl, below_drewN hB3 _⟩

theorem quorumMasks_walk (n m : Int) (i j l : Int) (a : Option Addr) (len cap : Nat) (qs : List Nat) (w : World) (hi : 0 ≤ i ∧ i ≤ 255) (hj : 0 ≤ j ∧ j ≤ 255) (hlb : 0 ≤ l ∧ l < 4294967296) (h : Came32 w a len cap qs) :
    Calls Try.prog 5 #[.int .i64 n, .slice a len cap, .int .i64 m, .int .u8 i, .int .u8 j, .int .u32 l] w fun e w' => e = .returned (.bool true) ∧ Below w.heap.size w w' := by
  have hF := check_any n a len cap qs w h
  have hR : ∀ w1, Below w.heap.size w w1 → _ := fun w1 hb => system_any n _ a len cap w1 (refSystem_any n a len cap qs w1 (h.below hb))
  by_cases hc : sysCodeOf n qs = 0
  · rw [hc] at hF
    simp only [hc] at hR
    by_cases hm : m < 0 ∨ n < m
    · exact quorumMasks_arg n m i j l a len cap w hm (masks_arg n m a len cap w hm hF) hR
    · have hS := (sysCodeOf_zero hc).2
      obtain ⟨z1, z2, z3, z4, z5⟩ := famCodeOf_zero (sysCodeOf_zero hc).1
      have hM : ∀ (m' : Int), 0 ≤ m' → m' ≤ n → ∀ w1, Below w.heap.size w w1 → _ := fun m' h0 h1 w1 hb => masks_any n m' a len cap qs w1 (h.below hb) hc h0 h1
      obtain ⟨h1, h2, h3, h4⟩ := h
      obtain ⟨b, off, rfl, hq⟩ := h4.resolve_left (by omega)
      obtain ⟨k, rfl⟩ := Int.eq_ofNat_of_zero_le (by omega : 0 ≤ n)
      obtain ⟨i, rfl⟩ := Int.eq_ofNat_of_zero_le hi.1
      obtain ⟨j, rfl⟩ := Int.eq_ofNat_of_zero_le hj.1
      obtain ⟨l, rfl⟩ := Int.eq_ofNat_of_zero_le hlb.1
      simp only [Int.toNat_natCast] at hM
      have h0 : masksB k qs 0 = true := by
        unfold masksB
        rw [common_none hq.2.1 hS, out_none (by omega) (by omega)]; rfl
      have hM0 := hM 0 (by omega) (by omega)
      simp only [h0] at hM0
      exact quorumMasks_ok k m i j l b off len cap qs _ w (by omega) (by omega) (by omega) (by omega) (by omega) (by omega) h1 (by omega) (by omega) hq rfl (hM m (by omega) (by omega)) hM0 hR
  · have hc' : (sysCodeOf n qs != 0) = true := by simpa using hc
    have hc2 : (sysCodeOf n qs == 0) = false := by simpa using hc
    simp only [hc2] at hR
    exact quorumMasks_err n _ m i j l a len cap w hc2 (masks_err n _ m a len cap w hc' hF) hR

theorem wf_u8 {n : Int} (h : (Lit.int .u8 n).wf = true) : 0 ≤ n ∧ n ≤ 255 := by
  have h2 : IntKind.u8.min ≤ n ∧ n ≤ IntKind.u8.max := by simpa [Lit.wf] using h
  have e1 : IntKind.u8.min = 0 := by decide
  have e2 : IntKind.u8.max = 255 := by decide
  omega
theorem wf_u32 {n : Int} (h : (Lit.int .u32 n).wf = true) : 0 ≤ n ∧ n < 4294967296 := by
  have h2 : IntKind.u32.min ≤ n ∧ n ≤ IntKind.u32.max := by simpa [Lit.wf] using h
  have e1 : IntKind.u32.min = 0 := by decide
  have e2 : IntKind.u32.max = 4294967295 := by decide
  omega
end Go.Proofs.Ytblinhncklpidab
