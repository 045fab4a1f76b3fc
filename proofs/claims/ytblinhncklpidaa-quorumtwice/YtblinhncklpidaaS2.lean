/- Contracts of slices.siftDownOrdered, heapSortOrdered and reverseRangeOrdered at rows of 32 bits. -/
import Derived.Test.YtblinhncklpidaaS1
namespace Go.Proofs.Ytblinhncklpidaa
open Go.RowKit

theorem wrap_i64 (z : Int) (h0 : -1000000 ≤ z) (h1 : z ≤ 1000000) : IntKind.i64.wrap z = z := by
  simp [IntKind.wrap, IntKind.bits, IntKind.signed]
  split <;> omega

theorem sift_stop {hi first root : Nat} {d : Array Nat} (h : 2 * root + 1 ≥ hi) : Go.Sort.siftDown lt32 hi first root d = d := by
  rw [Go.Sort.siftDown]; simp [h]
/-- Which child is the greater one. -/
def childOf (hi first root : Nat) (d : Array Nat) : Nat :=
  if 2 * root + 1 + 1 < hi && lt32 d[first + (2 * root + 1)]! d[first + (2 * root + 1) + 1]! then 2 * root + 2 else 2 * root + 1
theorem sift_go {hi first root : Nat} {d : Array Nat} (h : ¬ 2 * root + 1 ≥ hi) :
    Go.Sort.siftDown lt32 hi first root d = if !lt32 d[first + root]! d[first + childOf hi first root d]! then d else Go.Sort.siftDown lt32 hi first (childOf hi first root d) (Go.Sort.swp d (first + root) (first + childOf hi first root d)) := by
  rw [Go.Sort.siftDown, dif_neg h]
  unfold childOf
  by_cases hc : (2 * root + 1 + 1 < hi && lt32 d[first + (2 * root + 1)]! d[first + (2 * root + 1) + 1]!) = true
  · rw [if_pos hc, if_pos hc]
    have h2 : 2 * root + 2 < hi := of_decide_eq_true (Bool.and_eq_true_iff.1 hc).1
    by_cases hl : (!lt32 d[first + root]! d[first + (2 * root + 2)]!) = true
    · rw [if_pos hl, if_pos hl]
    · rw [if_neg hl, if_neg hl, dif_pos h2]
  · rw [if_neg hc, if_neg hc]
theorem childOf_lt {hi first root : Nat} {d : Array Nat} (h : ¬ 2 * root + 1 ≥ hi) : childOf hi first root d < hi ∧ root < childOf hi first root d := by
  unfold childOf
  by_cases hc : (2 * root + 1 + 1 < hi && lt32 d[first + (2 * root + 1)]! d[first + (2 * root + 1) + 1]!) = true
  · rw [if_pos hc]
    have h2 : 2 * root + 1 + 1 < hi := of_decide_eq_true (Bool.and_eq_true_iff.1 hc).1
    omega
  · rw [if_neg hc]; omega

set_option maxHeartbeats 8000000 in
theorem sift_any (g cap : Nat) (d : Array Nat) (n lo hi first : Nat) (w : World) (hn : n = d.size) (hb : first + hi ≤ d.size) (hd : d.size ≤ 4096) (hlo : lo ≤ 4096) (h : Arr w g cap d) :
    Calls Try.prog 62 #[.slice (some ⟨g, 0, none⟩) n cap, .int .i64 (lo : Int), .int .i64 (hi : Int), .int .i64 (first : Int)] w fun e w' => (∃ v, e = .returned v) ∧ Arr w' g cap (Go.Sort.siftDown lt32 hi first lo d) ∧ w.grownBy w' (some g) := by
  subst hn
  have hb' : (first : Int) + (hi : Int) ≤ 4096 := by omega
  go_enter Try.func62, Try.ntmps62
  go_wp2
  go_loopw [8] (fun x wr => ∃ (r : Nat) (d1 : Array Nat), r ≤ 4096 ∧ x = .int .i64 (r : Int) ∧ d1.size = d.size ∧ Arr wr g cap d1 ∧ w.grownBy wr (some g) ∧ Hid (Go.Sort.siftDown lt32 hi first r d1 = Go.Sort.siftDown lt32 hi first lo d)) (fun x _ => 5000 - (intOf x).toNat)
  case atStart => exact ⟨lo, d, hlo, rfl, rfl, h, World.grownBy.refl _ _, rfl⟩
  case round =>
    obtain ⟨r, d1, hr, rfl, hsz, hA, hG, HE⟩ := hrel
    by_cases hst : 2 * r + 1 ≥ hi
    · have hst' : (hi : Int) ≤ 2 * (r : Int) + 1 := by omega
      have e := HE.out
      rw [sift_stop hst] at e
      have HE2 := hidMk e
      clear e
      go_wp2
      go_end0
      exact ⟨⟨_, rfl⟩, by rw [← HE2.out]; exact hA, hG⟩
    · obtain ⟨c, hc⟩ : ∃ c, c = 2 * r + 1 := ⟨_, rfl⟩
      have hce : 2 * (r : Int) + 1 = (c : Int) := by omega
      have hst' : (c : Int) < (hi : Int) := by omega
      have hgo := sift_go (first := first) (d := d1) hst
      have cl : ∀ j, j < hi → wr.cell? ⟨g, first + j, none⟩ = some (.int .u32 ((d1[first + j]! : Nat) : Int)) := fun j hj => hA.cell (by omega)
      have hfb : (first : Int) ≤ 4096 := by omega
      have hcb : (c : Int) ≤ 4096 := by omega
      have hrb : (r : Int) ≤ 4096 := by omega
      have HC := hidMk hc
      clear hc
      have w1 := wrap_i64 ((c : Int) + 1) (by omega) (by omega)
      have w2 := wrap_i64 ((first : Int) + (c : Int)) (by omega) (by omega)
      have w3 := wrap_i64 ((first : Int) + (c : Int) + 1) (by omega) (by omega)
      have w4 := wrap_i64 ((first : Int) + (r : Int)) (by omega) (by omega)
      have w5 := wrap_i64 ((first : Int) + ((c : Int) + 1)) (by omega) (by omega)
      have b2 : (first : Int) + (c : Int) < (d.size : Int) := by omega
      have b4 : (first : Int) + (r : Int) < (d.size : Int) := by omega
      have n2 : 0 ≤ (first : Int) + (c : Int) := by omega
      have n3 : 0 ≤ (first : Int) + (c : Int) + 1 := by omega
      have n4 : 0 ≤ (first : Int) + (r : Int) := by omega
      have n5 : 0 ≤ (first : Int) + ((c : Int) + 1) := by omega
      have t2 : ((first : Int) + (c : Int)).toNat = first + c := by omega
      have t3 : ((first : Int) + (c : Int) + 1).toNat = first + (c + 1) := by omega
      have t4 : ((first : Int) + (r : Int)).toNat = first + r := by omega
      have t5 : ((first : Int) + ((c : Int) + 1)).toNat = first + (c + 1) := by omega
      have c1 := cl c (by omega)
      by_cases hc2 : c + 1 < hi
      · have hc2' : (c : Int) + 1 < (hi : Int) := by omega
        have c2 := cl (c + 1) hc2
        have b3 : (first : Int) + (c : Int) + 1 < (d.size : Int) := by omega
        have b5 : (first : Int) + ((c : Int) + 1) < (d.size : Int) := by omega
        have HLE := hidMk (less_any d1[first + c]! d1[first + (c + 1)]!)
        cases hls : lt32 d1[first + c]! d1[first + (c + 1)]!
        · have HCH : Hid (childOf hi first r d1 = c) := by
            show childOf hi first r d1 = c
            unfold childOf
            rw [← HC.out, Nat.add_assoc first c 1, hls]; simp
          rw [hls] at HLE
          clear hls
          have HL2 := hidMk (less_any d1[first + r]! d1[first + c]!)
          have cr := cl r (by omega)
          have fr1 := hA.frozen (first + r)
          have fr2 := hA.frozen (first + c)
          have HSW := hidMk (hA.swapN (first + r) (first + c) (by omega) (by omega))
          have hs3 : (Go.Sort.swp d1 (first + r) (first + c)).size = d.size := by rw [Go.Sort.size_swp]; exact hsz
          rw [HCH.out] at hgo
          clear cl
          cases hl2 : lt32 d1[first + r]! d1[first + c]!
          · rw [hl2] at HL2 hgo
            have HE2 := hidMk (hgo.symm.trans HE.out)
            clear hgo hl2 HSW hs3 fr1 fr2
            generalize d1[first + c]! = x1 at *
            generalize d1[first + (c + 1)]! = x2 at *
            generalize d1[first + r]! = x0 at *
            go_wp2
            go_quiet ((go_at_call 57; exact Calls.quiet_of_same (HLE.out _)))
            go_wp2
            go_quiet ((go_at_call 57; exact quiet2 (HL2.out _)))
            go_wp2
            refine bodyPost_ret (results_none rfl _ _ _) rfl ?_
            refine ⟨⟨_, rfl⟩, ?_, turned_drewN (turned_drewN hG _) _⟩
            have e : d1 = Go.Sort.siftDown lt32 hi first lo d := by simpa using HE2.out
            rw [← e]; exact (hA.drewN _).drewN _
          · rw [hl2] at HL2 hgo
            have HE2 := hidMk (hgo.symm.trans HE.out)
            clear hgo hl2
            generalize d1[first + c]! = x1 at *
            generalize d1[first + (c + 1)]! = x2 at *
            generalize d1[first + r]! = x0 at *
            go_wp2
            go_quiet ((go_at_call 57; exact Calls.quiet_of_same (HLE.out _)))
            go_wp2
            go_quiet ((go_at_call 57; exact quiet2 (HL2.out _)))
            go_wp2
            go_region
            go_wp2
            go_roundw
            case rel => exact ⟨c, _, by omega, by first | rfl | go_num, hs3, HSW.out _, turned_swapN hG _ _ _ _ _, hidMk (by simpa using HE2.out)⟩
            case measure => simp [intOf]; omega
        · have HCH : Hid (childOf hi first r d1 = c + 1) := by
            show childOf hi first r d1 = c + 1
            unfold childOf
            have e2 : 2 * r + 2 = c + 1 := by omega
            rw [← HC.out, Nat.add_assoc first c 1, hls, e2]
            simp [hc2]
          rw [hls] at HLE
          clear hls
          have HL2 := hidMk (less_any d1[first + r]! d1[first + (c + 1)]!)
          have cr := cl r (by omega)
          have fr1 := hA.frozen (first + r)
          have fr2 := hA.frozen (first + (c + 1))
          have HSW := hidMk (hA.swapN (first + r) (first + (c + 1)) (by omega) (by omega))
          have hs3 : (Go.Sort.swp d1 (first + r) (first + (c + 1))).size = d.size := by rw [Go.Sort.size_swp]; exact hsz
          rw [HCH.out] at hgo
          clear cl
          cases hl2 : lt32 d1[first + r]! d1[first + (c + 1)]!
          · rw [hl2] at HL2 hgo
            have HE2 := hidMk (hgo.symm.trans HE.out)
            clear hgo hl2 HSW hs3 fr1 fr2
            generalize d1[first + c]! = x1 at *
            generalize d1[first + (c + 1)]! = x2 at *
            generalize d1[first + r]! = x0 at *
            go_wp2
            go_quiet ((go_at_call 57; exact Calls.quiet_of_same (HLE.out _)))
            go_wp2
            go_quiet ((go_at_call 57; exact quiet2 (HL2.out _)))
            go_wp2
            refine bodyPost_ret (results_none rfl _ _ _) rfl ?_
            refine ⟨⟨_, rfl⟩, ?_, turned_drewN (turned_drewN hG _) _⟩
            have e : d1 = Go.Sort.siftDown lt32 hi first lo d := by simpa using HE2.out
            rw [← e]; exact (hA.drewN _).drewN _
          · rw [hl2] at HL2 hgo
            have HE2 := hidMk (hgo.symm.trans HE.out)
            clear hgo hl2
            generalize d1[first + c]! = x1 at *
            generalize d1[first + (c + 1)]! = x2 at *
            generalize d1[first + r]! = x0 at *
            go_wp2
            go_quiet ((go_at_call 57; exact Calls.quiet_of_same (HLE.out _)))
            go_wp2
            go_quiet ((go_at_call 57; exact quiet2 (HL2.out _)))
            go_wp2
            go_region
            go_wp2
            go_roundw
            case rel => exact ⟨(c + 1), _, by omega, by first | rfl | go_num, hs3, HSW.out _, turned_swapN hG _ _ _ _ _, hidMk (by simpa using HE2.out)⟩
            case measure => simp [intOf]; omega
      · have hc2' : decide ((c : Int) + 1 < (hi : Int)) = false := by simp; omega
        have HCH : Hid (childOf hi first r d1 = c) := by
          show childOf hi first r d1 = c
          unfold childOf
          rw [← HC.out]
          simp [hc2]
        have HL2 := hidMk (less_any d1[first + r]! d1[first + c]!)
        have cr := cl r (by omega)
        have fr1 := hA.frozen (first + r)
        have fr2 := hA.frozen (first + c)
        have HSW := hidMk (hA.swapN (first + r) (first + c) (by omega) (by omega))
        have hs3 : (Go.Sort.swp d1 (first + r) (first + c)).size = d.size := by rw [Go.Sort.size_swp]; exact hsz
        rw [HCH.out] at hgo
        clear cl
        cases hl2 : lt32 d1[first + r]! d1[first + c]!
        · rw [hl2] at HL2 hgo
          have HE2 := hidMk (hgo.symm.trans HE.out)
          clear hgo hl2 HSW hs3 fr1 fr2
          generalize d1[first + c]! = x1 at *
          generalize d1[first + (c + 1)]! = x2 at *
          generalize d1[first + r]! = x0 at *
          go_wp2
          go_quiet ((go_at_call 57; exact Calls.quiet_of_same (less_any _ _ _)))
          go_wp2
          go_quiet ((go_at_call 57; exact quiet2 (HL2.out _)))
          go_wp2
          refine bodyPost_ret (results_none rfl _ _ _) rfl ?_
          refine ⟨⟨_, rfl⟩, ?_, turned_drewN (turned_drewN hG _) _⟩
          have e : d1 = Go.Sort.siftDown lt32 hi first lo d := by simpa using HE2.out
          rw [← e]; exact (hA.drewN _).drewN _
        · rw [hl2] at HL2 hgo
          have HE2 := hidMk (hgo.symm.trans HE.out)
          clear hgo hl2
          generalize d1[first + c]! = x1 at *
          generalize d1[first + (c + 1)]! = x2 at *
          generalize d1[first + r]! = x0 at *
          go_wp2
          go_quiet ((go_at_call 57; exact Calls.quiet_of_same (less_any _ _ _)))
          go_wp2
          go_quiet ((go_at_call 57; exact quiet2 (HL2.out _)))
          go_wp2
          go_region
          go_wp2
          go_roundw
          case rel => exact ⟨c, _, by omega, by first | rfl | go_num, hs3, HSW.out _, turned_swapN hG _ _ _ _ _, hidMk (by simpa using HE2.out)⟩
          case measure => simp [intOf]; omega
end Go.Proofs.Ytblinhncklpidaa
