/- Contract of folkmootref.Blocks: the same list as the program's. -/
import Derived.Test.YtblinhncklpidaaC3
namespace Go.Proofs.Ytblinhncklpidaa
open Go.RowKit

/-- Without any one of the first j members s no longer meets each. -/
def needsTo (qs : List Nat) (s j : Nat) : Bool := (List.range j).all fun i => !(s.testBit i && meetsB qs (wo s i))

theorem needsTo_succ (qs : List Nat) (s j : Nat) : needsTo qs s (j + 1) = (needsTo qs s j && !(s.testBit j && meetsB qs (wo s j))) := by
  unfold needsTo; rw [List.range_succ, List.all_append]; simp
theorem needsTo_all (qs : List Nat) (s n : Nat) (hn : n ≤ 32) (hs : s < 2 ^ n) : needsTo qs s n = needsB qs s := by
  have h : ∀ j, n ≤ j → j ≤ 32 → needsTo qs s j = needsTo qs s n := by
    intro j
    induction j with
    | zero => intro h1 _; rw [Nat.le_zero.1 h1]
    | succ j ih =>
      intro h1 h2
      by_cases he : n = j + 1
      · rw [he]
      · have hb : s.testBit j = false := Nat.testBit_lt_two_pow (Nat.lt_of_lt_of_le hs (Nat.pow_le_pow_right (by omega) (by omega)))
        rw [needsTo_succ, ih (by omega) (by omega), hb]; simp
  exact (h 32 hn (Nat.le_refl _)).symm

theorem meets_zero {qs : List Nat} (h : 1 ≤ qs.length) : meetsB qs 0 = false := by
  obtain ⟨x, hx⟩ : ∃ x, qs[0]? = some x := ⟨qs[0], List.getElem?_eq_getElem (by omega)⟩
  exact meets_hit hx (Nat.zero_and _)
theorem blocksTo_one {qs : List Nat} (h : 1 ≤ qs.length) : blocksTo qs 1 = [] := by
  have hb : blockB qs 0 = false := by unfold blockB; rw [meets_zero h]; rfl
  rw [show (1 : Nat) = 0 + 1 from rfl, blocksTo_miss hb]; rfl

/-- Whether it is least so far. -/
def leastTo (qs : List Nat) (s j : Nat) : Bool := meetsB qs s && needsTo qs s j

theorem wo_pow {k i : Nat} (hk : k < 4294967296) (hi : i < 32) : bits .andNot .u32 (k : Int) (2 ^ i % 4294967296) = ((wo k i : Nat) : Int) := by
  rw [pow_mod i hi]; exact wo_int hk hi

set_option maxHeartbeats 2000000 in
theorem refBlocks_row (n b off len cap : Nat) (qs : List Nat) (w : World) (hn : n ≤ 12) (hl : qs.length = len) (hl1 : 1 ≤ len) (hl2 : len ≤ 4096) (hq : Row w b off qs) :
    Calls Try.prog 14 #[.int .i64 n, .slice (some ⟨b, off, none⟩) len cap] w fun e w' => ∃ v, e = .returned v ∧ Made w' w.heap.size v (blocksTo qs (2 ^ n)) ∧ Below w.heap.size w w' := by
  obtain ⟨i0, hi, hz0, hz1, hz2⟩ := info_parts Try.info34
  have H1 := hidMk (blocksTo_one (qs := qs) (by omega))
  have HL := hidMk hl
  clear hl
  have hp : 0 < 2 ^ n := Nat.two_pow_pos n
  have hp2 : 2 ^ n ≤ 4096 := Nat.le_trans (Nat.pow_le_pow_right (by omega) hn) (by decide)
  have hpw := pow_mod n (by omega)
  have HT : Hid (∀ k, k < 2 ^ n → needsTo qs k n = needsB qs k) := fun k hk => needsTo_all qs k n (by omega) hk
  obtain ⟨M, hM⟩ : ∃ M, 2 ^ n = M + 1 := ⟨2 ^ n - 1, by omega⟩
  rw [hM] at hp2 hpw HT ⊢
  have hpw' : (2 : Int) ^ n % 4294967296 = (M : Int) + 1 := by rw [hpw]; omega
  have hM' : (M : Int) ≤ 4095 := by omega
  clear hM hp hpw
  have hn' : (n : Int) ≤ 12 := by omega
  go_enter Try.func14, Try.ntmps14
  go_wp2
  go_loopw [5, 6] (fun v i wr => ∃ k : Nat, 1 ≤ k ∧ k ≤ M + 1 ∧ i = .int .u32 (k : Int) ∧ Below w.heap.size w wr ∧ Made wr w.heap.size v (blocksTo qs k)) (fun _ i _ => M + 1 - (intOf i).toNat)
  case atStart => exact ⟨1, Nat.le_refl _, by omega, rfl, Below.refl _ _, by rw [H1.out]; exact World.ownsRow_nil _ _ _ _⟩
  case round =>
    obtain ⟨k, hk1, hk, rfl, hB, hown⟩ := hrel
    by_cases hlt : k < M + 1
    · have hlt' : (k : Int) < (M : Int) + 1 := by omega
      have hk' : (k : Int) ≤ 4095 := by omega
      have hk32 : k < 4294967296 := by omega
      have HM := hidMk (refMeets_nat k b off len cap qs wr hk32 HL.out hl2 (hq.below rfl hB))
      have hkl := blocksTo_len qs k
      have HE : Hid (leastTo qs k 0 = meetsB qs k) := by show leastTo qs k 0 = meetsB qs k; unfold leastTo needsTo; simp
      have HE2 : Hid (leastTo qs k n = blockB qs k) := by show leastTo qs k n = blockB qs k; unfold leastTo blockB; rw [HT.out k hlt]
      rw [← HE.out] at HM
      go_wp2_with (go_at_call 27; refine (HM.out).mono ?_; rintro e w1 ⟨rfl, hw⟩; obtain rfl := hw.symm)
      clear HM
      go_loop [7, 8] (fun x i => ∃ j : Nat, j ≤ n ∧ i = .int .i64 (j : Int) ∧ x = .bool (leastTo qs k j)) (fun _ i => n - (intOf i).toNat)
      case atStart => exact ⟨0, Nat.zero_le _, rfl, rfl⟩
      case round =>
        obtain ⟨j, hj, rfl, rfl⟩ := hrel
        by_cases hlt2 : j < n
        · have HBit := hidMk (bit_any k j hk32 (by omega))
          have hs : leastTo qs k (j + 1) = (leastTo qs k j && !(k.testBit j && meetsB qs (wo k j))) := by unfold leastTo; rw [needsTo_succ, Bool.and_assoc]
          cases hbit : k.testBit j
          · rw [hbit] at HBit hs
            have HS := hidMk hs
            clear hs hbit
            generalize leastTo qs k j = c at *
            go_wp2_with (go_at_call 28; refine (HBit.out _).mono ?_; rintro e w1 ⟨rfl, hw⟩; obtain rfl := hw.symm)
            go_round
            case rel => exact ⟨j + 1, by omega, by go_num, by rw [HS.out]; simp⟩
            case measure => simp [intOf]; omega
          · have HM := hidMk (refMeets_nat (wo k j) b off len cap qs wr (wo_lt k j hk32) HL.out hl2 (hq.below rfl hB))
            rw [← wo_pow hk32 (by omega : j < 32)] at HM
            rw [hbit] at HBit hs
            cases hm : meetsB qs (wo k j)
            · rw [hm] at HM hs
              have HS := hidMk hs
              clear hs hbit hm
              generalize leastTo qs k j = c at *
              go_wp2_with (first | (go_at_call 28; refine (HBit.out _).mono ?_; rintro e w1 ⟨rfl, hw⟩; obtain rfl := hw.symm) | (go_at_call 27; refine (HM.out).mono ?_; rintro e w1 ⟨rfl, hw⟩; obtain rfl := hw.symm))
              go_round
              case rel => exact ⟨j + 1, by omega, by go_num, by rw [HS.out]; simp⟩
              case measure => simp [intOf]; omega
            · rw [hm] at HM hs
              have HS := hidMk hs
              clear hs hbit hm
              generalize leastTo qs k j = c at *
              go_wp2_with (first | (go_at_call 28; refine (HBit.out _).mono ?_; rintro e w1 ⟨rfl, hw⟩; obtain rfl := hw.symm) | (go_at_call 27; refine (HM.out).mono ?_; rintro e w1 ⟨rfl, hw⟩; obtain rfl := hw.symm))
              go_round
              case rel => exact ⟨j + 1, by omega, by go_num, by rw [HS.out]; simp⟩
              case measure => simp [intOf]; omega
        · obtain rfl : j = n := by omega
          rw [HE2.out]
          cases hx : blockB qs k
          · have HX := hidMk hx
            clear hx
            go_wp2
            go_roundw
            case rel => exact ⟨k + 1, by omega, by omega, by go_num, hB, by rw [blocksTo_miss HX.out]; exact hown⟩
            case measure => simp [intOf]; omega
          · have HX := hidMk hx
            clear hx
            have c2 : ∀ u ∈ [Value.int .u32 (k : Int)], u.oneCell' = true := by intro u hu; simp at hu; subst hu; rfl
            have c3 : (blocksTo qs k).length + 1 ≤ maxLen := by unfold maxLen; omega
            have c4 : ((blocksTo qs k).length + 1) * 4 ≤ 140737488355328 := by omega
            go_wp2_with (at_builtin; refine wpList_append_own _ rfl _ _ 22 rfl w.heap.size 34 i0 (.int .u32 0) 1 4 Try.underlying22 hi hz0 hz1 hz2 rfl (by decide) _ _ _ rfl (World.ownsRow.alloc hown _) ⟨wr.heap.size, 0, none⟩ 1 1 [.int .u32 (k : Int)] rfl rfl (cell_one_new _ _ _) c2 c3 c4 (by have := hB.size; simp; omega) ?_)
            intro v' w3 hown' hgrow _
            have hB4 : Below w.heap.size w w3 := (hB.alloc hB.size _).grown hgrow (by have := hB.size; simp; omega) (fun j e => (World.ownsRow.lt hown j e).1)
            obtain ⟨g', cap', rfl⟩ := ownsRow_succ hown'
            have HM2 : Hid (Made w3 w.heap.size (.slice (some ⟨g', 0, none⟩) ((blocksTo qs k).length + 1) cap') (blocksTo qs (k + 1))) := by
              show w3.ownsRow _ _ _ _ _ _
              rw [blocksTo_hit HX.out, List.length_append, List.map_append]
              exact hown'
            clear hown' hgrow hown hB
            go_wp2
            go_roundw
            case rel => exact ⟨k + 1, by omega, by omega, by go_num, hB4, HM2.out⟩
            case measure => simp [intOf]; omega
    · obtain rfl : k = M + 1 := by omega
      go_wp2
      go_ret
      exact ⟨_, rfl, hown, hB⟩
end Go.Proofs.Ytblinhncklpidaa
