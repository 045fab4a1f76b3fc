/- Generals: what Play tells. -/
import Derived.Test.YtekbglmoibglnaaGf5
import Derived.Test.YtekbglmoibglnaaGe9
namespace Go.Proofs.Ytekbglmoibglnaa
open Go.RowKit Go.Maps
set_option linter.unusedVariables false

theorem shr_ne (T n : Nat) (h : 2 ^ n ≤ T) : ((T : Int) / 2 ^ n != 0) = true := by
  rw [shr_cast, bne_iff_ne]
  have := Nat.div_pos h (Nat.pow_pos (by omega : 0 < 2))
  omega
theorem shr_eq (T n : Nat) (h : ¬ 2 ^ n ≤ T) : ((T : Int) / 2 ^ n != 0) = false := by
  rw [shr_cast, Nat.div_eq_of_lt (by omega)]
  rfl
set_option maxHeartbeats 800000 in
theorem gcheck_any (n m : Int) (T : Nat) (hT : T < 4294967296) (w : World) : Calls Try.prog 12 #[.int .i64 n, .int .i64 m, .int .u32 (T : Int)] w fun e w' => e = .returned (.int .i64 (genC n m T)) ∧ w' = w := by
  by_cases h : n < 2 ∨ 7 < n ∨ m < 0 ∨ 2 < m
  · have e : genC n m T = 1 := by unfold genC; rw [if_pos h]
    rw [e]
    clear e
    by_cases h1 : n < 2
    · clear h
      go_enter Try.func12, Try.ntmps12
      go_wp2
      go_ret
      exact ⟨rfl, rfl⟩
    · have h1' : 2 ≤ n := by omega
      by_cases h2 : 7 < n
      · clear h
        go_enter Try.func12, Try.ntmps12
        go_wp2
        go_ret
        exact ⟨rfl, rfl⟩
      · have h2' : n ≤ 7 := by omega
        by_cases h3 : m < 0
        · clear h
          go_enter Try.func12, Try.ntmps12
          go_wp2
          go_ret
          exact ⟨rfl, rfl⟩
        · have h3' : 0 ≤ m := by omega
          have h4 : 2 < m := by omega
          clear h
          go_enter Try.func12, Try.ntmps12
          go_wp2
          go_ret
          exact ⟨rfl, rfl⟩
  · have h1 : 2 ≤ n := by omega
    have h2 : n ≤ 7 := by omega
    have h3 : 0 ≤ m := by omega
    have h4 : m ≤ 2 := by omega
    obtain ⟨nn, rfl⟩ := Int.eq_ofNat_of_zero_le (by omega : 0 ≤ n)
    have h5 : (nn : Int) ≤ 32 := by omega
    have e0 : genC nn m T = if 2 ^ nn ≤ T then 2 else 0 := by unfold genC; rw [if_neg h]; rfl
    rw [e0]
    clear e0 h
    by_cases hb : 2 ^ nn ≤ T
    · rw [if_pos hb]
      have hs := shr_ne T nn hb
      clear hb
      go_enter Try.func12, Try.ntmps12
      go_wp2
      go_ret
      exact ⟨rfl, rfl⟩
    · rw [if_neg hb]
      have hs := shr_eq T nn hb
      clear hb
      go_enter Try.func12, Try.ntmps12
      go_wp2
      go_ret
      exact ⟨rfl, rfl⟩
theorem gplay_bad (W : World) (n m : Int) (T L : Nat) (x : Bool) (hT : T < 4294967296) (h : genC n m T ≠ 0) :
    Calls Try.prog 6 #[.int .i64 n, .int .i64 m, .int .u32 (T : Int), .bool x, .int .u64 (L : Int)] W fun e W2 => e = .returned (.tuple #[.slice none 0 0, .int .i64 (genC n m T)]) ∧ W2 = W := by
  have HC := hidMk (gcheck_any n m T hT W)
  generalize genC n m T = rc at *
  have q1 : (rc != 0) = true := by simpa using h
  clear h
  go_enter Try.func6, Try.ntmps6
  go_wp2_with (go_at_call 12; refine (HC.out).mono ?_; rintro e w2 ⟨rfl, rfl⟩)
  go_ret2
  exact ⟨rfl, rfl⟩
theorem heldG_app (T L d n : Nat) (x : Bool) (m k : Nat) (hm : n - 1 = m) : boolsL (heldG T L d n x (k + 1)) = boolsL (heldG T L d n x k) ++ [.bool (holdsG T.testBit L.testBit d [0] (allG m) (k + 1) x)] := by
  rw [← hm]; exact heldG_succ T L d n x k
set_option maxRecDepth 100000 in
set_option maxHeartbeats 16000000 in
theorem gplay_good (W : World) (n d T L : Nat) (x : Bool) (hT : T < 4294967296) (hL : L < 18446744073709551616) (h2 : 2 ≤ n) (h7 : n ≤ 7) (hd : d ≤ 2) (hg : genC n d T = 0) :
    Calls Try.prog 6 #[.int .i64 (n : Int), .int .i64 (d : Int), .int .u32 (T : Int), .bool x, .int .u64 (L : Int)] W fun e w2 => ∃ a c, e = .returned (.tuple #[.slice a (n - 1) c, .int .i64 0]) ∧ RowO w2 a (n - 1) c (heldG T L d n x (n - 1)) ∧ Stil W w2 := by
  have hck := gcheck_any n d T hT W
  rw [hg] at hck
  have HCk := hidMk hck
  have HSp : Hid (SpreadAt T L d) := spread_any hT hL d hd
  obtain ⟨i0, iit, iz0, iz1, iz2⟩ := info_parts cInfoInt
  obtain ⟨b0, bit, bz0, bz1, bz2⟩ := info_parts bInfo
  have hn7 : (n : Int) ≤ 7 := by omega
  obtain ⟨m, hm⟩ : ∃ m, n - 1 = m := ⟨_, rfl⟩
  rw [hm]
  have hnm : n = m + 1 := by omega
  have HNm := hidMk hnm
  have HMn := hidMk hm
  have hm6 : m ≤ 6 := by omega
  have h0m : 0 < m := by omega
  have hm6' : (m : Int) ≤ 6 := by omega
  clear hnm hm hck hg
  go_enter Try.func6, Try.ntmps6
  go_wp2_with (go_at_call 12; refine (HCk.out).mono ?_; rintro e w1 ⟨rfl, rfl⟩)
  go_loopw [13, 14] (fun v u wr => ∃ (k q : Nat) (sa : Option Addr) (sc : Nat), q ≤ m ∧ u = .int .i64 (k : Int) ∧ v = .slice sa q sc ∧ Hid (k = q + 1) ∧ Hid (Seg wr (fun g => w1.heap.size ≤ g) 3 1 (.slice sa q sc) q (natsL (allG q))) ∧ Hid (Stil w1 wr)) (fun _ u _ => m + 1 - (intOf u).toNat)
  case atStart => exact ⟨1, 0, none, 0, Nat.zero_le _, rfl, rfl, rfl, Seg.nil _ _ _ _, Keep.refl _ _⟩
  case round =>
    obtain ⟨k, q, sa, sc, hq, rfl, rfl, HKq, HG, HS⟩ := hrel
    have hkq := HKq.out
    by_cases hlt : q < m
    · have hlt' : (k : Int) < (n : Int) := by have := HNm.out; omega
      have hk7 : k ≤ 7 := by omega
      have HT : Hid (allG (q + 1) = allG q ++ [k]) := by show _ = _; rw [allG_succ, HKq.out]
      clear hkq
      go_wp2_with (at_builtin; refine wpList_append_seg _ rfl _ _ 37 rfl 3 i0 (.int .i64 0) 1 8 Try.underlying37 iit iz0 iz1 iz2 rfl (by decide) _ _ _ rfl (segAlloc HG.out _) ⟨_, 0, none⟩ 1 1 [.int .i64 (k : Int)] rfl rfl (cCell1 _ _ _ _ (by simp)) (cOne _) (by unfold maxLen; omega) (by omega) ?_)
      intro v9 w9 hs9 hg9
      obtain ⟨q1, q2⟩ := app_nat HS.out HG.out hs9 hg9
      have HG9 := hidMk q1
      have HS9 := hidMk q2
      obtain ⟨sa3, sc3, hv3⟩ := segForm hs9
      subst hv3
      clear hs9 hg9 HG HS q1 q2
      go_wp2
      go_roundw
      case rel => exact ⟨k + 1, q + 1, sa3, sc3, by omega, by go_num, rfl, hidMk (by rw [HKq.out]), by show Seg _ _ _ _ _ _ _; rw [HT.out]; exact HG9.out, HS9⟩
      case measure => simp [intOf]; have := HKq.out; omega
    · obtain rfl : m = q := by omega
      have hkm : (n : Int) ≤ (k : Int) := by have := HNm.out; omega
      have hk1 : decide ((k : Int) < (n : Int)) = false := decide_eq_false (by omega)
      have hk2 : decide (k < n) = false := decide_eq_false (by omega)
      clear hkq
      have HR := hidMk (seg_row HG.out)
      have hq5 := box2_cells wr (.int .u32 (T : Int)) (.int .u64 (L : Int)) 39
      obtain ⟨y0, y1⟩ := hq5
      have HN1 : Hid (Stil wr (wr.alloc (.cells #[.int .u32 (T : Int), .int .u64 (L : Int)] 39))) := Stil.new _ _
      have HR1 := hidMk (HR.out.still HN1.out)
      have HVo := hidMk (fun (w9 : World) => valueOf_any x w9)
      have HWi : Hid (∀ w9, Calls Try.prog 15 #[.agg #[.int .i64 0, .int .i64 0], .int .i64 0] w9 fun e w' => e = .returned (.agg #[.int .i64 0, .int .i64 1]) ∧ Stil w9 w') := fun w9 => with_any 0 0 0 (by omega) (by omega) w9
      have HSq : Hid (∀ (w9 : World), RowI w9 sa m sc (natsI (allG m)) → Calls Try.prog 13 #[.agg #[.int .u32 (T : Int), .int .u64 (L : Int)], .int .i64 (sgn x), .agg #[.int .i64 0, .int .i64 1], .slice sa m sc, .int .i64 (d : Int)] w9 fun e w' =>
          (∃ M c, e = .returned (.map (some M)) ∧ w9.heap.size ≤ M ∧ c ≤ cbG d ∧ MapF w' M c (mapN (allG m) (fun i => sgn (holdsG T.testBit L.testBit d [0] (allG m) i x)))) ∧ Stil w9 w') := fun w9 hr =>
        HSp.out (way := [0]) x hr hm6 (allG_nodup m) (allG_lt hm6) (by simp; omega) (by decide) (fun j hj => by simp at hj; omega)
      clear HG
      go_upto_region 10 with fail
      generalize wr.alloc (.cells #[.int .u32 (T : Int), .int .u64 (L : Int)] 39) = wy at *
      have HC : Hid (∀ w9, Stil wy w9 → (fun w' => w'.cell? ⟨wr.heap.size, 0, none⟩ = some (.int .u32 (T : Int)) ∧ w'.cell? ⟨wr.heap.size, 1, none⟩ = some (.int .u64 (L : Int))) w9) := fun w9 h9 => ⟨h9.cell y0, h9.cell y1⟩
      have HC0 := hidMk (HC.out _ (stilDrewG wy))
      refine wp_region_class (fun w' => w'.cell? ⟨wr.heap.size, 0, none⟩ = some (.int .u32 (T : Int)) ∧ w'.cell? ⟨wr.heap.size, 1, none⟩ = some (.int .u64 (L : Int))) 9 (by kernel_rfl) ?_
      refine wpAnyC_take (i := 0) (fuel := 8) (v := .agg #[.int .u32 (T : Int), .int .u64 (L : Int)]) rfl (by kernel_rfl) (by kernel_rfl) (by kernel_rfl) (by kernel_rfl) (fun _ _ _ h => h) (.inl ⟨by kernel_rfl, fun w' hC => by obtain ⟨q1, q2⟩ := hC; go_simp⟩) HC0.out ?_
      go_frame
      refine wpAnyC_take (i := 1) (fuel := 7) (v := .bool x) rfl (by kernel_rfl) (by kernel_rfl) (by kernel_rfl) (by kernel_rfl) (fun _ _ _ h => h) (.inl ⟨by kernel_rfl, fun w' hC => by obtain ⟨q1, q2⟩ := hC; go_simp⟩) HC0.out ?_
      go_frame
      refine wpAnyC_take (i := 3) (fuel := 6) (v := .agg #[.int .i64 0, .int .i64 0]) rfl (by kernel_rfl) (by kernel_rfl) (by kernel_rfl) (by kernel_rfl) (fun _ _ _ h => h) (.inl ⟨by kernel_rfl, fun w' hC => by obtain ⟨q1, q2⟩ := hC; go_simp⟩) HC0.out ?_
      go_frame
      refine wpAnyC_take (i := 5) (fuel := 5) (v := .slice sa m sc) rfl (by kernel_rfl) (by kernel_rfl) (by kernel_rfl) (by kernel_rfl) (fun _ _ _ h => h) (.inl ⟨by kernel_rfl, fun w' hC => by obtain ⟨q1, q2⟩ := hC; go_simp⟩) HC0.out ?_
      go_frame
      refine wpAnyC_take (i := 6) (fuel := 4) (v := .int .i64 (d : Int)) rfl (by kernel_rfl) (by kernel_rfl) (by kernel_rfl) (by kernel_rfl) (fun _ _ _ h => h) (.inl ⟨by kernel_rfl, fun w' hC => by obtain ⟨q1, q2⟩ := hC; go_simp⟩) HC0.out ?_
      go_frame
      refine wpAnyC_one 2 (fuel := 3) (by kernel_rfl) rfl rfl (fun K4 hK4 => ?_)
      go_wp2_with (go_at_call 14; refine (HVo.out _).mono ?_; rintro e w4 ⟨rfl, rfl⟩)
      refine ⟨fun _ => HC0.out, ?_⟩
      refine wpAnyC_one 4 (fuel := 2) (by kernel_rfl) rfl rfl (fun K5 hK5 => ?_)
      go_wp2_with (go_at_call 15; refine (HWi.out _).mono ?_; rintro e w5 ⟨rfl, hk5⟩)
      have HK5 := hidMk ((stilDrewG wy).tr hk5)
      clear hk5
      refine ⟨fun _ => HC.out _ HK5.out, ?_⟩
      refine wpAnyC_one 7 (fuel := 1) (by kernel_rfl) rfl rfl (fun K6 hK6 => ?_)
      go_wp2_with (go_at_call 13; refine (HSq.out _ (HR1.out.still HK5.out)).mono ?_; rintro e w6 ⟨⟨M, c6, rfl, hM6, hc6, hm6m⟩, hk6⟩)
      have HK6 := hidMk (HK5.out.tr hk6)
      have HMp := hidMk hm6m
      clear hk6 hm6m
      refine ⟨fun _ => HC.out _ HK6.out, ?_⟩
      refine wpAnyC_one 8 (fuel := 0) (by kernel_rfl) rfl rfl (fun K7 hK7 => ?_)
      go_wp2
      refine ⟨fun _ => HC.out _ HK6.out, ?_⟩
      refine wpAnyC_done (by kernel_rfl) ?_
      show Exit.then _ _ Exit.normal _ _
      obtain ⟨c1, c2, _, c4⟩ := HR1.out
      rcases c4 with c4 | ⟨bb, off, rfl, hbb, hcb⟩
      · omega
      have HCb := hidMk hcb
      have HKa := hidMk ((HS.out.tr HN1.out).tr HK6.out)
      clear c1 hbb hcb HSq HSp HC HC0 y0 y1
      go_wp2_with (fail)
      obtain ⟨w2, rfl⟩ : ∃ w' : World, w' = w6 := ⟨_, rfl⟩
      go_loopw [17, 49] (fun v u wr => ∃ (k : Nat) (ra : Option Addr) (rc : Nat), k ≤ m ∧ u = .int .i64 (k : Int) ∧ v = .slice ra k rc ∧ Hid (Seg wr (fun g => w2.heap.size ≤ g) 4 1 (.slice ra k rc) k (boolsL (heldG T L d n x k))) ∧ Hid (Stil w2 wr)) (fun _ u _ => m - (intOf u).toNat)
      case atStart => exact ⟨0, none, 0, Nat.zero_le _, rfl, rfl, Seg.nil _ _ _ _, Keep.refl _ _⟩
      case round =>
        obtain ⟨wx, rfl⟩ : ∃ w' : World, w' = wr := ⟨_, rfl⟩
        obtain ⟨k, ra, rc, hk2, rfl, rfl, HG, HS2⟩ := hrel
        by_cases hlt2 : k < m
        · have hlt2' : (k : Int) < (m : Int) := by omega
          have d0 := HS2.out.cell (HK6.out.cell (HCb.out k _ (natsI_at (allG_at hlt2))))
          have HT := hidMk (heldG_app T L d n x m k HMn.out)
          have hjm : k + 1 ∈ allG m := List.mem_of_getElem? (allG_at hlt2)
          have hlook := (HMp.out.still HS2.out).look (z := ((k + 1 : Nat) : Int)) (i64_small (by omega))
          rw [mapN_in _ hjm] at hlook
          simp only [Option.getD_some] at hlook
          rw [show ((k + 1 : Nat) : Int) = (k : Int) + 1 by omega] at hlook
          have hone := sgn_one (holdsG T.testBit L.testBit d [0] (allG m) (k + 1) x)
          generalize holdsG T.testBit L.testBit d [0] (allG m) (k + 1) x = y at *
          generalize sgn y = sy at *
          go_wp2_with (at_builtin; refine wpList_append_seg _ rfl _ _ 24 rfl 4 b0 (.bool false) 1 1 Try.underlying24 bit bz0 bz1 bz2 rfl (by decide) _ _ _ rfl (segAlloc HG.out _) ⟨_, 0, none⟩ 1 1 [.bool y] rfl rfl (cCell1 _ _ _ _ (by simp)) (bOne _) (by unfold maxLen; omega) (by omega) ?_)
          intro v9 w9 hs9 hg9
          obtain ⟨q1, q2⟩ := app_bool HT.out HS2.out (Stil.new wx _) HG.out (hs9.mono (fun g _ h => by rcases h with h | h; exact .inl h; exact .inr (by rw [h]; simp))) hg9
          have HG9 := hidMk q1
          have HS9 := hidMk q2
          obtain ⟨sa3, sc3, hv3⟩ := segForm hs9
          subst hv3
          clear hs9 hg9 HG HS2 q1 q2
          go_wp2
          go_roundw
          case rel => exact ⟨k + 1, sa3, sc3, by omega, by go_num, rfl, HG9, HS9⟩
          case measure => simp [intOf]; omega
        · obtain rfl : k = m := by omega
          have HRo := hidMk (seg_rowO HG.out)
          go_wp2
          go_ret2
          exact ⟨ra, rc, rfl, HRo.out, HKa.out.tr HS2.out⟩
theorem playAt : PlayAt := by
  intro W n m T L x hT hL
  by_cases h : genC n m T = 0
  · have h2 : ¬ (n < 2 ∨ 7 < n ∨ m < 0 ∨ 2 < m) := fun h9 => by unfold genC at h; rw [if_pos h9] at h; cases h
    obtain ⟨nn, rfl⟩ := Int.eq_ofNat_of_zero_le (by omega : 0 ≤ n)
    obtain ⟨mm, rfl⟩ := Int.eq_ofNat_of_zero_le (by omega : 0 ≤ m)
    refine (gplay_good W nn mm T L x hT hL (by omega) (by omega) (by omega) h).mono ?_
    rintro e w2 ⟨a, c, rfl, h3, h4⟩
    exact ⟨h4, fun h9 => absurd h h9, fun _ => ⟨a, c, rfl, h3⟩⟩
  · refine (gplay_bad W n m T L x hT h).mono ?_
    rintro e w2 ⟨rfl, rfl⟩
    exact ⟨Keep.refl _ _, fun _ => rfl, fun h9 => absurd h9 h⟩
end Go.Proofs.Ytekbglmoibglnaa
