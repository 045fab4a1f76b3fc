/- King, the project's: a phase. -/
import Derived.Test.YtllbfaldhlfjeaaKp1
import Derived.Deep.Cut
import Derived.Deep.CutRange
import Derived.Deep.CutBlock
namespace Go.Proofs.Ytllbfaldhlfjeaa
open Go.RowKit
set_option linter.unusedVariables false

theorem step_bo (i : Nat) (f : Nat → Bool) : updO (fun q => if q < i then f q else false) i (f i) = fun q => if q < i + 1 then f q else false := by
  funext q
  unfold updO
  by_cases h : q = i
  · subst h; rw [if_pos rfl, if_pos (by omega)]
  · rw [if_neg h]
    by_cases h2 : q < i
    · simp only [if_pos h2, if_pos (show q < i + 1 by omega)]
    · simp only [if_neg h2, if_neg (show ¬ q < i + 1 by omega)]
theorem step_nu (i : Nat) (f : Nat → Nat) : updU (fun q => if q < i then f q else 0) i (f i) = fun q => if q < i + 1 then f q else 0 := by
  funext q
  unfold updU
  by_cases h : q = i
  · subst h; rw [if_pos rfl, if_pos (by omega)]
  · rw [if_neg h]
    by_cases h2 : q < i
    · simp only [if_pos h2, if_pos (show q < i + 1 by omega)]
    · simp only [if_neg h2, if_neg (show ¬ q < i + 1 by omega)]
set_option maxRecDepth 100000 in
set_option maxHeartbeats 16000000 in
theorem hold_any {W : World} {n t T k ll lc vc : Nat} {la va : Option Addr} {ls : List Nat} {s : Nat → Bool}
    (hT : T < 4294967296) (h1 : 1 ≤ n) (hn : n ≤ 9) (htn : t < n) (hk : k < n) (hq : RowQ W la ll lc ls) (hv : RowO W va n vc (rowV n s)) :
    Calls Try.prog 16 #[.agg #[.int .i64 (n : Int), .int .i64 (t : Int), .int .u32 (T : Int), .slice la ll lc], .int .i64 (k : Int), .slice va n vc] W fun e w2 => ∃ a c, e = .returned (.slice a n c) ∧ RowO w2 a n c (rowV n (nextK T.testBit (lieK ls) n t s k)) ∧ Stil W w2 := by
  have hn9 : (n : Int) ≤ 9 := by omega
  have ht9 : (t : Int) ≤ 9 := by omega
  have hk9 : (k : Int) ≤ 9 := by omega
  have hmk := kMakeBools n (by omega)
  have hmi := kMakeInts n (by omega)
  have HHe : Hid (∀ j wx, j < n → Stil W wx → Calls Try.prog 18 #[.agg #[.int .i64 (n : Int), .int .i64 (t : Int), .int .u32 (T : Int), .slice la ll lc], .int .i64 (2 * (k : Int)), .slice va n vc, .int .i64 (j : Int)] wx fun e w2 => e = .returned (.tuple #[.bool (majK T.testBit (lieK ls) n s k j), .int .i64 (cntK T.testBit (lieK ls) n s k j : Int)]) ∧ Stil wx w2) := fun j wx hj hx => hear_any (t := t) hT hn hj (by omega) (hq.still hx) (hv.still hx)
  have HSy : Hid (∀ (x : Bool) j wx, j < n → Stil W wx → Calls Try.prog 19 #[.agg #[.int .i64 (n : Int), .int .i64 (t : Int), .int .u32 (T : Int), .slice la ll lc], .int .i64 (2 * (k : Int) + 1), .int .i64 (k : Int), .bool x, .int .i64 (j : Int)] wx fun e w2 => e = .returned (.bool (saysK T.testBit (lieK ls) n k j (2 * k + 1) x)) ∧ Stil wx w2) := fun x j wx hj hx => by
    have := say_any (t := t) (i := k) (pl := 2 * k + 1) (x := x) (hq.still hx) hT hn hk hj (by omega)
    rw [show ((2 * k + 1 : Nat) : Int) = 2 * (k : Int) + 1 by omega] at this
    exact this
  have HNx : Hid (∀ j, nextK T.testBit (lieK ls) n t s k j = if 2 * cntK T.testBit (lieK ls) n s k j ≤ n + 2 * t then saysK T.testBit (lieK ls) n k j (2 * k + 1) (majK T.testBit (lieK ls) n s k k) else majK T.testBit (lieK ls) n s k j) := fun j => rfl
  have HCle : Hid (∀ j, cntK T.testBit (lieK ls) n s k j ≤ n) := fun j => by
    have := yes_le (tr := T.testBit) (lie := lieK ls) (n := n) (s := s) k j
    unfold cntK
    split <;> omega
  obtain ⟨y0, y1, y2, y3⟩ := box4_cells W (.int .i64 (n : Int)) (.int .i64 (t : Int)) (.int .u32 (T : Int)) (.slice la ll lc) 37
  have y0b := (Stil.new (W.alloc (.cells #[.int .i64 (n : Int), .int .i64 (t : Int), .int .u32 (T : Int), .slice la ll lc] 37)) (.cells ((List.range n).map fun _ => Value.bool false).toArray 4)).cell y0
  have HB0 := hidMk y0
  have HB1 := hidMk y1
  have HB2 := hidMk y2
  have HB3 := hidMk y3
  have HA : Hid (Stil W (W.alloc (.cells #[.int .i64 (n : Int), .int .i64 (t : Int), .int .u32 (T : Int), .slice la ll lc] 37))) := Stil.new _ _
  have HM0 := hidMk (boRow_made (W.alloc (.cells #[.int .i64 (n : Int), .int .i64 (t : Int), .int .u32 (T : Int), .slice la ll lc] 37)) n)
  have HC0 := hidMk (nuRow_made ((W.alloc (.cells #[.int .i64 (n : Int), .int .i64 (t : Int), .int .u32 (T : Int), .slice la ll lc] 37)).alloc (.cells ((List.range n).map fun _ => Value.bool false).toArray 4)) n)
  have HK0 := hidMk ((Stil.new (W.alloc (.cells #[.int .i64 (n : Int), .int .i64 (t : Int), .int .u32 (T : Int), .slice la ll lc] 37)) (.cells ((List.range n).map fun _ => Value.bool false).toArray 4)).alloc (.cells ((List.range n).map fun _ => Value.int .i64 0).toArray 3))
  have HM1 := hidMk (HM0.out.keep (Stil.new _ (.cells ((List.range n).map fun _ => Value.int .i64 0).toArray 3)) (by simp))
  have e1 : ((W.alloc (.cells #[.int .i64 (n : Int), .int .i64 (t : Int), .int .u32 (T : Int), .slice la ll lc] 37)).alloc (.cells ((List.range n).map fun _ => Value.bool false).toArray 4)).heap.size = W.heap.size + 2 := by simp
  have e2 : (W.alloc (.cells #[.int .i64 (n : Int), .int .i64 (t : Int), .int .u32 (T : Int), .slice la ll lc] 37)).heap.size = W.heap.size + 1 := by simp
  have HE1 := hidMk e1
  have HE2 := hidMk e2
  clear y1 y2 y3 hq hv e1 e2
  generalize majK T.testBit (lieK ls) n s k = mj at *
  generalize cntK T.testBit (lieK ls) n s k = ct at *
  generalize nextK T.testBit (lieK ls) n t s k = nx at *
  generalize (fun j x => saysK T.testBit (lieK ls) n k j (2 * k + 1) x) = sy at *
  go_enter Try.func16, Try.ntmps16
  go_wp2_with (fail)
  obtain ⟨B, hB⟩ : ∃ B, B = W.heap.size := ⟨_, rfl⟩
  obtain ⟨gm, hgm⟩ : ∃ g, g = W.heap.size + 1 := ⟨_, rfl⟩
  obtain ⟨gc, hgc⟩ : ∃ g, g = W.heap.size + 1 + 1 := ⟨_, rfl⟩
  have HMs : Hid (BoRow (((W.alloc (.cells #[.int .i64 (n : Int), .int .i64 (t : Int), .int .u32 (T : Int), .slice la ll lc] 37)).alloc (.cells ((List.range n).map fun _ => Value.bool false).toArray 4)).alloc (.cells ((List.range n).map fun _ => Value.int .i64 0).toArray 3)) gm n (fun q => if q < 0 then mj q else false)) := by
    show BoRow _ _ _ _
    rw [hgm, ← HE2.out]
    exact HM1.out.same (fun i _ => by rw [if_neg (by omega)])
  have HCs : Hid (NuRow (((W.alloc (.cells #[.int .i64 (n : Int), .int .i64 (t : Int), .int .u32 (T : Int), .slice la ll lc] 37)).alloc (.cells ((List.range n).map fun _ => Value.bool false).toArray 4)).alloc (.cells ((List.range n).map fun _ => Value.int .i64 0).toArray 3)) gc n (fun q => if q < 0 then ct q else 0)) := by
    show NuRow _ _ _ _
    rw [hgc, show W.heap.size + 1 + 1 = W.heap.size + 2 by omega, ← HE1.out]
    exact HC0.out.same (fun i _ => by rw [if_neg (by omega)])
  have hmW : (W.alloc (.cells #[.int .i64 (n : Int), .int .i64 (t : Int), .int .u32 (T : Int), .slice la ll lc] 37)).heap.size ≤ gm := by rw [HE2.out]; omega
  have hcW : (W.alloc (.cells #[.int .i64 (n : Int), .int .i64 (t : Int), .int .u32 (T : Int), .slice la ll lc] 37)).heap.size ≤ gc := by rw [HE2.out]; omega
  have hne : gm ≠ gc := by omega
  rw [← hgc, ← hgm, ← hB]
  rw [← hB] at HB0 HB1 HB2 HB3
  clear hB hgm hgc HM0 HM1 HC0 HE1 HE2 y0 y0b
  generalize (((W.alloc (.cells #[.int .i64 (n : Int), .int .i64 (t : Int), .int .u32 (T : Int), .slice la ll lc] 37)).alloc (.cells ((List.range n).map fun _ => Value.bool false).toArray 4)).alloc (.cells ((List.range n).map fun _ => Value.int .i64 0).toArray 3)) = w3 at *
  generalize W.alloc (.cells #[.int .i64 (n : Int), .int .i64 (t : Int), .int .u32 (T : Int), .slice la ll lc] 37) = w1 at *
  go_loopw [20] (fun u wr => ∃ i : Nat, i ≤ n ∧ u = .int .i64 (i : Int) ∧ Hid (BoRow wr gm n (fun q => if q < i then mj q else false)) ∧ Hid (NuRow wr gc n (fun q => if q < i then ct q else 0)) ∧ Hid (Stil w1 wr)) (fun u _ => n - (intOf u).toNat)
  case atStart => exact ⟨0, Nat.zero_le _, rfl, HMs, HCs, HK0⟩
  case round =>
    clear HMs HCs HK0
    obtain ⟨wx, rfl⟩ : ∃ w' : World, w' = wr := ⟨_, rfl⟩
    obtain ⟨i, hi, rfl, HM, HC, HK⟩ := hrel
    have b0 := HK.out.cell HB0.out
    have b1 := HK.out.cell HB1.out
    have b2 := HK.out.cell HB2.out
    have b3 := HK.out.cell HB3.out
    by_cases hlt : i < n
    · have hlt' : (i : Int) < (n : Int) := by omega
      have HH := hidMk (HHe.out i wx hlt (HA.out.tr HK.out))
      have HMj := hidMk (step_bo i mj)
      have HCt := hidMk (step_nu i ct)
      have hct := HCle.out i
      generalize mj i = x at *
      generalize ct i = z at *
      go_wp2_with (go_at_call 18; refine (HH.out).mono ?_; rintro e w5 ⟨rfl, hk5⟩; have HM5 := hidMk (HM.out.keep hk5 (fun e => e)); have HC5 := hidMk (HC.out.keep hk5 (fun e => e)); have c0 := HM5.out.cell hlt; have f0 := HM5.out.frozen i; have HC6 := hidMk (HC5.out.keep (Keep.setCell (Keep.refl (fun b => b = gm) w5) gm i (.bool x) (fun _ => rfl)) (fun e => hne e.symm)); have c1 := HC6.out.cell hlt; have f1 := HC6.out.frozen i; have HM6 := hidMk (HM5.out.set hlt x); have HC7 := hidMk (HC6.out.set hlt z); have HM7 := hidMk (HM6.out.keep (Keep.setCell (Keep.refl (fun b => b = gc) (w5.setCell ⟨gm, i, none⟩ (.bool x))) gc i (.int .i64 (z : Int)) (fun _ => rfl)) hne); have HK7 := hidMk (Keep.setCell (Keep.setCell (HK.out.tr hk5) gm i (.bool x) (fun h => absurd h (by omega))) gc i (.int .i64 (z : Int)) (fun h => absurd h (by omega))); rw [HMj.out] at HM7; rw [HCt.out] at HC7; clear hk5 HM5 HC5 HC6 HM6)
      go_roundw
      case rel => exact ⟨i + 1, by omega, by go_num, HM7, HC7, HK7⟩
      case measure => simp [intOf]; omega
    · obtain rfl : i = n := by omega
      have HM2 : Hid (BoRow wx gm i mj) := HM.out.same (fun q hq => by rw [if_pos hq])
      have HC2 : Hid (NuRow wx gc i ct) := HC.out.same (fun q hq => by rw [if_pos hq])
      clear HM HC HHe
      have l1 : (i : Int) ≤ (i : Int) := by omega
      obtain ⟨go, hgo⟩ : ∃ g, g = wx.heap.size := ⟨_, rfl⟩
      have HO0 : Hid (BoRow (wx.alloc (.cells ((List.range i).map fun _ => Value.bool false).toArray 4)) go i (fun q => if q < 0 then nx q else false)) := by
        show BoRow _ _ _ _
        rw [hgo]
        exact (boRow_made wx i).same (fun i _ => by rw [if_neg (by omega)])
      have HKo : Hid (Stil wx (wx.alloc (.cells ((List.range i).map fun _ => Value.bool false).toArray 4))) := Stil.new _ _
      have hgW : wx.heap.size ≤ go := by omega
      have HWx := hidMk (HA.out.tr HK.out)
      go_wp2_with (fail)
      rw [← hgo]
      clear hgo
      generalize wx.alloc (.cells ((List.range i).map fun _ => Value.bool false).toArray 4) = wa at *
      go_loopw [44] (fun u wr => ∃ j : Nat, j ≤ i ∧ u = .int .i64 (j : Int) ∧ Hid (BoRow wr go i (fun q => if q < j then nx q else false)) ∧ Hid (Stil wx wr)) (fun u _ => i - (intOf u).toNat)
      case atStart => exact ⟨0, Nat.zero_le _, rfl, HO0, HKo⟩
      case round =>
        clear HO0 HKo
        obtain ⟨wy, rfl⟩ : ∃ w' : World, w' = wr := ⟨_, rfl⟩
        obtain ⟨j, hj, rfl, HO, HK2⟩ := hrel
        by_cases hlt2 : j < i
        · have hlt2' : (j : Int) < (i : Int) := by omega
          have d0 := HK2.out.cell b0
          have d1 := HK2.out.cell b1
          have d2 := HK2.out.cell b2
          have d3 := HK2.out.cell b3
          have d4 := HK2.out.cell (HC2.out.cell hlt2)
          have d5 := HK2.out.cell (HM2.out.cell hlt2)
          have HD6 := hidMk (HK2.out.cell (HM2.out.cell hk))
          have HSt := hidMk (step_bo j nx)
          have hcl := HCle.out j
          have HN := hidMk (HNx.out j)
          generalize ct j = z at *
          generalize hxj : nx j = nj at *
          by_cases hcmp : 2 * z ≤ i + 2 * t
          · have HSk := hidMk (HSy.out (mj k) j)
            have HNj : Hid (nj = saysK T.testBit (lieK ls) i k j (2 * k + 1) (mj k)) := by show _ = _; rw [HN.out, if_pos hcmp]
            generalize saysK T.testBit (lieK ls) i k j (2 * k + 1) (mj k) = sx at *
            obtain rfl : nj = sx := HNj.out
            generalize mj k = x at *
            have q1 : 2 * (z : Int) ≤ (i : Int) + 2 * (t : Int) := by omega
            clear hcmp HN HNj hxj
            go_wp2_with (fail)
            go_quiet (fail)
            have HK3 := hidMk (HK2.out.tr (Stil.drewN wy nq))
            have HO3 := hidMk (HO.out.keep ((Keep.refl (fun _ => False) wy).drewN nq) (fun e => e))
            have d0 := (Stil.drewN wy nq).cell d0
            have d1 := (Stil.drewN wy nq).cell d1
            have d2 := (Stil.drewN wy nq).cell d2
            have d3 := (Stil.drewN wy nq).cell d3
            have d6 := (Stil.drewN wy nq).cell HD6.out
            clear d4 d5 HD6 HO HK2
            go_upto_region 14 with fail
            generalize wy.drewN nq = wz at *
            have HCl : Hid (∀ w9, Stil wz w9 → (fun w' => w'.cell? ⟨B, 0, none⟩ = some (.int .i64 (i : Int)) ∧ w'.cell? ⟨B, 1, none⟩ = some (.int .i64 (t : Int)) ∧ w'.cell? ⟨B, 2, none⟩ = some (.int .u32 (T : Int)) ∧ w'.cell? ⟨B, 3, none⟩ = some (.slice la ll lc) ∧ w'.cell? ⟨gm, k, none⟩ = some (.bool x)) w9) := fun w9 h9 => ⟨h9.cell d0, h9.cell d1, h9.cell d2, h9.cell d3, h9.cell d6⟩
            have HC0 := hidMk (HCl.out _ (stilDrewG wz))
            have hk' : (k : Int) < (i : Int) := by omega
            have hwa : IntKind.i64.wrap (2 * (k : Int)) = 2 * (k : Int) := wrapG ⟨by omega, by omega⟩
            have hwb : IntKind.i64.wrap (2 * (k : Int) + 1) = 2 * (k : Int) + 1 := wrapG ⟨by omega, by omega⟩
            refine wp_region_class (fun w' => w'.cell? ⟨B, 0, none⟩ = some (.int .i64 (i : Int)) ∧ w'.cell? ⟨B, 1, none⟩ = some (.int .i64 (t : Int)) ∧ w'.cell? ⟨B, 2, none⟩ = some (.int .u32 (T : Int)) ∧ w'.cell? ⟨B, 3, none⟩ = some (.slice la ll lc) ∧ w'.cell? ⟨gm, k, none⟩ = some (.bool x)) 14 (by kernel_rfl) ?_
            refine wpAnyC_take (i := 0) (fuel := 14) (v := .slice (some ⟨go, 0, none⟩) i i) rfl (by kernel_rfl) (by kernel_rfl) (by kernel_rfl) (by kernel_rfl) (fun _ _ _ h => h) (.inl ⟨by kernel_rfl, fun w' hC => by obtain ⟨y1, y2, y3, y4, y5⟩ := hC; go_simp⟩) HC0.out ?_
            go_frame
            refine wpAnyC_take (i := 1) (fuel := 13) (v := .int .i64 (j : Int)) rfl (by kernel_rfl) (by kernel_rfl) (by kernel_rfl) (by kernel_rfl) (fun _ _ _ h => h) (.inl ⟨by kernel_rfl, fun w' hC => by obtain ⟨y1, y2, y3, y4, y5⟩ := hC; go_simp⟩) HC0.out ?_
            go_frame
            refine wpAnyC_take (i := 2) (fuel := 12) (v := .agg #[.int .i64 (i : Int), .int .i64 (t : Int), .int .u32 (T : Int), .slice la ll lc]) rfl (by kernel_rfl) (by kernel_rfl) (by kernel_rfl) (by kernel_rfl) (fun _ _ _ h => h) (.inl ⟨by kernel_rfl, fun w' hC => by obtain ⟨y1, y2, y3, y4, y5⟩ := hC; go_simp⟩) HC0.out ?_
            go_frame
            refine wpAnyC_take (i := 3) (fuel := 11) (v := .int .i64 (k : Int)) rfl (by kernel_rfl) (by kernel_rfl) (by kernel_rfl) (by kernel_rfl) (fun _ _ _ h => h) (.inl ⟨by kernel_rfl, fun w' hC => by obtain ⟨y1, y2, y3, y4, y5⟩ := hC; go_simp⟩) HC0.out ?_
            go_frame
            refine wpAnyC_take (i := 4) (fuel := 10) (v := .int .i64 (2 * (k : Int))) rfl (by kernel_rfl) (by kernel_rfl) (by kernel_rfl) (by kernel_rfl) (fun _ _ _ h => h) (.inl ⟨by kernel_rfl, fun w' hC => by obtain ⟨y1, y2, y3, y4, y5⟩ := hC; go_simp⟩) HC0.out ?_
            go_frame
            refine wpAnyC_take (i := 5) (fuel := 9) (v := .int .i64 (2 * (k : Int) + 1)) rfl (by kernel_rfl) (by kernel_rfl) (by kernel_rfl) (by kernel_rfl) (fun _ _ _ h => h) (.inl ⟨by kernel_rfl, fun w' hC => by obtain ⟨y1, y2, y3, y4, y5⟩ := hC; go_simp⟩) HC0.out ?_
            go_frame
            refine wpAnyC_take (i := 6) (fuel := 8) (v := .int .i64 (k : Int)) rfl (by kernel_rfl) (by kernel_rfl) (by kernel_rfl) (by kernel_rfl) (fun _ _ _ h => h) (.inl ⟨by kernel_rfl, fun w' hC => by obtain ⟨y1, y2, y3, y4, y5⟩ := hC; go_simp⟩) HC0.out ?_
            go_frame
            refine wpAnyC_take (i := 7) (fuel := 7) (v := .slice (some ⟨gm, 0, none⟩) i i) rfl (by kernel_rfl) (by kernel_rfl) (by kernel_rfl) (by kernel_rfl) (fun _ _ _ h => h) (.inl ⟨by kernel_rfl, fun w' hC => by obtain ⟨y1, y2, y3, y4, y5⟩ := hC; go_simp⟩) HC0.out ?_
            go_frame
            refine wpAnyC_take (i := 8) (fuel := 6) (v := .int .i64 (k : Int)) rfl (by kernel_rfl) (by kernel_rfl) (by kernel_rfl) (by kernel_rfl) (fun _ _ _ h => h) (.inl ⟨by kernel_rfl, fun w' hC => by obtain ⟨y1, y2, y3, y4, y5⟩ := hC; go_simp⟩) HC0.out ?_
            go_frame
            refine wpAnyC_take (i := 9) (fuel := 5) (v := .pointer (some ⟨gm, k, none⟩)) rfl (by kernel_rfl) (by kernel_rfl) (by kernel_rfl) (by kernel_rfl) (fun _ _ _ h => h) (.inl ⟨by kernel_rfl, fun w' hC => by obtain ⟨y1, y2, y3, y4, y5⟩ := hC; go_simp⟩) HC0.out ?_
            go_frame
            refine wpAnyC_take (i := 10) (fuel := 4) (v := .bool x) rfl (by kernel_rfl) (by kernel_rfl) (by kernel_rfl) (by kernel_rfl) (fun _ _ _ h => h) (.inl ⟨by kernel_rfl, fun w' hC => by obtain ⟨y1, y2, y3, y4, y5⟩ := hC; go_simp⟩) HC0.out ?_
            go_frame
            refine wpAnyC_take (i := 11) (fuel := 3) (v := .int .i64 (j : Int)) rfl (by kernel_rfl) (by kernel_rfl) (by kernel_rfl) (by kernel_rfl) (fun _ _ _ h => h) (.inl ⟨by kernel_rfl, fun w' hC => by obtain ⟨y1, y2, y3, y4, y5⟩ := hC; go_simp⟩) HC0.out ?_
            go_frame
            refine wpAnyC_one 12 (fuel := 2) (by kernel_rfl) rfl rfl (fun K4 hK4 => ?_)
            go_wp2_with (go_at_call 19; refine (HSk.out _ hlt2 (HWx.out.tr (HK3.out.tr (stilDrewG wz)))).mono ?_; rintro e w5 ⟨rfl, hk5⟩; have HK5 := hidMk ((stilDrewG wz).tr hk5); clear hk5)
            have HO5 := hidMk (HO3.out.keep HK5.out (fun e => e))
            have c0 := HO5.out.cell hlt2
            have f0 := HO5.out.frozen j
            have HO6 := hidMk (HO5.out.set hlt2 nj)
            have HK6 := hidMk (Keep.setCell (HK3.out.tr HK5.out) go j (.bool nj) (fun h => absurd h (by omega)))
            rw [HSt.out] at HO6
            refine ⟨fun _ => HCl.out _ HK5.out, ?_⟩
            refine wpAnyC_one 13 (fuel := 1) (by kernel_rfl) rfl rfl (fun K5 hK5 => ?_)
            go_wp2
            refine ⟨fun _ => HCl.out _ HK5.out, ?_⟩
            refine wpAnyC_one 14 (fuel := 0) (by kernel_rfl) rfl rfl (fun K6 hK6 => ?_)
            go_wp2
            refine ⟨fun h => absurd rfl h, ?_⟩
            refine wpAnyC_done (by kernel_rfl) ?_
            go_wp2
            go_roundw
            case rel => exact ⟨j + 1, by omega, by go_num, HO6, HK6⟩
            case measure => simp [intOf]; omega
          · have HNj : Hid (nj = mj j) := by show _ = _; rw [HN.out, if_neg hcmp]
            generalize mj j = x at *
            obtain rfl : nj = x := HNj.out
            have q1 : (i : Int) + 2 * (t : Int) < 2 * (z : Int) := by omega
            clear hcmp HN HNj hxj HD6
            go_wp2_with (fail)
            go_quiet (fail)
            have HK3 := hidMk (HK2.out.tr (Stil.drewN wy nq))
            have HO3 := hidMk (HO.out.keep ((Keep.refl (fun _ => False) wy).drewN nq) (fun e => e))
            have d5 := (Stil.drewN wy nq).cell d5
            have c0 := HO3.out.cell hlt2
            have f0 := HO3.out.frozen j
            have HO6 := hidMk (HO3.out.set hlt2 nj)
            have HK6 := hidMk (Keep.setCell HK3.out go j (.bool nj) (fun h => absurd h (by omega)))
            rw [HSt.out] at HO6
            clear d0 d1 d2 d3 d4 HO HK2
            generalize wy.drewN nq = wz at *
            go_wp2
            go_roundw
            case rel => exact ⟨j + 1, by omega, by go_num, HO6, HK6⟩
            case measure => simp [intOf]; omega
        · obtain rfl : j = i := by omega
          have HO2 := hidMk ((HO.out.same (fun q hq => by rw [if_pos hq]) : BoRow wy go j nx).rowO (by omega))
          go_wp2
          go_ret
          exact ⟨_, _, rfl, HO2.out, HWx.out.tr HK2.out⟩
end Go.Proofs.Ytllbfaldhlfjeaa
