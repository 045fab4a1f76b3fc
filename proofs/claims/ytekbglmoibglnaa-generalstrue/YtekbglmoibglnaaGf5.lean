/- Generals: spread. -/
import Derived.Test.YtekbglmoibglnaaGf4
import Derived.Test.YtekbglmoibglnaaR4
import Derived.Deep.Cut
import Derived.Deep.CutRange
import Derived.Deep.CutBlock
import Derived.RegionTactic
namespace Go.Proofs.Ytekbglmoibglnaa
open Go.RowKit Go.Maps
set_option linter.unusedVariables false

def cbG : Nat → Nat
  | 0 => 6
  | d + 1 => 6 + 6 * cbG d
/-- What spread tells, at a depth. -/
def SpreadAt (T L d : Nat) : Prop := ∀ {W : World} {b : Option Addr} {lb cb : Nat} {way l : List Nat} (x : Bool), RowI W b lb cb (natsI l) → lb ≤ 6 → l.Nodup → (∀ j ∈ l, j < 7) → way.length + d ≤ 3 → lastW way < 7 → (∀ j ∈ way, j < 7) →
  Calls Try.prog 13 #[.agg #[.int .u32 (T : Int), .int .u64 (L : Int)], .int .i64 (sgn x), wayV (lastW way) (wayC way), .slice b lb cb, .int .i64 (d : Int)] W fun e w2 =>
    (∃ M c, e = .returned (.map (some M)) ∧ W.heap.size ≤ M ∧ c ≤ cbG d ∧ MapF w2 M c (mapN l (fun i => sgn (holdsG T.testBit L.testBit d way l i x)))) ∧ Stil W w2
theorem sent_sgn (T L : Nat) (way : List Nat) (j : Nat) (x : Bool) : (if T.testBit (lastW way) = true then sgn (L.testBit ((7 * wayC way + j) % 64)) else sgn x) = sgn (sentG T.testBit L.testBit way j x) := by
  unfold sentG
  split <;> rfl
theorem sgn_i64 (b : Bool) : I64 (sgn b) := by have := sgn_le b; exact i64_small (by omega)
theorem sgn_small {l : List Nat} {h : Nat → Bool} (z v : Int) (e : mapN l (fun i => sgn (h i)) z = some v) : -1000 ≤ v ∧ v ≤ 1000 := by
  unfold mapN at e
  split at e
  · have := sgn_le (h z.toNat)
    simp at e; omega
  · cases e
theorem vote_small {tr lie : Nat → Bool} {d : Nat} {way l : List Nat} {x : Bool} {k : Nat} (hl : l.length ≤ 6) (z v : Int) (e : mapN l (voteG tr lie d way l x k) z = some v) : -1000 ≤ v ∧ v ≤ 1000 := by
  unfold mapN at e
  split at e
  · have := vote_le tr lie d way l x k z.toNat hl
    simp at e; omega
  · cases e
theorem boxes_cells (W : World) (u1 v1 u2 v2 : Value) (t1 t2 : TypeId) : ∃ w2 : World, w2 = (W.alloc (.cells #[u1, v1] t1)).alloc (.cells #[u2, v2] t2) ∧ Stil W w2 ∧ w2.heap.size = W.heap.size + 2 ∧
    w2.cell? ⟨W.heap.size, 0, none⟩ = some u1 ∧ w2.cell? ⟨W.heap.size, 1, none⟩ = some v1 ∧ w2.cell? ⟨W.heap.size + 1, 0, none⟩ = some u2 ∧ w2.cell? ⟨W.heap.size + 1, 1, none⟩ = some v2 := by
  have h1 := box2_cells W u1 v1 t1
  have h2 := box2_cells (W.alloc (.cells #[u1, v1] t1)) u2 v2 t2
  have hs := Stil.new (W.alloc (.cells #[u1, v1] t1)) (.cells #[u2, v2] t2)
  have e : (W.alloc (.cells #[u1, v1] t1)).heap.size = W.heap.size + 1 := by simp
  rw [e] at h2
  exact ⟨_, rfl, (Stil.new _ _).tr hs, by simp, hs.cell h1.1, hs.cell h1.2, h2.1, h2.2⟩
theorem map_new {w : World} {S : Nat} (h : S = w.heap.size) : MapF (w.alloc (.map #[] 0)) S 0 (fun _ => none) := by rw [h]; exact MapF.made w
set_option maxRecDepth 100000 in
set_option maxHeartbeats 16000000 in
theorem spread_zero {T L d : Nat} (hT : T < 4294967296) (hL : L < 18446744073709551616) (hd0 : d = 0) : SpreadAt T L d := by
  intro W b lb cb way l x hb hl6 hd ha h3 hlw hw
  have hwc := way_le hw (by omega)
  have f1 : ((d : Int) == 0) = true := by rw [beq_iff_eq]; omega
  have f2 : (d == 0) = true := by rw [beq_iff_eq]; omega
  have HDd : Hid (d = 0) := hd0
  clear hd0
  obtain ⟨w2, hw2, hS2, hz2, y0, y1, y2, y3⟩ := boxes_cells W (.int .u32 (T : Int)) (.int .u64 (L : Int)) (.int .i64 (lastW way : Int)) (.int .i64 (wayC way : Int)) 39 45
  have HSn : Hid (∀ (w9 : World) (j : Nat), j < 7 → Calls Try.prog 18 #[.agg #[.int .u32 (T : Int), .int .u64 (L : Int)], .int .i64 (sgn x), wayV (lastW way) (wayC way), .int .i64 (j : Int)] w9 fun e w' => e = .returned (.int .i64 (sgn (sentG T.testBit L.testBit way j x))) ∧ Stil w9 w') := fun w9 j hj => by
    have := send_any T L (lastW way) (wayC way) j (sgn x) hT hL hlw (by omega) hj w9
    rw [sent_sgn] at this
    exact this
  have hlb := hb.1
  rw [natsI_len] at hlb
  have HLb := hidMk hlb
  have HAm := hidMk ha
  have HWy := hidMk hw
  have HNd := hidMk hd
  have HAb : Hid (lb = 0 ∨ ∃ bb off, b = some ⟨bb, off, none⟩ ∧ bb < W.heap.size ∧ ∀ (k : Nat) (z : Int), (natsI l)[k]? = some z → W.cell? ⟨bb, off + k, none⟩ = some (.int .i64 z)) := hb.2.2.2
  have HRow := hidMk hb
  have HY0 := hidMk y0
  have HY1 := hidMk y1
  have HY2 := hidMk y2
  have HY3 := hidMk y3
  have HS2 := hidMk hS2
  have hl6' : (lb : Int) ≤ 6 := by omega
  have hmm := @run_makeMap Try.prog
  clear hb ha hlb hd hw y0 y1 y2 y3 hS2
  unfold wayV at *
  go_enter Try.func13, Try.ntmps13
  go_wp2
  rw [← hw2]
  clear hw2
  obtain ⟨S, hSd⟩ : ∃ S, S = W.heap.size + 1 + 1 := ⟨_, rfl⟩
  rw [← hSd]
  have HM0 : Hid (MapF (w2.alloc (.map #[] 0)) S 0 (fun _ => none)) := map_new (by omega)
  have hSw : w2.heap.size ≤ S := by omega
  have HSd := hidMk hSd
  have HZ2 := hidMk hz2
  clear hSd hz2
  have HK0 : Hid (Stil w2 (w2.alloc (.map #[] 0))) := Stil.new _ _
  go_loopw [24] (fun u wr => ∃ k : Nat, k ≤ lb ∧ u = .int .i64 (k : Int) ∧ Hid (MapF wr S k (mapN (l.take k) (fun i => sgn (sentG T.testBit L.testBit way i x)))) ∧ Hid (Stil w2 wr)) (fun u _ => lb - (intOf u).toNat)
  case atStart => exact ⟨0, Nat.zero_le _, rfl, by show MapF _ _ _ _; rw [List.take_zero, mapN_nil]; exact HM0.out, HK0⟩
  case round =>
    obtain ⟨k, hk, rfl, HM, HK⟩ := hrel
    by_cases hlt : k < lb
    · have hlt' : (k : Int) < (lb : Int) := by omega
      obtain ⟨bb, off, rfl, hbb, hcb⟩ := HAb.out.resolve_left (by omega)
      have e : l[k]? = some (l[k]'(by rw [HLb.out]; exact hlt)) := List.getElem?_eq_getElem _
      have hj7 := HAm.out _ (List.getElem_mem (h := by rw [HLb.out]; exact hlt))
      generalize l[k]'(by rw [HLb.out]; exact hlt) = j at *
      have d0 := HK.out.cell (HS2.out.cell (hcb k _ (natsI_at e)))
      have y0 := HK.out.cell HY0.out
      have y1 := HK.out.cell HY1.out
      have y2 := HK.out.cell HY2.out
      have y3 := HK.out.cell HY3.out
      have HT := hidMk (mapN_take (fun i => sgn (sentG T.testBit L.testBit way i x)) e)
      have HC := hidMk (HSn.out wr j hj7)
      have hjw : I64 (j : Int) := i64_small (by omega)
      have hsw := sgn_i64 (sentG T.testBit L.testBit way j x)
      clear hcb e
      generalize sgn (sentG T.testBit L.testBit way j x) = v at *
      go_wp2_with (go_at_call 18; refine (HC.out).mono ?_; rintro e w3 ⟨rfl, hk3⟩; obtain ⟨w4, hst, hM4, hg4⟩ := (HM.out.still hk3).store (by unfold maxLen; omega) hjw hsw; have HM4 := hidMk hM4; have HK4 := hidMk ((HK.out.tr hk3).grown hg4 (fun q e hq => by cases e; omega)); clear hk3 hM4 hg4)
      go_roundw
      case rel => exact ⟨k + 1, by omega, by go_num, by show MapF _ _ _ _; rw [HT.out]; exact HM4.out, HK4⟩
      case measure => simp [intOf]; omega
    · obtain rfl : k = lb := by omega
      rw [List.take_of_length_le (by rw [HLb.out]; exact Nat.le_refl _)] at HM
      go_wp2
      go_ret
      refine ⟨⟨S, k, rfl, by have := HSd.out; omega, ?_, ?_⟩, HS2.out.tr HK.out⟩
      · rw [HDd.out]; exact hl6
      · rw [HDd.out]; exact HM.out
set_option maxRecDepth 100000 in
set_option maxHeartbeats 16000000 in
theorem spread_succ {T L d : Nat} (hT : T < 4294967296) (hL : L < 18446744073709551616) (hd1 : d ≤ 1) (ih : SpreadAt T L d) : SpreadAt T L (d + 1) := by
  intro W b lb cb way l x hb hl6 hd ha h3 hlw hw
  have hwc := way_le hw (by omega)
  have hvt := tell_held T.testBit L.testBit d (way := way) x hd
  have HVt := hidMk hvt
  clear hvt
  obtain ⟨dd, hdd⟩ : ∃ dd, dd = d + 1 := ⟨_, rfl⟩
  rw [← hdd] at HVt ⊢
  have f1 : ((dd : Int) == 0) = false := by rw [beq_eq_false_iff_ne]; omega
  have f2 : (dd == 0) = false := by rw [beq_eq_false_iff_ne]; omega
  have f3 : IntKind.i64.wrap ((dd : Int) - 1) = (d : Int) := by
    rw [show (dd : Int) - 1 = (d : Int) by omega]
    obtain rfl | rfl : d = 0 ∨ d = 1 := by omega
    all_goals decide
  have HIH : Hid (SpreadAt T L d) := ih
  have HDd : Hid (dd = d + 1) := hdd
  have hcb : cbG d ≤ 42 := by
    obtain rfl | rfl : d = 0 ∨ d = 1 := by omega
    all_goals decide
  have HCB : Hid (cbG dd = 6 + 6 * cbG d) := by show _ = _; rw [hdd]; rfl
  rw [show way.length + (d + 1) = way.length + dd by omega] at h3
  clear hdd ih
  obtain ⟨w2, hw2, hS2, hz2, y0, y1, y2, y3⟩ := boxes_cells W (.int .u32 (T : Int)) (.int .u64 (L : Int)) (.int .i64 (lastW way : Int)) (.int .i64 (wayC way : Int)) 39 45
  have HSn : Hid (∀ (w9 : World) (j : Nat), j < 7 → Calls Try.prog 18 #[.agg #[.int .u32 (T : Int), .int .u64 (L : Int)], .int .i64 (sgn x), wayV (lastW way) (wayC way), .int .i64 (j : Int)] w9 fun e w' => e = .returned (.int .i64 (sgn (sentG T.testBit L.testBit way j x))) ∧ Stil w9 w') := fun w9 j hj => by
    have := send_any T L (lastW way) (wayC way) j (sgn x) hT hL hlw (by omega) hj w9
    rw [sent_sgn] at this
    exact this
  have hlb := hb.1
  rw [natsI_len] at hlb
  have HLb := hidMk hlb
  have HAm := hidMk ha
  have HWy := hidMk hw
  have HNd := hidMk hd
  have HAb : Hid (lb = 0 ∨ ∃ bb off, b = some ⟨bb, off, none⟩ ∧ bb < W.heap.size ∧ ∀ (k : Nat) (z : Int), (natsI l)[k]? = some z → W.cell? ⟨bb, off + k, none⟩ = some (.int .i64 z)) := hb.2.2.2
  have HRow := hidMk hb
  have HY0 := hidMk y0
  have HY1 := hidMk y1
  have HY2 := hidMk y2
  have HY3 := hidMk y3
  have HS2 := hidMk hS2
  have hl6' : (lb : Int) ≤ 6 := by omega
  have hmm := @run_makeMap Try.prog
  clear hb ha hlb hd hw y0 y1 y2 y3 hS2
  unfold wayV at *
  go_enter Try.func13, Try.ntmps13
  go_wp2
  rw [← hw2]
  clear hw2
  obtain ⟨S, hSd⟩ : ∃ S, S = W.heap.size + 1 + 1 := ⟨_, rfl⟩
  rw [← hSd]
  have HM0 : Hid (MapF (w2.alloc (.map #[] 0)) S 0 (fun _ => none)) := map_new (by omega)
  have hSw : w2.heap.size ≤ S := by omega
  have HSd := hidMk hSd
  have HZ2 := hidMk hz2
  clear hSd hz2
  have HK0 : Hid (Stil w2 (w2.alloc (.map #[] 0))) := Stil.new _ _
  go_loopw [24] (fun u wr => ∃ k : Nat, k ≤ lb ∧ u = .int .i64 (k : Int) ∧ Hid (MapF wr S k (mapN (l.take k) (fun i => sgn (sentG T.testBit L.testBit way i x)))) ∧ Hid (Stil w2 wr)) (fun u _ => lb - (intOf u).toNat)
  case atStart => exact ⟨0, Nat.zero_le _, rfl, by show MapF _ _ _ _; rw [List.take_zero, mapN_nil]; exact HM0.out, HK0⟩
  case round =>
    obtain ⟨k, hk, rfl, HM, HK⟩ := hrel
    by_cases hlt : k < lb
    · have hlt' : (k : Int) < (lb : Int) := by omega
      obtain ⟨bb, off, rfl, hbb, hcb⟩ := HAb.out.resolve_left (by omega)
      have e : l[k]? = some (l[k]'(by rw [HLb.out]; exact hlt)) := List.getElem?_eq_getElem _
      have hj7 := HAm.out _ (List.getElem_mem (h := by rw [HLb.out]; exact hlt))
      generalize l[k]'(by rw [HLb.out]; exact hlt) = j at *
      have d0 := HK.out.cell (HS2.out.cell (hcb k _ (natsI_at e)))
      have y0 := HK.out.cell HY0.out
      have y1 := HK.out.cell HY1.out
      have y2 := HK.out.cell HY2.out
      have y3 := HK.out.cell HY3.out
      have HT := hidMk (mapN_take (fun i => sgn (sentG T.testBit L.testBit way i x)) e)
      have HC := hidMk (HSn.out wr j hj7)
      have hjw : I64 (j : Int) := i64_small (by omega)
      have hsw := sgn_i64 (sentG T.testBit L.testBit way j x)
      clear hcb e
      generalize sgn (sentG T.testBit L.testBit way j x) = v at *
      go_wp2_with (go_at_call 18; refine (HC.out).mono ?_; rintro e w3 ⟨rfl, hk3⟩; obtain ⟨w4, hst, hM4, hg4⟩ := (HM.out.still hk3).store (by unfold maxLen; omega) hjw hsw; have HM4 := hidMk hM4; have HK4 := hidMk ((HK.out.tr hk3).grown hg4 (fun q e hq => by cases e; omega)); clear hk3 hM4 hg4)
      go_roundw
      case rel => exact ⟨k + 1, by omega, by go_num, by show MapF _ _ _ _; rw [HT.out]; exact HM4.out, HK4⟩
      case measure => simp [intOf]; omega
    · obtain rfl : k = lb := by omega
      rw [List.take_of_length_le (by rw [HLb.out]; exact Nat.le_refl _)] at HM
      have hSl := HM.out.lt
      have hwl : w2.heap.size ≤ wr.heap.size := HK.out.size
      have HA1 : Hid (Stil wr ((wr.alloc (.map #[] 0)).alloc (.cells #[.map (some wr.heap.size)] 40))) := (Stil.new wr _).tr (Stil.new _ _)
      have HV6 : Hid (MapF ((wr.alloc (.map #[] 0)).alloc (.cells #[.map (some wr.heap.size)] 40)) wr.heap.size 0 (fun _ => none)) := (MapF.made wr).still (Stil.new _ _)
      have hB6 : ((wr.alloc (.map #[] 0)).alloc (.cells #[.map (some wr.heap.size)] 40)).cell? ⟨wr.heap.size + 1, 0, none⟩ = some (.map (some wr.heap.size)) := by
        have h9 := al_new (wr.alloc (.map #[] 0)) (.cells #[.map (some wr.heap.size)] 40)
        rw [show (wr.alloc (.map #[] 0)).heap.size = wr.heap.size + 1 by simp] at h9
        rw [cell_of_row _ _ _ _ _ _ h9]; rfl
      have HB6 := hidMk hB6
      have HC6 := hidMk (count_any (HM.out.still HA1.out) HV6.out (by omega) (by omega) hB6 (fun z v e => sgn_small z v e) (fun z v e => by cases e) (by omega))
      clear hB6
      go_wp2_with (go_at_call 19; go_loud (refine (HC6.out).mono ?_; rintro e w7 ⟨rfl, ⟨c7, hc7, hm7⟩, hk7⟩; rw [addM_first, ← vote_zero T.testBit L.testBit d way l x] at hm7; have HM7 := hidMk hm7; have HK7 : Hid (Stil w2 w7) := ((HK.out.tr HA1.out).trans hk7 (fun _ _ e => e) (fun i hi e => by omega)); have HS7 : Hid (MapF w7 S k (mapN l (fun i => sgn (sentG T.testBit L.testBit way i x)))) := (HM.out.still HA1.out).keep hk7 (by omega); have HB7 : Hid (w7.cell? ⟨wr.heap.size + 1, 0, none⟩ = some (.map (some wr.heap.size))) := (World.cell?_of_block (hk7.block (wr.heap.size + 1) (World.block_lt_of_cell? _ _ HB6.out) (fun e => absurd e (Nat.succ_ne_self _)))).trans HB6.out; clear hm7 hk7))
      clear HV6 HB6 HC6 HA1 HM HK
      obtain ⟨V, hV⟩ : ∃ V, V = wr.heap.size := ⟨_, rfl⟩
      rw [← hV] at HB7 HM7 hwl hSl ⊢
      obtain ⟨B, hBd⟩ : ∃ B, B = V + 1 := ⟨_, rfl⟩
      rw [← hBd] at HB7 ⊢
      have hBV : B ≠ V := by omega
      have hSV : S ≠ V := by omega
      have hw2B : w2.heap.size ≤ B := by omega
      have HVd := hidMk hV
      have HBd := hidMk hBd
      clear hV hBd
      go_loopw [46] (fun u wy => ∃ (q : Nat), q ≤ k ∧ u = .int .i64 (q : Int) ∧ (∃ cv, Hid (cv ≤ 6 + q * cbG d) ∧ Hid (MapF wy V cv (mapN l (voteG T.testBit L.testBit d way l x q)))) ∧ Hid (MapF wy S k (mapN l (fun i => sgn (sentG T.testBit L.testBit way i x)))) ∧ Hid (wy.cell? ⟨B, 0, none⟩ = some (.map (some V))) ∧ Hid (Stil w2 wy)) (fun u _ => k - (intOf u).toNat)
      case atStart => exact ⟨0, Nat.zero_le _, rfl, ⟨c7, by show _ ≤ _; omega, HM7⟩, HS7, HB7, HK7⟩
      case round =>
        clear HM7 HS7 HB7 HK7
        obtain ⟨wy, rfl⟩ : ∃ w' : World, w' = wr := ⟨_, rfl⟩
        obtain ⟨q, hq, rfl, ⟨cv, HCv, HM⟩, HMs, HB, HK⟩ := hrel
        by_cases hlt : q < k
        · have hlt' : (q : Int) < (k : Int) := by omega
          obtain ⟨bb, off, rfl, hbb, hcb2⟩ := HAb.out.resolve_left (by omega)
          have e : l[q]? = some (l[q]'(by rw [HLb.out]; exact hlt)) := List.getElem?_eq_getElem _
          have hj7 := HAm.out _ (List.getElem_mem (h := by rw [HLb.out]; exact hlt))
          have hjm : l[q]'(by rw [HLb.out]; exact hlt) ∈ l := List.getElem_mem _
          generalize l[q]'(by rw [HLb.out]; exact hlt) = j at *
          have d0 := HK.out.cell (HS2.out.cell (hcb2 q _ (natsI_at e)))
          have y0 := HK.out.cell HY0.out
          have y1 := HK.out.cell HY1.out
          have y2 := HK.out.cell HY2.out
          have y3 := HK.out.cell HY3.out
          have HVm := hidMk (vote_more T.testBit L.testBit d (way := way) x e)
          have hjw : I64 (j : Int) := i64_small (by omega)
          have HSj : Hid ((mapN l (fun i => sgn (sentG T.testBit L.testBit way i x)) (j : Int)).getD 0 = sgn (sentG T.testBit L.testBit way j x)) := by show _ = _; rw [mapN_in _ hjm]; rfl
          have hqc : q * cbG d ≤ 6 * 42 := Nat.mul_le_mul (by omega) hcb
          have HCq : Hid ((q + 1) * cbG d = q * cbG d + cbG d) := Nat.succ_mul _ _
          have hl6l : l.length ≤ 6 := by rw [HLb.out]; omega
          have HWi := hidMk (fun (w9 : World) => with_any (lastW way) (wayC way) j (by omega) (by omega) w9)
          have HWo := hidMk (fun (w9 : World) (h9 : Stil wy w9) => without_any (((HRow.out.still HS2.out).still HK.out).still h9) (by omega) hjm)
          have HSp : Hid (∀ (w9 : World) (a2 : Option Addr) (m2 c2 : Nat), RowI w9 a2 m2 c2 (natsI (l.filter (fun g => g != j))) → Calls Try.prog 13 #[.agg #[.int .u32 (T : Int), .int .u64 (L : Int)], .int .i64 (sgn (sentG T.testBit L.testBit way j x)), wayV j (7 * wayC way + j + 1), .slice a2 m2 c2, .int .i64 (d : Int)] w9 fun e w' =>
              (∃ M c, e = .returned (.map (some M)) ∧ w9.heap.size ≤ M ∧ c ≤ cbG d ∧ MapF w' M c (mapN (l.filter (fun g => g != j)) (fun i => sgn (holdsG T.testBit L.testBit d (way ++ [j]) (l.filter (fun g => g != j)) i (sentG T.testBit L.testBit way j x))))) ∧ Stil w9 w') := fun w9 a2 m2 c2 hr => by
            have hm2 : m2 ≤ 6 := by
              have h9 := hr.1
              rw [natsI_len] at h9
              rw [← h9]
              exact Nat.le_trans (List.length_filter_le _ _) hl6l
            have h9 := HIH.out (way := way ++ [j]) (sentG T.testBit L.testBit way j x) hr hm2 (filt_nodup HNd.out j) (fun i hi => HAm.out i (List.mem_filter.1 hi).1) (by have := HDd.out; simp; omega) (by rw [lastW_app]; exact hj7) (fun i hi => by
              rw [List.mem_append] at hi
              rcases hi with hi | hi
              · exact HWy.out i hi
              · simp at hi; rw [hi]; exact hj7)
            rw [lastW_app, wayC_app] at h9
            exact h9
          clear hcb2 e
          go_upto_region 15 with fail
          refine wp_region_class (fun w' => w'.cell? ⟨W.heap.size, 0, none⟩ = some (.int .u32 (T : Int)) ∧ w'.cell? ⟨W.heap.size, 1, none⟩ = some (.int .u64 (L : Int)) ∧ w'.cell? ⟨W.heap.size + 1, 0, none⟩ = some (.int .i64 (lastW way : Int)) ∧ w'.cell? ⟨W.heap.size + 1, 1, none⟩ = some (.int .i64 (wayC way : Int)) ∧ MapF w' S k (mapN l (fun i => sgn (sentG T.testBit L.testBit way i x)))) 15 (by kernel_rfl) ?_
          have HC : Hid (∀ w9, Stil wy w9 → (fun w' => w'.cell? ⟨W.heap.size, 0, none⟩ = some (.int .u32 (T : Int)) ∧ w'.cell? ⟨W.heap.size, 1, none⟩ = some (.int .u64 (L : Int)) ∧ w'.cell? ⟨W.heap.size + 1, 0, none⟩ = some (.int .i64 (lastW way : Int)) ∧ w'.cell? ⟨W.heap.size + 1, 1, none⟩ = some (.int .i64 (wayC way : Int)) ∧ MapF w' S k (mapN l (fun i => sgn (sentG T.testBit L.testBit way i x)))) w9) := fun w9 h9 => ⟨h9.cell y0, h9.cell y1, h9.cell y2, h9.cell y3, HMs.out.still h9⟩
          have HC0 := hidMk (HC.out _ (stilDrewG wy))
          generalize hbv : Value.slice (some ⟨bb, off, none⟩) k cb = bv at *
          refine wpAnyC_take (i := 0) (fuel := 14) (v := .func (.func 19) #[] #[.pointer (some ⟨B, 0, none⟩)]) rfl (by kernel_rfl) (by kernel_rfl) (by kernel_rfl) (by kernel_rfl) (fun _ _ _ h => h) (.inl ⟨by kernel_rfl, fun w' hC => by obtain ⟨q1, q2, q3, q4, q5⟩ := hC; go_simp⟩) HC0.out ?_
          go_frame
          refine wpAnyC_take (i := 1) (fuel := 13) (v := .agg #[.int .u32 (T : Int), .int .u64 (L : Int)]) rfl (by kernel_rfl) (by kernel_rfl) (by kernel_rfl) (by kernel_rfl) (fun _ _ _ h => h) (.inl ⟨by kernel_rfl, fun w' hC => by obtain ⟨q1, q2, q3, q4, q5⟩ := hC; go_simp⟩) HC0.out ?_
          go_frame
          refine wpAnyC_take (i := 2) (fuel := 12) (v := .map (some S)) rfl (by kernel_rfl) (by kernel_rfl) (by kernel_rfl) (by kernel_rfl) (fun _ _ _ h => h) (.inl ⟨by kernel_rfl, fun w' hC => by obtain ⟨q1, q2, q3, q4, q5⟩ := hC; go_simp⟩) HC0.out ?_
          go_frame
          refine wpAnyC_take (i := 3) (fuel := 11) (v := .int .i64 (j : Int)) rfl (by kernel_rfl) (by kernel_rfl) (by kernel_rfl) (by kernel_rfl) (fun _ _ _ h => h) (.inl ⟨by kernel_rfl, fun w' hC => by obtain ⟨q1, q2, q3, q4, q5⟩ := hC; go_simp⟩) HC0.out ?_
          go_frame
          refine wpAnyC_take (i := 4) (fuel := 10) (v := .int .i64 (sgn (sentG T.testBit L.testBit way j x))) rfl (by kernel_rfl) (by kernel_rfl) (by kernel_rfl) (by kernel_rfl) (fun _ _ _ h => h) (.inl ⟨by kernel_rfl, fun w' hC => by obtain ⟨q1, q2, q3, q4, q5⟩ := hC; have q6 := q5.look hjw; rw [HSj.out] at q6; go_simp⟩) HC0.out ?_
          go_frame
          refine wpAnyC_take (i := 5) (fuel := 9) (v := .agg #[.int .i64 (lastW way : Int), .int .i64 (wayC way : Int)]) rfl (by kernel_rfl) (by kernel_rfl) (by kernel_rfl) (by kernel_rfl) (fun _ _ _ h => h) (.inl ⟨by kernel_rfl, fun w' hC => by obtain ⟨q1, q2, q3, q4, q5⟩ := hC; go_simp⟩) HC0.out ?_
          go_frame
          refine wpAnyC_take (i := 6) (fuel := 8) (v := .int .i64 (j : Int)) rfl (by kernel_rfl) (by kernel_rfl) (by kernel_rfl) (by kernel_rfl) (fun _ _ _ h => h) (.inl ⟨by kernel_rfl, fun w' hC => by obtain ⟨q1, q2, q3, q4, q5⟩ := hC; go_simp⟩) HC0.out ?_
          go_frame
          refine wpAnyC_take (i := 8) (fuel := 7) (v := bv) rfl (by kernel_rfl) (by kernel_rfl) (by kernel_rfl) (by kernel_rfl) (fun _ _ _ h => h) (.inl ⟨by kernel_rfl, fun w' hC => by obtain ⟨q1, q2, q3, q4, q5⟩ := hC; go_simp⟩) HC0.out ?_
          go_frame
          refine wpAnyC_take (i := 9) (fuel := 6) (v := .int .i64 (j : Int)) rfl (by kernel_rfl) (by kernel_rfl) (by kernel_rfl) (by kernel_rfl) (fun _ _ _ h => h) (.inl ⟨by kernel_rfl, fun w' hC => by obtain ⟨q1, q2, q3, q4, q5⟩ := hC; go_simp⟩) HC0.out ?_
          go_frame
          refine wpAnyC_take (i := 11) (fuel := 5) (v := .int .i64 (dd : Int)) rfl (by kernel_rfl) (by kernel_rfl) (by kernel_rfl) (by kernel_rfl) (fun _ _ _ h => h) (.inl ⟨by kernel_rfl, fun w' hC => by obtain ⟨q1, q2, q3, q4, q5⟩ := hC; go_simp⟩) HC0.out ?_
          go_frame
          refine wpAnyC_take (i := 12) (fuel := 4) (v := .int .i64 (d : Int)) rfl (by kernel_rfl) (by kernel_rfl) (by kernel_rfl) (by kernel_rfl) (fun _ _ _ h => h) (.inl ⟨by kernel_rfl, fun w' hC => by obtain ⟨q1, q2, q3, q4, q5⟩ := hC; go_simp⟩) HC0.out ?_
          go_frame
          refine wpAnyC_one 7 (fuel := 3) (by kernel_rfl) rfl rfl (fun K4 hK4 => ?_)
          go_wp2_with (go_at_call 15; refine (HWi.out _).mono ?_; rintro e w5 ⟨rfl, hk5⟩)
          have HK5 := hidMk ((stilDrewG wy).tr hk5)
          clear hk5
          refine ⟨fun _ => HC.out _ HK5.out, ?_⟩
          refine wpAnyC_one 10 (fuel := 2) (by kernel_rfl) rfl rfl (fun K5 hK5 => ?_)
          rw [← hbv]
          go_wp2_with (go_at_call 20; refine (HWo.out _ HK5.out).mono ?_; rintro e w6 ⟨a2, m2, c2, rfl, hr6, hk6⟩)
          have HR6 := hidMk hr6
          have HK6 := hidMk (HK5.out.tr hk6)
          clear hk6 hr6
          refine ⟨fun _ => HC.out _ HK6.out, ?_⟩
          refine wpAnyC_one 13 (fuel := 1) (by kernel_rfl) rfl rfl (fun K6 hK6 => ?_)
          go_wp2_with (go_at_call 13; refine (HSp.out _ _ _ _ HR6.out).mono ?_; rintro e w8 ⟨⟨M, c8, rfl, hM8, hc8, hm8⟩, hk8⟩)
          have HK8 := hidMk (HK6.out.tr hk8)
          have HM8 := hidMk hm8
          have hM9 : wy.heap.size ≤ M := Nat.le_trans HK6.out.size hM8
          have hVl := HM.out.lt
          have HVv := hidMk (HM.out.still HK8.out)
          have HBv := hidMk (HK8.out.cell HB.out)
          have hcv := HCv.out
          have HCt := hidMk (count_any HM8.out HVv.out (by omega) hBV HBv.out (fun z v e => sgn_small z v e) (fun z v e => vote_small hl6l z v e) (by omega))
          clear hk8 hm8 hM8
          refine ⟨fun _ => HC.out _ HK8.out, ?_⟩
          refine wpAnyC_one 14 (fuel := 0) (by kernel_rfl) rfl rfl (fun K7 hK7 => ?_)
          go_wp2_with (go_at_call 19; refine (HCt.out).mono ?_; rintro e w9 ⟨rfl, ⟨c9, hc9, hm9⟩, hk9⟩; rw [HVm.out] at hm9)
          have HM9 := hidMk hm9
          have HK9 : Hid (Stil w2 w9) := ((HK.out.tr HK8.out).trans hk9 (fun _ _ e => e) (fun i hi e => by omega))
          have HS9 : Hid (MapF w9 S k (mapN l (fun i => sgn (sentG T.testBit L.testBit way i x)))) := (HMs.out.still HK8.out).keep hk9 (by omega)
          have HB9 : Hid (w9.cell? ⟨B, 0, none⟩ = some (.map (some V))) := (World.cell?_of_block (hk9.block B (World.block_lt_of_cell? _ _ HBv.out) (fun e => absurd e hBV))).trans HBv.out
          have HC9 : Hid (c9 ≤ 6 + (q + 1) * cbG d) := by show _ ≤ _; rw [HCq.out]; omega
          have HCl : Hid ((fun w' => w'.cell? ⟨W.heap.size, 0, none⟩ = some (.int .u32 (T : Int)) ∧ w'.cell? ⟨W.heap.size, 1, none⟩ = some (.int .u64 (L : Int)) ∧ w'.cell? ⟨W.heap.size + 1, 0, none⟩ = some (.int .i64 (lastW way : Int)) ∧ w'.cell? ⟨W.heap.size + 1, 1, none⟩ = some (.int .i64 (wayC way : Int)) ∧ MapF w' S k (mapN l (fun i => sgn (sentG T.testBit L.testBit way i x)))) w9) := ⟨HK9.out.cell HY0.out, HK9.out.cell HY1.out, HK9.out.cell HY2.out, HK9.out.cell HY3.out, HS9.out⟩
          clear hm9 hk9
          refine ⟨fun _ => HCl.out, ?_⟩
          refine wpAnyC_done (by kernel_rfl) ?_
          show Exit.inBlock _ _ Exit.normal _ _
          go_wp2
          go_roundw
          case rel => exact ⟨q + 1, by omega, by omega, c9, HC9, HM9⟩
          case measure => simp [intOf]; omega
        · obtain rfl : q = k := by omega
          have hcq : q * cbG d ≤ 6 * cbG d := Nat.mul_le_mul_right _ hl6
          have hcv := HCv.out
          have hcbd := HCB.out
          have HVe : Hid (tellM (mapN l (voteG T.testBit L.testBit d way l x q)) = mapN l (fun i => sgn (holdsG T.testBit L.testBit dd way l i x))) := by
            have h9 := HVt.out
            rw [HLb.out] at h9
            exact h9
          have hVl := HM.out.lt
          have hwy : w2.heap.size ≤ wy.heap.size := HK.out.size
          have HVs : Hid (∀ z v, mapN l (voteG T.testBit L.testBit d way l x q) z = some v → -1000 ≤ v ∧ v ≤ 1000) := fun z v e => vote_small (by rw [HLb.out]; exact hl6) z v e
          generalize mapN l (voteG T.testBit L.testBit d way l x q) = vf at *
          have HN1 : Hid (Stil wy (wy.alloc (.map #[] 0))) := Stil.new _ _
          have hm1 := HM.out.still HN1.out
          obtain ⟨D, hown, hat⟩ := hm1
          have hcnt := hown.size_le
          have hb1 := HN1.out.cell HB.out
          have HAt := hidMk hat
          have HH : Hid (MapF (wy.alloc (.map #[] 0)) wy.heap.size 0 (fun _ => none)) := MapF.made wy
          clear hat HMs HVt HIH HCv HM
          go_wp2_with (first
            | (at_range; refine wpList_range_own _ rfl _ 40 rfl 3 42 lawG Try.underlying40 _ V cv D rfl hown ?_; intro w0 hrg0 hg0 hs0)
            | go_in)
          have HK0' : Hid (Keep (fun b => b = wy.heap.size) wy w0) := (HN1.out.trans (Keep.of_grown hg0) (q := fun b => b = wy.heap.size) (fun _ _ e => absurd e (fun e => e)) (fun i hi e => by cases e))
          have HH0 := hidMk (HH.out.kept hg0 (by simp))
          obtain ⟨r, hr⟩ : ∃ r, r = (wy.alloc (.map #[] 0)).heap.size := ⟨_, rfl⟩
          have hr2 : r = wy.heap.size + 1 := by rw [hr]; simp
          rw [← hr] at hrg0 ⊢
          obtain ⟨G, hG⟩ : ∃ G, G = wy.heap.size := ⟨_, rfl⟩
          rw [← hG] at HH0 HK0' hwy hVl hr2 ⊢
          clear hg0 hown hr HH HN1 hb1
          have HGd := hidMk hG
          have HRd := hidMk hr2
          have hVG : V ≠ G := by omega
          have hrG : r ≠ G := by omega
          have hrl : G < r := by omega
          clear hG hr2
          go_frame
          go_loopw [19] (fun _ wz => ∃ (left : Lit → Bool) (cnt ch : Nat), wz.ranges Try.prog 3 (plainElem Try.prog 42) V r cv D left cnt ∧ ch + cnt ≤ cv ∧ Hid (MapF wz G ch (outM vf left)) ∧ Hid (Keep (fun b => b = G) wy wz))
            (fun _ wz => wz.rangeLeft V r)
          case atStart => exact ⟨_, _, 0, hrg0, by omega, by show MapF _ _ _ _; rw [outM_start HAt.out]; exact HH0.out, HK0'⟩
          case round =>
            clear hrg0 HH0 HK0'
            obtain ⟨wz, rfl⟩ : ∃ w' : World, w' = wr := ⟨_, rfl⟩
            obtain ⟨left, cnt, ch, hrg, hch, HO, HKz⟩ := hrel
            go_wp2_with (first
              | (at_next; refine wpList_next_ranges_ii _ rfl _ rfl 3 42 .i64 .i64 lawG Try.underlying3 Try.underlying42 V r cv _ _ _ rfl hrg ?_ ?_)
              | go_in)
            · intro _ hl0
              go_wp2
              go_ret
              rw [outM_end hl0, HVe.out] at HO
              exact ⟨⟨G, ch, rfl, by have := HS2.out.size; omega, by omega, HO.out⟩, HS2.out.tr (HK.out.trans HKz.out (fun _ _ e => e) (fun i hi e => by omega))⟩
            · intro y c w1 cnt1 hwx hwc hlx hat hrg1 hlt hg1 hs1 hen
              have hy := i64_of hwx
              have hfx := atG_hit HAt.out hat
              have hcb3 := HVs.out y c hfx
              have HK1 : Hid (Keep (fun b => b = G) wy w1) := HKz.out.grown hg1 (fun k e hk => by cases e; have := HGd.out; omega)
              have HO1 := hidMk (HO.out.kept hg1 (by simp; omega))
              have HSo := hidMk (outM_step (left := left) hfx)
              have hsi := sgn_i64 (decide (0 < c))
              have HRg := hidMk hrg1
              clear hat hfx hg1 hwx hwc hrg1
              go_wp2_with (go_at_call 14; refine (valueOf_any _ _).mono ?_; rintro e w2' ⟨rfl, rfl⟩; obtain ⟨w3, hst, hM3, hg3⟩ := HO1.out.store (by unfold maxLen; omega) hy hsi; have HM3 := hidMk hM3; have HG3 := hidMk hg3; clear hM3 hg3)
              go_roundw
              case rel => exact ⟨_, cnt1, ch + 1, HRg.out.kept HG3.out (by simp; omega) (by simp; omega), by omega, by show MapF _ _ _ _; rw [HSo.out]; exact HM3.out, HK1.out.grown HG3.out (fun k e _ => by cases e; rfl)⟩
              case measure =>
                rw [(HRg.out.kept HG3.out (by simp; omega) (by simp; omega)).left_eq, hrg.left_eq]; exact hlt
theorem spread_any {T L : Nat} (hT : T < 4294967296) (hL : L < 18446744073709551616) : ∀ d, d ≤ 2 → SpreadAt T L d
  | 0, _ => spread_zero hT hL rfl
  | d + 1, h => spread_succ hT hL (by omega) (spread_any hT hL d (by omega))
end Go.Proofs.Ytekbglmoibglnaa
