/- Generals: the document's holds. -/
import Derived.Test.YtekbglmoibglnaaGe2
import Derived.Test.YtekbglmoibglnaaR4
import Derived.Deep.Cut
import Derived.Deep.CutRange
import Derived.Deep.CutBlock
import Derived.RegionTactic
namespace Go.Proofs.Ytekbglmoibglnaa
open Go.RowKit
set_option linter.unusedVariables false

theorem stilDrewG (A : World) : Stil A A.drew := (Keep.refl _ A).drew
def fG (tr lie : Nat → Bool) (d : Nat) (way l : List Nat) (i : Nat) (x : Bool) (j : Nat) : Bool := if j = i then sentG tr lie way i x else holdsG tr lie d (way ++ [j]) (l.filter (fun k => k != j)) i (sentG tr lie way j x)
theorem holdsG_succ (tr lie : Nat → Bool) (d : Nat) (way l : List Nat) (i : Nat) (x : Bool) : holdsG tr lie (d + 1) way l i x = decide (l.countP (fun j => !fG tr lie d way l i x j) < l.countP (fG tr lie d way l i x)) := rfl
theorem count_take (f : Nat → Bool) {l : List Nat} {k j : Nat} (h : l[k]? = some j) : (l.take (k + 1)).countP f = (l.take k).countP f + if f j = true then 1 else 0 := by
  rw [List.take_add_one, h, List.countP_append]
  simp [List.countP_cons]
theorem filt_take {l : List Nat} {k j b : Nat} (h : l[k]? = some b) : (l.take (k + 1)).filter (fun k => k != j) = (l.take k).filter (fun k => k != j) ++ (if b = j then [] else [b]) := by
  rw [List.take_add_one, h, List.filter_append]
  by_cases e : b = j
  · simp [e]
  · simp [e]
theorem countP_take_le (f : Nat → Bool) (l : List Nat) (k : Nat) : (l.take k).countP f ≤ k := Nat.le_trans List.countP_le_length (by rw [List.length_take]; omega)

/-- What holds tells, at a depth. -/
def HoldsAt (T L d : Nat) : Prop := ∀ {W : World} {a b : Option Addr} {len cap lb cb i : Nat} {way among : List Nat} (x : Bool), RowI W a len cap (natsI way) → 0 < len → len + d ≤ 3 → (∀ j ∈ way, j < 7) → RowI W b lb cb (natsI among) → lb ≤ 6 → (∀ j ∈ among, j < 7) → i < 7 →
  Calls Try.prog 16 #[.agg #[.int .u32 (T : Int), .int .u64 (L : Int)], .slice a len cap, .slice b lb cb, .int .i64 (i : Int), .int .i64 (d : Int), .bool x] W fun e w2 => e = .returned (.bool (holdsG T.testBit L.testBit d way among i x)) ∧ Stil W w2
set_option maxRecDepth 100000 in
set_option maxHeartbeats 4000000 in
theorem holds_zero {T L : Nat} (hT : T < 4294967296) (hL : L < 18446744073709551616) : HoldsAt T L 0 := by
  intro W a b len cap lb cb i way among x h h0 h3 hw hb hl6 ha hi
  have HA : Hid (Stil W (W.alloc (.cells #[.int .u32 (T : Int), .int .u64 (L : Int)] 32))) := Stil.new _ _
  have hnb := al_new W (.cells #[.int .u32 (T : Int), .int .u64 (L : Int)] 32)
  have y0 : (W.alloc (.cells #[.int .u32 (T : Int), .int .u64 (L : Int)] 32)).cell? ⟨W.heap.size, 0, none⟩ = some (.int .u32 (T : Int)) := by rw [cell_of_row _ _ _ _ _ _ hnb]; rfl
  have y1 : (W.alloc (.cells #[.int .u32 (T : Int), .int .u64 (L : Int)] 32)).cell? ⟨W.heap.size, 1, none⟩ = some (.int .u64 (L : Int)) := by rw [cell_of_row _ _ _ _ _ _ hnb]; rfl
  have HS := hidMk (csent_any x (h.still HA.out) h0 (by omega) hw hT hL hi)
  show Calls _ _ _ _ fun e w2 => e = .returned (.bool (sentG T.testBit L.testBit way i x)) ∧ _
  generalize sentG T.testBit L.testBit way i x = v at *
  clear h hw hb ha hnb
  go_enter Try.func16, Try.ntmps16
  go_wp2_with (go_at_call 21; refine (HS.out).mono ?_; rintro e w2 ⟨rfl, hk2⟩)
  go_ret
  exact ⟨rfl, HA.out.tr hk2⟩
set_option maxRecDepth 100000 in
set_option maxHeartbeats 16000000 in
theorem holds_succ {T L d : Nat} (hT : T < 4294967296) (hL : L < 18446744073709551616) (hd : d ≤ 1) (ih : HoldsAt T L d) : HoldsAt T L (d + 1) := by
  intro W a b len cap lb cb i way among x h h0 h3 hw hb hl6 ha hi
  have HA : Hid (Stil W (W.alloc (.cells #[.int .u32 (T : Int), .int .u64 (L : Int)] 32))) := Stil.new _ _
  have hnb := al_new W (.cells #[.int .u32 (T : Int), .int .u64 (L : Int)] 32)
  have y0 : (W.alloc (.cells #[.int .u32 (T : Int), .int .u64 (L : Int)] 32)).cell? ⟨W.heap.size, 0, none⟩ = some (.int .u32 (T : Int)) := by rw [cell_of_row _ _ _ _ _ _ hnb]; rfl
  have y1 : (W.alloc (.cells #[.int .u32 (T : Int), .int .u64 (L : Int)] 32)).cell? ⟨W.heap.size, 1, none⟩ = some (.int .u64 (L : Int)) := by rw [cell_of_row _ _ _ _ _ _ hnb]; rfl
  have HS := hidMk (csent_any x (h.still HA.out) h0 (by omega) hw hT hL hi)
  rw [holdsG_succ]
  obtain ⟨dd, hdd⟩ : ∃ dd, dd = d + 1 := ⟨_, rfl⟩
  rw [← hdd]
  have f1 : ((dd : Int) == 0) = false := by rw [beq_eq_false_iff_ne]; omega
  have f2 : (dd == 0) = false := by rw [beq_eq_false_iff_ne]; omega
  have f3 : IntKind.i64.wrap ((dd : Int) - 1) = (d : Int) := by
    rw [show (dd : Int) - 1 = (d : Int) by omega]
    obtain rfl | rfl : d = 0 ∨ d = 1 := by omega
    all_goals decide
  have HF : Hid (∀ j, fG T.testBit L.testBit d way among i x j = if j = i then sentG T.testBit L.testBit way i x else holdsG T.testBit L.testBit d (way ++ [j]) (among.filter (fun k => k != j)) i (sentG T.testBit L.testBit way j x)) := fun _ => rfl
  generalize fG T.testBit L.testBit d way among i x = F at *
  generalize sentG T.testBit L.testBit way i x = mn at *
  have hl6' : (lb : Int) ≤ 6 := by omega
  have hlb := hb.1
  rw [natsI_len] at hlb
  have HLb := hidMk hlb
  have HRw := hidMk h
  have HRa := hidMk hb
  have HWy := hidMk hw
  have HAm := hidMk ha
  have HIH : Hid (HoldsAt T L d) := ih
  have HD : Hid (dd = d + 1) := hdd
  obtain ⟨i0, hit, hz0, hz1, hz2⟩ := info_parts cInfoInt
  have HAb : Hid (lb = 0 ∨ ∃ bb off, b = some ⟨bb, off, none⟩ ∧ bb < W.heap.size ∧ ∀ (k : Nat) (z : Int), (natsI among)[k]? = some z → W.cell? ⟨bb, off + k, none⟩ = some (.int .i64 z)) := hb.2.2.2
  clear h hw hb ha hnb hlb hdd ih
  go_enter Try.func16, Try.ntmps16
  go_wp2_with (go_at_call 21; refine (HS.out).mono ?_; rintro e w2 ⟨rfl, hk2⟩; have HK2 := hidMk (HA.out.tr hk2); have m0 := hk2.cell y0; have m1 := hk2.cell y1; clear y0 y1 hk2)
  have HM0 := hidMk m0
  have HM1 := hidMk m1
  clear m0 m1 HS HA
  generalize W.heap.size = B6 at *
  go_loopw [14, 15, 32] (fun yv nv u wr => ∃ k : Nat, k ≤ lb ∧ u = .int .i64 (k : Int) ∧ yv = .int .i64 ((among.take k).countP F : Int) ∧ nv = .int .i64 ((among.take k).countP (fun j => !F j) : Int) ∧ Hid (Stil w2 wr)) (fun _ _ u _ => lb - (intOf u).toNat)
  case atStart => exact ⟨0, Nat.zero_le _, rfl, rfl, rfl, Keep.refl _ _⟩
  case round =>
    obtain ⟨k, hk, rfl, rfl, rfl, HSt⟩ := hrel
    by_cases hlt : k < lb
    · have hlt' : (k : Int) < (lb : Int) := by omega
      obtain ⟨bb, off, rfl, hbb, hcb⟩ := HAb.out.resolve_left (by omega)
      have e : among[k]? = some (among[k]'(by rw [HLb.out]; exact hlt)) := List.getElem?_eq_getElem _
      have hj7 := HAm.out _ (List.getElem_mem (h := by rw [HLb.out]; exact hlt))
      have hjm : among[k]'(by rw [HLb.out]; exact hlt) ∈ among := List.getElem_mem _
      generalize among[k]'(by rw [HLb.out]; exact hlt) = j at *
      have d0 := HSt.out.cell (HK2.out.cell (hcb k _ (natsI_at e)))
      have HN1 := hidMk (count_take F e)
      have HN2 := hidMk (count_take (fun j => !F j) e)
      have c1 := countP_take_le F among k
      have c2 := countP_take_le (fun j => !F j) among k
      have HFj := hidMk (HF.out j)
      generalize (among.take k).countP F = cy at *
      generalize (among.take k).countP (fun j => !F j) = cn at *
      have HCb := hidMk hcb
      clear hcb e
      by_cases eij : j = i
      · rw [if_pos eij] at HFj
        have g0 : ((j : Int) != (i : Int)) = false := by rw [eij]; simp
        have g0' : (j != i) = false := by rw [eij]; simp
        rw [HFj.out] at HN1 HN2
        clear eij HFj HCb
        cases mn with
        | true =>
          go_wp2
          go_roundw
          case rel => exact ⟨k + 1, by omega, by go_num, by rw [HN1.out]; simp, by rw [HN2.out]; simp, HSt⟩
          case measure => simp [intOf]; omega
        | false =>
          go_wp2
          go_roundw
          case rel => exact ⟨k + 1, by omega, by go_num, by rw [HN1.out]; simp, by rw [HN2.out]; simp, HSt⟩
          case measure => simp [intOf]; omega
      · rw [if_neg eij] at HFj
        have g0 : ((j : Int) != (i : Int)) = true := by simp; omega
        have g0' : (j != i) = true := by simpa using eij
        clear eij
        generalize hfv : F j = fv at *
        clear hfv
        go_wp2_with (fail)
        obtain ⟨wy0, rfl⟩ : ∃ w' : World, w' = wr := ⟨_, rfl⟩
        go_loopw [19, 42] (fun v u wr => ∃ (k2 : Nat) (sa : Option Addr) (sc sl : Nat), k2 ≤ lb ∧ u = .int .i64 (k2 : Int) ∧ v = .slice sa sl sc ∧ Hid (sl = ((among.take k2).filter (fun k => k != j)).length) ∧ Hid (Seg wr (fun g => wy0.heap.size ≤ g) 3 1 (.slice sa sl sc) sl (natsL ((among.take k2).filter (fun k => k != j)))) ∧ Hid (Stil wy0 wr)) (fun _ u _ => lb - (intOf u).toNat)
        case atStart => exact ⟨0, none, 0, 0, Nat.zero_le _, rfl, rfl, rfl, Seg.nil _ _ _ _, Keep.refl _ _⟩
        case round =>
          obtain ⟨wx, rfl⟩ : ∃ w' : World, w' = wr := ⟨_, rfl⟩
          obtain ⟨k2, sa, sc, sl, hk2, rfl, rfl, HL2, HG, HS2⟩ := hrel
          by_cases hlt2 : k2 < lb
          · have hlt2' : (k2 : Int) < (lb : Int) := by omega
            have e : among[k2]? = some (among[k2]'(by rw [HLb.out]; exact hlt2)) := List.getElem?_eq_getElem _
            generalize among[k2]'(by rw [HLb.out]; exact hlt2) = q at *
            have z0 := HS2.out.cell (HSt.out.cell (HK2.out.cell (HCb.out k2 _ (natsI_at e))))
            have HT := hidMk (filt_take (j := j) e)
            have hsl : sl ≤ 6 := by
              rw [HL2.out]
              exact Nat.le_trans (List.length_filter_le _ _) (by rw [List.length_take]; omega)
            clear e
            by_cases eq : q = j
            · rw [if_pos eq, List.append_nil] at HT
              have g1 : ((q : Int) != (j : Int)) = false := by rw [eq]; simp
              have g1' : (q != j) = false := by rw [eq]; simp
              clear eq d0
              go_wp2
              go_roundw
              case rel => exact ⟨k2 + 1, sa, sc, sl, by omega, by go_num, rfl, by show _ = _; rw [HT.out]; exact HL2.out, by show Seg _ _ _ _ _ _ _; rw [HT.out]; exact HG.out, HS2⟩
              case measure => simp [intOf]; omega
            · rw [if_neg eq] at HT
              have g1 : ((q : Int) != (j : Int)) = true := by simp; omega
              have g1' : (q != j) = true := by simpa using eq
              clear eq d0
              go_wp2_with (at_builtin; refine wpList_append_seg _ rfl _ _ 37 rfl 3 i0 (.int .i64 0) 1 8 Try.underlying37 hit hz0 hz1 hz2 rfl (by decide) _ _ _ rfl (segAlloc HG.out _) ⟨_, 0, none⟩ 1 1 [.int .i64 (q : Int)] rfl rfl (cCell1 _ _ _ _ (by simp)) (cOne _) (by unfold maxLen; omega) (by omega) ?_)
              intro v9 w9 hs9 hg9
              obtain ⟨q1, q2⟩ := app_nat HS2.out HG.out hs9 hg9
              have HG9 := hidMk q1
              have HS9 := hidMk q2
              obtain ⟨sa3, sc3, hv3⟩ := segForm hs9
              subst hv3
              clear hs9 hg9 HG HS2 q1 q2
              go_wp2
              go_roundw
              case rel => exact ⟨k2 + 1, sa3, sc3, sl + 1, by omega, by go_num, rfl, by show _ = _; rw [HT.out, List.length_append, ← HL2.out]; rfl, by show Seg _ _ _ _ _ _ _; rw [HT.out]; exact HG9.out, HS9⟩
              case measure => simp [intOf]; omega
          · obtain rfl : k2 = lb := by omega
            rw [List.take_of_length_le (by rw [HLb.out]; exact Nat.le_refl _)] at HG HL2
            have HRo := hidMk (seg_row HG.out)
            have hsl : sl ≤ 6 := by
              rw [HL2.out]
              exact Nat.le_trans (List.length_filter_le _ _) (by rw [HLb.out]; omega)
            have HK := hidMk ((HK2.out.tr HSt.out).tr HS2.out)
            have HKs := hidMk (HSt.out.tr HS2.out)
            have m0 := HKs.out.cell HM0.out
            have m1 := HKs.out.cell HM1.out
            have HLo := hidMk (fun (w9 : World) (h9 : Stil wx w9) => longer_any (x := j) ((HRw.out.still HK.out).still h9) (by omega))
            have HSn := hidMk (fun (w9 : World) (h9 : Stil wx w9) => csent_any x ((HRw.out.still HK.out).still h9) h0 (by omega) HWy.out hT hL hj7)
            have HHo : Hid (∀ (w9 : World) (la : Option Addr) (lc : Nat), Stil wx w9 → RowI w9 la (len + 1) lc (natsI (way ++ [j])) → Calls Try.prog 16 #[.agg #[.int .u32 (T : Int), .int .u64 (L : Int)], .slice la (len + 1) lc, .slice sa sl sc, .int .i64 (i : Int), .int .i64 (d : Int), .bool (sentG T.testBit L.testBit way j x)] w9 fun e w2 => e = .returned (.bool fv) ∧ Stil w9 w2) := hidMk (fun w9 la lc h9 hr9 => by
              have := HIH.out (i := i) (among := among.filter (fun k => k != j)) (sentG T.testBit L.testBit way j x) hr9 (by omega) (by omega) (fun q hq => by
                rw [List.mem_append] at hq
                rcases hq with hq | hq
                · exact HWy.out q hq
                · simp at hq; rw [hq]; exact hj7) (HRo.out.still h9) hsl (fun q hq => HAm.out q (List.mem_filter.1 hq).1) hi
              rw [← HFj.out] at this
              exact this)
            generalize sentG T.testBit L.testBit way j x = sj at *
            clear HG HL2 HRo HS2 d0 HM0 HM1 HFj HCb
            cases fv with
            | true =>
              go_upto_region 18 with fail
              refine wp_region_class (fun w' => w'.cell? ⟨B6, 0, none⟩ = some (.int .u32 (T : Int)) ∧ w'.cell? ⟨B6, 1, none⟩ = some (.int .u64 (L : Int))) 14 (by kernel_rfl) ?_
              have HC : Hid (∀ w9, Stil wx w9 → (fun w' => w'.cell? ⟨B6, 0, none⟩ = some (.int .u32 (T : Int)) ∧ w'.cell? ⟨B6, 1, none⟩ = some (.int .u64 (L : Int))) w9) := fun w9 h9 => ⟨h9.cell m0, h9.cell m1⟩
              have HC0 := hidMk (HC.out _ (stilDrewG wx))
              refine wpAnyC_take (i := 0) (fuel := 14) (v := .agg #[.int .u32 (T : Int), .int .u64 (L : Int)]) rfl (by kernel_rfl) (by kernel_rfl) (by kernel_rfl) (by kernel_rfl) (fun _ _ _ h => h) (.inl ⟨by kernel_rfl, fun w' hC => by obtain ⟨y1, y2⟩ := hC; go_simp⟩) HC0.out ?_
              go_frame
              refine wpAnyC_take (i := 1) (fuel := 13) (v := .slice a len cap) rfl (by kernel_rfl) (by kernel_rfl) (by kernel_rfl) (by kernel_rfl) (fun _ _ _ h => h) (.inl ⟨by kernel_rfl, fun w' hC => by obtain ⟨y1, y2⟩ := hC; go_simp⟩) HC0.out ?_
              go_frame
              refine wpAnyC_take (i := 2) (fuel := 12) (v := .int .i64 (j : Int)) rfl (by kernel_rfl) (by kernel_rfl) (by kernel_rfl) (by kernel_rfl) (fun _ _ _ h => h) (.inl ⟨by kernel_rfl, fun w' hC => by obtain ⟨y1, y2⟩ := hC; go_simp⟩) HC0.out ?_
              go_frame
              refine wpAnyC_take (i := 4) (fuel := 11) (v := .slice sa sl sc) rfl (by kernel_rfl) (by kernel_rfl) (by kernel_rfl) (by kernel_rfl) (fun _ _ _ h => h) (.inl ⟨by kernel_rfl, fun w' hC => by obtain ⟨y1, y2⟩ := hC; go_simp⟩) HC0.out ?_
              go_frame
              refine wpAnyC_take (i := 5) (fuel := 10) (v := .int .i64 (i : Int)) rfl (by kernel_rfl) (by kernel_rfl) (by kernel_rfl) (by kernel_rfl) (fun _ _ _ h => h) (.inl ⟨by kernel_rfl, fun w' hC => by obtain ⟨y1, y2⟩ := hC; go_simp⟩) HC0.out ?_
              go_frame
              refine wpAnyC_take (i := 6) (fuel := 9) (v := .int .i64 (dd : Int)) rfl (by kernel_rfl) (by kernel_rfl) (by kernel_rfl) (by kernel_rfl) (fun _ _ _ h => h) (.inl ⟨by kernel_rfl, fun w' hC => by obtain ⟨y1, y2⟩ := hC; go_simp⟩) HC0.out ?_
              go_frame
              refine wpAnyC_take (i := 7) (fuel := 8) (v := .int .i64 (d : Int)) rfl (by kernel_rfl) (by kernel_rfl) (by kernel_rfl) (by kernel_rfl) (fun _ _ _ h => h) (.inl ⟨by kernel_rfl, fun w' hC => by obtain ⟨y1, y2⟩ := hC; go_simp⟩) HC0.out ?_
              go_frame
              refine wpAnyC_take (i := 8) (fuel := 7) (v := .agg #[.int .u32 (T : Int), .int .u64 (L : Int)]) rfl (by kernel_rfl) (by kernel_rfl) (by kernel_rfl) (by kernel_rfl) (fun _ _ _ h => h) (.inl ⟨by kernel_rfl, fun w' hC => by obtain ⟨y1, y2⟩ := hC; go_simp⟩) HC0.out ?_
              go_frame
              refine wpAnyC_take (i := 9) (fuel := 6) (v := .slice a len cap) rfl (by kernel_rfl) (by kernel_rfl) (by kernel_rfl) (by kernel_rfl) (fun _ _ _ h => h) (.inl ⟨by kernel_rfl, fun w' hC => by obtain ⟨y1, y2⟩ := hC; go_simp⟩) HC0.out ?_
              go_frame
              refine wpAnyC_take (i := 10) (fuel := 5) (v := .int .i64 (j : Int)) rfl (by kernel_rfl) (by kernel_rfl) (by kernel_rfl) (by kernel_rfl) (fun _ _ _ h => h) (.inl ⟨by kernel_rfl, fun w' hC => by obtain ⟨y1, y2⟩ := hC; go_simp⟩) HC0.out ?_
              go_frame
              refine wpAnyC_take (i := 11) (fuel := 4) (v := .bool x) rfl (by kernel_rfl) (by kernel_rfl) (by kernel_rfl) (by kernel_rfl) (fun _ _ _ h => h) (.inl ⟨by kernel_rfl, fun w' hC => by obtain ⟨y1, y2⟩ := hC; go_simp⟩) HC0.out ?_
              go_frame
              refine wpAnyC_one 3 (fuel := 3) (by kernel_rfl) rfl rfl (fun K3 hK3 => ?_)
              go_wp2_with (go_at_call 22; refine (HLo.out _ (stilDrewG wx)).mono ?_; rintro e w6 ⟨la, lc, rfl, hr6, hk6⟩)
              have HR6 := hidMk hr6
              have HK6 := hidMk ((stilDrewG wx).tr hk6)
              clear hr6 hk6
              refine ⟨fun _ => HC.out _ HK6.out, ?_⟩
              refine wpAnyC_one 12 (fuel := 2) (by kernel_rfl) rfl rfl (fun K4 hK4 => ?_)
              go_wp2_with (go_at_call 21; refine (HSn.out _ HK6.out).mono ?_; rintro e w7 ⟨rfl, hk7⟩)
              have HR7 := hidMk (HR6.out.still hk7)
              have HK7 := hidMk (HK6.out.tr hk7)
              clear hk7
              refine ⟨fun _ => HC.out _ HK7.out, ?_⟩
              refine wpAnyC_one 13 (fuel := 1) (by kernel_rfl) rfl rfl (fun K5 hK5 => ?_)
              go_wp2_with (go_at_call 16; refine (HHo.out _ _ _ HK7.out HR7.out).mono ?_; rintro e w8 ⟨rfl, hk8⟩)
              have HK8 := hidMk (HK7.out.tr hk8)
              clear hk8
              refine ⟨fun _ => HC.out _ HK8.out, ?_⟩
              refine wpAnyC_one 14 (fuel := 0) (by kernel_rfl) rfl rfl (fun K6 hK6 => ?_)
              go_wp2
              first | refine ⟨fun h => absurd rfl h, ?_⟩ | skip
              refine wpAnyC_done (by kernel_rfl) ?_
              show Exit.then _ _ Exit.normal _ _
              go_wp2
              go_roundw
              case rel => exact ⟨k + 1, by omega, by go_num, by rw [HN1.out]; simp, by rw [HN2.out]; simp, HKs.out.tr HK8.out⟩
              case measure => simp [intOf]; omega
            | false =>
              go_upto_region 18 with fail
              refine wp_region_class (fun w' => w'.cell? ⟨B6, 0, none⟩ = some (.int .u32 (T : Int)) ∧ w'.cell? ⟨B6, 1, none⟩ = some (.int .u64 (L : Int))) 14 (by kernel_rfl) ?_
              have HC : Hid (∀ w9, Stil wx w9 → (fun w' => w'.cell? ⟨B6, 0, none⟩ = some (.int .u32 (T : Int)) ∧ w'.cell? ⟨B6, 1, none⟩ = some (.int .u64 (L : Int))) w9) := fun w9 h9 => ⟨h9.cell m0, h9.cell m1⟩
              have HC0 := hidMk (HC.out _ (stilDrewG wx))
              refine wpAnyC_take (i := 0) (fuel := 14) (v := .agg #[.int .u32 (T : Int), .int .u64 (L : Int)]) rfl (by kernel_rfl) (by kernel_rfl) (by kernel_rfl) (by kernel_rfl) (fun _ _ _ h => h) (.inl ⟨by kernel_rfl, fun w' hC => by obtain ⟨y1, y2⟩ := hC; go_simp⟩) HC0.out ?_
              go_frame
              refine wpAnyC_take (i := 1) (fuel := 13) (v := .slice a len cap) rfl (by kernel_rfl) (by kernel_rfl) (by kernel_rfl) (by kernel_rfl) (fun _ _ _ h => h) (.inl ⟨by kernel_rfl, fun w' hC => by obtain ⟨y1, y2⟩ := hC; go_simp⟩) HC0.out ?_
              go_frame
              refine wpAnyC_take (i := 2) (fuel := 12) (v := .int .i64 (j : Int)) rfl (by kernel_rfl) (by kernel_rfl) (by kernel_rfl) (by kernel_rfl) (fun _ _ _ h => h) (.inl ⟨by kernel_rfl, fun w' hC => by obtain ⟨y1, y2⟩ := hC; go_simp⟩) HC0.out ?_
              go_frame
              refine wpAnyC_take (i := 4) (fuel := 11) (v := .slice sa sl sc) rfl (by kernel_rfl) (by kernel_rfl) (by kernel_rfl) (by kernel_rfl) (fun _ _ _ h => h) (.inl ⟨by kernel_rfl, fun w' hC => by obtain ⟨y1, y2⟩ := hC; go_simp⟩) HC0.out ?_
              go_frame
              refine wpAnyC_take (i := 5) (fuel := 10) (v := .int .i64 (i : Int)) rfl (by kernel_rfl) (by kernel_rfl) (by kernel_rfl) (by kernel_rfl) (fun _ _ _ h => h) (.inl ⟨by kernel_rfl, fun w' hC => by obtain ⟨y1, y2⟩ := hC; go_simp⟩) HC0.out ?_
              go_frame
              refine wpAnyC_take (i := 6) (fuel := 9) (v := .int .i64 (dd : Int)) rfl (by kernel_rfl) (by kernel_rfl) (by kernel_rfl) (by kernel_rfl) (fun _ _ _ h => h) (.inl ⟨by kernel_rfl, fun w' hC => by obtain ⟨y1, y2⟩ := hC; go_simp⟩) HC0.out ?_
              go_frame
              refine wpAnyC_take (i := 7) (fuel := 8) (v := .int .i64 (d : Int)) rfl (by kernel_rfl) (by kernel_rfl) (by kernel_rfl) (by kernel_rfl) (fun _ _ _ h => h) (.inl ⟨by kernel_rfl, fun w' hC => by obtain ⟨y1, y2⟩ := hC; go_simp⟩) HC0.out ?_
              go_frame
              refine wpAnyC_take (i := 8) (fuel := 7) (v := .agg #[.int .u32 (T : Int), .int .u64 (L : Int)]) rfl (by kernel_rfl) (by kernel_rfl) (by kernel_rfl) (by kernel_rfl) (fun _ _ _ h => h) (.inl ⟨by kernel_rfl, fun w' hC => by obtain ⟨y1, y2⟩ := hC; go_simp⟩) HC0.out ?_
              go_frame
              refine wpAnyC_take (i := 9) (fuel := 6) (v := .slice a len cap) rfl (by kernel_rfl) (by kernel_rfl) (by kernel_rfl) (by kernel_rfl) (fun _ _ _ h => h) (.inl ⟨by kernel_rfl, fun w' hC => by obtain ⟨y1, y2⟩ := hC; go_simp⟩) HC0.out ?_
              go_frame
              refine wpAnyC_take (i := 10) (fuel := 5) (v := .int .i64 (j : Int)) rfl (by kernel_rfl) (by kernel_rfl) (by kernel_rfl) (by kernel_rfl) (fun _ _ _ h => h) (.inl ⟨by kernel_rfl, fun w' hC => by obtain ⟨y1, y2⟩ := hC; go_simp⟩) HC0.out ?_
              go_frame
              refine wpAnyC_take (i := 11) (fuel := 4) (v := .bool x) rfl (by kernel_rfl) (by kernel_rfl) (by kernel_rfl) (by kernel_rfl) (fun _ _ _ h => h) (.inl ⟨by kernel_rfl, fun w' hC => by obtain ⟨y1, y2⟩ := hC; go_simp⟩) HC0.out ?_
              go_frame
              refine wpAnyC_one 3 (fuel := 3) (by kernel_rfl) rfl rfl (fun K3 hK3 => ?_)
              go_wp2_with (go_at_call 22; refine (HLo.out _ (stilDrewG wx)).mono ?_; rintro e w6 ⟨la, lc, rfl, hr6, hk6⟩)
              have HR6 := hidMk hr6
              have HK6 := hidMk ((stilDrewG wx).tr hk6)
              clear hr6 hk6
              refine ⟨fun _ => HC.out _ HK6.out, ?_⟩
              refine wpAnyC_one 12 (fuel := 2) (by kernel_rfl) rfl rfl (fun K4 hK4 => ?_)
              go_wp2_with (go_at_call 21; refine (HSn.out _ HK6.out).mono ?_; rintro e w7 ⟨rfl, hk7⟩)
              have HR7 := hidMk (HR6.out.still hk7)
              have HK7 := hidMk (HK6.out.tr hk7)
              clear hk7
              refine ⟨fun _ => HC.out _ HK7.out, ?_⟩
              refine wpAnyC_one 13 (fuel := 1) (by kernel_rfl) rfl rfl (fun K5 hK5 => ?_)
              go_wp2_with (go_at_call 16; refine (HHo.out _ _ _ HK7.out HR7.out).mono ?_; rintro e w8 ⟨rfl, hk8⟩)
              have HK8 := hidMk (HK7.out.tr hk8)
              clear hk8
              refine ⟨fun _ => HC.out _ HK8.out, ?_⟩
              refine wpAnyC_one 14 (fuel := 0) (by kernel_rfl) rfl rfl (fun K6 hK6 => ?_)
              go_wp2
              first | refine ⟨fun h => absurd rfl h, ?_⟩ | skip
              refine wpAnyC_done (by kernel_rfl) ?_
              show Exit.then _ _ Exit.normal _ _
              go_wp2
              go_roundw
              case rel => exact ⟨k + 1, by omega, by go_num, by rw [HN1.out]; simp, by rw [HN2.out]; simp, HKs.out.tr HK8.out⟩
              case measure => simp [intOf]; omega
    · obtain rfl : k = lb := by omega
      rw [List.take_of_length_le (by rw [HLb.out]; exact Nat.le_refl _)]
      clear HAb HIH HF
      go_wp2
      go_ret
      refine ⟨gret_bool ?_, HK2.out.tr HSt.out⟩
      rw [Bool.eq_iff_iff]
      try simp
end Go.Proofs.Ytekbglmoibglnaa
