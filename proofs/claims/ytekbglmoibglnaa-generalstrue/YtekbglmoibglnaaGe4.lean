/- Generals: the document's, whole; two lists of answers are the same. -/
import Derived.Test.YtekbglmoibglnaaGe3
namespace Go.Proofs.Ytekbglmoibglnaa
open Go.RowKit
set_option linter.unusedVariables false

def RowO (w : World) (a : Option Addr) (len cap : Nat) (xs : List Bool) : Prop :=
  xs.length = len ∧ len ≤ cap ∧ len ≤ maxLen ∧ (len = 0 ∨ ∃ b off, a = some ⟨b, off, none⟩ ∧ b < w.heap.size ∧ ∀ (j : Nat) (x : Bool), xs[j]? = some x → w.cell? ⟨b, off + j, none⟩ = some (.bool x))
theorem RowO.still {w w' : World} {a : Option Addr} {len cap : Nat} {xs : List Bool} (h : RowO w a len cap xs) (hs : Stil w w') : RowO w' a len cap xs := by
  obtain ⟨h1, h2, h3, h4⟩ := h
  refine ⟨h1, h2, h3, ?_⟩
  rcases h4 with h4 | ⟨b, off, e, hr, hc⟩
  · exact .inl h4
  · exact .inr ⟨b, off, e, Nat.lt_of_lt_of_le hr hs.size, fun j x hx => hs.cell (hc j x hx)⟩
def boolsL (xs : List Bool) : List Value := xs.map fun x => .bool x
theorem seg_rowO {W : World} {ok : Nat → Prop} {e : TypeId} {a : Option Addr} {n c : Nat} {l : List Bool} (h : Seg W ok e 1 (.slice a n c) n (boolsL l)) : RowO W a n c l := by
  obtain ⟨h1, ⟨h2, h3⟩ | ⟨g, off, cap, cur, h2, h3, h4, h5, h6, h7, h8⟩⟩ := h
  · subst h3
    cases h2
    exact ⟨by simpa [boolsL] using h1, Nat.le_refl _, Nat.zero_le _, .inl rfl⟩
  · cases h2
    refine ⟨by simpa [boolsL] using h1, h5, by omega, .inr ⟨g, off, rfl, (Array.getElem?_eq_some_iff.1 h4).1, fun j x hx => ?_⟩⟩
    rw [cell_of_row W _ _ _ _ _ h4]
    exact h8 j _ (by simp [boolsL, hx])

set_option maxRecDepth 100000 in
set_option maxHeartbeats 4000000 in
theorem bools_same {w : World} {a b : Option Addr} {n c d : Nat} {xs : List Bool} (h1 : RowO w a n c xs) (h2 : RowO w b n d xs) (hn : n ≤ 1000) :
    Calls Try.prog 8 #[.slice a n c, .slice b n d] w fun e w2 => e = .returned (.bool true) ∧ ∃ k, w2 = w.drewN k := by
  obtain ⟨l1, c1, _, r1⟩ := h1
  obtain ⟨l2, c2, _, r2⟩ := h2
  have hn' : (n : Int) ≤ 1000 := by omega
  by_cases hn0 : n = 0
  · subst hn0
    clear r1 r2
    go_enter Try.func8, Try.ntmps8
    go_wp2
    go_loopw [5] (fun u wr => u = .int .i64 0 ∧ wr = w) (fun u _ => 0)
    case atStart => exact ⟨rfl, rfl⟩
    case round =>
      obtain ⟨rfl, hwr⟩ := hrel
      subst hwr
      go_wp2
      go_ret
      exact ⟨rfl, 0, rfl⟩
  · rcases r1 with r1 | ⟨g1, o1, rfl, b1, k1⟩
    · exact absurd r1 hn0
    rcases r2 with r2 | ⟨g2, o2, rfl, b2, k2⟩
    · exact absurd r2 hn0
    have H1 := hidMk k1
    have H2 := hidMk k2
    clear k1 k2
    go_enter Try.func8, Try.ntmps8
    go_wp2
    go_loopw [5] (fun u wr => ∃ k q : Nat, k ≤ n ∧ u = .int .i64 (k : Int) ∧ wr = w.drewN q) (fun u _ => n - (intOf u).toNat)
    case atStart => exact ⟨0, 0, Nat.zero_le _, rfl, rfl⟩
    case round =>
      obtain ⟨k, q, hk, rfl, hwr⟩ := hrel
      by_cases hlt : k < n
      · have hlt' : (k : Int) < (n : Int) := by omega
        have hx : xs[k]? = some (xs[k]'(by omega)) := List.getElem?_eq_getElem (by omega)
        generalize xs[k]'(by omega) = x at hx
        have d1 : wr.cell? ⟨g1, o1 + k, none⟩ = some (.bool x) := by rw [hwr]; exact H1.out k x hx
        have d2 : wr.cell? ⟨g2, o2 + k, none⟩ = some (.bool x) := by rw [hwr]; exact H2.out k x hx
        have HW := hidMk hwr
        clear hwr hx
        cases x
        all_goals
          go_wp2
          go_quiet (fail)
          go_wp2
          go_roundw
          case rel => exact ⟨k + 1, q + nq, by omega, by go_num, by rw [HW.out, drewN_plus]⟩
          case measure => simp [intOf]; omega
      · obtain rfl : k = n := by omega
        go_wp2
        go_ret
        exact ⟨rfl, q, by first | rfl | exact hwr⟩

theorem bInfo : (Try.prog.info? 4).map (fun i => (i.zero, i.size, i.bytes)) = some (some (.bool false), 1, 1) := by kernel_rfl
theorem bOne (x : Bool) : ∀ u ∈ [Value.bool x], u.oneCell' = true := by intro u hu; simp at hu; subst hu; rfl
/-- The generals but the first. -/
def allG (m : Nat) : List Nat := (List.range m).map fun p => p + 1
theorem allG_len (m : Nat) : (allG m).length = m := by simp [allG]
theorem allG_succ (m : Nat) : allG (m + 1) = allG m ++ [m + 1] := by simp [allG, List.range_succ]
theorem allG_at {m k : Nat} (h : k < m) : (allG m)[k]? = some (k + 1) := by simp [allG, h]
theorem allG_lt {m : Nat} (hm : m ≤ 6) : ∀ j ∈ allG m, j < 7 := by
  intro j hj
  simp only [allG, List.mem_map, List.mem_range] at hj
  omega
theorem allG_nodup (m : Nat) : (allG m).Nodup := by
  unfold allG
  exact List.Pairwise.map _ (fun a b h e => h (by omega)) (List.nodup_range (n := m))
/-- What each one holds in the end. -/
def heldG (T L d n : Nat) (x : Bool) (k : Nat) : List Bool := (List.range k).map fun p => holdsG T.testBit L.testBit d [0] (allG (n - 1)) (p + 1) x
theorem heldG_len (T L d n : Nat) (x : Bool) (k : Nat) : (heldG T L d n x k).length = k := by simp [heldG]
theorem heldG_succ (T L d n : Nat) (x : Bool) (k : Nat) : boolsL (heldG T L d n x (k + 1)) = boolsL (heldG T L d n x k) ++ [.bool (holdsG T.testBit L.testBit d [0] (allG (n - 1)) (k + 1) x)] := by simp [heldG, boolsL, List.range_succ]
theorem app_bool {w wr w9 : World} {v v9 : Value} {t : Nat} {xs : List Bool} {ys : List Value} {y : Bool} {ws : World} (hy : ys = boolsL xs ++ [.bool y]) (HS : Stil w ws) (HK : Stil ws wr) (HG : Seg ws (fun g => w.heap.size ≤ g) 4 1 v t (boolsL xs))
    (hs9 : Seg w9 (fun g => (v.ownBlock = some g ∧ w.heap.size ≤ g) ∨ g = wr.heap.size) 4 1 v9 (t + 1) (boolsL xs ++ [.bool y])) (hg9 : wr.grownBy w9 v.ownBlock) :
    Seg w9 (fun g => w.heap.size ≤ g) 4 1 v9 (t + 1) ys ∧ Stil w w9 := by
  subst hy
  refine ⟨?_, ?_⟩
  · refine hs9.mono (fun g _ h => ?_)
    rcases h with ⟨_, h⟩ | h
    · exact h
    · have h9 := (HS.tr HK).size; rw [h]; omega
  · exact (HS.tr HK).grown hg9 (fun g e hg => by
      have := (HG.block e).1
      omega)

theorem holds_any {T L : Nat} (hT : T < 4294967296) (hL : L < 18446744073709551616) {d : Nat} (hd : d ≤ 2) : HoldsAt T L d := by
  obtain rfl | rfl | rfl : d = 0 ∨ d = 1 ∨ d = 2 := by omega
  · exact holds_zero hT hL
  · exact holds_succ hT hL (by omega) (holds_zero hT hL)
  · exact holds_succ hT hL (by omega) (holds_succ hT hL (by omega) (holds_zero hT hL))
set_option maxRecDepth 100000 in
set_option maxHeartbeats 8000000 in
theorem generals_any {W : World} {T L d n : Nat} (x : Bool) (hT : T < 4294967296) (hL : L < 18446744073709551616) (hd : d ≤ 2) (h2 : 2 ≤ n) (h7 : n ≤ 7) :
    Calls Try.prog 9 #[.int .i64 (n : Int), .int .i64 (d : Int), .agg #[.int .u32 (T : Int), .int .u64 (L : Int)], .bool x] W fun e w2 => ∃ a c, e = .returned (.slice a (n - 1) c) ∧ RowO w2 a (n - 1) c (heldG T L d n x (n - 1)) ∧ Stil W w2 := by
  have HH : Hid (HoldsAt T L d) := @holds_any T L hT hL d hd
  have HA : Hid (Stil W (W.alloc (.cells #[.int .u32 (T : Int), .int .u64 (L : Int)] 32))) := Stil.new _ _
  have hnb := al_new W (.cells #[.int .u32 (T : Int), .int .u64 (L : Int)] 32)
  have y0 : (W.alloc (.cells #[.int .u32 (T : Int), .int .u64 (L : Int)] 32)).cell? ⟨W.heap.size, 0, none⟩ = some (.int .u32 (T : Int)) := by rw [cell_of_row _ _ _ _ _ _ hnb]; rfl
  have y1 : (W.alloc (.cells #[.int .u32 (T : Int), .int .u64 (L : Int)] 32)).cell? ⟨W.heap.size, 1, none⟩ = some (.int .u64 (L : Int)) := by rw [cell_of_row _ _ _ _ _ _ hnb]; rfl
  have HY := hidMk (And.intro y0 y1)
  obtain ⟨i0, iit, iz0, iz1, iz2⟩ := info_parts cInfoInt
  obtain ⟨b0, bit, bz0, bz1, bz2⟩ := info_parts bInfo
  have hn7 : (n : Int) ≤ 7 := by omega
  obtain ⟨m, hm⟩ : ∃ m, n - 1 = m := ⟨_, rfl⟩
  rw [hm]
  have hnm : n = m + 1 := by omega
  have HNm := hidMk hnm
  have HMn := hidMk hm
  have hm6 : m ≤ 6 := by omega
  clear hnm hm
  clear hnb y0 y1
  go_enter Try.func9, Try.ntmps9
  go_wp2
  generalize W.alloc (.cells #[.int .u32 (T : Int), .int .u64 (L : Int)] 32) = w1 at *
  generalize W.heap.size = B6 at *
  go_loopw [9, 10] (fun v u wr => ∃ (k q : Nat) (sa : Option Addr) (sc : Nat), q ≤ m ∧ u = .int .i64 (k : Int) ∧ v = .slice sa q sc ∧ Hid (k = q + 1) ∧ Hid (Seg wr (fun g => w1.heap.size ≤ g) 3 1 (.slice sa q sc) q (natsL (allG q))) ∧ Hid (Stil w1 wr)) (fun _ u _ => m + 1 - (intOf u).toNat)
  case atStart => exact ⟨1, 0, none, 0, Nat.zero_le _, rfl, rfl, rfl, Seg.nil _ _ _ _, Keep.refl _ _⟩
  case round =>
    obtain ⟨k, q, sa, sc, hq, rfl, rfl, HKq, HG, HS⟩ := hrel
    have hkq := HKq.out
    by_cases hlt : q < m
    · have hlt' : (k : Int) < (n : Int) := by have := HNm.out; omega
      have hk7 : k ≤ 7 := by omega
      have HT : Hid (allG (q + 1) = allG q ++ [k]) := by show _ = _; rw [allG_succ, HKq.out]
      clear hkq
      go_wp2_with (at_builtin; refine wpList_append_seg _ rfl _ _ 37 rfl 3 i0 (.int .i64 0) 1 8 Try.underlying37 iit iz0 iz1 iz2 rfl (by decide) _ _ _ rfl (segAlloc HG.out _) ⟨_, 0, none⟩ 1 1 [.int .i64 (k : Int)] rfl rfl (cCell1 _ _ _ _ (by simp)) (cOne _) (by unfold maxLen; omega) (by omega) ?_)
      intro v9 w9 hs9 hg9
      obtain ⟨q1, q2⟩ := app_nat HS.out HG.out hs9 hg9
      have HG9 := hidMk q1
      have HS9 := hidMk q2
      obtain ⟨sa3, sc3, hv3⟩ := segForm hs9
      subst hv3
      clear hs9 hg9 HG HS q1 q2
      go_wp2
      go_roundw
      case rel => exact ⟨k + 1, q + 1, sa3, sc3, by omega, by go_num, rfl, hidMk (by rw [HKq.out]), by show Seg _ _ _ _ _ _ _; rw [HT.out]; exact HG9.out, HS9⟩
      case measure => simp [intOf]; have := HKq.out; omega
    · obtain rfl : m = q := by omega
      have hkm : (n : Int) ≤ (k : Int) := by have := HNm.out; omega
      have hk1 : decide ((k : Int) < (n : Int)) = false := decide_eq_false (by omega)
      have hk2 : decide (k < n) = false := decide_eq_false (by omega)
      clear hkq
      have HR := hidMk (seg_row HG.out)
      have z0 := HS.out.cell HY.out.1
      have z1 := HS.out.cell HY.out.2
      have HZ := hidMk (And.intro z0 z1)
      obtain ⟨c1, c2, _, c4⟩ := HR.out
      rcases c4 with c4 | ⟨bb, off, rfl, hbb, hcb⟩
      · have := HNm.out; omega
      have HCb := hidMk hcb
      clear c1 hbb hcb
      have HK := hidMk (HA.out.tr HS.out)
      clear HG HA HY HS z0 z1
      go_wp2_with (fail)
      obtain ⟨w2, rfl⟩ : ∃ w' : World, w' = wr := ⟨_, rfl⟩
      go_loopw [11, 25] (fun v u wr => ∃ (k : Nat) (ra : Option Addr) (rc : Nat), k ≤ m ∧ u = .int .i64 (k : Int) ∧ v = .slice ra k rc ∧ Hid (Seg wr (fun g => w2.heap.size ≤ g) 4 1 (.slice ra k rc) k (boolsL (heldG T L d n x k))) ∧ Hid (Stil w2 wr)) (fun _ u _ => m - (intOf u).toNat)
      case atStart => exact ⟨0, none, 0, Nat.zero_le _, rfl, rfl, Seg.nil _ _ _ _, Keep.refl _ _⟩
      case round =>
        obtain ⟨wx, rfl⟩ : ∃ w' : World, w' = wr := ⟨_, rfl⟩
        obtain ⟨k, ra, rc, hk2, rfl, rfl, HG, HS⟩ := hrel
        by_cases hlt2 : k < m
        · have hlt2' : (k : Int) < (m : Int) := by omega
          have d0 := HS.out.cell (HCb.out k _ (natsI_at (allG_at hlt2)))
          have z0 := HS.out.cell HZ.out.1
          have z1 := HS.out.cell HZ.out.2
          have HT := hidMk (heldG_succ T L d n x k)
          have HC := hidMk (fun (w9 : World) (h9 : Stil wx w9) (g : Nat) (hg : w9.cell? ⟨g, 0, none⟩ = some (.int .i64 0)) => HH.out (i := k + 1) (way := [0]) (among := allG m) (a := some ⟨g, 0, none⟩) (len := 1) (cap := 1) x ⟨rfl, Nat.le_refl _, by decide, .inr ⟨g, 0, rfl, World.block_lt_of_cell? _ _ hg, fun j z hz => by
            match j, hz with
            | 0, hz => simp [natsI] at hz; subst hz; exact hg
            | j + 1, hz => simp [natsI] at hz⟩⟩ (by omega) (by omega) (fun j hj => by simp at hj; omega) ((HR.out.still HS.out).still h9) (by omega) (allG_lt (by omega)) (by omega))
          rw [HMn.out] at HT
          generalize holdsG T.testBit L.testBit d [0] (allG m) (k + 1) x = y at *
          have y9 : (wx.alloc (.cells #[.int .i64 0] 3)).cell? ⟨wx.heap.size, 0, none⟩ = some (.int .i64 0) := by rw [cell_of_row _ _ _ _ _ _ (al_new wx _)]; rfl
          have HC2 := hidMk (HC.out _ (Stil.new wx _) _ y9)
          clear HC y9
          go_wp2_with (first | (go_at_call 16; refine (HC2.out).mono ?_; rintro e w4 ⟨rfl, hk4⟩; have HK4 := hidMk ((Stil.new wx _).tr hk4); have hG4 : Hid (Seg w4 (fun g => w2.heap.size ≤ g) 4 1 (.slice ra k rc) k (boolsL (heldG T L d n x k))) := HG.out.keep HK4.out (fun _ _ _ e => e); clear hk4) | (at_builtin; refine wpList_append_seg _ rfl _ _ 24 rfl 4 b0 (.bool false) 1 1 Try.underlying24 bit bz0 bz1 bz2 rfl (by decide) _ _ _ rfl (segAlloc hG4.out _) ⟨_, 0, none⟩ 1 1 [.bool y] rfl rfl (cCell1 _ _ _ _ (by simp)) (bOne _) (by unfold maxLen; omega) (by omega) ?_))
          intro v9 w9 hs9 hg9
          obtain ⟨q1, q2⟩ := app_bool HT.out HS.out (HK4.out.alloc _) HG.out (hs9.mono (fun g _ h => by rcases h with h | h; exact .inl h; exact .inr (by rw [h]; simp))) hg9
          have HG9 := hidMk q1
          have HS9 := hidMk q2
          obtain ⟨sa3, sc3, hv3⟩ := segForm hs9
          subst hv3
          clear hs9 hg9 HG HS q1 q2 hG4
          go_wp2
          go_roundw
          case rel => exact ⟨k + 1, sa3, sc3, by omega, by go_num, rfl, HG9, HS9⟩
          case measure => simp [intOf]; omega
        · obtain rfl : k = m := by omega
          have HRo := hidMk (seg_rowO HG.out)
          go_wp2
          go_ret
          exact ⟨ra, rc, rfl, HRo.out, HK.out.tr HS.out⟩
end Go.Proofs.Ytekbglmoibglnaa
