/- folkmootlaw.CausalPlays, walked. -/
import Derived.Test.YtpdccjhabolccaaCa22
import Derived.Test.YtpdccjhabolccaaCa11
namespace Go.Proofs.Ytpdccjhabolccaa
open Go.RowKit
set_option linter.unusedVariables false

theorem seg_rowI {W : World} {ok : Nat → Prop} {e : TypeId} {a : Option Addr} {n c : Nat} {l : List Int} (h : Seg W ok e 1 (.slice a n c) n (intsV l)) : RowI W a n c l := by
  obtain ⟨h1, ⟨h2, h3⟩ | ⟨g, off, cap, cur, h2, h3, h4, h5, h6, h7, h8⟩⟩ := h
  · subst h3
    cases h2
    exact ⟨by simpa [intsV] using h1, Nat.le_refl _, Nat.zero_le _, .inl rfl⟩
  · cases h2
    refine ⟨by simpa [intsV] using h1, h5, by omega, .inr ⟨g, off, rfl, (Array.getElem?_eq_some_iff.1 h4).1, fun j x hx => ?_⟩⟩
    rw [cell_of_row W _ _ _ _ _ h4]
    exact h8 j _ (by simp [intsV, hx])
/-- A block of another type is not the slice's. -/
theorem seg_ne {W : World} {ok : Nat → Prop} {e e2 : TypeId} {size n h : Nat} {v : Value} {xs : List Value} {cs : Array Value} {fr : Nat × Nat} (hs : Seg W ok e size v n xs) (hb : W.heap[h]? = some (.cells cs e2 fr)) (he : e ≠ e2) : Seg W (fun g => g ≠ h) e size v n xs := by
  obtain ⟨h1, h2 | ⟨g, off, cap, cur, h2, h3, h4, h5⟩⟩ := hs
  · exact ⟨h1, .inl h2⟩
  · refine ⟨h1, .inr ⟨g, off, cap, cur, h2, fun eg => ?_, h4, h5⟩⟩
    subst eg
    rw [h4] at hb
    simp only [Option.some.injEq, Obj.cells.injEq] at hb
    exact he hb.2.1
/-- A slice of lists. -/
def RowsL (w : World) (L n : Nat) (S : Nat → List Nat) : Prop := ∀ i, i < n → ∃ a c, w.cell? ⟨L, i, none⟩ = some (.slice a (S i).length c) ∧ RowI w a (S i).length c (natsI (S i))
theorem RowsL.still {w w' : World} {L n : Nat} {S : Nat → List Nat} (h : RowsL w L n S) (hs : Stil w w') : RowsL w' L n S := fun i hi => let ⟨a, c, h1, h2⟩ := h i hi; ⟨a, c, hs.cell h1, h2.still hs⟩

set_option maxRecDepth 100000 in
set_option maxHeartbeats 4000000 in
theorem lists_same {w : World} {L1 L2 n : Nat} {S : Nat → List Nat} (h1 : RowsL w L1 n S) (h2 : RowsL w L2 n S) (hn : n ≤ 6) (hS : ∀ i, (S i).length ≤ 200) :
    Calls Try.prog 30 #[.slice (some ⟨L1, 0, none⟩) n n, .slice (some ⟨L2, 0, none⟩) n n] w fun e w2 => e = .returned (.bool true) ∧ ∃ k, w2 = w.drewN k := by
  have H1 := hidMk h1
  have H2 := hidMk h2
  have HS := hidMk hS
  clear h1 h2 hS
  have hn' : (n : Int) ≤ 6 := by omega
  go_enter Try.func30, Try.ntmps30
  go_wp2
  go_loopw [5] (fun u wr => ∃ k q : Nat, k ≤ n ∧ u = .int .i64 (k : Int) ∧ wr = w.drewN q) (fun u _ => n - (intOf u).toNat)
  case atStart => exact ⟨0, 0, Nat.zero_le _, rfl, rfl⟩
  case round =>
    obtain ⟨k, q, hk, rfl, hwr⟩ := hrel
    by_cases hlt : k < n
    · have hlt' : (k : Int) < (n : Int) := by omega
      obtain ⟨a1, c1, e1, r1⟩ := (H1.out.still (Stil.drewN w q)) k hlt
      obtain ⟨a2, c2, e2, r2⟩ := (H2.out.still (Stil.drewN w q)) k hlt
      rw [← hwr] at e1 r1 e2 r2
      have hl := HS.out k
      have HI : Hid (∀ q, Calls Try.prog 29 #[.slice a1 (S k).length c1, .slice a2 (S k).length c2] (wr.drewN q) fun e w5 => e = .returned (.bool true) ∧ ∃ m, w5 = wr.drewN m) := fun q => by
        refine (intsI_same (r1.still (Stil.drewN wr q)) (r2.still (Stil.drewN wr q)) (by omega)).mono ?_
        rintro e w5 ⟨rfl, m, rfl⟩
        exact ⟨rfl, q + m, drewN_plus _ _ _⟩
      have HW := hidMk hwr
      clear hwr r1 r2
      generalize (S k).length = sl at *
      go_wp2
      go_quiet ((go_at_call 29; exact HI.out _))
      go_wp2
      go_roundw
      case rel => exact ⟨k + 1, q + nq, by omega, by go_num, by rw [HW.out, drewN_plus]⟩
      case measure => simp [intOf]; omega
    · obtain rfl : k = n := by omega
      go_wp2
      go_ret
      exact ⟨rfl, q, by first | rfl | exact hwr⟩
theorem ref_rows {w4 w5 : World} {n b5 L5 L8 h8 : Nat} {S : CS} {come : Nat → List Nat} {codes : List Int} {v : RT → Value} {t : Nat → Option RT} {cs : Array Value} {fr : Nat × Nat} {ca : Option Addr} {cc : Nat} (P : Pool w4 t (RD n b5 L5 L8 S come codes v))
    (hb : w4.heap[h8]? = some (.cells cs 36 fr)) (hk : Keep (fun g => g = h8) w4 w5) (hcv : v .cd = .slice ca codes.length cc) : RowI w5 ca codes.length cc codes ∧ RowsL w5 L5 n S.ls := by
  have mv : ∀ {ok : Nat → Prop} {e : TypeId} {size m : Nat} {x : Value} {xs : List Value}, e ≠ 36 → Seg w4 ok e size x m xs → Seg w5 (fun g => g ≠ h8) e size x m xs := fun he hs => (seg_ne hs hb he).keep hk (fun g _ e1 e2 => e1 e2)
  refine ⟨?_, fun i hi => ?_⟩
  · have h0 : Seg w4 (fun g => t g = some .cd) 28 1 (v .cd) codes.length (intsV codes) := P.seg .cd _ rfl
    have h1 := mv (by decide) h0
    rw [hcv] at h1
    exact seg_rowI h1
  · have h0 : Seg w4 (fun g => t g = some .ol) 22 1 (.slice (some ⟨L5, 0, none⟩) n n) n ((List.range n).map fun i => v (.l i)) := P.seg .ol _ rfl
    have h1 := mv (by decide) h0
    have h2 := mv (by decide) (rd_l P hi)
    obtain ⟨g, off, cap, e1, _, _, _, _, hcl, _⟩ := h1.at (by show 0 < n; omega)
    simp only [Value.slice.injEq, Option.some.injEq, Addr.mk.injEq] at e1
    obtain ⟨⟨rfl, rfl, _⟩, _, _⟩ := e1
    obtain ⟨a, c, e2⟩ := segForm h2
    have h3 := hcl i (v (.l i)) (by simp [hi])
    rw [Nat.zero_add, e2] at h3
    rw [e2] at h2
    exact ⟨a, c, h3, seg_row h2⟩
set_option maxRecDepth 100000 in
set_option maxHeartbeats 4000000 in
theorem lists_none {w : World} : Calls Try.prog 30 #[.slice none 0 0, .slice none 0 0] w fun e w2 => e = .returned (.bool true) ∧ ∃ k, w2 = w.drewN k := by
  go_enter Try.func30, Try.ntmps30
  go_wp2
  go_loopw [5] (fun u wr => u = .int .i64 0 ∧ wr = w) (fun u _ => 0)
  case atStart => exact ⟨rfl, rfl⟩
  case round =>
    obtain ⟨rfl, hwr⟩ := hrel
    subst hwr
    go_wp2
    go_ret
    exact ⟨rfl, 0, rfl⟩
set_option maxRecDepth 100000 in
set_option maxHeartbeats 4000000 in
theorem heards_same {w : World} {p1 p2 p3 p4 : Option Addr} {n1 n2 n3 n4 c1 c2 c3 c4 : Nat} (hc : ∀ w1, Stil w w1 → Calls Try.prog 20 #[.slice p1 n1 c1, .slice p3 n3 c3] w1 fun e w2 => e = .returned (.bool true) ∧ ∃ k, w2 = w1.drewN k)
    (hl : ∀ w1, Stil w w1 → Calls Try.prog 30 #[.slice p2 n2 c2, .slice p4 n4 c4] w1 fun e w2 => e = .returned (.bool true) ∧ ∃ k, w2 = w1.drewN k) :
    Calls Try.prog 15 #[.agg #[.slice p1 n1 c1, .slice p2 n2 c2], .agg #[.slice p3 n3 c3, .slice p4 n4 c4]] w fun e w2 => e = .returned (.bool true) ∧ Stil w w2 := by
  have HK : Hid (Stil w ((w.alloc (.cells #[.slice p1 n1 c1, .slice p2 n2 c2] 36)).alloc (.cells #[.slice p3 n3 c3, .slice p4 n4 c4] 36))) := ((Keep.refl _ w).alloc _).alloc _
  have HC := hidMk (hc _ HK.out)
  have HL := hidMk (fun k => hl _ (HK.out.tr (Stil.drewN _ k)))
  clear hc hl
  go_enter Try.func15, Try.ntmps15
  go_wp2_with (fail)
  go_at_call 20
  refine (HC.out).mono ?_
  rintro e w1 ⟨rfl, k, hk⟩
  subst hk
  go_wp2_with (go_at_call 30; refine (HL.out _).mono ?_; rintro e w2 ⟨rfl, k2, hk2⟩)
  go_ret
  exact ⟨rfl, HK.out.tr (Stil.drewN _ _)⟩
set_option maxRecDepth 100000 in
set_option maxHeartbeats 4000000 in
theorem castcheck_any {z : Int} {pl : Nat} {w : World} : Calls Try.prog 13 #[.int .i64 z, .int .i64 (pl : Int)] w fun e w2 => e = .returned (.int .i64 (castCode z pl)) ∧ w2 = w := by
  unfold castCode
  by_cases h1 : z < 1
  · have q1 : decide (z < 1) = true := decide_eq_true h1
    rw [if_pos (.inl h1)]
    go_enter Try.func13, Try.ntmps13
    go_wp2
    go_ret
    exact ⟨rfl, rfl⟩
  · have q1 : decide (z < 1) = false := decide_eq_false h1
    by_cases h2 : 6 < z
    · have q2 : decide (6 < z) = true := decide_eq_true h2
      rw [if_pos (.inr (.inl h2))]
      go_enter Try.func13, Try.ntmps13
      go_wp2
      go_ret
      exact ⟨rfl, rfl⟩
    · have q2 : decide (6 < z) = false := decide_eq_false h2
      by_cases h3 : 120 < pl
      · have q3 : decide (120 < (pl : Int)) = true := decide_eq_true (by omega)
        have q4 : (120 : Int) < (pl : Int) := by omega
        rw [if_pos (.inr (.inr h3))]
        go_enter Try.func13, Try.ntmps13
        go_wp2
        go_ret
        exact ⟨rfl, rfl⟩
      · have q3 : decide (120 < (pl : Int)) = false := decide_eq_false (by omega)
        have q4 : (pl : Int) ≤ 120 := by omega
        rw [if_neg (by omega)]
        go_enter Try.func13, Try.ntmps13
        go_wp2
        go_ret
        exact ⟨rfl, rfl⟩

set_option maxRecDepth 100000 in
set_option maxHeartbeats 4000000 in
theorem plays_bad {W : World} {pa : Option Addr} {pl pc : Nat} {z : Int} (hz : castCode z pl ≠ 0) (hpl : pl ≤ maxLen) :
    Calls Try.prog 4 #[.int .i64 z, .slice pa pl pc] W fun e W2 => e = .returned (.bool true) ∧ Below W.heap.size W W2 := by
  have hz1 : castCode z pl = 1 := by unfold castCode at *; split at hz <;> simp_all
  have HP := hidMk (play_badC (W := W) (pa := pa) (pc := pc) hz hpl)
  have HCk := hidMk (fun w : World => castcheck_any (z := z) (pl := pl) (w := w))
  rw [hz1] at HCk
  have HH := hidMk (fun w : World => heards_same (w := w) (p1 := none) (p2 := none) (p3 := none) (p4 := none) (n1 := 0) (n2 := 0) (n3 := 0) (n4 := 0) (c1 := 0) (c2 := 0) (c3 := 0) (c4 := 0) (fun w1 _ => codesI_same (RowI.nil _) (RowI.nil _) (by omega)) (fun w1 _ => lists_none))
  clear hz hz1
  have HPL := hidMk hpl
  clear hpl
  go_enter Try.func4, Try.ntmps4
  go_wp2_with (first
    | (go_at_call 15; refine (HH.out _).mono ?_; rintro e w3 ⟨rfl, hk3⟩)
    | (go_at_call 13; refine (HCk.out _).mono ?_; rintro e w2 ⟨rfl, hk2⟩; obtain rfl := hk2.symm)
    | (go_at_call 12; refine (HP.out).mono ?_; rintro e w1 ⟨rfl, hk1⟩))
  go_ret
  exact ⟨rfl, Stil.below (Stil.tr ((hk1.alloc _).alloc _) hk3)⟩

set_option maxRecDepth 100000 in
set_option maxHeartbeats 8000000 in
theorem plays_ok {W : World} {pa : Option Addr} {n pl pc : Nat} {ps : List Cst} (hp : CameC W pa pl pc ps) (h0 : 0 < n) (h6 : n ≤ 6) (hpl : pl ≤ 120) :
    Calls Try.prog 4 #[.int .i64 (n : Int), .slice pa pl pc] W fun e W2 => e = .returned (.bool true) ∧ Below W.heap.size W W2 := by
  have hz : castCode (n : Int) pl = 0 := by unfold castCode; rw [if_neg (by omega)]
  have HP := hidMk (play_seenC hp h0 h6 hpl)
  have HCk := hidMk (fun w : World => castcheck_any (z := (n : Int)) (pl := pl) (w := w))
  rw [hz] at HCk
  have HRf := hidMk (fun (w1 : World) (hw1 : Stil W w1) => causal_ref (hp.keep hw1 (fun _ _ e => e)) h0 h6 hpl)
  have HLl : Hid (∀ i, ((csAt n ps pl).ls i).length ≤ 200) := fun i => by have := ls_len (cat_inv (n := n) ps pl) i; have := cat_msgs_len (n := n) ps pl; omega
  clear hp hz
  go_enter Try.func4, Try.ntmps4
  go_wp2_with (fail)
  go_at_call 12
  refine (HP.out).mono ?_
  rintro e w1 ⟨⟨C, L, rfl, hS⟩, hk1⟩
  have HK1 := hidMk hk1
  have HS1 := hidMk hS
  clear hk1 hS HP
  go_wp2_with (fail)
  go_at_call 13
  refine (HCk.out _).mono ?_
  rintro e w2 ⟨rfl, hk2⟩
  obtain rfl := hk2.symm
  clear hk2
  go_wp2_with (fail)
  have K3 : Stil w1 ((w1.alloc (.cells #[.slice (some ⟨C, 0, none⟩) pl pl, .slice (some ⟨L, 0, none⟩) n n] 36)).alloc (.cells #[.slice none 0 0, .slice none 0 0] 36)) := ((Keep.refl _ w1).alloc _).alloc _
  go_at_call 14
  refine (HRf.out _ (HK1.out.tr K3)).mono ?_
  rintro e w4 ⟨b5, L5, L8, t, v, come, rfl, PR⟩
  have hb8 : w4.heap[w1.heap.size + 1]? = some (.cells #[.slice none 0 0, .slice none 0 0] 36 (0, 0)) := by
    rw [PR.keep.block _ (by simp) (fun e => e)]
    have := al_new (w1.alloc (.cells #[.slice (some ⟨C, 0, none⟩) pl pl, .slice (some ⟨L, 0, none⟩) n n] 36)) (.cells #[.slice none 0 0, .slice none 0 0] 36)
    simpa using this
  have hb5 : w4.heap[w1.heap.size]? = some (.cells #[.slice (some ⟨C, 0, none⟩) pl pl, .slice (some ⟨L, 0, none⟩) n n] 36 (0, 0)) := by
    rw [PR.keep.block _ (by simp; omega) (fun e => e), al_old _ _ _ (by simp), al_new]
  have r0 : w4.cell? ⟨w1.heap.size + 1, 0, none⟩ = some (.slice none 0 0) := (cell_of_row w4 _ 0 _ _ _ hb8).trans rfl
  have r1 : w4.cell? ⟨w1.heap.size + 1, 1, none⟩ = some (.slice none 0 0) := (cell_of_row w4 _ 1 _ _ _ hb8).trans rfl
  have f0 : w4.frozen? ⟨w1.heap.size + 1, 0, none⟩ = false := frozen_of_row w4 _ _ _ _ hb8
  have f1 : w4.frozen? ⟨w1.heap.size + 1, 1, none⟩ = false := frozen_of_row w4 _ _ _ _ hb8
  have hlc : ((List.range pl).map (ccAt n ps)).length = pl := by simp
  obtain ⟨ca, cc, hcv⟩ := segForm (PR.pool.seg .cd _ rfl)
  simp only at hcv
  have K5 : Keep (fun g => g = w1.heap.size + 1) w4 ((w4.setCell ⟨w1.heap.size + 1, 0, none⟩ (.slice ca pl cc)).setCell ⟨w1.heap.size + 1, 1, none⟩ (.slice (some ⟨L5, 0, none⟩) n n)) := ((Keep.refl (fun g => g = w1.heap.size + 1) w4).setCell (w1.heap.size + 1) 0 (.slice ca pl cc) (fun _ => rfl)).setCell (w1.heap.size + 1) 1 (.slice (some ⟨L5, 0, none⟩) n n) (fun _ => rfl)
  obtain ⟨R1, R2⟩ := ref_rows PR.pool hb8 K5 hcv
  rw [hlc] at R1 hcv
  have K6 : Stil w1 ((w4.setCell ⟨w1.heap.size + 1, 0, none⟩ (.slice ca pl cc)).setCell ⟨w1.heap.size + 1, 1, none⟩ (.slice (some ⟨L5, 0, none⟩) n n)) := (K3.tr PR.keep).trans K5 (fun _ _ e => e) (fun g hg e => by omega)
  have S5 := HS1.out.still K6
  have q1 := heap_setCell_same w4 (w1.heap.size + 1) 0 _ _ (.slice ca pl cc) hb8
  have q2 := heap_setCell_same _ (w1.heap.size + 1) 1 _ _ (.slice (some ⟨L5, 0, none⟩) n n) q1
  have q5 := (K5.block w1.heap.size (Array.getElem?_eq_some_iff.1 hb5).1 (by show ¬ (w1.heap.size = w1.heap.size + 1); omega)).trans hb5
  have HH := hidMk (heards_same (w := (w4.setCell ⟨w1.heap.size + 1, 0, none⟩ (.slice ca pl cc)).setCell ⟨w1.heap.size + 1, 1, none⟩ (.slice (some ⟨L5, 0, none⟩) n n)) (fun w9 hs9 => codesI_same (S5.codes.still hs9) (R1.still hs9) (by omega)) (fun w9 hs9 => lists_same (L1 := L) (L2 := L5) (fun i hi => (S5.still hs9).lists i hi) (R2.still hs9) h6 HLl.out))
  have HKA := hidMk (HK1.out.tr K6)
  have y0 : ((w4.setCell ⟨w1.heap.size + 1, 0, none⟩ (.slice ca pl cc)).setCell ⟨w1.heap.size + 1, 1, none⟩ (.slice (some ⟨L5, 0, none⟩) n n)).cell? ⟨w1.heap.size, 0, none⟩ = some (.slice (some ⟨C, 0, none⟩) pl pl) := (cell_of_row _ _ 0 _ _ _ q5).trans rfl
  have y1 : ((w4.setCell ⟨w1.heap.size + 1, 0, none⟩ (.slice ca pl cc)).setCell ⟨w1.heap.size + 1, 1, none⟩ (.slice (some ⟨L5, 0, none⟩) n n)).cell? ⟨w1.heap.size, 1, none⟩ = some (.slice (some ⟨L, 0, none⟩) n n) := (cell_of_row _ _ 1 _ _ _ q5).trans rfl
  have y2 : ((w4.setCell ⟨w1.heap.size + 1, 0, none⟩ (.slice ca pl cc)).setCell ⟨w1.heap.size + 1, 1, none⟩ (.slice (some ⟨L5, 0, none⟩) n n)).cell? ⟨w1.heap.size + 1, 0, none⟩ = some (.slice ca pl cc) := (cell_of_row _ _ 0 _ _ _ q2).trans (by simp)
  have y3 : ((w4.setCell ⟨w1.heap.size + 1, 0, none⟩ (.slice ca pl cc)).setCell ⟨w1.heap.size + 1, 1, none⟩ (.slice (some ⟨L5, 0, none⟩) n n)).cell? ⟨w1.heap.size + 1, 1, none⟩ = some (.slice (some ⟨L5, 0, none⟩) n n) := (cell_of_row _ _ 1 _ _ _ q2).trans (by simp)
  rw [hcv]
  clear hb8 hb5 PR K3 K5 K6 S5 q1 q2 q5 R1 R2 hcv hlc HRf HCk HS1 HK1
  go_wp2_with (go_at_call 15; refine (HH.out).mono ?_; rintro e w9 ⟨rfl, hk9⟩)
  go_ret
  exact ⟨rfl, Stil.below (HKA.out.tr hk9)⟩

theorem plays_walk {W : World} {z : Int} {pa : Option Addr} {pl pc : Nat} {ps : List Cst} (hp : CameC W pa pl pc ps) :
    Calls Try.prog 4 #[.int .i64 z, .slice pa pl pc] W fun e W2 => e = .returned (.bool true) ∧ Below W.heap.size W W2 := by
  by_cases hz : castCode z pl = 0
  · obtain ⟨n, rfl, h0, h6, h120⟩ := castCode_zero hz
    exact plays_ok hp h0 h6 h120
  · exact plays_bad hz hp.2.2.1
end Go.Proofs.Ytpdccjhabolccaa
