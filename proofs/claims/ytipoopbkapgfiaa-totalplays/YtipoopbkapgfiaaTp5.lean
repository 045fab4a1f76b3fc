/- folkmootlaw.TotalPlays, walked. -/
import Derived.Test.YtipoopbkapgfiaaTp4
namespace Go.Proofs.Ytipoopbkapgfiaa
open Go.RowKit
set_option linter.unusedVariables false

theorem rowI_kept {o : Nat → Prop} {w w2 : World} {a : Option Addr} {n c : Nat} {xs : List Int} (h : RowI w a n c xs) (hk : Keep o w w2) (ho : ∀ x, a = some x → ¬ o x.block) : RowI w2 a n c xs := by
  obtain ⟨h1, h2, h3, h4⟩ := h
  refine ⟨h1, h2, h3, ?_⟩
  rcases h4 with h4 | ⟨b, off, e, hr, hc⟩
  · exact .inl h4
  · exact .inr ⟨b, off, e, Nat.lt_of_lt_of_le hr hk.size, fun j x hx => (World.cell?_of_block (hk.block b hr (ho _ e))).trans (hc j x hx)⟩
/-- A slice of lists. -/
def RowsL (w : World) (L n : Nat) (S : Nat → List Nat) : Prop := ∀ i, i < n → ∃ a c, w.cell? ⟨L, i, none⟩ = some (.slice a (S i).length c) ∧ RowI w a (S i).length c (natsI (S i))
theorem RowsL.still {w w' : World} {L n : Nat} {S : Nat → List Nat} (h : RowsL w L n S) (hs : Stil w w') : RowsL w' L n S := fun i hi => let ⟨a, c, h1, h2⟩ := h i hi; ⟨a, c, hs.cell h1, h2.still hs⟩

set_option maxRecDepth 100000 in
set_option maxHeartbeats 4000000 in
theorem lists_same {w : World} {L1 L2 n : Nat} {S : Nat → List Nat} (h1 : RowsL w L1 n S) (h2 : RowsL w L2 n S) (hn : n ≤ 6) (hS : ∀ i, (S i).length ≤ 200) :
    Calls Try.prog 13 #[.slice (some ⟨L1, 0, none⟩) n n, .slice (some ⟨L2, 0, none⟩) n n] w fun e w2 => e = .returned (.bool true) ∧ ∃ k, w2 = w.drewN k := by
  have H1 := hidMk h1
  have H2 := hidMk h2
  have HS := hidMk hS
  clear h1 h2 hS
  have hn' : (n : Int) ≤ 6 := by omega
  go_enter Try.func13, Try.ntmps13
  go_wp2
  go_loopw [5] (fun u wr => ∃ k q : Nat, k ≤ n ∧ u = .int .i64 (k : Int) ∧ wr = w.drewN q) (fun u _ => n - (intOf u).toNat)
  case atStart => exact ⟨0, 0, Nat.zero_le _, rfl, rfl⟩
  case round =>
    obtain ⟨k, q, hk, rfl, hwr⟩ := hrel
    by_cases hlt : k < n
    · have hlt' : (k : Int) < (n : Int) := by omega
      obtain ⟨a1, c1, e1, r1⟩ := (H1.out.still (Stil.drewN w q)) k hlt
      obtain ⟨a2, c2, e2, r2⟩ := (H2.out.still (Stil.drewN w q)) k hlt
      rw [← hwr] at e1 r1 e2 r2
      have hl := HS.out k
      have HI : Hid (∀ q, Calls Try.prog 18 #[.slice a1 (S k).length c1, .slice a2 (S k).length c2] (wr.drewN q) fun e w5 => e = .returned (.bool true) ∧ ∃ m, w5 = wr.drewN m) := fun q => by
        refine (intsI_same (r1.still (Stil.drewN wr q)) (r2.still (Stil.drewN wr q)) (by omega)).mono ?_
        rintro e w5 ⟨rfl, m, rfl⟩
        exact ⟨rfl, q + m, drewN_plus _ _ _⟩
      have HW := hidMk hwr
      clear hwr r1 r2
      generalize (S k).length = sl at *
      go_wp2
      go_quiet ((go_at_call 18; exact HI.out _))
      go_wp2
      go_roundw
      case rel => exact ⟨k + 1, q + nq, by omega, by go_num, by rw [HW.out, drewN_plus]⟩
      case measure => simp [intOf]; omega
    · obtain rfl : k = n := by omega
      go_wp2
      go_ret
      exact ⟨rfl, q, by first | rfl | exact hwr⟩
set_option maxRecDepth 100000 in
set_option maxHeartbeats 4000000 in
theorem lists_none {w : World} : Calls Try.prog 13 #[.slice none 0 0, .slice none 0 0] w fun e w2 => e = .returned (.bool true) ∧ ∃ k, w2 = w.drewN k := by
  go_enter Try.func13, Try.ntmps13
  go_wp2
  go_loopw [5] (fun u wr => u = .int .i64 0 ∧ wr = w) (fun u _ => 0)
  case atStart => exact ⟨rfl, rfl⟩
  case round =>
    obtain ⟨rfl, hwr⟩ := hrel
    subst hwr
    go_wp2
    go_ret
    exact ⟨rfl, 0, rfl⟩
set_option maxRecDepth 100000 in
set_option maxHeartbeats 4000000 in
theorem heards_same {w : World} {p1 p2 p3 p4 : Option Addr} {n1 n2 n3 n4 c1 c2 c3 c4 : Nat} (hc : ∀ w1, Stil w w1 → Calls Try.prog 12 #[.slice p1 n1 c1, .slice p3 n3 c3] w1 fun e w2 => e = .returned (.bool true) ∧ ∃ k, w2 = w1.drewN k)
    (hl : ∀ w1, Stil w w1 → Calls Try.prog 13 #[.slice p2 n2 c2, .slice p4 n4 c4] w1 fun e w2 => e = .returned (.bool true) ∧ ∃ k, w2 = w1.drewN k) :
    Calls Try.prog 7 #[.agg #[.slice p1 n1 c1, .slice p2 n2 c2], .agg #[.slice p3 n3 c3, .slice p4 n4 c4]] w fun e w2 => e = .returned (.bool true) ∧ Stil w w2 := by
  have HK : Hid (Stil w ((w.alloc (.cells #[.slice p1 n1 c1, .slice p2 n2 c2] 26)).alloc (.cells #[.slice p3 n3 c3, .slice p4 n4 c4] 26))) := ((Keep.refl _ w).alloc _).alloc _
  have HC := hidMk (hc _ HK.out)
  have HL := hidMk (fun k => hl _ (HK.out.tr (Stil.drewN _ k)))
  clear hc hl
  go_enter Try.func7, Try.ntmps7
  go_wp2_with (fail)
  go_at_call 12
  refine (HC.out).mono ?_
  rintro e w1 ⟨rfl, k, hk⟩
  subst hk
  go_wp2_with (go_at_call 13; refine (HL.out _).mono ?_; rintro e w2 ⟨rfl, k2, hk2⟩)
  go_ret
  exact ⟨rfl, HK.out.tr (Stil.drewN _ _)⟩
set_option maxRecDepth 100000 in
set_option maxHeartbeats 4000000 in
theorem castcheck_any {z : Int} {pl : Nat} {w : World} : Calls Try.prog 5 #[.int .i64 z, .int .i64 (pl : Int)] w fun e w2 => e = .returned (.int .i64 (castCode z pl)) ∧ w2 = w := by
  unfold castCode
  by_cases h1 : z < 1
  · have q1 : decide (z < 1) = true := decide_eq_true h1
    rw [if_pos (.inl h1)]
    go_enter Try.func5, Try.ntmps5
    go_wp2
    go_ret
    exact ⟨rfl, rfl⟩
  · have q1 : decide (z < 1) = false := decide_eq_false h1
    by_cases h2 : 6 < z
    · have q2 : decide (6 < z) = true := decide_eq_true h2
      rw [if_pos (.inr (.inl h2))]
      go_enter Try.func5, Try.ntmps5
      go_wp2
      go_ret
      exact ⟨rfl, rfl⟩
    · have q2 : decide (6 < z) = false := decide_eq_false h2
      by_cases h3 : 120 < pl
      · have q3 : decide (120 < (pl : Int)) = true := decide_eq_true (by omega)
        have q4 : (120 : Int) < (pl : Int) := by omega
        rw [if_pos (.inr (.inr h3))]
        go_enter Try.func5, Try.ntmps5
        go_wp2
        go_ret
        exact ⟨rfl, rfl⟩
      · have q3 : decide (120 < (pl : Int)) = false := decide_eq_false (by omega)
        have q4 : (pl : Int) ≤ 120 := by omega
        rw [if_neg (by omega)]
        go_enter Try.func5, Try.ntmps5
        go_wp2
        go_ret
        exact ⟨rfl, rfl⟩

set_option maxRecDepth 100000 in
set_option maxHeartbeats 4000000 in
theorem tplays_bad {W : World} {pa : Option Addr} {pl pc : Nat} {z : Int} (hz : castCode z pl ≠ 0) (hpl : pl ≤ maxLen) :
    Calls Try.prog 3 #[.int .i64 z, .slice pa pl pc] W fun e W2 => e = .returned (.bool true) ∧ Below W.heap.size W W2 := by
  have hz1 : castCode z pl = 1 := by unfold castCode at *; split at hz <;> simp_all
  have HP := hidMk (play_badT (W := W) (pa := pa) (pc := pc) hz hpl)
  have HCk := hidMk (fun w : World => castcheck_any (z := z) (pl := pl) (w := w))
  rw [hz1] at HCk
  have HH := hidMk (fun w : World => heards_same (w := w) (p1 := none) (p2 := none) (p3 := none) (p4 := none) (n1 := 0) (n2 := 0) (n3 := 0) (n4 := 0) (c1 := 0) (c2 := 0) (c3 := 0) (c4 := 0) (fun w1 _ => codesI_same (RowI.nil _) (RowI.nil _) (by omega)) (fun w1 _ => lists_none))
  clear hz hz1
  have HPL := hidMk hpl
  clear hpl
  go_enter Try.func3, Try.ntmps3
  go_wp2_with (first
    | (go_at_call 7; refine (HH.out _).mono ?_; rintro e w3 ⟨rfl, hk3⟩)
    | (go_at_call 5; refine (HCk.out _).mono ?_; rintro e w2 ⟨rfl, hk2⟩; obtain rfl := hk2.symm)
    | (go_at_call 4; refine (HP.out).mono ?_; rintro e w1 ⟨rfl, hk1⟩))
  go_ret
  exact ⟨rfl, Stil.below (Stil.tr ((hk1.alloc _).alloc _) hk3)⟩
/-- Two answers are the same: the program's, and the document's, which is stored cell by cell. -/
theorem total_end {w1 w3 w4 : World} {n pl C L Lb cc La : Nat} {ca : Option Addr} {S : TS} {cd : Nat → Int} (hLa : w1.heap.size = La)
    (hS : SeenC w1 C L n pl S.ls cd) (h3 : w3 = (w1.alloc (.cells #[.slice (some ⟨C, 0, none⟩) pl pl, .slice (some ⟨L, 0, none⟩) n n] 26)).alloc (.cells #[.slice none 0 0, .slice none 0 0] 26))
    (hT : TotS w4 w3.heap.size n pl S ((List.range pl).map cd) ca cc Lb) (hk4 : Stil w3 w4) (h6 : n ≤ 6) (hpl : pl ≤ 120) (hl : ∀ i, (S.ls i).length ≤ 200) :
    w4.heap[La + 1]? = some (.cells #[.slice none 0 0, .slice none 0 0] 26 (0, 0)) ∧ ∀ w6, w6 = (w4.setCell ⟨La + 1, 0, none⟩ (.slice ca pl cc)).setCell ⟨La + 1, 1, none⟩ (.slice (some ⟨Lb, 0, none⟩) n n) →
      Calls Try.prog 7 #[.agg #[.slice (some ⟨C, 0, none⟩) pl pl, .slice (some ⟨L, 0, none⟩) n n], .agg #[.slice ca pl cc, .slice (some ⟨Lb, 0, none⟩) n n]] w6 (fun e w2 => e = .returned (.bool true) ∧ Stil w6 w2) ∧ Stil w1 w6 ∧
        w6.heap[La]? = some (.cells #[.slice (some ⟨C, 0, none⟩) pl pl, .slice (some ⟨L, 0, none⟩) n n] 26 (0, 0)) ∧ w6.heap[La + 1]? = some (.cells #[.slice ca pl cc, .slice (some ⟨Lb, 0, none⟩) n n] 26 (0, 0)) := by
  have hsz : w3.heap.size = La + 2 := by rw [h3]; simp; omega
  have K3 : Stil w1 w3 := by rw [h3]; exact ((Keep.refl _ w1).alloc _).alloc _
  have b8 : w3.heap[La + 1]? = some (.cells #[.slice none 0 0, .slice none 0 0] 26 (0, 0)) := by
    have := al_new (w1.alloc (.cells #[.slice (some ⟨C, 0, none⟩) pl pl, .slice (some ⟨L, 0, none⟩) n n] 26)) (.cells #[.slice none 0 0, .slice none 0 0] 26)
    rw [h3]
    simpa [hLa] using this
  have b5 : w3.heap[La]? = some (.cells #[.slice (some ⟨C, 0, none⟩) pl pl, .slice (some ⟨L, 0, none⟩) n n] 26 (0, 0)) := by
    rw [h3, ← hLa, al_old _ _ _ (by simp), al_new]
  have c8 := (hk4.block (La + 1) (by omega) (fun e => e)).trans b8
  have c5 := (hk4.block La (by omega) (fun e => e)).trans b5
  refine ⟨c8, fun w6 e6 => ?_⟩
  have kk := ((Keep.refl (fun g => g = La + 1) w4).setCell (La + 1) 0 (.slice ca pl cc) (fun _ => rfl)).setCell (La + 1) 1 (.slice (some ⟨Lb, 0, none⟩) n n) (fun _ => rfl)
  have q1 := heap_setCell_same w4 (La + 1) 0 _ _ (.slice ca pl cc) c8
  have q2 := heap_setCell_same _ (La + 1) 1 _ _ (.slice (some ⟨Lb, 0, none⟩) n n) q1
  rw [← e6] at kk q2
  clear q1 e6 h3
  have q5 := (kk.block La (Array.getElem?_eq_some_iff.1 c5).1 (by show ¬ La = La + 1; omega)).trans c5
  have K6 : Stil w1 w6 := (K3.tr hk4).trans kk (fun _ _ e => e) (fun g hg e => by have e2 : g = La + 1 := e; omega)
  have S6 := hS.still K6
  have lo : ∀ g, w3.heap.size ≤ g → ¬ (fun g => g = La + 1) g := fun g hg e => by have e2 : g = La + 1 := e; omega
  have R1 := rowI_kept hT.codes kk (fun x hx => lo _ (hT.cL x hx))
  have R2 : RowsL w6 Lb n S.ls := fun i hi => by
    obtain ⟨a, c, x1, x2, x3⟩ := hT.rows i hi
    exact ⟨a, c, (World.cell?_of_block (kk.block Lb (World.block_lt_of_cell? _ _ x1) (lo _ hT.bL))).trans x1, rowI_kept x2 kk (fun x hx => lo _ (x3 x hx))⟩
  exact ⟨heards_same (fun w9 hs9 => codesI_same (S6.codes.still hs9) (R1.still hs9) (by omega)) (fun w9 hs9 => lists_same (L1 := L) (L2 := Lb) (fun i hi => (S6.still hs9).lists i hi) (R2.still hs9) h6 hl), K6, q5, by simpa using q2⟩

set_option maxRecDepth 100000 in
set_option maxHeartbeats 8000000 in
theorem tplays_ok {W : World} {pa : Option Addr} {n pl pc : Nat} {ps : List Cst} (hp : CameC W pa pl pc ps) (h0 : 0 < n) (h6 : n ≤ 6) (hpl : pl ≤ 120) :
    Calls Try.prog 3 #[.int .i64 (n : Int), .slice pa pl pc] W fun e W2 => e = .returned (.bool true) ∧ Below W.heap.size W W2 := by
  have hz : castCode (n : Int) pl = 0 := by unfold castCode; rw [if_neg (by omega)]
  have HP := hidMk (play_seenT hp h0 h6 hpl)
  have HCk := hidMk (fun w : World => castcheck_any (z := (n : Int)) (pl := pl) (w := w))
  rw [hz] at HCk
  have HRf := hidMk (fun (w1 : World) (hw1 : Stil W w1) => ref_total (hp.keep hw1 (fun _ _ e => e)) h0 h6 hpl)
  have HLl : Hid (∀ i, ((tsAt n ps pl).ls i).length ≤ 200) := fun i => by have := tlen_le h6 ps pl i; omega
  clear hp hz
  go_enter Try.func3, Try.ntmps3
  go_wp2_with (fail)
  go_at_call 4
  refine (HP.out).mono ?_
  rintro e w1 ⟨⟨C, L, rfl, hS⟩, hk1⟩
  have HK1 := hidMk hk1
  have HS1 := hidMk hS
  clear hk1 hS HP
  go_wp2_with (fail)
  go_at_call 5
  refine (HCk.out _).mono ?_
  rintro e w2 ⟨rfl, hk2⟩
  obtain rfl := hk2.symm
  clear hk2
  go_wp2_with (fail)
  go_at_call 6
  obtain ⟨w3, h3⟩ : ∃ w3, w3 = (w1.alloc (.cells #[.slice (some ⟨C, 0, none⟩) pl pl, .slice (some ⟨L, 0, none⟩) n n] 26)).alloc (.cells #[.slice none 0 0, .slice none 0 0] 26) := ⟨_, rfl⟩
  have K3 : Stil w1 w3 := by rw [h3]; exact ((Keep.refl _ w1).alloc _).alloc _
  rw [← h3]
  refine (HRf.out _ (HK1.out.tr K3)).mono ?_
  rintro e w4 ⟨⟨ca, cc, Lb, rfl, hT⟩, hk4⟩
  obtain ⟨La, hLa⟩ : ∃ La, w1.heap.size = La := ⟨_, rfl⟩
  obtain ⟨hb8, hE⟩ := total_end hLa HS1.out h3 hT hk4 h6 hpl HLl.out
  have r0 := cell_isT (j := 0) hb8 rfl
  have r1 := cell_isT (j := 1) hb8 rfl
  have f0 : w4.frozen? ⟨La + 1, 0, none⟩ = false := frozen_of_row w4 _ _ _ _ hb8
  have f1 : w4.frozen? ⟨La + 1, 1, none⟩ = false := frozen_of_row w4 _ _ _ _ hb8
  obtain ⟨e1, e2, e3, e4⟩ := hE _ rfl
  have HSm := hidMk e1
  have HKf := hidMk (HK1.out.tr e2)
  have x0 := cell_isT (j := 0) e3 rfl
  have x1 := cell_isT (j := 1) e3 rfl
  have y0 := cell_isT (j := 0) e4 rfl
  have y1 := cell_isT (j := 1) e4 rfl
  simp only [hLa]
  clear hb8 hE hT hk4 h3 K3 HRf HCk HS1 HK1 hLa e1 e2 e3 e4
  go_wp2_with (fail)
  go_at_call 7
  refine (HSm.out).mono ?_
  rintro e w7 ⟨rfl, hk7⟩
  have HK7 := hidMk (Stil.tr HKf.out hk7)
  clear hk7
  go_wp2
  go_ret
  exact ⟨rfl, Stil.below HK7.out⟩

theorem tplays_walk {W : World} {z : Int} {pa : Option Addr} {pl pc : Nat} {ps : List Cst} (hp : CameC W pa pl pc ps) :
    Calls Try.prog 3 #[.int .i64 z, .slice pa pl pc] W fun e W2 => e = .returned (.bool true) ∧ Below W.heap.size W W2 := by
  by_cases hz : castCode z pl = 0
  · obtain ⟨n, rfl, h0, h6, h120⟩ := castCode_zero hz
    exact tplays_ok hp h0 h6 h120
  · exact tplays_bad hz hp.2.2.1
end Go.Proofs.Ytipoopbkapgfiaa
