/- Contract of folkmootkeep.leq; folkmootkeep.ClocksMattern, walked. -/
import Derived.Test.YteahkegjekaanabJ5
namespace Go.Proofs.Yteahkegjekaanab
open Go.RowKit Go.Shelf
set_option linter.unusedVariables false

/-- None of the first n is above the other's. -/
def leN (n : Nat) (f g : Nat → Nat) : Bool := (List.range n).all fun p => decide (f p ≤ g p)
theorem leN_iff {n : Nat} {f g : Nat → Nat} : leN n f g = true ↔ ∀ p, p < n → f p ≤ g p := by
  unfold leN
  rw [List.all_eq_true]
  constructor
  · exact fun h p hp => of_decide_eq_true (h p (List.mem_range.2 hp))
  · exact fun h p hp => decide_eq_true (h p (List.mem_range.1 hp))
theorem leN_not {n p : Nat} {f g : Nat → Nat} (hp : p < n) (h : g p < f p) : leN n f g = false := by
  cases e : leN n f g
  · rfl
  · have := leN_iff.1 e p hp; omega

set_option maxHeartbeats 1000000 in
theorem leq_any (g1 g2 n c1 c2 : Nat) (f h : Nat → Nat) (w : World) (h1 : ∀ p, p < n → w.cell? ⟨g1, p, none⟩ = some (.int .i64 ((f p : Nat) : Int))) (h2 : ∀ p, p < n → w.cell? ⟨g2, p, none⟩ = some (.int .i64 ((h p : Nat) : Int))) (m1 : n ≤ 100) :
    Calls Try.prog 12 #[.slice (some ⟨g1, 0, none⟩) n c1, .slice (some ⟨g2, 0, none⟩) n c2] w fun e w2 => e = .returned (.bool (leN n f h)) ∧ ∃ m, w2 = w.drewN m := by
  have m1' : (n : Int) ≤ 100 := by omega
  have H1 := hidMk h1
  have H2 := hidMk h2
  clear h1 h2
  go_enter Try.func12, Try.ntmps12
  go_wp2
  go_loopw [5] (fun i wr => ∃ k : Nat, k ≤ n ∧ i = .int .i64 (k : Int) ∧ Hid (∃ m, wr = w.drewN m) ∧ Hid (∀ p, p < k → f p ≤ h p)) (fun i _ => n - (intOf i).toNat)
  case atStart => exact ⟨0, Nat.zero_le _, rfl, ⟨0, rfl⟩, fun p hp => by omega⟩
  case round =>
    obtain ⟨k, hk, rfl, HM, HT⟩ := hrel
    by_cases hlt : k < n
    · have hlt' : (k : Int) < (n : Int) := by omega
      have d1 : wr.cell? ⟨g1, k, none⟩ = some (.int .i64 ((f k : Nat) : Int)) := by obtain ⟨m, e⟩ := HM.out; rw [e]; exact H1.out k hlt
      have d2 : wr.cell? ⟨g2, k, none⟩ = some (.int .i64 ((h k : Nat) : Int)) := by obtain ⟨m, e⟩ := HM.out; rw [e]; exact H2.out k hlt
      by_cases he : f k ≤ h k
      · have he' : ((f k : Nat) : Int) ≤ ((h k : Nat) : Int) := by omega
        go_wp2
        go_quiet (fail)
        go_wp2
        go_roundw
        case rel => exact ⟨k + 1, by omega, by go_num, drew_more HM.out nq, fun p hp => by
          by_cases e : p = k
          · subst e; exact he
          · exact HT.out p (by omega)⟩
        case measure => simp [intOf]; omega
      · have he' : ((h k : Nat) : Int) < ((f k : Nat) : Int) := by omega
        go_wp2
        go_quiet (fail)
        go_wp2
        go_ret
        exact ⟨ret_bool (leN_not hlt (by omega)).symm, drew_more HM.out nq⟩
    · obtain rfl : k = n := by omega
      go_wp2
      go_ret
      exact ⟨ret_bool (leN_iff.2 HT.out).symm, HM.out⟩

theorem Vectors_rel (n : Nat) (a : Option Addr) (len cap : Nat) (es : List Ev) (w w1 : World) (h : CameEv w a len cap es) (hz : evsCode (n : Int) es = 0) (hb : Below w.heap.size w w1) :
    Calls Try.prog 9 #[.int .i64 (n : Int), .slice a len cap] w1 fun e w2 => (∃ O R, e = .returned (.tuple #[.slice (some ⟨O, 0, none⟩) len len, .int .i64 0]) ∧ Rows2 es w.heap.size len n w2 O R) ∧ Below w1.heap.size w1 w2 :=
  (Vectors_ok n a len cap es w1 (h.below hb) hz).mono fun e w2 ⟨⟨O, R, h1, h2⟩, h3⟩ => ⟨⟨O, R, h1, owns_le h2.1 hb.size, fun j hj => owns_le (h2.2 j hj) hb.size⟩, h3⟩
theorem rows2_out {es : List Ev} {w : World} {base O n len : Nat} {R : Nat → Nat} (h : Rows2 es base len n w O R) {j : Nat} (hj : j < len) : w.cell? ⟨O, j, none⟩ = some (.slice (some ⟨R j, 0, none⟩) n n) := by
  rw [World.ownsRow.cellAt h.1 j (by omega), outRow_at hj, if_pos hj]
theorem rows2_in {es : List Ev} {w : World} {base O n len : Nat} {R : Nat → Nat} (h : Rows2 es base len n w O R) {j p : Nat} (hj : j < len) (hp : p < n) : w.cell? ⟨R j, p, none⟩ = some (.int .i64 ((vc es p j : Nat) : Int)) := by
  rw [World.ownsRow.cellAt (h.2 j hj) p (by omega), List.getElem?_map, rowN_at hp]; simp [encN]

set_option maxHeartbeats 2000000 in
theorem clocksMattern_walk (N i j : Int) (a : Option Addr) (len cap : Nat) (es : List Ev) (w : World) (h : CameEv w a len cap es) :
    Calls Try.prog 3 #[.int .i64 N, .slice a len cap, .int .i64 i, .int .i64 j] w fun e w2 => e = .returned (.bool true) ∧ Below w.heap.size w w2 := by
  have HE : Hid (Calls Try.prog 7 #[.int .i64 N, .slice a len cap] w fun e w2 => e = .returned (.bool (evsCode N es == 0)) ∧ Below w.heap.size w w2) := events_from N a len cap es w w h (Below.refl _ _)
  have HC : Hid (∀ w1, Below w.heap.size w w1 → Calls Try.prog 8 #[.int .i64 N, .slice a len cap] w1 fun e w2 => e = .returned (.int .i64 (evsCode N es)) ∧ Below w.heap.size w w2) := fun w1 hb => check_from N a len cap es w w1 h hb
  have HF : Hid (∀ i j w1, Below w.heap.size w w1 → Calls Try.prog 10 #[.int .i64 N, .slice a len cap, .int .i64 i, .int .i64 j] w1 fun e w2 => e = .returned (.tuple #[.bool (befA N es i j), .int .i64 (befE N es i j)]) ∧ Below w1.heap.size w1 w2) := fun i j w1 hb => before_rel N i j a len cap es w w1 h hb
  by_cases hz : evsCode N es = 0
  · have hzb : (evsCode N es == 0) = true := by simpa using hz
    rw [hzb] at HE
    have hl := h.1
    have hv := valid_of hz
    obtain ⟨n, rfl⟩ : ∃ n : Nat, N = n := ⟨N.toNat, by have := hv.1; omega⟩
    have HS : Hid (∀ w1, Below w.heap.size w w1 → Calls Try.prog 9 #[.int .i64 (n : Int), .slice a len cap] w1 fun e w2 => (∃ O R, e = .returned (.tuple #[.slice (some ⟨O, 0, none⟩) len len, .int .i64 0]) ∧ Rows2 es w.heap.size len n w2 O R) ∧ Below w1.heap.size w1 w2) := fun w1 hb => Vectors_rel n a len cap es w w1 h hz hb
    have hmx' : (len : Int) ≤ 60 := by have := hv.2.2.1; omega
    have hn6 : n ≤ 6 := by have := hv.2.1; omega
    by_cases hin : inB (len : Int) [i, j] = true
    · have hall : (0 ≤ i ∧ i < (len : Int)) ∧ (0 ≤ j ∧ j < (len : Int)) := by simpa [inB] using hin
      obtain ⟨i0, rfl⟩ : ∃ x : Nat, i = x := ⟨i.toNat, by omega⟩
      obtain ⟨j0, rfl⟩ : ∃ x : Nat, j = x := ⟨j.toNat, by omega⟩
      have a1 := befA_in hz (i := i0) (j := j0) (by omega) (by omega)
      have e1 := befE_zero hz (i := (i0 : Int)) (j := (j0 : Int)) (by omega) (by omega)
      have hi0 : i0 < len := by omega
      have hj0 : j0 < len := by omega
      have hi' : (i0 : Int) < (len : Int) := by omega
      have hj' : (j0 : Int) < (len : Int) := by omega
      by_cases heq : i0 = j0
      · subst heq
        have a2 : befA (n : Int) es (i0 : Int) (i0 : Int) = false := by rw [a1]; simp [befB]
        have hee : ((i0 : Int) == (i0 : Int)) = true := by simp
        clear hz hv h hall a1
        go_enter Try.func3, Try.ntmps3
        go_wp2_with (first | (go_at_call 10; refine (HF.out _ _ _ hB3).mono ?_; rintro e w4 ⟨rfl, hB4⟩; have hO4 := rows2_below hO hB4; have hO5 := rows2_below hO4 ((Below.refl _ w4).alloc (Nat.le_refl _) (.cells #[.int .i64 (i0 : Int), .int .i64 (i0 : Int)] 3)); have hci := rows2_out hO5 hi0) | (go_at_call 9; refine (HS.out _ hB1).mono ?_; rintro e w2 ⟨⟨O, R, rfl, hO⟩, hB2⟩; have hB3 := below_from hB1 hB2) | (go_at_call 7; refine (HE.out).mono ?_; rintro e w1 ⟨rfl, hB1⟩) | (go_at_call 11; refine (inside_any _ _ 2 2 [(i0 : Int), (i0 : Int)] _ rfl (by decide) (cells_lit _ _ _)).mono ?_; rintro e w3 ⟨rfl, rfl⟩))
        go_ret
        have hB5 := below_from hB3 hB4
        exact ⟨by simp, hB5.alloc hB5.size _⟩
      · have hee : ((i0 : Int) == (j0 : Int)) = false := by simp; omega
        have hm := mattern hv rfl (i := i0) (j := j0) (by omega) (by omega) heq
        have hml : befB es i0 j0 = leN n (fun p => vc es p i0) (fun p => vc es p j0) := by rw [Bool.eq_iff_iff, leN_iff]; exact hm
        rw [hml] at a1
        clear hz hv h hall hml hm heq
        generalize hgl : leN n (fun p => vc es p i0) (fun p => vc es p j0) = b1 at a1
        have HGL := hidMk hgl
        clear hgl
        have hmo : Try.prog.follows .mixedOrders = true := by kernel_rfl
        go_enter Try.func3, Try.ntmps3
        go_wp2_with (first | (go_at_call 10; refine (HF.out _ _ _ hB3).mono ?_; rintro e w4 ⟨rfl, hB4⟩) | (go_at_call 9; refine (HS.out _ hB1).mono ?_; rintro e w2 ⟨⟨O, R, rfl, hO⟩, hB2⟩; have hB3 := below_from hB1 hB2) | (go_at_call 7; refine (HE.out).mono ?_; rintro e w1 ⟨rfl, hB1⟩) | (go_at_call 11; refine (inside_any _ _ 2 2 [(i0 : Int), (j0 : Int)] _ rfl (by decide) (cells_lit _ _ _)).mono ?_; rintro e w3 ⟨rfl, rfl⟩))
        have hO5 := rows2_below (rows2_below hO hB4) ((Below.refl _ w4).alloc (Nat.le_refl _) (.cells #[.int .i64 (i0 : Int), .int .i64 (j0 : Int)] 3))
        have hB5 := below_from hB3 hB4
        have HB6 : Hid (Below w.heap.size w (w4.alloc (.cells #[.int .i64 (i0 : Int), .int .i64 (j0 : Int)] 3))) := hB5.alloc hB5.size _
        have hci := rows2_out hO5 hi0
        have hcj := rows2_out hO5 hj0
        generalize w4.alloc (.cells #[.int .i64 (i0 : Int), .int .i64 (j0 : Int)] 3) = w5 at *
        have HLQ : Hid (∀ k, Calls Try.prog 12 #[.slice (some ⟨R i0, 0, none⟩) n n, .slice (some ⟨R j0, 0, none⟩) n n] (w5.drewN k) fun e w2 => e = .returned (.bool b1) ∧ ∃ m, w2 = (w5.drewN k).drewN m) := fun k => by
          have := leq_any (R i0) (R j0) n n n (fun p => vc es p i0) (fun p => vc es p j0) (w5.drewN k) (fun p hp => rows2_in hO5 hi0 hp) (fun p hp => rows2_in hO5 hj0 hp) (by omega)
          rwa [HGL.out] at this
        clear hO hO5 hB5
        go_quiet ((go_at_call 12; exact Calls.quiet_of (HLQ.out _)))
        go_wp2
        go_ret
        exact ⟨by simp, below_drewN HB6.out _⟩
    · have hin' : inB (len : Int) [i, j] = false := by simpa using hin
      have he1 : befE (n : Int) es i j = 2 := befE_two hz (fun h2 => hin (by simp [inB]; omega))
      clear hz h hin hv
      go_enter Try.func3, Try.ntmps3
      go_wp2_with (first | (go_at_call 10; refine (HF.out _ _ _ hB3).mono ?_; rintro e w4 ⟨rfl, hB4⟩) | (go_at_call 9; refine (HS.out _ hB1).mono ?_; rintro e w2 ⟨⟨O, R, rfl, hO⟩, hB2⟩; have hB3 := below_from hB1 hB2) | (go_at_call 7; refine (HE.out).mono ?_; rintro e w1 ⟨rfl, hB1⟩) | (go_at_call 11; refine (inside_any _ _ 2 2 [i, j] _ rfl (by decide) (cells_lit _ _ _)).mono ?_; rintro e w3 ⟨rfl, rfl⟩))
      go_ret
      have hB5 := below_from hB3 hB4
      exact ⟨rfl, hB5.alloc hB5.size _⟩
  · have hzb : (evsCode N es == 0) = false := by simpa using hz
    have hzn : (evsCode N es != 0) = true := by simpa using hz
    rw [hzb] at HE
    generalize evsCode N es = c at HC hzn
    clear h hz hzb HF
    go_enter Try.func3, Try.ntmps3
    go_wp2_with (first | (go_at_call 8; refine (HC.out _ hB1).mono ?_; rintro e w2 ⟨rfl, hB2⟩) | (go_at_call 7; refine (HE.out).mono ?_; rintro e w1 ⟨rfl, hB1⟩))
    go_ret
    exact ⟨rfl, hB2⟩
end Go.Proofs.Yteahkegjekaanab
