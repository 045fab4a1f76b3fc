/- Machines in a ring: StableChecks, StableFrees, StableMoves, walked. -/
import Derived.Test.YtflmbhjighnicaaJa4
namespace Go.Proofs.Ytflmbhjighnicaa
open Go.RowKit
set_option linter.unusedVariables false

set_option maxRecDepth 100000 in
set_option maxHeartbeats 4000000 in
theorem schecks_walk {W : World} {a : Option Addr} {n c : Nat} {zs : List Int} (k : Int) (h : CameI W a n c zs) :
    Calls Try.prog 3 #[.int .i64 k, .slice a n c] W fun e W2 => e = .returned (.bool true) ∧ Below W.heap.size W W2 := by
  have HC := hidMk (check_any h k)
  have HR : Hid (∀ w1, Stil W w1 → Calls Try.prog 10 #[.int .i64 k, .slice a n c] w1 fun e w2 => e = .returned (.int .i64 (codeJ k zs)) ∧ w2 = w1) := hidMk (fun w1 hs => refCheckJ (h.still hs) k)
  generalize codeJ k zs = rc at *
  clear h
  go_enter Try.func3, Try.ntmps3
  go_wp2_with (first | (go_at_call 9; refine (HC.out).mono ?_; rintro e w1 ⟨rfl, hk1⟩) | (go_at_call 10; refine (HR.out _ hk1).mono ?_; rintro e w2 ⟨rfl, hw⟩; obtain rfl := hw.symm))
  go_ret
  exact ⟨by simp, Stil.below hk1⟩

set_option maxRecDepth 100000 in
set_option maxHeartbeats 4000000 in
theorem sfrees_bad {W : World} {a : Option Addr} {n c : Nat} {zs : List Int} {k : Int} (h : RowI W a n c zs) (hz : codeJ k zs ≠ 0) :
    Calls Try.prog 4 #[.int .i64 k, .slice a n c] W fun e W2 => e = .returned (.bool true) ∧ Below W.heap.size W W2 := by
  have HC := hidMk (free_bad h hz)
  have HR : Hid (∀ w1, Stil W w1 → Calls Try.prog 10 #[.int .i64 k, .slice a n c] w1 fun e w2 => e = .returned (.int .i64 (codeJ k zs)) ∧ w2 = w1) := hidMk (fun w1 hs => refCheckJ (h.still hs) k)
  generalize codeJ k zs = rc at *
  have q1 : (rc != 0) = true := by simpa using hz
  have q2 : (rc == rc) = true := by simp
  clear h hz
  go_enter Try.func4, Try.ntmps4
  go_wp2_with (first | (go_at_call 11; refine (HC.out).mono ?_; rintro e w1 ⟨rfl, hk1⟩) | (go_at_call 10; refine (HR.out _ hk1).mono ?_; rintro e w2 ⟨rfl, hw⟩; obtain rfl := hw.symm))
  go_ret
  exact ⟨rfl, Stil.below hk1⟩

set_option maxRecDepth 100000 in
set_option maxHeartbeats 8000000 in
theorem sfrees_ok {W : World} {a : Option Addr} {n c : Nat} {s : Nat → Int} {k : Int} (h : RowI W a n c (rwJ n s)) (h2 : 2 ≤ n) (h6 : n ≤ 6) (k2 : 2 ≤ k) (k3 : k ≤ 1000) (hv : OkJ k n s) :
    Calls Try.prog 4 #[.int .i64 k, .slice a n c] W fun e W2 => e = .returned (.bool true) ∧ Below W.heap.size W W2 := by
  have HC := hidMk (free_ok h h2 h6 k2 k3 hv)
  have HR : Hid (∀ w1, Stil W w1 → Calls Try.prog 10 #[.int .i64 k, .slice a n c] w1 fun e w2 => e = .returned (.int .i64 0) ∧ w2 = w1) := hidMk (fun w1 hs => by
    have := refCheckJ (h.still hs) k
    rw [codeJ_ok h2 h6 k2 k3 hv] at this
    exact this)
  have HW := hidMk h
  have hn6 : (n : Int) ≤ 6 := by omega
  have hlen := frL_le n s n
  obtain ⟨L, hL⟩ : ∃ L, (frL n s n).length = L := ⟨_, rfl⟩
  rw [hL] at HC hlen
  have HL := hidMk hL
  obtain ⟨i0, hit, hz0, hz1, hz2⟩ := info_parts cInfoInt
  clear h hv k2 k3 hL
  go_enter Try.func4, Try.ntmps4
  go_wp2_with (first | (go_at_call 11; refine (HC.out).mono ?_; rintro e w1 ⟨a2, c2, rfl, hr1, hk1⟩; have HR1 := hidMk hr1; clear hr1) | (go_at_call 10; refine (HR.out _ hk1).mono ?_; rintro e w2 ⟨rfl, hw⟩; obtain rfl := hw.symm))
  have HK := hidMk hk1
  clear hk1 HC HR
  go_loopw [8, 9] (fun v u wr => ∃ k : Nat, k ≤ n ∧ u = .int .i64 (k : Int) ∧ Hid (Seg wr (fun g => w1.heap.size ≤ g) 3 1 v (frL n s k).length (natsL (frL n s k))) ∧ Hid (Stil w1 wr)) (fun _ u _ => n - (intOf u).toNat)
  case atStart => exact ⟨0, Nat.zero_le _, rfl, Seg.nil _ _ _ _, Keep.refl _ _⟩
  case round =>
    obtain ⟨k, hk, rfl, HG, HS⟩ := hrel
    obtain ⟨sa, scp, hv⟩ := segForm HG.out
    subst hv
    by_cases hlt : k < n
    · have hlt' : (k : Int) < (n : Int) := by omega
      have hle := frL_le n s k
      have HE : Hid (frL n s (k + 1) = if frJ n s k = true then frL n s k ++ [k] else frL n s k) := frL_succ n s k
      have HF := hidMk (refFree_any ((HW.out.still HK.out).still HS.out) h2 h6 hlt)
      generalize hsl : (frL n s k).length = sl at *
      cases hf : frJ n s k
      · rw [hf] at HF HE
        have HE2 : Hid (frL n s (k + 1) = frL n s k) := by show _ = _; rw [HE.out]; rfl
        clear HE hf
        go_wp2_with (go_at_call 12; refine (HF.out).mono ?_; rintro e w3 ⟨rfl, hk3⟩)
        go_roundw
        case rel => exact ⟨k + 1, by omega, by go_num, hidMk (by rw [HE2.out, hsl]; exact HG.out.keep hk3 (fun _ _ _ e => e)), HS.out.tr hk3⟩
        case measure => simp [intOf]; omega
      · rw [hf] at HF HE
        have HE2 : Hid (frL n s (k + 1) = frL n s k ++ [k]) := by show _ = _; rw [HE.out]; rfl
        clear HE hf
        go_wp2_with (first | (go_at_call 12; refine (HF.out).mono ?_; rintro e w3 ⟨rfl, hk3⟩; have HK3 := hidMk hk3; have hG3 : Hid (Seg w3 (fun g => w1.heap.size ≤ g) 3 1 (.slice sa sl scp) sl (natsL (frL n s k))) := HG.out.keep hk3 (fun _ _ _ e => e); clear hk3) | (at_builtin; refine wpList_append_seg _ rfl _ _ 22 rfl 3 i0 (.int .i64 0) 1 8 Try.underlying22 hit hz0 hz1 hz2 rfl (by decide) _ _ _ rfl (segAlloc hG3.out _) ⟨_, 0, none⟩ 1 1 [.int .i64 (k : Int)] rfl rfl (cCell1 _ _ _ _ (by simp)) (cOne _) (by unfold maxLen; omega) (by omega) ?_))
        intro v9 w9 hs9 hg9
        have HN : Hid (w1.heap.size ≤ w3.heap.size) := (HS.out.tr HK3.out).size
        have HG9 : Hid (Seg w9 (fun g => w1.heap.size ≤ g) 3 1 v9 (frL n s (k + 1)).length (natsL (frL n s (k + 1)))) := by
          show Seg _ _ _ _ _ _ _
          rw [HE2.out, List.length_append, hsl]
          have e : natsL (frL n s k ++ [k]) = natsL (frL n s k) ++ [.int .i64 (k : Int)] := by simp [natsL]
          rw [e]
          refine hs9.mono (fun g _ h => ?_)
          rcases h with ⟨_, h⟩ | h
          · exact h
          · have h9 := HN.out; rw [h]; omega
        have HS9 : Hid (Stil w1 w9) := ((HS.out.tr HK3.out).alloc _).grown hg9 (fun g e hg => by
          have := (hG3.out.block e).1
          omega)
        obtain ⟨sa3, sc3, hv3⟩ := segForm hs9
        subst hv3
        clear hs9 hg9 HG HS hG3 HK3
        go_wp2
        go_roundw
        case rel => exact ⟨k + 1, by omega, by go_num, HG9, HS9⟩
        case measure => simp [intOf]; omega
    · obtain rfl : k = n := by omega
      have hsr := seg_row HG.out
      rw [HL.out] at hsr
      have HI := hidMk (intsI_same (HR1.out.still HS.out) hsr (by omega))
      have hL := HL.out
      clear hsr
      rw [hL]
      clear hL HG
      go_wp2_with (go_at_call 13; refine (HI.out).mono ?_; rintro e w3 ⟨rfl, q, hw3⟩; have HW3 := hidMk hw3; clear hw3)
      go_ret
      refine ⟨rfl, Stil.below ?_⟩
      rw [HW3.out]
      exact Keep.drewN (HK.out.tr HS.out) q
theorem sfrees_walk {W : World} {a : Option Addr} {n c : Nat} {zs : List Int} (k : Int) (h : CameI W a n c zs) :
    Calls Try.prog 4 #[.int .i64 k, .slice a n c] W fun e W2 => e = .returned (.bool true) ∧ Below W.heap.size W W2 := by
  by_cases hz : codeJ k zs = 0
  · obtain ⟨s, _, h1, h2, h3, h4, h5, h6⟩ := stJ h hz
    exact sfrees_ok h1 h2 h3 h4 h5 h6
  · exact sfrees_bad h hz

set_option maxRecDepth 100000 in
set_option maxHeartbeats 4000000 in
theorem smoves_bad {W : World} {a : Option Addr} {n c : Nat} {zs : List Int} {k : Int} (h : RowI W a n c zs) (hz : codeJ k zs ≠ 0) (i : Int) :
    Calls Try.prog 5 #[.int .i64 k, .slice a n c, .int .i64 i] W fun e W2 => e = .returned (.bool true) ∧ Below W.heap.size W W2 := by
  have HC := hidMk (move_bad h hz i)
  have HR : Hid (∀ w1, Stil W w1 → Calls Try.prog 10 #[.int .i64 k, .slice a n c] w1 fun e w2 => e = .returned (.int .i64 (codeJ k zs)) ∧ w2 = w1) := hidMk (fun w1 hs => refCheckJ (h.still hs) k)
  generalize codeJ k zs = rc at *
  have q1 : (rc != 0) = true := by simpa using hz
  have q3 : (rc == 0) = false := by simpa using hz
  have q2 : (rc == rc) = true := by simp
  clear h hz
  go_enter Try.func5, Try.ntmps5
  go_wp2_with (first | (go_at_call 14; refine (HC.out).mono ?_; rintro e w1 ⟨rfl, hk1⟩) | (go_at_call 10; refine (HR.out _ hk1).mono ?_; rintro e w2 ⟨rfl, hw⟩; obtain rfl := hw.symm))
  go_ret
  exact ⟨rfl, Stil.below hk1⟩
set_option maxRecDepth 100000 in
set_option maxHeartbeats 4000000 in
theorem smoves_arg {W : World} {a : Option Addr} {n c : Nat} {zs : List Int} {k : Int} (h : RowI W a n c zs) (hz : codeJ k zs = 0) (i : Int) (hi : i < 0 ∨ (n : Int) ≤ i) :
    Calls Try.prog 5 #[.int .i64 k, .slice a n c, .int .i64 i] W fun e W2 => e = .returned (.bool true) ∧ Below W.heap.size W W2 := by
  have HC := hidMk (move_arg h hz i hi)
  have HR : Hid (∀ w1, Stil W w1 → Calls Try.prog 10 #[.int .i64 k, .slice a n c] w1 fun e w2 => e = .returned (.int .i64 0) ∧ w2 = w1) := hidMk (fun w1 hs => by
    have := refCheckJ (h.still hs) k
    rw [hz] at this
    exact this)
  have hzl := codeJ_zero hz
  have hl := h.1
  have hn6 : (n : Int) ≤ 6 := by omega
  clear h hz hzl hl
  by_cases h0 : i < 0
  · clear hi
    go_enter Try.func5, Try.ntmps5
    go_wp2_with (first | (go_at_call 14; refine (HC.out).mono ?_; rintro e w1 ⟨rfl, hk1⟩) | (go_at_call 10; refine (HR.out _ hk1).mono ?_; rintro e w2 ⟨rfl, hw⟩; obtain rfl := hw.symm))
    go_ret
    exact ⟨rfl, Stil.below hk1⟩
  · have h1 : (n : Int) ≤ i := by omega
    have h0' : 0 ≤ i := by omega
    clear hi
    go_enter Try.func5, Try.ntmps5
    go_wp2_with (first | (go_at_call 14; refine (HC.out).mono ?_; rintro e w1 ⟨rfl, hk1⟩) | (go_at_call 10; refine (HR.out _ hk1).mono ?_; rintro e w2 ⟨rfl, hw⟩; obtain rfl := hw.symm))
    go_ret
    exact ⟨rfl, Stil.below hk1⟩
set_option maxRecDepth 100000 in
set_option maxHeartbeats 4000000 in
theorem smoves_hold {W : World} {a : Option Addr} {n c : Nat} {s : Nat → Int} {k : Int} (h : RowI W a n c (rwJ n s)) (h2 : 2 ≤ n) (h6 : n ≤ 6) (k2 : 2 ≤ k) (k3 : k ≤ 1000) (hv : OkJ k n s) {i : Nat} (hi : i < n) (hf : frJ n s i = false) :
    Calls Try.prog 5 #[.int .i64 k, .slice a n c, .int .i64 (i : Int)] W fun e W2 => e = .returned (.bool true) ∧ Below W.heap.size W W2 := by
  have HC := hidMk (move_hold h h2 h6 k2 k3 hv hi hf)
  have HR : Hid (∀ w1, Stil W w1 → Calls Try.prog 10 #[.int .i64 k, .slice a n c] w1 fun e w2 => e = .returned (.int .i64 0) ∧ w2 = w1) := hidMk (fun w1 hs => by
    have := refCheckJ (h.still hs) k
    rw [codeJ_ok h2 h6 k2 k3 hv] at this
    exact this)
  have HF : Hid (∀ w1, Stil W w1 → Calls Try.prog 12 #[.slice a n c, .int .i64 (i : Int)] w1 fun e w2 => e = .returned (.bool false) ∧ Stil w1 w2) := hidMk (fun w1 hs => by
    have := refFree_any (h.still hs) h2 h6 hi
    rw [hf] at this
    exact this)
  have hn6 : (n : Int) ≤ 6 := by omega
  have hi' : (i : Int) < (n : Int) := by omega
  clear h hv hf
  go_enter Try.func5, Try.ntmps5
  go_wp2_with (first | (go_at_call 14; refine (HC.out).mono ?_; rintro e w1 ⟨rfl, hk1⟩) | (go_at_call 10; refine (HR.out _ hk1).mono ?_; rintro e w2 ⟨rfl, hw⟩; obtain rfl := hw.symm) | (go_at_call 12; refine (HF.out _ hk1).mono ?_; rintro e w3 ⟨rfl, hk3⟩))
  go_ret
  exact ⟨rfl, Stil.below (hk1.tr hk3)⟩
set_option maxRecDepth 100000 in
set_option maxHeartbeats 4000000 in
theorem smoves_ok {W : World} {a : Option Addr} {n c : Nat} {s : Nat → Int} {k : Int} (h : RowI W a n c (rwJ n s)) (h2 : 2 ≤ n) (h6 : n ≤ 6) (k2 : 2 ≤ k) (k3 : k ≤ 1000) (hv : OkJ k n s) {i : Nat} (hi : i < n) (hf : frJ n s i = true) :
    Calls Try.prog 5 #[.int .i64 k, .slice a n c, .int .i64 (i : Int)] W fun e W2 => e = .returned (.bool true) ∧ Below W.heap.size W W2 := by
  have HC := hidMk (move_ok h h2 h6 k2 k3 hv hi hf)
  have HR : Hid (∀ w1, Stil W w1 → Calls Try.prog 10 #[.int .i64 k, .slice a n c] w1 fun e w2 => e = .returned (.int .i64 0) ∧ w2 = w1) := hidMk (fun w1 hs => by
    have := refCheckJ (h.still hs) k
    rw [codeJ_ok h2 h6 k2 k3 hv] at this
    exact this)
  have HF : Hid (∀ w1, Stil W w1 → Calls Try.prog 12 #[.slice a n c, .int .i64 (i : Int)] w1 fun e w2 => e = .returned (.bool true) ∧ Stil w1 w2) := hidMk (fun w1 hs => by
    have := refFree_any (h.still hs) h2 h6 hi
    rw [hf] at this
    exact this)
  have HM : Hid (∀ w1, Stil W w1 → Calls Try.prog 15 #[.int .i64 k, .slice a n c, .int .i64 (i : Int)] w1 fun e w2 => ∃ a2 c2, e = .returned (.slice a2 n c2) ∧ RowI w2 a2 n c2 (rwJ n (mvJ k s i)) ∧ Stil w1 w2) := hidMk (fun w1 hs => refMoved_any (h.still hs) h2 h6 k2 k3 hv hi)
  have hn6 : (n : Int) ≤ 6 := by omega
  have hi' : (i : Int) < (n : Int) := by omega
  clear h hv hf
  go_enter Try.func5, Try.ntmps5
  go_wp2_with (first | (go_at_call 14; refine (HC.out).mono ?_; rintro e w1 ⟨a2, c2, rfl, hr1, hk1⟩; have HR1 := hidMk hr1; clear hr1) | (go_at_call 10; refine (HR.out _ hk1).mono ?_; rintro e w2 ⟨rfl, hw⟩; obtain rfl := hw.symm) | (go_at_call 12; refine (HF.out _ hk1).mono ?_; rintro e w3 ⟨rfl, hk3⟩) | (go_at_call 15; refine (HM.out _ (hk1.tr hk3)).mono ?_; rintro e w4 ⟨a4, c4, rfl, hr4, hk4⟩; have HR4 := hidMk hr4; clear hr4) | (go_at_call 13; refine (intsI_same ((HR1.out.still hk3).still hk4) HR4.out (by omega)).mono ?_; rintro e w5 ⟨rfl, q, hw5⟩; have HW5 := hidMk hw5; clear hw5))
  go_ret
  refine ⟨rfl, Stil.below ?_⟩
  rw [HW5.out]
  exact Keep.drewN ((hk1.tr hk3).tr hk4) q
theorem smoves_walk {W : World} {a : Option Addr} {n c : Nat} {zs : List Int} (k : Int) (h : CameI W a n c zs) (i : Int) :
    Calls Try.prog 5 #[.int .i64 k, .slice a n c, .int .i64 i] W fun e W2 => e = .returned (.bool true) ∧ Below W.heap.size W W2 := by
  by_cases hz : codeJ k zs = 0
  · by_cases hi : i < 0 ∨ (n : Int) ≤ i
    · exact smoves_arg h hz i hi
    · obtain ⟨s, _, h1, h2, h3, h4, h5, h6⟩ := stJ h hz
      obtain ⟨m, rfl⟩ : ∃ m : Nat, i = (m : Int) := ⟨i.toNat, by omega⟩
      cases hf : frJ n s m
      · exact smoves_hold h1 h2 h3 h4 h5 h6 (by omega) hf
      · exact smoves_ok h1 h2 h3 h4 h5 h6 (by omega) hf
  · exact smoves_bad h hz i
end Go.Proofs.Ytflmbhjighnicaa
