/- Machines in a ring: Free and Move, and where their answers lie. -/
import Derived.Test.YtflmbhjighnicaaJa6
namespace Go.Proofs.Ytflmbhjighnicaa
open Go.RowKit
set_option linter.unusedVariables false

def CopyF (w w5 : World) (g off n cap : Nat) (k : Int) (s : Nat → Int) (i : Nat) : Prop := CopyJ w w5 g off n cap k s i ∧ w.heap.size ≤ g
theorem copy_movef {w w1 w5 : World} {v : Value} {n : Nat} {k : Int} {s : Nat → Int} {i : Nat} (hi : i < n) (h0 : Stil w w1) (hs : Seg w5 (fun g => w1.heap.size ≤ g) 3 1 v n (intsJ (rwJ n s))) (hk : Stil w1 w5) :
    ∃ g off cap, v = .slice (some ⟨g, off, none⟩) n cap ∧ n ≤ cap ∧ w5.cell? ⟨g, off + i, none⟩ = some (.int .i64 (s i)) ∧ w5.frozen? ⟨g, off + i, none⟩ = false ∧ CopyF w w5 g off n cap k s i := by
  obtain ⟨g, off, cap, e, h1, h2, h3, h4⟩ := copy_move (k := k) hi h0 hs hk
  have := (hs.block (k := g) (by rw [e]; rfl)).1
  exact ⟨g, off, cap, e, h1, h2, h3, h4, by have := h0.size; omega⟩

set_option maxRecDepth 100000 in
set_option maxHeartbeats 8000000 in
theorem free_okf {w : World} {a : Option Addr} {n c : Nat} {s : Nat → Int} {k : Int} (h : RowI w a n c (rwJ n s)) (h2 : 2 ≤ n) (h6 : n ≤ 6) (k2 : 2 ≤ k) (k3 : k ≤ 1000) (hv : OkJ k n s) :
    Calls Try.prog 11 #[.int .i64 k, .slice a n c] w fun e w2 => ∃ a2 c2, e = .returned (.tuple #[.slice a2 (frL n s n).length c2, .int .i64 0]) ∧ RowI w2 a2 (frL n s n).length c2 (natsI (frL n s n)) ∧ Stil w w2 ∧ ∀ x, a2 = some x → w.heap.size ≤ x.block := by
  have HC : Hid (Calls Try.prog 9 #[.int .i64 k, .slice a n c] w fun e w2 => e = .returned (.int .i64 0) ∧ Stil w w2) := by
    have := check_any h k
    rw [codeJ_ok h2 h6 k2 k3 hv] at this
    exact this
  have HA : Hid (∀ w1, Stil w w1 → Calls Try.prog 21 #[.slice a n c] w1 fun e w2 => Stil w1 w2 ∧ ∃ B1 B2, e = .returned (.func (.func 26) #[] #[.pointer (some ⟨B1, 0, none⟩), .pointer (some ⟨B2, 0, none⟩)]) ∧
      w2.cell? ⟨B1, 0, none⟩ = some (.slice a n c) ∧ w2.cell? ⟨B2, 0, none⟩ = some (.int .i64 (s (n - 1)))) := hidMk (fun w1 hs => freeAmong_any (h.still hs) h2 h6)
  have HR := hidMk h
  have hn6 : (n : Int) ≤ 6 := by omega
  obtain ⟨i0, hit, hz0, hz1, hz2⟩ := info_parts cInfoInt
  clear h hv k2 k3
  go_enter Try.func11, Try.ntmps11
  go_wp2_with (first | (go_at_call 9; refine (HC.out).mono ?_; rintro e w1 ⟨rfl, hk1⟩) | (go_at_call 21; refine (HA.out _ hk1).mono ?_; rintro e w2 ⟨hk2, B1, B2, rfl, b1, b2⟩))
  have HK := hidMk (hk1.tr hk2)
  have HB1 := hidMk b1
  have HB2 := hidMk b2
  clear hk1 hk2 b1 b2 HC HA
  go_loopw [8, 20] (fun v u wr => ∃ k : Nat, k ≤ n ∧ u = .int .i64 (k : Int) ∧ Hid (Seg wr (fun g => w2.heap.size ≤ g) 3 1 v (frL n s k).length (natsL (frL n s k))) ∧ Hid (Stil w2 wr)) (fun _ u _ => n - (intOf u).toNat)
  case atStart => exact ⟨0, Nat.zero_le _, rfl, Seg.nil _ _ _ _, Keep.refl _ _⟩
  case round =>
    obtain ⟨k, hk, rfl, HG, HS⟩ := hrel
    obtain ⟨sa, scp, hv⟩ := segForm HG.out
    subst hv
    by_cases hlt : k < n
    · have hlt' : (k : Int) < (n : Int) := by omega
      have hle := frL_le n s k
      have HE : Hid (frL n s (k + 1) = if frJ n s k = true then frL n s k ++ [k] else frL n s k) := frL_succ n s k
      have HF := hidMk (freeFn_any ((HR.out.still HK.out).still HS.out) h2 h6 (HS.out.cell HB1.out) (HS.out.cell HB2.out) hlt)
      generalize hsl : (frL n s k).length = sl at *
      cases hf : frJ n s k
      · rw [hf] at HF HE
        have HE2 : Hid (frL n s (k + 1) = frL n s k) := by show _ = _; rw [HE.out]; rfl
        clear HE hf
        go_wp2_with (refine (HF.out).mono ?_; rintro e w3 ⟨rfl, hk3⟩)
        go_roundw
        case rel => exact ⟨k + 1, by omega, by go_num, hidMk (by rw [HE2.out, hsl]; exact HG.out.keep hk3 (fun _ _ _ e => e)), HS.out.tr hk3⟩
        case measure => simp [intOf]; omega
      · rw [hf] at HF HE
        have HE2 : Hid (frL n s (k + 1) = frL n s k ++ [k]) := by show _ = _; rw [HE.out]; rfl
        clear HE hf
        go_wp2_with (first | (refine (HF.out).mono ?_; rintro e w3 ⟨rfl, hk3⟩; have HK3 := hidMk hk3; have hG3 : Hid (Seg w3 (fun g => w2.heap.size ≤ g) 3 1 (.slice sa sl scp) sl (natsL (frL n s k))) := HG.out.keep hk3 (fun _ _ _ e => e); clear hk3) | (at_builtin; refine wpList_append_seg _ rfl _ _ 22 rfl 3 i0 (.int .i64 0) 1 8 Try.underlying22 hit hz0 hz1 hz2 rfl (by decide) _ _ _ rfl (segAlloc hG3.out _) ⟨_, 0, none⟩ 1 1 [.int .i64 (k : Int)] rfl rfl (cCell1 _ _ _ _ (by simp)) (cOne _) (by unfold maxLen; omega) (by omega) ?_))
        intro v9 w9 hs9 hg9
        have HN : Hid (w2.heap.size ≤ w3.heap.size) := (HS.out.tr HK3.out).size
        have HG9 : Hid (Seg w9 (fun g => w2.heap.size ≤ g) 3 1 v9 (frL n s (k + 1)).length (natsL (frL n s (k + 1)))) := by
          show Seg _ _ _ _ _ _ _
          rw [HE2.out, List.length_append, hsl]
          have e : natsL (frL n s k ++ [k]) = natsL (frL n s k) ++ [.int .i64 (k : Int)] := by simp [natsL]
          rw [e]
          refine hs9.mono (fun g _ h => ?_)
          rcases h with ⟨_, h⟩ | h
          · exact h
          · have h9 := HN.out; rw [h]; omega
        have HS9 : Hid (Stil w2 w9) := ((HS.out.tr HK3.out).alloc _).grown hg9 (fun g e hg => by
          have := (hG3.out.block e).1
          omega)
        obtain ⟨sa3, sc3, hv3⟩ := segForm hs9
        subst hv3
        clear hs9 hg9 HG HS hG3 HK3
        go_wp2
        go_roundw
        case rel => exact ⟨k + 1, by omega, by go_num, HG9, HS9⟩
        case measure => simp [intOf]; omega
    · obtain rfl : k = n := by omega
      have hsr := hidMk (seg_row HG.out)
      go_wp2
      go_ret2
      exact ⟨sa, scp, rfl, hsr.out, HK.out.tr HS.out, fun x e => Nat.le_trans HK.out.size (HG.out.block (k := x.block) (by rw [e]; rfl)).1⟩

set_option maxRecDepth 100000 in
set_option maxHeartbeats 8000000 in
theorem move_okf {w : World} {a : Option Addr} {n c : Nat} {s : Nat → Int} {k : Int} (h : RowI w a n c (rwJ n s)) (h2 : 2 ≤ n) (h6 : n ≤ 6) (k2 : 2 ≤ k) (k3 : k ≤ 1000) (hv : OkJ k n s) {i : Nat} (hi : i < n) (hf : frJ n s i = true) :
    Calls Try.prog 14 #[.int .i64 k, .slice a n c, .int .i64 (i : Int)] w fun e w2 => ∃ a2 c2, e = .returned (.tuple #[.slice a2 n c2, .int .i64 0]) ∧ RowI w2 a2 n c2 (rwJ n (mvJ k s i)) ∧ Stil w w2 ∧ ∀ x, a2 = some x → w.heap.size ≤ x.block := by
  have HC : Hid (Calls Try.prog 9 #[.int .i64 k, .slice a n c] w fun e w2 => e = .returned (.int .i64 0) ∧ Stil w w2) := by
    have := check_any h k
    rw [codeJ_ok h2 h6 k2 k3 hv] at this
    exact this
  have HA : Hid (∀ w1, Stil w w1 → Calls Try.prog 21 #[.slice a n c] w1 fun e w2 => Stil w1 w2 ∧ ∃ B1 B2, e = .returned (.func (.func 26) #[] #[.pointer (some ⟨B1, 0, none⟩), .pointer (some ⟨B2, 0, none⟩)]) ∧
      w2.cell? ⟨B1, 0, none⟩ = some (.slice a n c) ∧ w2.cell? ⟨B2, 0, none⟩ = some (.int .i64 (s (n - 1)))) := hidMk (fun w1 hs => freeAmong_any (h.still hs) h2 h6)
  have HR := hidMk h
  have hn6 : (n : Int) ≤ 6 := by omega
  have hi' : (i : Int) < (n : Int) := by omega
  have HI := hidMk hi
  have HF0 := hidMk hf
  have hcap : n ≤ c := h.2.1
  obtain ⟨b, off, rfl, hb, hc⟩ := rowJ_cells h (by omega)
  by_cases h0 : i = 0
  · subst h0
    have d0 := hc 0 hi
    obtain ⟨z0, z1⟩ := hv 0 hi
    have em : mvJ k s 0 0 = if s 0 + 1 = k then 0 else s 0 + 1 := by simp [mvJ]
    have HD : Hid (w.cell? ⟨b, off + 0, none⟩ = some (.int .i64 (s 0))) := d0
    obtain ⟨y, hy⟩ : ∃ y, y = mvJ k s 0 0 := ⟨_, rfl⟩
    have HY := hidMk hy
    rw [em] at hy
    have y0 : 0 ≤ y ∧ y < k := by split at hy <;> omega
    have hmod2 : (s 0 + 1) % k = y := by
      split at hy
      · rename_i e; rw [e, hy, Int.emod_self]
      · rw [hy]; exact Int.emod_eq_of_lt (by omega) (by omega)
    have hmod : (s 0 + 1).tmod k = y := by rw [Int.tmod_eq_emod_of_nonneg (by omega)]; exact hmod2
    have hwr : IntKind.i64.wrap (s 0 + 1) = s 0 + 1 := wrapJ ⟨by omega, by omega⟩
    have hwy : IntKind.i64.wrap y = y := wrapJ ⟨by omega, by omega⟩
    have hk0 : (k == 0) = false := by simp; omega
    have q2 : 0 < n := by omega
    clear h hv hf hi hc d0 em hy
    generalize hz : s 0 = z at *
    have HZ := hidMk hz
    clear hz
    go_enter Try.func14, Try.ntmps14
    go_wp2_with (first | (go_at_call 9; refine (HC.out).mono ?_; rintro e w1 ⟨rfl, hk1⟩) | (go_at_call 21; refine (HA.out _ hk1).mono ?_; rintro e w2 ⟨hk2, B1, B2, rfl, b1, b2⟩) | (have hF := freeFn_any (HR.out.still (hk1.tr hk2)) h2 h6 b1 b2 HI.out; rw [HF0.out] at hF; refine hF.mono ?_; rintro e w3 ⟨rfl, hk3⟩; have HK3 : Hid (Stil w w3) := hidMk ((hk1.tr hk2).tr hk3); clear hF) | (go_at_call 22; refine (clone_any (HR.out.still HK3.out) (by omega) (by omega)).mono ?_; rintro e w5 ⟨v5, rfl, hs5, hk5⟩; obtain ⟨g, o5, cap, rfl, hcp, hc5, hf5, hcopy⟩ := copy_movef (k := k) HI.out HK3.out hs5 hk5; have d5 := (HK3.out.tr hk5).cell HD.out; rw [HZ.out] at hc5; rw [Nat.add_zero] at hc5 hf5 d5; clear hs5 hk5; unfold CopyF CopyJ at hcopy; rw [← HY.out, Nat.add_zero] at hcopy; have HCO := hidMk hcopy; clear hcopy))
    go_ret2
    exact ⟨_, _, rfl, HCO.out.1.1, HCO.out.1.2, fun x e => by cases e; exact HCO.out.2⟩
  · obtain ⟨j, rfl⟩ : ∃ j, i = j + 1 := ⟨i - 1, by omega⟩
    have d0 := hc j (by omega)
    have em : mvJ k s (j + 1) (j + 1) = s j := by simp [mvJ]
    have HY := hidMk em
    clear em h hv hf hc hi'
    generalize hz : s j = z at *
    have HD : Hid (w.cell? ⟨b, off + j, none⟩ = some (.int .i64 z)) := d0
    clear hz d0 h0
    have hj : j = 0 ∨ j = 1 ∨ j = 2 ∨ j = 3 ∨ j = 4 := by omega
    rcases hj with rfl | rfl | rfl | rfl | rfl
    · have q1 : (1 : Int) < (n : Int) := by omega
      have q2 : 1 < n := by omega
      have q3 : (0 : Int) < (n : Int) := by omega
      have q4 : 0 < n := by omega
      have q5 : IntKind.i64.wrap 0 = 0 := by decide
      have q6 : decide ((n : Int) ≤ 1) = false := by simp; omega
      clear hi
      go_enter Try.func14, Try.ntmps14
      go_wp2_with (first | (go_at_call 9; refine (HC.out).mono ?_; rintro e w1 ⟨rfl, hk1⟩) | (go_at_call 21; refine (HA.out _ hk1).mono ?_; rintro e w2 ⟨hk2, B1, B2, rfl, b1, b2⟩) | (have hF := freeFn_any (HR.out.still (hk1.tr hk2)) h2 h6 b1 b2 HI.out; rw [HF0.out] at hF; refine hF.mono ?_; rintro e w3 ⟨rfl, hk3⟩; have HK3 : Hid (Stil w w3) := hidMk ((hk1.tr hk2).tr hk3); clear hF) | (go_at_call 22; refine (clone_any (HR.out.still HK3.out) (by omega) (by omega)).mono ?_; rintro e w5 ⟨v5, rfl, hs5, hk5⟩; obtain ⟨g, o5, cap, rfl, hcp, hc5, hf5, hcopy⟩ := copy_movef (k := k) HI.out HK3.out hs5 hk5; have d5 := (HK3.out.tr hk5).cell HD.out; rw [Nat.add_zero] at d5; have r1 : 1 < cap := (by omega); have r2 : (1 : Int) < (cap : Int) := (by omega); clear hs5 hk5; unfold CopyF CopyJ at hcopy; rw [HY.out] at hcopy; have HCO := hidMk hcopy; clear hcopy))
      go_ret2
      exact ⟨_, _, rfl, HCO.out.1.1, HCO.out.1.2, fun x e => by cases e; exact HCO.out.2⟩
    · have q1 : (2 : Int) < (n : Int) := by omega
      have q2 : 2 < n := by omega
      have q3 : (1 : Int) < (n : Int) := by omega
      have q4 : 1 < n := by omega
      have q5 : IntKind.i64.wrap 1 = 1 := by decide
      have q6 : decide ((n : Int) ≤ 2) = false := by simp; omega
      clear hi
      go_enter Try.func14, Try.ntmps14
      go_wp2_with (first | (go_at_call 9; refine (HC.out).mono ?_; rintro e w1 ⟨rfl, hk1⟩) | (go_at_call 21; refine (HA.out _ hk1).mono ?_; rintro e w2 ⟨hk2, B1, B2, rfl, b1, b2⟩) | (have hF := freeFn_any (HR.out.still (hk1.tr hk2)) h2 h6 b1 b2 HI.out; rw [HF0.out] at hF; refine hF.mono ?_; rintro e w3 ⟨rfl, hk3⟩; have HK3 : Hid (Stil w w3) := hidMk ((hk1.tr hk2).tr hk3); clear hF) | (go_at_call 22; refine (clone_any (HR.out.still HK3.out) (by omega) (by omega)).mono ?_; rintro e w5 ⟨v5, rfl, hs5, hk5⟩; obtain ⟨g, o5, cap, rfl, hcp, hc5, hf5, hcopy⟩ := copy_movef (k := k) HI.out HK3.out hs5 hk5; have d5 := (HK3.out.tr hk5).cell HD.out;  have r1 : 2 < cap := (by omega); have r2 : (2 : Int) < (cap : Int) := (by omega); clear hs5 hk5; unfold CopyF CopyJ at hcopy; rw [HY.out] at hcopy; have HCO := hidMk hcopy; clear hcopy))
      go_ret2
      exact ⟨_, _, rfl, HCO.out.1.1, HCO.out.1.2, fun x e => by cases e; exact HCO.out.2⟩
    · have q1 : (3 : Int) < (n : Int) := by omega
      have q2 : 3 < n := by omega
      have q3 : (2 : Int) < (n : Int) := by omega
      have q4 : 2 < n := by omega
      have q5 : IntKind.i64.wrap 2 = 2 := by decide
      have q6 : decide ((n : Int) ≤ 3) = false := by simp; omega
      clear hi
      go_enter Try.func14, Try.ntmps14
      go_wp2_with (first | (go_at_call 9; refine (HC.out).mono ?_; rintro e w1 ⟨rfl, hk1⟩) | (go_at_call 21; refine (HA.out _ hk1).mono ?_; rintro e w2 ⟨hk2, B1, B2, rfl, b1, b2⟩) | (have hF := freeFn_any (HR.out.still (hk1.tr hk2)) h2 h6 b1 b2 HI.out; rw [HF0.out] at hF; refine hF.mono ?_; rintro e w3 ⟨rfl, hk3⟩; have HK3 : Hid (Stil w w3) := hidMk ((hk1.tr hk2).tr hk3); clear hF) | (go_at_call 22; refine (clone_any (HR.out.still HK3.out) (by omega) (by omega)).mono ?_; rintro e w5 ⟨v5, rfl, hs5, hk5⟩; obtain ⟨g, o5, cap, rfl, hcp, hc5, hf5, hcopy⟩ := copy_movef (k := k) HI.out HK3.out hs5 hk5; have d5 := (HK3.out.tr hk5).cell HD.out;  have r1 : 3 < cap := (by omega); have r2 : (3 : Int) < (cap : Int) := (by omega); clear hs5 hk5; unfold CopyF CopyJ at hcopy; rw [HY.out] at hcopy; have HCO := hidMk hcopy; clear hcopy))
      go_ret2
      exact ⟨_, _, rfl, HCO.out.1.1, HCO.out.1.2, fun x e => by cases e; exact HCO.out.2⟩
    · have q1 : (4 : Int) < (n : Int) := by omega
      have q2 : 4 < n := by omega
      have q3 : (3 : Int) < (n : Int) := by omega
      have q4 : 3 < n := by omega
      have q5 : IntKind.i64.wrap 3 = 3 := by decide
      have q6 : decide ((n : Int) ≤ 4) = false := by simp; omega
      clear hi
      go_enter Try.func14, Try.ntmps14
      go_wp2_with (first | (go_at_call 9; refine (HC.out).mono ?_; rintro e w1 ⟨rfl, hk1⟩) | (go_at_call 21; refine (HA.out _ hk1).mono ?_; rintro e w2 ⟨hk2, B1, B2, rfl, b1, b2⟩) | (have hF := freeFn_any (HR.out.still (hk1.tr hk2)) h2 h6 b1 b2 HI.out; rw [HF0.out] at hF; refine hF.mono ?_; rintro e w3 ⟨rfl, hk3⟩; have HK3 : Hid (Stil w w3) := hidMk ((hk1.tr hk2).tr hk3); clear hF) | (go_at_call 22; refine (clone_any (HR.out.still HK3.out) (by omega) (by omega)).mono ?_; rintro e w5 ⟨v5, rfl, hs5, hk5⟩; obtain ⟨g, o5, cap, rfl, hcp, hc5, hf5, hcopy⟩ := copy_movef (k := k) HI.out HK3.out hs5 hk5; have d5 := (HK3.out.tr hk5).cell HD.out;  have r1 : 4 < cap := (by omega); have r2 : (4 : Int) < (cap : Int) := (by omega); clear hs5 hk5; unfold CopyF CopyJ at hcopy; rw [HY.out] at hcopy; have HCO := hidMk hcopy; clear hcopy))
      go_ret2
      exact ⟨_, _, rfl, HCO.out.1.1, HCO.out.1.2, fun x e => by cases e; exact HCO.out.2⟩
    · have q1 : (5 : Int) < (n : Int) := by omega
      have q2 : 5 < n := by omega
      have q3 : (4 : Int) < (n : Int) := by omega
      have q4 : 4 < n := by omega
      have q5 : IntKind.i64.wrap 4 = 4 := by decide
      have q6 : decide ((n : Int) ≤ 5) = false := by simp; omega
      clear hi
      go_enter Try.func14, Try.ntmps14
      go_wp2_with (first | (go_at_call 9; refine (HC.out).mono ?_; rintro e w1 ⟨rfl, hk1⟩) | (go_at_call 21; refine (HA.out _ hk1).mono ?_; rintro e w2 ⟨hk2, B1, B2, rfl, b1, b2⟩) | (have hF := freeFn_any (HR.out.still (hk1.tr hk2)) h2 h6 b1 b2 HI.out; rw [HF0.out] at hF; refine hF.mono ?_; rintro e w3 ⟨rfl, hk3⟩; have HK3 : Hid (Stil w w3) := hidMk ((hk1.tr hk2).tr hk3); clear hF) | (go_at_call 22; refine (clone_any (HR.out.still HK3.out) (by omega) (by omega)).mono ?_; rintro e w5 ⟨v5, rfl, hs5, hk5⟩; obtain ⟨g, o5, cap, rfl, hcp, hc5, hf5, hcopy⟩ := copy_movef (k := k) HI.out HK3.out hs5 hk5; have d5 := (HK3.out.tr hk5).cell HD.out;  have r1 : 5 < cap := (by omega); have r2 : (5 : Int) < (cap : Int) := (by omega); clear hs5 hk5; unfold CopyF CopyJ at hcopy; rw [HY.out] at hcopy; have HCO := hidMk hcopy; clear hcopy))
      go_ret2
      exact ⟨_, _, rfl, HCO.out.1.1, HCO.out.1.2, fun x e => by cases e; exact HCO.out.2⟩
end Go.Proofs.Ytflmbhjighnicaa
