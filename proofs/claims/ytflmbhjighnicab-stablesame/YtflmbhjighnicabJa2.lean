/- Machines in a ring: who is free. -/
import Derived.Test.YtflmbhjighnicabJa1
namespace Go.Proofs.Ytflmbhjighnicab
open Go.RowKit
set_option linter.unusedVariables false

theorem rowJ_cells {w : World} {a : Option Addr} {n c : Nat} {s : Nat → Int} (h : RowI w a n c (rwJ n s)) (hn : 0 < n) :
    ∃ b off, a = some ⟨b, off, none⟩ ∧ b < w.heap.size ∧ ∀ i, i < n → w.cell? ⟨b, off + i, none⟩ = some (.int .i64 (s i)) := by
  obtain ⟨_, _, _, h4⟩ := h
  rcases h4 with h4 | ⟨b, off, e, hb, hc⟩
  · omega
  · exact ⟨b, off, e, hb, fun i hi => hc i _ (rwJ_at hi)⟩
theorem frL_succ (n : Nat) (s : Nat → Int) (k : Nat) : frL n s (k + 1) = if frJ n s k = true then frL n s k ++ [k] else frL n s k := by
  unfold frL
  rw [List.range_succ, List.filter_append]
  by_cases h : frJ n s k = true
  · rw [if_pos h]; simp [h]
  · rw [if_neg h]; simp [h]
theorem frL_le (n : Nat) (s : Nat → Int) (k : Nat) : (frL n s k).length ≤ k := by
  unfold frL
  exact Nat.le_trans (List.length_filter_le _ _) (by simp)

theorem cellNewJ (W : World) (v : Value) (e : TypeId) {g : Nat} (hg : g = W.heap.size) : (W.alloc (.cells #[v] e)).cell? ⟨g, 0, none⟩ = some v := by
  subst hg
  rw [cell_of_row _ _ _ _ _ _ (al_new W _)]; rfl

set_option maxRecDepth 100000 in
set_option maxHeartbeats 4000000 in
theorem freeAmong_any {w : World} {a : Option Addr} {n c : Nat} {s : Nat → Int} (h : RowI w a n c (rwJ n s)) (h2 : 2 ≤ n) (h6 : n ≤ 6) :
    Calls Try.prog 7 #[.slice a n c] w fun e w2 => Stil w w2 ∧ ∃ B1 B2, e = .returned (.func (.func 11) #[] #[.pointer (some ⟨B1, 0, none⟩), .pointer (some ⟨B2, 0, none⟩)]) ∧
      w2.cell? ⟨B1, 0, none⟩ = some (.slice a n c) ∧ w2.cell? ⟨B2, 0, none⟩ = some (.int .i64 (s (n - 1))) := by
  obtain ⟨b, off, rfl, hb, hc⟩ := rowJ_cells h (by omega)
  have hcap : n ≤ c := h.2.1
  clear h
  obtain ⟨m, rfl⟩ : ∃ m, n = m + 1 := ⟨n - 1, by omega⟩
  have d0 := hc m (by omega)
  have d1 : (w.alloc (.cells #[.slice (some ⟨b, off, none⟩) (m + 1) c] 22)).cell? ⟨b, off + m, none⟩ = some (.int .i64 (s m)) := (Stil.new w _).cell d0
  have hm6 : (m : Int) ≤ 5 := by omega
  have hx : (((m + 1 : Nat) : Int) - 1) = (m : Int) := by omega
  clear hc d0
  simp only [Nat.add_sub_cancel]
  have hK : Hid (Stil w ((w.alloc (.cells #[.slice (some ⟨b, off, none⟩) (m + 1) c] 22)).alloc (.cells #[.int .i64 (s m)] 3))) := (Stil.new w _).alloc _
  generalize s m = z at *
  go_enter Try.func7, Try.ntmps7
  go_wp2
  go_ret
  exact ⟨hK.out, w.heap.size, w.heap.size + 1, rfl, (Stil.new _ _).cell (cellNewJ w _ _ rfl), cellNewJ _ _ _ (by simp)⟩

set_option maxRecDepth 100000 in
set_option maxHeartbeats 4000000 in
theorem freeFn_any {w : World} {a : Option Addr} {n c B1 B2 : Nat} {s : Nat → Int} (h : RowI w a n c (rwJ n s)) (h2 : 2 ≤ n) (h6 : n ≤ 6) (b1 : w.cell? ⟨B1, 0, none⟩ = some (.slice a n c)) (b2 : w.cell? ⟨B2, 0, none⟩ = some (.int .i64 (s (n - 1)))) {i : Nat} (hi : i < n) :
    Calls Try.prog 11 #[.int .i64 (i : Int), .pointer (some ⟨B1, 0, none⟩), .pointer (some ⟨B2, 0, none⟩)] w fun e w2 => e = .returned (.bool (frJ n s i)) ∧ Stil w w2 := by
  obtain ⟨b, off, rfl, hb, hc⟩ := rowJ_cells h (by omega)
  have hcap : n ≤ c := h.2.1
  clear h
  have hn6 : (n : Int) ≤ 6 := by omega
  have hn2 : (2 : Int) ≤ (n : Int) := by omega
  by_cases h0 : i = 0
  · subst h0
    have d0 := hc 0 hi
    rw [Nat.add_zero] at d0
    have e : frJ n s 0 = (s 0 == s (n - 1)) := by simp [frJ]
    rw [e]
    clear hc e
    generalize s 0 = z0 at *
    generalize s (n - 1) = z1 at *
    go_enter Try.func11, Try.ntmps11
    go_wp2
    go_quiet (fail)
    go_wp2
    go_ret
    exact ⟨rfl, Stil.drewN _ _⟩
  · have d0 := hc i hi
    have d1 := hc (i - 1) (by omega)
    have e : frJ n s i = (s i != s (i - 1)) := by simp [frJ, h0]
    rw [e]
    have hi' : (i : Int) < (n : Int) := by omega
    clear hc e b2
    obtain ⟨j, rfl⟩ : ∃ j, i = j + 1 := ⟨i - 1, by omega⟩
    simp only [Nat.add_sub_cancel] at d1 ⊢
    generalize s (j + 1) = z0 at *
    generalize s j = z1 at *
    have hj : j = 0 ∨ j = 1 ∨ j = 2 ∨ j = 3 ∨ j = 4 := by omega
    rcases hj with rfl | rfl | rfl | rfl | rfl
    · have q1 : (1 : Int) < (n : Int) := by omega
      have q2 : 1 < n := by omega
      have q3 : (0 : Int) < (n : Int) := by omega
      have q4 : 0 < n := by omega
      have q5 : IntKind.i64.wrap 0 = 0 := by decide
      rw [Nat.add_zero] at d1
      clear h0 hi hi'
      go_enter Try.func11, Try.ntmps11
      go_wp2
      go_quiet (fail)
      go_wp2
      go_ret
      exact ⟨rfl, Stil.drewN _ _⟩
    · have q1 : (2 : Int) < (n : Int) := by omega
      have q2 : 2 < n := by omega
      have q3 : (1 : Int) < (n : Int) := by omega
      have q4 : 1 < n := by omega
      have q5 : IntKind.i64.wrap 1 = 1 := by decide
      clear h0 hi hi'
      go_enter Try.func11, Try.ntmps11
      go_wp2
      go_quiet (fail)
      go_wp2
      go_ret
      exact ⟨rfl, Stil.drewN _ _⟩
    · have q1 : (3 : Int) < (n : Int) := by omega
      have q2 : 3 < n := by omega
      have q3 : (2 : Int) < (n : Int) := by omega
      have q4 : 2 < n := by omega
      have q5 : IntKind.i64.wrap 2 = 2 := by decide
      clear h0 hi hi'
      go_enter Try.func11, Try.ntmps11
      go_wp2
      go_quiet (fail)
      go_wp2
      go_ret
      exact ⟨rfl, Stil.drewN _ _⟩
    · have q1 : (4 : Int) < (n : Int) := by omega
      have q2 : 4 < n := by omega
      have q3 : (3 : Int) < (n : Int) := by omega
      have q4 : 3 < n := by omega
      have q5 : IntKind.i64.wrap 3 = 3 := by decide
      clear h0 hi hi'
      go_enter Try.func11, Try.ntmps11
      go_wp2
      go_quiet (fail)
      go_wp2
      go_ret
      exact ⟨rfl, Stil.drewN _ _⟩
    · have q1 : (5 : Int) < (n : Int) := by omega
      have q2 : 5 < n := by omega
      have q3 : (4 : Int) < (n : Int) := by omega
      have q4 : 4 < n := by omega
      have q5 : IntKind.i64.wrap 4 = 4 := by decide
      clear h0 hi hi'
      go_enter Try.func11, Try.ntmps11
      go_wp2
      go_quiet (fail)
      go_wp2
      go_ret
      exact ⟨rfl, Stil.drewN _ _⟩

set_option maxRecDepth 100000 in
set_option maxHeartbeats 4000000 in
theorem free_bad {w : World} {a : Option Addr} {n c : Nat} {zs : List Int} {k : Int} (h : RowI w a n c zs) (hz : codeJ k zs ≠ 0) :
    Calls Try.prog 4 #[.int .i64 k, .slice a n c] w fun e w2 => e = .returned (.tuple #[.slice none 0 0, .int .i64 (codeJ k zs)]) ∧ Stil w w2 := by
  have HC := hidMk (check_any h k)
  generalize codeJ k zs = rc at *
  have q1 : (rc != 0) = true := by simpa using hz
  clear h hz
  go_enter Try.func4, Try.ntmps4
  go_wp2_with (go_at_call 6; refine (HC.out).mono ?_; rintro e w1 ⟨rfl, hk1⟩)
  go_ret2
  exact ⟨rfl, hk1⟩

set_option maxRecDepth 100000 in
set_option maxHeartbeats 8000000 in
theorem free_ok {w : World} {a : Option Addr} {n c : Nat} {s : Nat → Int} {k : Int} (h : RowI w a n c (rwJ n s)) (h2 : 2 ≤ n) (h6 : n ≤ 6) (k2 : 2 ≤ k) (k3 : k ≤ 1000) (hv : OkJ k n s) :
    Calls Try.prog 4 #[.int .i64 k, .slice a n c] w fun e w2 => ∃ a2 c2, e = .returned (.tuple #[.slice a2 (frL n s n).length c2, .int .i64 0]) ∧ RowI w2 a2 (frL n s n).length c2 (natsI (frL n s n)) ∧ Stil w w2 := by
  have HC : Hid (Calls Try.prog 6 #[.int .i64 k, .slice a n c] w fun e w2 => e = .returned (.int .i64 0) ∧ Stil w w2) := by
    have := check_any h k
    rw [codeJ_ok h2 h6 k2 k3 hv] at this
    exact this
  have HA : Hid (∀ w1, Stil w w1 → Calls Try.prog 7 #[.slice a n c] w1 fun e w2 => Stil w1 w2 ∧ ∃ B1 B2, e = .returned (.func (.func 11) #[] #[.pointer (some ⟨B1, 0, none⟩), .pointer (some ⟨B2, 0, none⟩)]) ∧
      w2.cell? ⟨B1, 0, none⟩ = some (.slice a n c) ∧ w2.cell? ⟨B2, 0, none⟩ = some (.int .i64 (s (n - 1)))) := hidMk (fun w1 hs => freeAmong_any (h.still hs) h2 h6)
  have HR := hidMk h
  have hn6 : (n : Int) ≤ 6 := by omega
  obtain ⟨i0, hit, hz0, hz1, hz2⟩ := info_parts cInfoInt
  clear h hv k2 k3
  go_enter Try.func4, Try.ntmps4
  go_wp2_with (first | (go_at_call 6; refine (HC.out).mono ?_; rintro e w1 ⟨rfl, hk1⟩) | (go_at_call 7; refine (HA.out _ hk1).mono ?_; rintro e w2 ⟨hk2, B1, B2, rfl, b1, b2⟩))
  have HK := hidMk (hk1.tr hk2)
  have HB1 := hidMk b1
  have HB2 := hidMk b2
  clear hk1 hk2 b1 b2 HC HA
  go_loopw [8, 20] (fun v u wr => ∃ k : Nat, k ≤ n ∧ u = .int .i64 (k : Int) ∧ Hid (Seg wr (fun g => w2.heap.size ≤ g) 3 1 v (frL n s k).length (natsL (frL n s k))) ∧ Hid (Stil w2 wr)) (fun _ u _ => n - (intOf u).toNat)
  case atStart => exact ⟨0, Nat.zero_le _, rfl, Seg.nil _ _ _ _, Keep.refl _ _⟩
  case round =>
    obtain ⟨k, hk, rfl, HG, HS⟩ := hrel
    obtain ⟨sa, scp, hv⟩ := segForm HG.out
    subst hv
    by_cases hlt : k < n
    · have hlt' : (k : Int) < (n : Int) := by omega
      have hle := frL_le n s k
      have HE : Hid (frL n s (k + 1) = if frJ n s k = true then frL n s k ++ [k] else frL n s k) := frL_succ n s k
      have HF := hidMk (freeFn_any ((HR.out.still HK.out).still HS.out) h2 h6 (HS.out.cell HB1.out) (HS.out.cell HB2.out) hlt)
      generalize hsl : (frL n s k).length = sl at *
      cases hf : frJ n s k
      · rw [hf] at HF HE
        have HE2 : Hid (frL n s (k + 1) = frL n s k) := by show _ = _; rw [HE.out]; rfl
        clear HE hf
        go_wp2_with (refine (HF.out).mono ?_; rintro e w3 ⟨rfl, hk3⟩)
        go_roundw
        case rel => exact ⟨k + 1, by omega, by go_num, hidMk (by rw [HE2.out, hsl]; exact HG.out.keep hk3 (fun _ _ _ e => e)), HS.out.tr hk3⟩
        case measure => simp [intOf]; omega
      · rw [hf] at HF HE
        have HE2 : Hid (frL n s (k + 1) = frL n s k ++ [k]) := by show _ = _; rw [HE.out]; rfl
        clear HE hf
        go_wp2_with (first | (refine (HF.out).mono ?_; rintro e w3 ⟨rfl, hk3⟩; have HK3 := hidMk hk3; have hG3 : Hid (Seg w3 (fun g => w2.heap.size ≤ g) 3 1 (.slice sa sl scp) sl (natsL (frL n s k))) := HG.out.keep hk3 (fun _ _ _ e => e); clear hk3) | (at_builtin; refine wpList_append_seg _ rfl _ _ 22 rfl 3 i0 (.int .i64 0) 1 8 Try.underlying22 hit hz0 hz1 hz2 rfl (by decide) _ _ _ rfl (segAlloc hG3.out _) ⟨_, 0, none⟩ 1 1 [.int .i64 (k : Int)] rfl rfl (cCell1 _ _ _ _ (by simp)) (cOne _) (by unfold maxLen; omega) (by omega) ?_))
        intro v9 w9 hs9 hg9
        have HN : Hid (w2.heap.size ≤ w3.heap.size) := (HS.out.tr HK3.out).size
        have HG9 : Hid (Seg w9 (fun g => w2.heap.size ≤ g) 3 1 v9 (frL n s (k + 1)).length (natsL (frL n s (k + 1)))) := by
          show Seg _ _ _ _ _ _ _
          rw [HE2.out, List.length_append, hsl]
          have e : natsL (frL n s k ++ [k]) = natsL (frL n s k) ++ [.int .i64 (k : Int)] := by simp [natsL]
          rw [e]
          refine hs9.mono (fun g _ h => ?_)
          rcases h with ⟨_, h⟩ | h
          · exact h
          · have h9 := HN.out; rw [h]; omega
        have HS9 : Hid (Stil w2 w9) := ((HS.out.tr HK3.out).alloc _).grown hg9 (fun g e hg => by
          have := (hG3.out.block e).1
          omega)
        obtain ⟨sa3, sc3, hv3⟩ := segForm hs9
        subst hv3
        clear hs9 hg9 HG HS hG3 HK3
        go_wp2
        go_roundw
        case rel => exact ⟨k + 1, by omega, by go_num, HG9, HS9⟩
        case measure => simp [intOf]; omega
    · obtain rfl : k = n := by omega
      have hsr := hidMk (seg_row HG.out)
      go_wp2
      go_ret2
      exact ⟨sa, scp, rfl, hsr.out, HK.out.tr HS.out⟩
end Go.Proofs.Ytflmbhjighnicab
