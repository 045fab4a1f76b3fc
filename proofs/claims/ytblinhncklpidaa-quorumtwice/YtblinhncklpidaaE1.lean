/- Contracts of slices.IndexFunc and ContainsFunc with a question that has caught two variables, and of the question of quorum.leastSets. -/
import Derived.Test.YtblinhncklpidaaC5
namespace Go.Proofs.Ytblinhncklpidaa
open Go.RowKit

/-- As `Asks`, with two variables caught. -/
def Asks2 (w : World) (g : Nat) (c c' : Value) (p : Nat → Bool) : Prop :=
  ∀ (x : Nat) (w1 : World), x < 4294967296 → Below w.heap.size w w1 → Calls Try.prog g #[.int .u32 (x : Int), c, c'] w1 fun e w' => e = .returned (.bool (p x)) ∧ Below w1.heap.size w1 w'

set_option maxHeartbeats 400000 in
theorem indexFunc2_row (g : Nat) (c c' : Value) (p : Nat → Bool) (b off len cap : Nat) (qs : List Nat) (w : World) (eg : ∀ args w, (callFunc g args).run Try.prog w = .ok (.enter g args) w) (hl : qs.length = len) (hl2 : len ≤ 4096) (hq : Row w b off qs) (hA : Asks2 w g c c' p) :
    Calls Try.prog 45 #[.slice (some ⟨b, off, none⟩) len cap, .func (.func g) #[] #[c, c']] w fun e w' => e = .returned (.int .i64 (firstAt p qs)) ∧ Below w.heap.size w w' := by
  have HL : Hid (qs.length = len) := hl
  clear hl
  have hl2' : (len : Int) ≤ 4096 := by omega
  go_enter Try.func45, Try.ntmps45
  go_wp2
  go_loopw [8] (fun i wr => ∃ k : Nat, k ≤ len ∧ i = .int .i64 k ∧ Below w.heap.size w wr ∧ Hid ((qs.take k).any p = false)) (fun i _ => len - (intOf i).toNat)
  case atStart => exact ⟨0, Nat.zero_le _, rfl, Below.refl _ _, by simp [Hid]⟩
  case round =>
    obtain ⟨k, hk, rfl, hB, hall⟩ := hrel
    by_cases hlt : k < len
    · obtain ⟨x, hx, hmem, hxb, hc⟩ := (hq.below rfl hB).at (k := k) (by rw [HL.out]; exact hlt)
      have HX : Hid (qs[k]? = some x) := hx
      clear hx
      have hcall := hA x wr hxb hB
      cases h0 : p x
      · have H0 : Hid (p x = false) := h0
        rw [h0] at hcall
        clear h0
        have HC : Hid (Calls Try.prog g #[.int .u32 (x : Int), c, c'] wr fun e w' => e = .returned (.bool false) ∧ Below wr.heap.size wr w') := hcall
        clear hcall
        go_wp2_with (go_at_fn g; refine (HC.out).mono ?_; rintro e w' ⟨rfl, hB2⟩)
        go_roundw
        case rel => exact ⟨k + 1, by omega, by go_num, hB.trans (hB2.mono hB.size), by
          show (qs.take (k + 1)).any p = false
          rw [any_take_succ _ _ HX.out, hall.out, H0.out]; rfl⟩
        case measure => simp [intOf]; omega
      · have H0 : Hid (p x = true) := h0
        rw [h0] at hcall
        clear h0
        have HC : Hid (Calls Try.prog g #[.int .u32 (x : Int), c, c'] wr fun e w' => e = .returned (.bool true) ∧ Below wr.heap.size wr w') := hcall
        clear hcall
        go_wp2_with (go_at_fn g; refine (HC.out).mono ?_; rintro e w' ⟨rfl, hB2⟩)
        go_ret
        exact ⟨ret_int (firstAt_hit _ _ HX.out hall.out H0.out).symm, hB.trans (hB2.mono hB.size)⟩
    · obtain rfl : k = len := by omega
      go_wp2
      go_ret
      have e := hall.out
      rw [List.take_of_length_le (by rw [HL.out]; exact Nat.le_refl _)] at e
      exact ⟨ret_int (firstAt_none _ _ e).symm, hB⟩

set_option maxHeartbeats 400000 in
theorem containsFunc2_row (g : Nat) (c c' : Value) (p : Nat → Bool) (b off len cap : Nat) (qs : List Nat) (w : World) (eg : ∀ args w, (callFunc g args).run Try.prog w = .ok (.enter g args) w) (hl : qs.length = len) (hl2 : len ≤ 4096) (hq : Row w b off qs) (hA : Asks2 w g c c' p) :
    Calls Try.prog 33 #[.slice (some ⟨b, off, none⟩) len cap, .func (.func g) #[] #[c, c']] w fun e w' => e = .returned (.bool (qs.any p)) ∧ Below w.heap.size w w' := by
  have HL : Hid (qs.length = len) := hl
  clear hl
  go_enter Try.func33, Try.ntmps33
  go_wp2_with (go_at_call 45; refine (indexFunc2_row g c c' p b off len cap qs _ eg HL.out hl2 hq hA).mono ?_; rintro e w' ⟨rfl, hB⟩)
  go_ret
  exact ⟨ret_bool (firstAt_ge _ _), hB⟩

/-- The set t lies in s, and is another. -/
def partB (s t : Nat) : Bool := t != s && inB t s

set_option maxHeartbeats 400000 in
theorem smallerFn_any (t s B1 B2 B3 : Nat) (ht : t < 4294967296) (hs : s < 4294967296) (w : World) (hc : w.cell? ⟨B1, 0, none⟩ = some (.int .u32 (s : Int))) (hc2 : w.cell? ⟨B2, 0, none⟩ = some (.func (.func 46) #[] #[.pointer (some ⟨B3, 0, none⟩)])) (hc3 : w.cell? ⟨B3, 0, none⟩ = some (.int .u32 (s : Int))) :
    Calls Try.prog 38 #[.int .u32 (t : Int), .pointer (some ⟨B1, 0, none⟩), .pointer (some ⟨B2, 0, none⟩)] w fun e w' => e = .returned (.bool (partB s t)) ∧ w' = w := by
  have eg := enters_outside
  by_cases h : t = s
  · subst h
    have hz : partB t t = false := by unfold partB; simp
    rw [hz]
    have hb : ((t : Int) != (t : Int)) = false := by simp
    go_enter Try.func38, Try.ntmps38
    go_wp2
    go_ret
    exact ⟨rfl, rfl⟩
  · have hz : partB s t = inB t s := by
      unfold partB
      rw [show (t != s) = true from bne_iff_ne.2 h]; rfl
    rw [hz]
    have hb : ((t : Int) != (s : Int)) = true := by simp; omega
    have HO := hidMk (outsideFn_any t s B3 ht hs w hc3)
    rw [outside_in t s ht hs] at HO
    clear hz h hc3
    cases hi : inB t s
    · rw [hi] at HO
      clear hi
      go_enter Try.func38, Try.ntmps38
      go_wp2_with (go_at_fn 46; refine (HO.out).mono ?_; rintro e w' ⟨rfl, hw⟩; obtain rfl := hw.symm)
      go_ret
      exact ⟨rfl, rfl⟩
    · rw [hi] at HO
      clear hi
      go_enter Try.func38, Try.ntmps38
      go_wp2_with (go_at_fn 46; refine (HO.out).mono ?_; rintro e w' ⟨rfl, hw⟩; obtain rfl := hw.symm)
      go_ret
      exact ⟨rfl, rfl⟩

theorem enters_smaller : ∀ args w, (callFunc 38 args).run Try.prog w = .ok (.enter 38 args) w :=
  Go.Proofs.enters_of Try.func38 (by kernel_rfl) rfl

theorem asks_smaller (w : World) (s B1 B2 B3 : Nat) (hs : s < 4294967296) (h1 : B1 < w.heap.size) (h2 : B2 < w.heap.size) (h3 : B3 < w.heap.size) (hc : w.cell? ⟨B1, 0, none⟩ = some (.int .u32 (s : Int))) (hc2 : w.cell? ⟨B2, 0, none⟩ = some (.func (.func 46) #[] #[.pointer (some ⟨B3, 0, none⟩)])) (hc3 : w.cell? ⟨B3, 0, none⟩ = some (.int .u32 (s : Int))) :
    Asks2 w 38 (.pointer (some ⟨B1, 0, none⟩)) (.pointer (some ⟨B2, 0, none⟩)) (partB s) := by
  intro x w1 hx hb
  refine (smallerFn_any x s B1 B2 B3 hx hs w1 ((hb.cell (p := ⟨B1, 0, none⟩) h1).trans hc) ((hb.cell (p := ⟨B2, 0, none⟩) h2).trans hc2) ((hb.cell (p := ⟨B3, 0, none⟩) h3).trans hc3)).mono ?_
  rintro e w' ⟨rfl, rfl⟩
  exact ⟨rfl, Below.refl _ _⟩
end Go.Proofs.Ytblinhncklpidaa
