/- Contracts of slices.Index, Contains, IndexFunc, ContainsFunc at rows of 32 bits. -/
import Derived.Test.YtblinhncklpidaaA3
import Derived.Shelf.Abstract
namespace Go.Proofs.Ytblinhncklpidaa
open Go.RowKit

/-- The first place at which p holds, or -1. -/
def firstAt (p : Nat → Bool) (qs : List Nat) : Int := match qs.findIdx? p with
  | some k => (k : Int)
  | none => -1

theorem firstAt_hit (p : Nat → Bool) (qs : List Nat) {k x : Nat} (hx : qs[k]? = some x) (hn : (qs.take k).any p = false) (hp : p x = true) : firstAt p qs = (k : Int) := by
  have hk : k < qs.length := (List.getElem?_eq_some_iff.1 hx).1
  have e : qs[k] = x := (List.getElem?_eq_some_iff.1 hx).2
  have : qs.findIdx? p = some k := by
    rw [List.findIdx?_eq_some_iff_getElem]
    refine ⟨hk, by rw [e]; exact hp, fun j hj => ?_⟩
    have hm : qs[j] ∈ qs.take k := List.mem_take_iff_getElem.2 ⟨j, by omega, rfl⟩
    have := List.any_eq_false.1 hn _ hm
    simpa using this
  unfold firstAt; rw [this]

theorem firstAt_none (p : Nat → Bool) (qs : List Nat) (hn : qs.any p = false) : firstAt p qs = -1 := by
  have : qs.findIdx? p = none := by
    rw [List.findIdx?_eq_none_iff]
    intro x hx
    have := List.any_eq_false.1 hn _ hx
    simpa using this
  unfold firstAt; rw [this]

theorem firstAt_ge (p : Nat → Bool) (qs : List Nat) : decide (0 ≤ firstAt p qs) = qs.any p := by
  cases h : qs.any p
  · rw [firstAt_none p qs h]; rfl
  · unfold firstAt
    cases h2 : qs.findIdx? p
    · rw [List.findIdx?_eq_none_iff] at h2
      obtain ⟨x, hx, hp⟩ := List.any_eq_true.1 h
      rw [h2 x hx] at hp; cases hp
    · simp

set_option maxHeartbeats 400000 in
theorem index_row (v : Nat) (b off len cap : Nat) (qs : List Nat) (w : World) (hl : qs.length = len) (hl2 : len ≤ 4096) (hq : Row w b off qs) :
    Calls Try.prog 44 #[.slice (some ⟨b, off, none⟩) len cap, .int .u32 v] w fun e w' => e = .returned (.int .i64 (firstAt (fun x => v == x) qs)) ∧ w' = w := by
  have HL : Hid (qs.length = len) := hl
  clear hl
  have hl2' : (len : Int) ≤ 4096 := by omega
  go_enter Try.func44, Try.ntmps44
  go_wp2
  go_loop [8] (fun i => ∃ k : Nat, k ≤ len ∧ i = .int .i64 k ∧ Hid (((qs.take k).any fun x => v == x) = false)) (fun i => len - (intOf i).toNat)
  case atStart => exact ⟨0, Nat.zero_le _, rfl, by simp [Hid]⟩
  case round =>
    obtain ⟨k, hk, rfl, hall⟩ := hrel
    by_cases hlt : k < len
    · obtain ⟨x, hx, hmem, hxb, hc⟩ := hq.at (k := k) (by rw [HL.out]; exact hlt)
      have HX : Hid (qs[k]? = some x) := hx
      clear hx
      have hz : ((v : Int) == (x : Int)) = (v == x) := by rw [Bool.eq_iff_iff]; simp; omega
      cases h0 : (v == x)
      · have H0 : Hid ((v == x) = false) := h0
        rw [h0] at hz
        clear h0
        go_wp2
        go_round
        case rel => exact ⟨k + 1, by omega, by go_num, by
          show ((qs.take (k + 1)).any fun x => v == x) = false
          rw [any_take_succ _ _ HX.out, hall.out, H0.out]; rfl⟩
        case measure => simp [intOf]; omega
      · have H0 : Hid ((v == x) = true) := h0
        rw [h0] at hz
        clear h0
        go_wp2
        go_ret
        exact ⟨ret_int (firstAt_hit _ _ HX.out hall.out H0.out).symm, rfl⟩
    · obtain rfl : k = len := by omega
      go_wp2
      go_ret
      have e := hall.out
      rw [List.take_of_length_le (by rw [HL.out]; exact Nat.le_refl _)] at e
      exact ⟨ret_int (firstAt_none _ _ e).symm, rfl⟩

set_option maxHeartbeats 400000 in
theorem contains_row (v : Nat) (b off len cap : Nat) (qs : List Nat) (w : World) (hl : qs.length = len) (hl2 : len ≤ 4096) (hq : Row w b off qs) :
    Calls Try.prog 32 #[.slice (some ⟨b, off, none⟩) len cap, .int .u32 v] w fun e w' => e = .returned (.bool (qs.any fun x => v == x)) ∧ w' = w := by
  have HL : Hid (qs.length = len) := hl
  clear hl
  go_enter Try.func32, Try.ntmps32
  go_wp2_with (go_at_call 44; refine (index_row v b off len cap qs _ HL.out hl2 hq).mono ?_; rintro e w' ⟨rfl, rfl⟩)
  go_ret
  exact ⟨ret_bool (firstAt_ge _ _), rfl⟩

/-- A function value that answers p of each number, in each later world, and keeps what lay there. -/
def Asks (w : World) (g : Nat) (c : Value) (p : Nat → Bool) : Prop :=
  ∀ (x : Nat) (w1 : World), x < 4294967296 → Below w.heap.size w w1 → Calls Try.prog g #[.int .u32 (x : Int), c] w1 fun e w' => e = .returned (.bool (p x)) ∧ Below w1.heap.size w1 w'

theorem Asks.below {w w' : World} {g : Nat} {c : Value} {p : Nat → Bool} (h : Asks w g c p) {n : Nat} (hn : n = w.heap.size) (hb : Below n w w') : Asks w' g c p := by
  subst hn
  exact fun x w1 hx h1 => h x w1 hx (hb.trans (h1.mono hb.size))

set_option maxHeartbeats 400000 in
theorem indexFunc_row (g : Nat) (c : Value) (p : Nat → Bool) (b off len cap : Nat) (qs : List Nat) (w : World) (eg : ∀ args w, (callFunc g args).run Try.prog w = .ok (.enter g args) w) (hl : qs.length = len) (hl2 : len ≤ 4096) (hq : Row w b off qs) (hA : Asks w g c p) :
    Calls Try.prog 45 #[.slice (some ⟨b, off, none⟩) len cap, .func (.func g) #[] #[c]] w fun e w' => e = .returned (.int .i64 (firstAt p qs)) ∧ Below w.heap.size w w' := by
  have HL : Hid (qs.length = len) := hl
  clear hl
  have hl2' : (len : Int) ≤ 4096 := by omega
  go_enter Try.func45, Try.ntmps45
  go_wp2
  go_loopw [8] (fun i wr => ∃ k : Nat, k ≤ len ∧ i = .int .i64 k ∧ Below w.heap.size w wr ∧ Hid ((qs.take k).any p = false)) (fun i _ => len - (intOf i).toNat)
  case atStart => exact ⟨0, Nat.zero_le _, rfl, Below.refl _ _, by simp [Hid]⟩
  case round =>
    obtain ⟨k, hk, rfl, hB, hall⟩ := hrel
    by_cases hlt : k < len
    · obtain ⟨x, hx, hmem, hxb, hc⟩ := (hq.below rfl hB).at (k := k) (by rw [HL.out]; exact hlt)
      have HX : Hid (qs[k]? = some x) := hx
      clear hx
      have hcall := hA x wr hxb hB
      cases h0 : p x
      · have H0 : Hid (p x = false) := h0
        rw [h0] at hcall
        clear h0
        have HC : Hid (Calls Try.prog g #[.int .u32 (x : Int), c] wr fun e w' => e = .returned (.bool false) ∧ Below wr.heap.size wr w') := hcall
        clear hcall
        go_wp2_with (go_at_fn g; refine (HC.out).mono ?_; rintro e w' ⟨rfl, hB2⟩)
        go_roundw
        case rel => exact ⟨k + 1, by omega, by go_num, hB.trans (hB2.mono hB.size), by
          show (qs.take (k + 1)).any p = false
          rw [any_take_succ _ _ HX.out, hall.out, H0.out]; rfl⟩
        case measure => simp [intOf]; omega
      · have H0 : Hid (p x = true) := h0
        rw [h0] at hcall
        clear h0
        have HC : Hid (Calls Try.prog g #[.int .u32 (x : Int), c] wr fun e w' => e = .returned (.bool true) ∧ Below wr.heap.size wr w') := hcall
        clear hcall
        go_wp2_with (go_at_fn g; refine (HC.out).mono ?_; rintro e w' ⟨rfl, hB2⟩)
        go_ret
        exact ⟨ret_int (firstAt_hit _ _ HX.out hall.out H0.out).symm, hB.trans (hB2.mono hB.size)⟩
    · obtain rfl : k = len := by omega
      go_wp2
      go_ret
      have e := hall.out
      rw [List.take_of_length_le (by rw [HL.out]; exact Nat.le_refl _)] at e
      exact ⟨ret_int (firstAt_none _ _ e).symm, hB⟩

set_option maxHeartbeats 400000 in
theorem containsFunc_row (g : Nat) (c : Value) (p : Nat → Bool) (b off len cap : Nat) (qs : List Nat) (w : World) (eg : ∀ args w, (callFunc g args).run Try.prog w = .ok (.enter g args) w) (hl : qs.length = len) (hl2 : len ≤ 4096) (hq : Row w b off qs) (hA : Asks w g c p) :
    Calls Try.prog 33 #[.slice (some ⟨b, off, none⟩) len cap, .func (.func g) #[] #[c]] w fun e w' => e = .returned (.bool (qs.any p)) ∧ Below w.heap.size w w' := by
  have HL : Hid (qs.length = len) := hl
  clear hl
  go_enter Try.func33, Try.ntmps33
  go_wp2_with (go_at_call 45; refine (indexFunc_row g c p b off len cap qs _ eg HL.out hl2 hq hA).mono ?_; rintro e w' ⟨rfl, hB⟩)
  go_ret
  exact ⟨ret_bool (firstAt_ge _ _), hB⟩

end Go.Proofs.Ytblinhncklpidaa
