/- Contract of quorum.needsEachMember: without any one member a set no longer meets each. -/
import Derived.Test.YtblinhncklpidaaC1
import Derived.Test.YtblinhncklpidaaLow
namespace Go.Proofs.Ytblinhncklpidaa
open Go.RowKit

/-- Without any one member s no longer meets each. -/
def needsB (qs : List Nat) (s : Nat) : Bool := (List.range 32).all fun i => !(s.testBit i && meetsB qs (wo s i))

theorem needs_of {qs : List Nat} {s : Nat} (h : ∀ i, i < 32 → s.testBit i = true → meetsB qs (wo s i) = false) : needsB qs s = true := by
  unfold needsB
  rw [List.all_eq_true]
  intro i hi
  have hi' := List.mem_range.1 hi
  cases hb : s.testBit i
  · rfl
  · rw [h i hi' hb]; rfl
theorem needs_not {qs : List Nat} {s i : Nat} (hi : i < 32) (hb : s.testBit i = true) (h : meetsB qs (wo s i) = true) : needsB qs s = false := by
  unfold needsB
  rw [List.all_eq_false]
  exact ⟨i, List.mem_range.2 hi, by simp [hb, h]⟩

/-- What is left to ask of is a part of s; of the members that are gone the answer was no. -/
def Left (qs : List Nat) (s r : Nat) : Prop :=
  (∀ i, r.testBit i = true → s.testBit i = true) ∧ ∀ i, i < 32 → s.testBit i = true → r.testBit i = false → meetsB qs (wo s i) = false

theorem low_int {r k : Nat} (h0 : 0 < r) (h1 : r < 4294967296) (e : r &&& (4294967296 - r) = 2 ^ k) : bits .and .u32 (r : Int) (-(r : Int) % 4294967296) = ((2 ^ k : Nat) : Int) := by
  have e2 : (-(r : Int) % 4294967296) = ((4294967296 - r : Nat) : Int) := by omega
  rw [e2, u32_and_nat r _ h1 (by omega), e]
theorem wo_int {s k : Nat} (hs : s < 4294967296) (hk : k < 32) : bits .andNot .u32 (s : Int) ((2 ^ k : Nat) : Int) = ((wo s k : Nat) : Int) :=
  u32_andNot_nat s _ hs (two_pow_lt k hk)
theorem next_int {r k : Nat} (h0 : 0 < r) (h1 : r < 4294967296) (e : r &&& (r - 1) = r &&& (4294967295 - 2 ^ k)) : bits .and .u32 (r : Int) ((r : Int) - 1) = ((wo r k : Nat) : Int) := by
  have e2 : (r : Int) - 1 = ((r - 1 : Nat) : Int) := by omega
  rw [e2, u32_and_nat r _ h1 (by omega), e]; rfl
theorem Left.next {qs : List Nat} {s r k : Nat} (h : Left qs s r) (hr : r < 4294967296) (hk : k < 32) (hn : meetsB qs (wo s k) = false) : Left qs s (wo r k) := by
  refine ⟨fun i hi => ?_, fun i hi hs h0 => ?_⟩
  · rw [wo_bit r k i hk hr] at hi
    exact h.1 i (by simpa using (Bool.and_eq_true_iff.1 hi).1)
  · rw [wo_bit r k i hk hr] at h0
    by_cases he : k = i
    · subst he; exact hn
    · exact h.2 i hi hs (by simpa [he] using h0)

set_option maxHeartbeats 800000 in
theorem needs_row (s b off len cap : Nat) (qs : List Nat) (w : World) (hs : s < 4294967296) (hl : qs.length = len) (hl2 : len ≤ 4096) (hq : Row w b off qs) :
    Calls Try.prog 42 #[.int .u32 (s : Int), .slice (some ⟨b, off, none⟩) len cap] w fun e w' => e = .returned (.bool (needsB qs s)) ∧ Below w.heap.size w w' := by
  have HL := hidMk hl
  clear hl
  go_enter Try.func42, Try.ntmps42
  go_wp2
  go_loopw [5] (fun x wr => ∃ r : Nat, r < 4294967296 ∧ x = .int .u32 (r : Int) ∧ Below w.heap.size w wr ∧ Hid (Left qs s r)) (fun x _ => (intOf x).toNat)
  case atStart => exact ⟨s, hs, rfl, Below.refl _ _, fun i h => h, fun i _ h1 h2 => by rw [h1] at h2; cases h2⟩
  case round =>
    obtain ⟨r, hr, rfl, hB, hL⟩ := hrel
    by_cases h0 : r = 0
    · subst h0
      go_wp2
      go_ret
      exact ⟨ret_bool (needs_of fun i hi hb => hL.out.2 i hi hb (Nat.zero_testBit i)).symm, hB⟩
    · have h0' : ((r : Int) != 0) = true := by rw [bne_iff_ne]; omega
      have hr1 : (1 : Int) ≤ (r : Int) := by omega
      have hr2 : (r : Int) < 4294967296 := by omega
      obtain ⟨k, hk, hkb, e1, e2, e3⟩ := low_spec r (by omega) hr
      have z1 := low_int (by omega) hr e1
      have z2 := wo_int (s := s) hs hk
      have z3 := next_int (by omega) hr e2
      have HM := hidMk (meetsEach_nat (wo s k) b off len cap qs wr (wo_lt s k hs) HL.out hl2 (hq.below rfl hB))
      rw [← z2, ← z1] at HM
      have HN := hidMk e3
      have HKB := hidMk (hL.out.1 k hkb)
      have HZ := hidMk z3
      have HE := hidMk e2
      clear e1 e2 e3 z1 z2 z3 hkb
      cases hm : meetsB qs (wo s k)
      · rw [hm] at HM
        have HX := hidMk hm
        clear hm
        go_wp2_with (go_at_call 41; refine (HM.out).mono ?_; rintro e w' ⟨rfl, hB2⟩)
        go_roundw
        case rel => exact ⟨wo r k, wo_lt r k hr, by rw [← HZ.out], hB.trans (hB2.mono hB.size), hL.out.next hr hk HX.out⟩
        case measure =>
          have e4 := HZ.out
          have e5 := HN.out
          rw [HE.out] at e5
          have e6 : wo r k < r := e5
          simp only [intOf]
          rw [e4]
          omega
      · rw [hm] at HM
        have HX := hidMk hm
        clear hm
        go_wp2_with (go_at_call 41; refine (HM.out).mono ?_; rintro e w' ⟨rfl, hB2⟩)
        go_ret
        exact ⟨ret_bool (needs_not hk HKB.out HX.out).symm, hB.trans (hB2.mono hB.size)⟩
end Go.Proofs.Ytblinhncklpidaa
