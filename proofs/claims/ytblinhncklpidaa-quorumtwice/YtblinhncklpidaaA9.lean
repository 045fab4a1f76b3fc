/- Contracts of quorum.Check, and of the statement QuorumChecks: the program's code is the document's. -/
import Derived.Test.YtblinhncklpidaaA8
namespace Go.Proofs.Ytblinhncklpidaa
open Go.RowKit

theorem common_sys {qs : List Nat} {m : Nat} (h : Common qs m) (hb : ∀ x ∈ qs, x < 4294967296) : ((m : Int) == 0) = sysB qs := by
  rw [Bool.eq_iff_iff]
  simp only [beq_iff_eq]
  constructor
  · intro h0
    have h0' : m = 0 := by omega
    rcases h.2.2 with e | ⟨a, ha, b, hb', e⟩
    · omega
    · have hz : a &&& b = 0 := (sz_zero (and_lt a b (hb a ha))).1 (by omega)
      exact List.any_eq_true.2 ⟨a, ha, List.any_eq_true.2 ⟨b, hb', by simp [hz]⟩⟩
  · intro hs
    obtain ⟨a, ha, h2⟩ := List.any_eq_true.1 hs
    obtain ⟨b, hb', h3⟩ := List.any_eq_true.1 h2
    have hz : a &&& b = 0 := by simpa using h3
    have := h.2.1 a ha b hb'
    rw [hz, (sz_zero (by decide)).2 rfl] at this
    omega

set_option maxHeartbeats 400000 in
theorem check_err (n c : Int) (a : Option Addr) (len cap : Nat) (w : World) (hc : (c != 0) = true)
    (hF : Calls Try.prog 22 #[.int .i64 n, .slice a len cap] w fun e w' => e = .returned (.int .i64 c) ∧ Below w.heap.size w w') :
    Calls Try.prog 9 #[.int .i64 n, .slice a len cap] w fun e w' => e = .returned (.int .i64 c) ∧ Below w.heap.size w w' := by
  have HF := hidMk hF
  clear hF
  go_enter Try.func9, Try.ntmps9
  go_wp2_with (go_at_call 22; refine (HF.out).mono ?_; rintro e w' ⟨rfl, hB⟩)
  go_ret
  exact ⟨rfl, hB⟩

set_option maxHeartbeats 400000 in
theorem check_row (n b off len cap : Nat) (qs : List Nat) (w : World) (hl : qs.length = len) (hl2 : len ≤ 64) (hcap : len ≤ cap) (hq : Row w b off qs)
    (hF : Calls Try.prog 22 #[.int .i64 n, .slice (some ⟨b, off, none⟩) len cap] w fun e w' => e = .returned (.int .i64 0) ∧ Below w.heap.size w w') :
    Calls Try.prog 9 #[.int .i64 n, .slice (some ⟨b, off, none⟩) len cap] w fun e w' => e = .returned (.int .i64 (sysCode qs)) ∧ Below w.heap.size w w' := by
  have HF := hidMk hF
  clear hF
  have HL := hidMk hl
  clear hl
  cases hs : sysB qs
  · have HS := hidMk hs
    clear hs
    go_enter Try.func9, Try.ntmps9
    go_wp2_with (first | (go_at_call 22; refine (HF.out).mono ?_; rintro e w1 ⟨rfl, hB⟩) | (go_at_call 23; refine (leastCommon_row b off len cap qs _ HL.out hl2 hcap (hq.below rfl hB)).mono ?_; rintro e w2 ⟨⟨m, hm, rfl⟩, hB2⟩; have hm0 := (common_sys hm hq.2.1).trans HS.out))
    go_ret
    exact ⟨ret_int (sysCode_ok HS.out).symm, hB.trans (hB2.mono hB.size)⟩
  · have HS := hidMk hs
    clear hs
    go_enter Try.func9, Try.ntmps9
    go_wp2_with (first | (go_at_call 22; refine (HF.out).mono ?_; rintro e w1 ⟨rfl, hB⟩) | (go_at_call 23; refine (leastCommon_row b off len cap qs _ HL.out hl2 hcap (hq.below rfl hB)).mono ?_; rintro e w2 ⟨⟨m, hm, rfl⟩, hB2⟩; have hm0 := (common_sys hm hq.2.1).trans HS.out))
    go_ret
    exact ⟨ret_int (sysCode_bad HS.out).symm, hB.trans (hB2.mono hB.size)⟩

/-- What came in as a slice of numbers of 32 bits: it has no element, or it leads to a row. -/
def Came32 (w : World) (a : Option Addr) (len cap : Nat) (qs : List Nat) : Prop :=
  qs.length = len ∧ len ≤ cap ∧ len ≤ maxLen ∧ (len = 0 ∨ ∃ b off, a = some ⟨b, off, none⟩ ∧ Row w b off qs)

theorem Came32.below {w w' : World} {a : Option Addr} {len cap : Nat} {qs : List Nat} (h : Came32 w a len cap qs) (hb : Below w.heap.size w w') : Came32 w' a len cap qs := by
  obtain ⟨h1, h2, h3, h4⟩ := h
  refine ⟨h1, h2, h3, ?_⟩
  rcases h4 with h0 | ⟨b, off, e, hq⟩
  · exact .inl h0
  · exact .inr ⟨b, off, e, hq.below rfl hb⟩

/-- The family's code, of whatever came in. -/
def famCodeOf (n : Int) (qs : List Nat) : Int :=
  if n < 1 ∨ 12 < n ∨ 64 < qs.length then 1 else if qs.length = 0 then 5 else famCode n.toNat qs
/-- The system's code, of whatever came in. -/
def sysCodeOf (n : Int) (qs : List Nat) : Int := if famCodeOf n qs ≠ 0 then famCodeOf n qs else sysCode qs

theorem famCode_two {n : Nat} {qs : List Nat} : famCode n qs = 0 ∨ famCode n qs = 2 := by
  unfold famCode; split
  · exact .inr rfl
  · exact .inl rfl

theorem refFamily_any (n : Int) (a : Option Addr) (len cap : Nat) (qs : List Nat) (w : World) (h : Came32 w a len cap qs) :
    Calls Try.prog 18 #[.int .i64 n, .slice a len cap] w fun e w' => e = .returned (.int .i64 (famCodeOf n qs)) ∧ w' = w := by
  obtain ⟨h1, h2, h3, h4⟩ := h
  unfold famCodeOf
  rw [h1]
  by_cases hL : n < 1 ∨ 12 < n ∨ 64 < len
  · rw [if_pos hL]; exact refFamily_large n a len cap h3 w hL
  · rw [if_neg hL]
    have hn1 : 1 ≤ n := by omega
    have hn2 : n ≤ 12 := by omega
    by_cases h0 : len = 0
    · rw [if_pos h0]; subst h0; exact refFamily_none n a cap w hn1 hn2
    · rw [if_neg h0]
      obtain ⟨b, off, rfl, hq⟩ := h4.resolve_left h0
      obtain ⟨k, rfl⟩ := Int.eq_ofNat_of_zero_le (by omega : 0 ≤ n)
      rw [Int.toNat_natCast]
      exact refFamily_row k b off len cap qs w (by omega) (by omega) h1 (by omega) (by omega) hq

theorem family_any (n : Int) (a : Option Addr) (len cap : Nat) (qs : List Nat) (w : World) (h : Came32 w a len cap qs) :
    Calls Try.prog 22 #[.int .i64 n, .slice a len cap] w fun e w' => e = .returned (.int .i64 (famCodeOf n qs)) ∧ Below w.heap.size w w' := by
  obtain ⟨h1, h2, h3, h4⟩ := h
  unfold famCodeOf
  rw [h1]
  by_cases hL : n < 1 ∨ 12 < n ∨ 64 < len
  · rw [if_pos hL]; exact (family_large n a len cap h3 w hL).mono fun e w' ⟨he, hw⟩ => ⟨he, hw ▸ Below.refl _ _⟩
  · rw [if_neg hL]
    have hn1 : 1 ≤ n := by omega
    have hn2 : n ≤ 12 := by omega
    by_cases h0 : len = 0
    · rw [if_pos h0]; subst h0; exact (family_none n a cap w hn1 hn2).mono fun e w' ⟨he, hw⟩ => ⟨he, hw ▸ Below.refl _ _⟩
    · rw [if_neg h0]
      obtain ⟨b, off, rfl, hq⟩ := h4.resolve_left h0
      obtain ⟨k, rfl⟩ := Int.eq_ofNat_of_zero_le (by omega : 0 ≤ n)
      rw [Int.toNat_natCast]
      exact family_row k b off len cap qs w (by omega) (by omega) h1 (by omega) (by omega) hq

theorem famCodeOf_zero {n : Int} {qs : List Nat} (h : famCodeOf n qs = 0) : 1 ≤ n ∧ n ≤ 12 ∧ 1 ≤ qs.length ∧ qs.length ≤ 64 ∧ qs.any (badB n.toNat) = false := by
  unfold famCodeOf at h
  split at h
  · exact absurd h (by decide)
  · split at h
    · exact absurd h (by decide)
    · refine ⟨by omega, by omega, by omega, by omega, ?_⟩
      cases hb : qs.any (badB n.toNat)
      · rfl
      · rw [famCode_bad hb] at h; exact absurd h (by decide)

theorem refSystem_any (n : Int) (a : Option Addr) (len cap : Nat) (qs : List Nat) (w : World) (h : Came32 w a len cap qs) :
    Calls Try.prog 10 #[.int .i64 n, .slice a len cap] w fun e w' => e = .returned (.int .i64 (sysCodeOf n qs)) ∧ w' = w := by
  have hF := refFamily_any n a len cap qs w h
  unfold sysCodeOf
  by_cases hc : famCodeOf n qs ≠ 0
  · rw [if_pos hc]; exact refSystem_err n _ a len cap w (by simpa using hc) hF
  · rw [if_neg hc]
    have h0 : famCodeOf n qs = 0 := by simpa using hc
    rw [h0] at hF
    obtain ⟨z1, z2, z3, z4, z5⟩ := famCodeOf_zero h0
    obtain ⟨h1, h2, h3, h4⟩ := h
    obtain ⟨b, off, rfl, hq⟩ := h4.resolve_left (by omega)
    obtain ⟨k, rfl⟩ := Int.eq_ofNat_of_zero_le (by omega : 0 ≤ n)
    exact refSystem_row k b off len cap qs w h1 (by omega) hq hF

theorem check_any (n : Int) (a : Option Addr) (len cap : Nat) (qs : List Nat) (w : World) (h : Came32 w a len cap qs) :
    Calls Try.prog 9 #[.int .i64 n, .slice a len cap] w fun e w' => e = .returned (.int .i64 (sysCodeOf n qs)) ∧ Below w.heap.size w w' := by
  have hF := family_any n a len cap qs w h
  unfold sysCodeOf
  by_cases hc : famCodeOf n qs ≠ 0
  · rw [if_pos hc]; exact check_err n _ a len cap w (by simpa using hc) hF
  · rw [if_neg hc]
    have h0 : famCodeOf n qs = 0 := by simpa using hc
    rw [h0] at hF
    obtain ⟨z1, z2, z3, z4, z5⟩ := famCodeOf_zero h0
    obtain ⟨h1, h2, h3, h4⟩ := h
    obtain ⟨b, off, rfl, hq⟩ := h4.resolve_left (by omega)
    obtain ⟨k, rfl⟩ := Int.eq_ofNat_of_zero_le (by omega : 0 ≤ n)
    exact check_row k b off len cap qs w h1 (by omega) h2 hq hF
end Go.Proofs.Ytblinhncklpidaa
