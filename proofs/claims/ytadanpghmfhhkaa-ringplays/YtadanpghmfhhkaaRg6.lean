/- The ring: whether names are as they should be. -/
import Derived.Test.YtadanpghmfhhkaaRg5
import Derived.Test.YtadanpghmfhhkaaCb2n
namespace Go.Proofs.Ytadanpghmfhhkaa
open Go.RowKit
set_option linter.unusedVariables false

set_option maxRecDepth 100000 in
set_option maxHeartbeats 4000000 in
theorem index_any {W : World} {g off n cap : Nat} {f : Nat → Int} (x : Int) (hn : n ≤ 100) (hc : ∀ i, i < n → W.cell? ⟨g, off + i, none⟩ = some (.int .i64 (f i))) :
    Calls Try.prog 23 #[.slice (some ⟨g, off, none⟩) n cap, .int .i64 x] W fun e W2 => (∃ z, e = .returned (.int .i64 z) ∧ decide (0 ≤ z) = (List.range n).any (fun i => f i == x)) ∧ W2 = W := by
  have HC := hidMk hc
  clear hc
  go_enter Try.func23, Try.ntmps23
  go_wp2
  go_loopw [8] (fun u wr => ∃ k : Nat, k ≤ n ∧ u = .int .i64 (k : Int) ∧ wr = W ∧ Hid (∀ i, i < k → f i ≠ x)) (fun u _ => n - (intOf u).toNat)
  case atStart => exact ⟨0, Nat.zero_le _, rfl, rfl, fun i hi => by omega⟩
  case round =>
    obtain ⟨k, hk, rfl, hwr, HA⟩ := hrel
    subst hwr
    by_cases hlt : k < n
    · have hlt' : (k : Int) < (n : Int) := by omega
      have hck := HC.out k hlt
      by_cases hx : f k = x
      · have hx' : (x == f k) = true := by simp [hx]
        have HX := hidMk hx
        clear hx
        go_wp2
        go_ret
        refine ⟨⟨(k : Int), rfl, ?_⟩, rfl⟩
        have : (List.range n).any (fun i => f i == x) = true := List.any_eq_true.2 ⟨k, List.mem_range.2 hlt, by simp [HX.out]⟩
        rw [this]
        simp
      · have hx' : (x == f k) = false := by simp; exact fun e => hx e.symm
        have HX := hidMk hx
        clear hx
        go_wp2
        go_roundw
        case rel =>
          refine ⟨k + 1, by omega, by go_num, by trivial, fun i hi => ?_⟩
          by_cases e : i = k
          · subst e; exact HX.out
          · exact HA.out i (by omega)
        case measure => simp [intOf]; omega
    · obtain rfl : k = n := by omega
      go_wp2
      go_ret
      refine ⟨⟨-1, rfl, ?_⟩, rfl⟩
      symm
      rw [List.any_eq_false.2 (fun i hi => by simpa using HA.out i (List.mem_range.1 hi))]
      rfl

set_option maxRecDepth 100000 in
set_option maxHeartbeats 4000000 in
theorem contains_any {W : World} {g off n cap : Nat} {f : Nat → Int} (x : Int) (hn : n ≤ 100) (hc : ∀ i, i < n → W.cell? ⟨g, off + i, none⟩ = some (.int .i64 (f i))) :
    Calls Try.prog 20 #[.slice (some ⟨g, off, none⟩) n cap, .int .i64 x] W fun e W2 => e = .returned (.bool ((List.range n).any (fun i => f i == x))) ∧ W2 = W := by
  have HI := hidMk (index_any (cap := cap) x hn hc)
  clear hc
  go_enter Try.func20, Try.ntmps20
  go_wp2_with (go_at_call 23; refine (HI.out).mono ?_; rintro e w1 ⟨⟨z, rfl, hz⟩, hw⟩; obtain rfl := hw.symm)
  go_ret
  exact ⟨rfl, rfl⟩

/-- The error of names and so many steps. -/
def ndCode (zs : List Int) : Int := if zs.Nodup then 0 else 3
def ringCode (zs : List Int) (pl : Nat) : Int := if zs.length = 0 ∨ 6 < zs.length ∨ 120 < pl then 1 else ndCode zs
def nmL (zs : List Int) (i : Nat) : Int := zs.getD i 0
theorem nmL_at {zs : List Int} {i : Nat} (h : i < zs.length) : zs[i]? = some (nmL zs i) := by
  unfold nmL
  rw [List.getD_eq_getElem?_getD, List.getElem?_eq_getElem h]
  rfl
theorem nodup_nm {zs : List Int} (h : ∀ j, j < zs.length → ∀ i, i < j → nmL zs i ≠ nmL zs j) : zs.Nodup := by
  unfold List.Nodup
  rw [List.pairwise_iff_getElem]
  intro i j hi hj hij e
  have h1 := nmL_at hi
  have h2 := nmL_at hj
  rw [List.getElem?_eq_getElem hi] at h1
  rw [List.getElem?_eq_getElem hj] at h2
  simp only [Option.some.injEq] at h1 h2
  exact h j hj i hij (by rw [← h1, ← h2, e])
theorem nm_nodup {zs : List Int} (h : zs.Nodup) {i j : Nat} (hi : i < zs.length) (hj : j < zs.length) (e : nmL zs i = nmL zs j) : i = j := by
  have h1 := nmL_at hi
  have h2 := nmL_at hj
  rw [e] at h1
  exact nodup_at h h1 h2

set_option maxRecDepth 100000 in
set_option maxHeartbeats 4000000 in
theorem check_any {W : World} {pa qa : Option Addr} {n pc pl qc : Nat} {zs : List Int} (hp : RowI W pa n pc zs) :
    Calls Try.prog 15 #[.slice pa n pc, .slice qa pl qc] W fun e W2 => e = .returned (.int .i64 (ringCode zs pl)) ∧ W2 = W := by
  obtain ⟨hl, h2, h3, h4⟩ := hp
  by_cases h0 : n = 0
  · have hT : ringCode zs pl = 1 := by unfold ringCode; rw [if_pos (by omega)]
    rw [hT]
    subst h0
    have q1 : ((0 : Int) == 0) = true := rfl
    clear h4
    go_enter Try.func15, Try.ntmps15
    go_wp2
    go_ret
    exact ⟨rfl, rfl⟩
  have q0 : ((n : Int) == 0) = false := by rw [beq_eq_false_iff_ne]; omega
  by_cases h6 : 6 < n
  · have hT : ringCode zs pl = 1 := by unfold ringCode; rw [if_pos (by omega)]
    rw [hT]
    have q1 : decide (6 < (n : Int)) = true := decide_eq_true (by omega)
    clear h4
    go_enter Try.func15, Try.ntmps15
    go_wp2
    go_ret
    exact ⟨rfl, rfl⟩
  have q1 : decide (6 < (n : Int)) = false := decide_eq_false (by omega)
  by_cases h120 : 120 < pl
  · have hT : ringCode zs pl = 1 := by unfold ringCode; rw [if_pos (by omega)]
    rw [hT]
    have q2 : decide (120 < (pl : Int)) = true := decide_eq_true (by omega)
    clear h4
    go_enter Try.func15, Try.ntmps15
    go_wp2
    go_ret
    exact ⟨rfl, rfl⟩
  have q2 : decide (120 < (pl : Int)) = false := decide_eq_false (by omega)
  rcases h4 with h4 | ⟨g, off, rfl, hb, hc⟩
  · exact absurd h4 h0
  have hT : ringCode zs pl = ndCode zs := by unfold ringCode; rw [if_neg (by omega)]
  rw [hT]
  have HC : Hid (∀ i, i < n → W.cell? ⟨g, off + i, none⟩ = some (.int .i64 (nmL zs i))) := fun i hi => hc i _ (nmL_at (by omega))
  have HL := hidMk hl
  have hn6 : n ≤ 6 := by omega
  clear hc hT hl h3
  go_enter Try.func15, Try.ntmps15
  go_wp2
  go_loopw [22] (fun u wr => ∃ k : Nat, k ≤ n ∧ u = .int .i64 (k : Int) ∧ wr = W ∧ Hid (∀ j, j < k → ∀ i, i < j → nmL zs i ≠ nmL zs j)) (fun u _ => n - (intOf u).toNat)
  case atStart => exact ⟨0, Nat.zero_le _, rfl, rfl, fun j hj => by omega⟩
  case round =>
    obtain ⟨k, hk, rfl, hwr, HA⟩ := hrel
    subst hwr
    by_cases hlt : k < n
    · have hlt' : (k : Int) < (n : Int) := by omega
      have hck := HC.out k hlt
      have hkp : (k : Int) ≤ (pc : Int) := by omega
      have HD := hidMk (contains_any (cap := pc) (nmL zs k) (show k ≤ 100 by omega) (fun i hi => HC.out i (by omega)))
      by_cases hx : (List.range k).any (fun i => nmL zs i == nmL zs k) = true
      · have hnd : ¬ zs.Nodup := fun hn => by
          obtain ⟨i, hi, e⟩ := List.any_eq_true.1 hx
          have hi2 := List.mem_range.1 hi
          have := nm_nodup hn (i := i) (j := k) (by rw [HL.out]; omega) (by rw [HL.out]; omega) (by simpa using e)
          omega
        rw [hx] at HD
        have HN : Hid (ndCode zs = 3) := by show _ = _; unfold ndCode; rw [if_neg hnd]
        clear hx hnd
        go_wp2_with (go_at_call 20; refine (HD.out).mono ?_; rintro e w1 ⟨rfl, hw⟩; obtain rfl := hw.symm)
        go_ret
        exact ⟨ret_int' HN.out.symm, rfl⟩
      · have hx2 : (List.range k).any (fun i => nmL zs i == nmL zs k) = false := by simpa using hx
        rw [hx2] at HD
        have HX := hidMk hx2
        clear hx hx2
        go_wp2_with (go_at_call 20; refine (HD.out).mono ?_; rintro e w1 ⟨rfl, hw⟩; obtain rfl := hw.symm)
        go_roundw
        case rel =>
          refine ⟨k + 1, by omega, by go_num, by trivial, fun j hj i hi => ?_⟩
          by_cases e : j = k
          · subst e
            have := List.any_eq_false.1 HX.out i (List.mem_range.2 hi)
            simpa using this
          · exact HA.out j (by omega) i hi
        case measure => simp [intOf]; omega
    · obtain rfl : k = n := by omega
      have hnd : zs.Nodup := nodup_nm (by rw [HL.out]; exact HA.out)
      have HN : Hid (ndCode zs = 0) := by show _ = _; unfold ndCode; rw [if_pos hnd]
      clear hnd
      go_wp2
      go_ret
      exact ⟨ret_int' HN.out.symm, rfl⟩
end Go.Proofs.Ytadanpghmfhhkaa
