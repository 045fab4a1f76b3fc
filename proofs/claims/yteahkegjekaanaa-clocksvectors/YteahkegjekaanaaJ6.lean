/- folkmootlaw.ClocksScalars, walked. -/
import Derived.Test.YteahkegjekaanaaJ4
import Derived.Test.YteahkegjekaanaaJ5
namespace Go.Proofs.Yteahkegjekaanaa
open Go.RowKit Go.Shelf
set_option linter.unusedVariables false

set_option maxRecDepth 100000 in
set_option maxHeartbeats 2000000 in
theorem refBefore_none (a : Option Addr) (cap : Nat) (w : World) :
    Calls Try.prog 12 #[.slice a 0 cap] w fun e w2 => (∃ g, e = .returned (.slice (some ⟨g, 0, none⟩) 0 0)) ∧ Below w.heap.size w w2 := by
  have hmk := make_bools 0 (by omega)
  simp only [Int.natCast_zero] at hmk
  go_enter Try.func12, Try.ntmps12
  go_wp2
  refine wp_loop_rounds 1 ?_
  rw [rounds_succ]
  go_wp2
  refine wp_loop_rounds 1 ?_
  rw [rounds_succ]
  go_wp2
  go_ret
  exact ⟨⟨_, rfl⟩, (Below.refl _ _).alloc (Nat.le_refl _) _⟩

set_option maxRecDepth 100000 in
set_option maxHeartbeats 2000000 in
theorem refScalars_none (a : Option Addr) (cap : Nat) (w : World) :
    Calls Try.prog 15 #[.slice a 0 cap] w fun e w2 => e = .returned (.slice none 0 0) ∧ Below w.heap.size w w2 := by
  have HR := hidMk (refBefore_none a cap w)
  go_enter Try.func15, Try.ntmps15
  go_wp2_with (go_at_call 12; refine (HR.out).mono ?_; rintro e w1 ⟨⟨g, rfl⟩, hB1⟩)
  refine wp_loop_rounds 1 ?_
  rw [rounds_succ]
  go_wp2
  go_ret
  exact ⟨rfl, hB1⟩

theorem refScalars_any (N : Int) (a : Option Addr) (len cap : Nat) (es : List Ev) (w : World) (h : CameEv w a len cap es) (hv : Valid N es) :
    Calls Try.prog 15 #[.slice a len cap] w fun e w2 => (∃ a2 c2, e = .returned (.slice a2 len c2) ∧ RowZ w2 a2 len (rowN len (sc es))) ∧ Below w.heap.size w w2 := by
  by_cases h0 : len = 0
  · subst h0
    exact (refScalars_none a cap w).mono fun e w2 ⟨h1, h2⟩ => ⟨⟨none, 0, h1, rfl, .inl rfl⟩, h2⟩
  · obtain ⟨hl, _, _, hr⟩ := h
    rcases hr with h1 | ⟨b, off, rfl, hr⟩
    · exact absurd h1 h0
    · exact (refScalars_row len b off cap es w N hl (by omega) hv hr).mono fun e w2 ⟨⟨g, c, h1, h2⟩, h3⟩ => ⟨⟨_, c, h1, rowZ_of h2⟩, h3⟩

theorem drewN_zero_below {w w2 : World} {m : Nat} (h : w2 = w.drewN m) : Below w.heap.size w w2 := by rw [h]; exact below_drewN (Below.refl _ _) m

set_option maxHeartbeats 2000000 in
theorem clocksScalars_walk (N : Int) (a : Option Addr) (len cap : Nat) (es : List Ev) (w : World) (h : CameEv w a len cap es) :
    Calls Try.prog 5 #[.int .i64 N, .slice a len cap] w fun e w2 => e = .returned (.bool true) ∧ Below w.heap.size w w2 := by
  have HC : Hid (∀ w1, Below w.heap.size w w1 → Calls Try.prog 10 #[.int .i64 N, .slice a len cap] w1 fun e w2 => e = .returned (.int .i64 (evsCode N es)) ∧ Below w1.heap.size w1 w2) := fun w1 hb => refEvents_any N a len cap es w1 (h.below hb)
  by_cases hz : evsCode N es = 0
  · have hv := valid_of hz
    have HS := hidMk (scalars_ok N a len cap es w h hz)
    rw [hz] at HC
    have HR : Hid (∀ w1, Below w.heap.size w w1 → Calls Try.prog 15 #[.slice a len cap] w1 fun e w2 => (∃ a2 c2, e = .returned (.slice a2 len c2) ∧ RowZ w2 a2 len (rowN len (sc es))) ∧ Below w1.heap.size w1 w2) := fun w1 hb => refScalars_any N a len cap es w1 (h.below hb) hv
    have h60 : len ≤ 60 := by have := hv.2.2.1; have := h.1; omega
    clear h hv hz
    go_enter Try.func5, Try.ntmps5
    go_wp2_with (first
      | (go_at_call 14; refine (ints_any _ _ len len _ _ (rowN len (sc es)) (rowN len (sc es)) _ (rowZ_of hO4) hZ (by omega) (by omega)).mono ?_; rintro e w4 ⟨rfl, m, hw4⟩)
      | (go_at_call 15; refine (HR.out _ hB2').mono ?_; rintro e w3 ⟨⟨a2, c2, rfl, hZ⟩, hB3⟩; have hO4 := owns_below hO3 hB3; have hB3' := below_from hB2' hB3)
      | (go_at_call 10; refine (HC.out _ hB1).mono ?_; rintro e w2 ⟨rfl, hB2⟩; have hO3 := owns_below hO hB2; have hB2' := below_from hB1 hB2)
      | (go_at_call 13; refine (HS.out).mono ?_; rintro e w1 ⟨⟨O, rfl, hO⟩, hB1⟩))
    go_ret
    exact ⟨by simp, below_from hB3' (drewN_zero_below (m := m) rfl)⟩
  · have HS := hidMk (scalars_err N a len cap es w h hz)
    have hzn : (evsCode N es != 0) = true := by simpa using hz
    have hze : (evsCode N es == 0) = false := by simpa using hz
    generalize evsCode N es = c at HS HC hzn hze
    clear h hz
    go_enter Try.func5, Try.ntmps5
    go_wp2_with (first
      | (go_at_call 10; refine (HC.out _ hB1).mono ?_; rintro e w2 ⟨rfl, hB2⟩)
      | (go_at_call 13; refine (HS.out).mono ?_; rintro e w1 ⟨rfl, hB1⟩))
    go_ret
    exact ⟨by simp, below_from hB1 hB2⟩
end Go.Proofs.Yteahkegjekaanaa
