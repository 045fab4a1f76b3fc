/- folkmootlaw.CutsGrows and CutsShrinks, walked. -/
import Derived.Test.YtjglbjiekndpeaaP1
namespace Go.Proofs.Ytjglbjiekndpeaa
open Go.RowKit Go.Shelf
set_option linter.unusedVariables false

set_option maxHeartbeats 2000000 in
theorem cutsGrows_walk (N : Int) (a : Option Addr) (len cap : Nat) (es : List Ev) (w : World) (h : CameEv w a len cap es) (a2 : Option Addr) (n2 c2 : Nat) (zs : List Int) (hc : CameI w a2 n2 c2 zs) :
    Calls Try.prog 4 #[.int .i64 N, .slice a len cap, .slice a2 n2 c2] w fun e w2 => e = .returned (.bool true) ∧ Below w.heap.size w w2 := by
  have HC : Hid (∀ w1, Below w.heap.size w w1 → Calls Try.prog 10 #[.int .i64 N, .slice a len cap, .slice a2 n2 c2] w1 fun e W2 => e = .returned (.int .i64 (wholeE N es zs)) ∧ Below w1.heap.size w1 W2) := fun w1 hb => cutCheck_any N a len cap es w1 (h.below hb) a2 n2 c2 zs (hc.below hb)
  by_cases hE : wholeE N es zs = 0
  · obtain ⟨hz, hcc⟩ := wholeE_zero.1 hE
    have hv := valid_of hz
    obtain ⟨n, rfl⟩ : ∃ n : Nat, N = n := ⟨N.toNat, by have := hv.1; omega⟩
    have HW := hidMk (grow_ok n a len cap es w h a2 n2 c2 zs hc hz hcc)
    have HR : Hid (∀ w1, Below w.heap.size w w1 → Calls Try.prog 14 #[.slice a len cap, .slice a2 n2 c2] w1 fun e W2 => (∃ g, e = .returned (.slice (some ⟨g, 0, none⟩) n n) ∧ RowI W2 w1.heap.size g n (grown es (atN zs))) ∧ Below w1.heap.size w1 W2) := fun w1 hb => refGrown_any n a len cap es w1 (h.below hb) hz a2 n2 c2 zs (hc.below hb) hcc
    have hn6 : n ≤ 6 := by have := hv.2.1; omega
    rw [hE] at HC
    generalize grown es (atN zs) = F0 at HR HW
    clear h hc hE hz hcc hv
    go_enter Try.func4, Try.ntmps4
    go_wp2_with (first
      | (go_at_call 13; refine (ints_any _ _ n n _ _ (rowN n F0) (rowN n F0) _ (rowZ_of hO4) (rowZ_of hZ) (by omega) (by omega)).mono ?_; rintro e w4 ⟨rfl, m, hw4⟩)
      | (go_at_call 14; refine (HR.out _ hB2').mono ?_; rintro e w3 ⟨⟨g2, rfl, hZ⟩, hB3⟩; have hO4 := owns_below hO3 hB3; have hB3' := below_from hB2' hB3)
      | (go_at_call 10; refine (HC.out _ hB1).mono ?_; rintro e w2 ⟨rfl, hB2⟩; have hO3 := owns_below hO hB2; have hB2' := below_from hB1 hB2)
      | (go_at_call 12; refine (HW.out).mono ?_; rintro e w1 ⟨⟨g, rfl, hO⟩, hB1⟩))
    go_ret
    exact ⟨by simp, below_from hB3' (drewN_zero_below (m := m) rfl)⟩
  · have HW := hidMk (grow_err N a len cap es w h a2 n2 c2 zs hc hE)
    have hne : (wholeE N es zs != 0) = true := by simpa using hE
    generalize wholeE N es zs = c at HC HW hne
    clear h hc hE
    go_enter Try.func4, Try.ntmps4
    go_wp2_with (first
      | (go_at_call 10; refine (HC.out _ hB1).mono ?_; rintro e w2 ⟨rfl, hB2⟩; have hB2' := below_from hB1 hB2)
      | (go_at_call 12; refine (HW.out).mono ?_; rintro e w1 ⟨rfl, hB1⟩))
    go_ret
    exact ⟨by simp, hB2'⟩

set_option maxHeartbeats 2000000 in
theorem cutsShrinks_walk (N : Int) (a : Option Addr) (len cap : Nat) (es : List Ev) (w : World) (h : CameEv w a len cap es) (a2 : Option Addr) (n2 c2 : Nat) (zs : List Int) (hc : CameI w a2 n2 c2 zs) :
    Calls Try.prog 5 #[.int .i64 N, .slice a len cap, .slice a2 n2 c2] w fun e w2 => e = .returned (.bool true) ∧ Below w.heap.size w w2 := by
  have HC : Hid (∀ w1, Below w.heap.size w w1 → Calls Try.prog 10 #[.int .i64 N, .slice a len cap, .slice a2 n2 c2] w1 fun e W2 => e = .returned (.int .i64 (wholeE N es zs)) ∧ Below w1.heap.size w1 W2) := fun w1 hb => cutCheck_any N a len cap es w1 (h.below hb) a2 n2 c2 zs (hc.below hb)
  by_cases hE : wholeE N es zs = 0
  · obtain ⟨hz, hcc⟩ := wholeE_zero.1 hE
    have hv := valid_of hz
    obtain ⟨n, rfl⟩ : ∃ n : Nat, N = n := ⟨N.toNat, by have := hv.1; omega⟩
    have HW := hidMk (shrink_ok n a len cap es w h a2 n2 c2 zs hc hz hcc)
    have HR : Hid (∀ w1, Below w.heap.size w w1 → Calls Try.prog 16 #[.slice a len cap, .slice a2 n2 c2] w1 fun e W2 => (∃ g, e = .returned (.slice (some ⟨g, 0, none⟩) n n) ∧ RowI W2 w1.heap.size g n (shrunk es (atN zs))) ∧ Below w1.heap.size w1 W2) := fun w1 hb => refShrunk_any n a len cap es w1 (h.below hb) hz a2 n2 c2 zs (hc.below hb) hcc
    have hn6 : n ≤ 6 := by have := hv.2.1; omega
    rw [hE] at HC
    generalize shrunk es (atN zs) = F0 at HR HW
    clear h hc hE hz hcc hv
    go_enter Try.func5, Try.ntmps5
    go_wp2_with (first
      | (go_at_call 13; refine (ints_any _ _ n n _ _ (rowN n F0) (rowN n F0) _ (rowZ_of hO4) (rowZ_of hZ) (by omega) (by omega)).mono ?_; rintro e w4 ⟨rfl, m, hw4⟩)
      | (go_at_call 16; refine (HR.out _ hB2').mono ?_; rintro e w3 ⟨⟨g2, rfl, hZ⟩, hB3⟩; have hO4 := owns_below hO3 hB3; have hB3' := below_from hB2' hB3)
      | (go_at_call 10; refine (HC.out _ hB1).mono ?_; rintro e w2 ⟨rfl, hB2⟩; have hO3 := owns_below hO hB2; have hB2' := below_from hB1 hB2)
      | (go_at_call 15; refine (HW.out).mono ?_; rintro e w1 ⟨⟨g, rfl, hO⟩, hB1⟩))
    go_ret
    exact ⟨by simp, below_from hB3' (drewN_zero_below (m := m) rfl)⟩
  · have HW := hidMk (shrink_err N a len cap es w h a2 n2 c2 zs hc hE)
    have hne : (wholeE N es zs != 0) = true := by simpa using hE
    generalize wholeE N es zs = c at HC HW hne
    clear h hc hE
    go_enter Try.func5, Try.ntmps5
    go_wp2_with (first
      | (go_at_call 10; refine (HC.out _ hB1).mono ?_; rintro e w2 ⟨rfl, hB2⟩; have hB2' := below_from hB1 hB2)
      | (go_at_call 15; refine (HW.out).mono ?_; rintro e w1 ⟨rfl, hB1⟩))
    go_ret
    exact ⟨by simp, hB2'⟩
end Go.Proofs.Ytjglbjiekndpeaa
