/- folkmootkeep.SnapEnds, walked. -/
import Derived.Test.YtdigkdebdlpnpaaV4
import Derived.Test.YtdigkdebdlpnpaaU4
namespace Go.Proofs.Ytdigkdebdlpnpaa
open Go.RowKit
set_option linter.unusedVariables false

theorem keep_below3 {A B : World} (h : Keep (fun _ => False) A B) : Below A.heap.size A B := h.below (Nat.le_refl _) (fun _ _ e => e)

set_option maxRecDepth 100000 in
set_option maxHeartbeats 4000000 in
theorem ends_bad {W : World} {ma pa : Option Addr} {mn mc pl pc : Nat} {zs : List Int} (hm : CameI W ma mn mc zs) (hz : snapCode zs pl ≠ 0) :
    Calls Try.prog 5 #[.slice ma mn mc, .slice pa pl pc] W fun e W2 => e = .returned (.bool true) ∧ Below W.heap.size W W2 := by
  have HP := hidMk (play_bad (pa := pa) (pc := pc) hm hz)
  unfold zeroSnapped at HP
  have hz' : (snapCode zs pl != 0) = true := by simpa using hz
  generalize snapCode zs pl = code at *
  clear hm hz
  go_enter Try.func5, Try.ntmps5
  go_wp2_with (go_at_call 8; refine (HP.out).mono ?_; rintro e w1 ⟨rfl, hk⟩)
  go_ret
  exact ⟨rfl, keep_below3 (hk.alloc _)⟩

set_option maxRecDepth 100000 in
set_option maxHeartbeats 4000000 in
theorem ends_far {W : World} {ma pa : Option Addr} {mn mc pl pc : Nat} {zs : List Int} {ps : List Pass} (hm : CameI W ma mn mc zs) (hp : CameP W pa pl pc ps) (hz : snapCode zs pl = 0) (hf : mn = 1 ∨ 3 < mn ∨ 12 < pl) :
    Calls Try.prog 5 #[.slice ma mn mc, .slice pa pl pc] W fun e W2 => e = .returned (.bool true) ∧ Below W.heap.size W W2 := by
  obtain ⟨h0, h6, hpl, hzs⟩ := code_zero hm.1 hz
  have HP := hidMk (play_seen hm hp hz h0 h6 hpl hzs)
  generalize stAt mn (st0 (monF zs)) ps pl = S at *
  generalize codeAt mn (st0 (monF zs)) ps = cd at *
  generalize doneB mn S = dn at *
  have h0' : (1 : Int) ≤ (mn : Int) := by omega
  clear hm hp hz hzs
  rcases hf with rfl | hf | hf
  · go_enter Try.func5, Try.ntmps5
    go_wp2_with (go_at_call 8; refine (HP.out).mono ?_; rintro e w1 ⟨⟨C, B, gm, om, cm, go, oo, co, rfl, hS, hcm, hco⟩, hk⟩)
    all_goals (go_ret; exact ⟨by simp, keep_below3 (hk.alloc _)⟩)
  · have hf' : (3 : Int) < (mn : Int) := by omega
    go_enter Try.func5, Try.ntmps5
    go_wp2_with (go_at_call 8; refine (HP.out).mono ?_; rintro e w1 ⟨⟨C, B, gm, om, cm, go, oo, co, rfl, hS, hcm, hco⟩, hk⟩)
    go_ret
    exact ⟨by simp, keep_below3 (hk.alloc _)⟩
  · have hf' : (12 : Int) < (pl : Int) := by omega
    by_cases h1 : mn = 1
    · subst h1
      go_enter Try.func5, Try.ntmps5
      go_wp2_with (go_at_call 8; refine (HP.out).mono ?_; rintro e w1 ⟨⟨C, B, gm, om, cm, go, oo, co, rfl, hS, hcm, hco⟩, hk⟩)
      all_goals (go_ret; exact ⟨by simp, keep_below3 (hk.alloc _)⟩)
    · have h1' : (2 : Int) ≤ (mn : Int) := by omega
      by_cases h2 : 3 < mn
      · have h2' : (3 : Int) < (mn : Int) := by omega
        go_enter Try.func5, Try.ntmps5
        go_wp2_with (go_at_call 8; refine (HP.out).mono ?_; rintro e w1 ⟨⟨C, B, gm, om, cm, go, oo, co, rfl, hS, hcm, hco⟩, hk⟩)
        go_ret
        exact ⟨by simp, keep_below3 (hk.alloc _)⟩
      · have h2' : (mn : Int) ≤ 3 := by omega
        go_enter Try.func5, Try.ntmps5
        go_wp2_with (go_at_call 8; refine (HP.out).mono ?_; rintro e w1 ⟨⟨C, B, gm, om, cm, go, oo, co, rfl, hS, hcm, hco⟩, hk⟩)
        go_ret
        exact ⟨by simp, keep_below3 (hk.alloc _)⟩
end Go.Proofs.Ytdigkdebdlpnpaa
