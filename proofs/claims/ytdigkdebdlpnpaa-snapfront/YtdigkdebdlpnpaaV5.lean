/- folkmootref.Ints and folkmootkeep.begins, of what is the same. -/
import Derived.Test.YtdigkdebdlpnpaaV3
namespace Go.Proofs.Ytdigkdebdlpnpaa
open Go.RowKit
set_option linter.unusedVariables false

theorem drewN_add (w : World) (a b : Nat) : (w.drewN a).drewN b = w.drewN (a + b) := by
  simp [World.drewN, Nat.add_assoc]
set_option maxRecDepth 100000 in
set_option maxHeartbeats 4000000 in
theorem ints_same {w : World} {a b : Option Addr} {n c d : Nat} {xs : List Int} (h1 : CameI w a n c xs) (h2 : CameI w b n d xs) (hn : n ≤ 1000) :
    Calls Try.prog 20 #[.slice a n c, .slice b n d] w fun e w2 => e = .returned (.bool true) ∧ ∃ k, w2 = w.drewN k := by
  obtain ⟨l1, c1, _, r1⟩ := h1
  obtain ⟨l2, c2, _, r2⟩ := h2
  have hn' : (n : Int) ≤ 1000 := by omega
  by_cases hn0 : n = 0
  · subst hn0
    clear r1 r2
    go_enter Try.func20, Try.ntmps20
    go_wp2
    go_loopw [5] (fun u wr => u = .int .i64 0 ∧ wr = w) (fun u _ => 0)
    case atStart => exact ⟨rfl, rfl⟩
    case round =>
      obtain ⟨rfl, hwr⟩ := hrel
      subst hwr
      go_wp2
      go_ret
      exact ⟨rfl, 0, rfl⟩
  · rcases r1 with r1 | ⟨g1, o1, rfl, b1, k1⟩
    · exact absurd r1 hn0
    rcases r2 with r2 | ⟨g2, o2, rfl, b2, k2⟩
    · exact absurd r2 hn0
    have H1 := hidMk k1
    have H2 := hidMk k2
    clear k1 k2
    go_enter Try.func20, Try.ntmps20
    go_wp2
    go_loopw [5] (fun u wr => ∃ k q : Nat, k ≤ n ∧ u = .int .i64 (k : Int) ∧ wr = w.drewN q) (fun u _ => n - (intOf u).toNat)
    case atStart => exact ⟨0, 0, Nat.zero_le _, rfl, rfl⟩
    case round =>
      obtain ⟨k, q, hk, rfl, hwr⟩ := hrel
      by_cases hlt : k < n
      · have hlt' : (k : Int) < (n : Int) := by omega
        have hx : xs[k]? = some (xs[k]'(by omega)) := List.getElem?_eq_getElem (by omega)
        generalize xs[k]'(by omega) = x at hx
        have d1 : wr.cell? ⟨g1, o1 + k, none⟩ = some (.int .i64 x) := by rw [hwr]; exact H1.out k x hx
        have d2 : wr.cell? ⟨g2, o2 + k, none⟩ = some (.int .i64 x) := by rw [hwr]; exact H2.out k x hx
        have HW := hidMk hwr
        clear hwr hx
        go_wp2
        go_quiet (fail)
        go_wp2
        go_roundw
        case rel => exact ⟨k + 1, q + nq, by omega, by go_num, by rw [HW.out, drewN_add]⟩
        case measure => simp [intOf]; omega
      · obtain rfl : k = n := by omega
        go_wp2
        go_ret
        exact ⟨rfl, q, by first | rfl | exact hwr⟩

theorem CameI.take {w : World} {a : Option Addr} {len cap : Nat} {zs : List Int} (h : CameI w a len cap zs) {m : Nat} (hm : m ≤ len) : CameI w a m cap (zs.take m) := by
  obtain ⟨h1, h2, h3, h4⟩ := h
  refine ⟨by rw [List.length_take]; omega, by omega, by omega, ?_⟩
  rcases h4 with h4 | ⟨b, off, h5, h6, h7⟩
  · exact .inl (by omega)
  · exact .inr ⟨b, off, h5, h6, fun j z hz => h7 j z (by rw [List.getElem?_take] at hz; split at hz <;> simp_all)⟩
theorem CameP.take {w : World} {a : Option Addr} {len cap : Nat} {ps : List Pass} (h : CameP w a len cap ps) {m : Nat} (hm : m ≤ len) : CameP w a m cap (ps.take m) := by
  obtain ⟨h1, h2, h3, h4⟩ := h
  refine ⟨by rw [List.length_take]; omega, by omega, by omega, ?_⟩
  rcases h4 with h4 | ⟨b, off, h5, h6, h7⟩
  · exact .inl (by omega)
  · exact .inr ⟨b, off, h5, h6, fun j z hz => h7 j z (by rw [List.getElem?_take] at hz; split at hz <;> simp_all)⟩

set_option maxRecDepth 100000 in
set_option maxHeartbeats 4000000 in
theorem begins_any {w : World} {a b : Option Addr} {n m c d : Nat} {xs r : List Int} (h1 : CameI w a n c xs) (h2 : CameI w b m d (xs ++ r)) (hm : m ≤ 1000) :
    Calls Try.prog 11 #[.slice a n c, .slice b m d] w fun e w2 => e = .returned (.bool true) ∧ ∃ k, w2 = w.drewN k := by
  have hnm : n ≤ m := by have e1 := h1.1; have e2 := h2.1; rw [List.length_append] at e2; omega
  have h3 : CameI w b n d xs := by
    have := h2.take hnm
    rwa [List.take_append_of_le_length (by have := h1.1; omega), List.take_of_length_le (by have := h1.1; omega)] at this
  have HI := hidMk (ints_same h1 h3 (by omega))
  have hnm' : (n : Int) ≤ (m : Int) := by omega
  have hmd := h2.2.1
  have hnd : (n : Int) ≤ (d : Int) := by omega
  clear h1 h2 h3
  go_enter Try.func11, Try.ntmps11
  go_wp2_with (go_at_call 20; refine (HI.out).mono ?_; rintro e w1 ⟨rfl, k, hk⟩)
  go_ret
  exact ⟨rfl, k, by first | rfl | exact hk⟩
end Go.Proofs.Ytdigkdebdlpnpaa
