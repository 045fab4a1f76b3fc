/- check; slices.Clone; slices.Repeat; slices.Contains. -/
import Derived.Test.YthadhhconkjpmaaT6
namespace Go.Proofs.Ythadhhconkjpmaa
open Go.RowKit Go.WideMaps
set_option linter.unusedVariables false

/-- Numbers as a slice that came in. -/
def CameI (w : World) (a : Option Addr) (len cap : Nat) (zs : List Int) : Prop :=
  zs.length = len ∧ len ≤ cap ∧ len ≤ maxLen ∧ (len = 0 ∨ ∃ b off, a = some ⟨b, off, none⟩ ∧ b < w.heap.size ∧ ∀ (j : Nat) (z : Int), zs[j]? = some z → w.cell? ⟨b, off + j, none⟩ = some (.int .i64 z))
theorem CameI.keep {o : Nat → Prop} {w w' : World} {a : Option Addr} {len cap : Nat} {zs : List Int} (h : CameI w a len cap zs) (hb : Keep o w w') (ho : ∀ k, k < w.heap.size → ¬ o k) : CameI w' a len cap zs := by
  obtain ⟨h1, h2, h3, h4⟩ := h
  refine ⟨h1, h2, h3, ?_⟩
  rcases h4 with h4 | ⟨b, off, e, hr, hc⟩
  · exact .inl h4
  · exact .inr ⟨b, off, e, Nat.lt_of_lt_of_le hr hb.size, fun j z hz => (World.cell?_of_block (hb.block b hr (ho b hr))).trans (hc j z hz)⟩
def badM (z : Int) : Bool := decide (z < 0) || decide (1000 < z)

set_option maxRecDepth 100000 in
set_option maxHeartbeats 4000000 in
theorem check_any {w : World} {a : Option Addr} {len cap : Nat} {zs : List Int} (h : CameI w a len cap zs) (pa : Option Addr) (pl pc : Nat) :
    Calls Try.prog 7 #[.slice a len cap, .slice pa pl pc] w fun e w2 => e = .returned (.int .i64 (snapCode zs pl)) ∧ w2 = w := by
  obtain ⟨h1, h2, h3, h4⟩ := h
  by_cases hl : len = 0 ∨ 6 < len ∨ 120 < pl
  · have e : snapCode zs pl = 1 := by unfold snapCode; rw [h1, if_pos hl]
    rw [e]
    clear h4 h3 e
    by_cases l0 : len = 0
    · have l0' : ((len : Int) == 0) = true := by simp [l0]
      go_enter Try.func7, Try.ntmps7
      go_wp2
      go_ret
      exact ⟨rfl, rfl⟩
    · have l0' : ((len : Int) == 0) = false := by simp [l0]
      by_cases l1 : 6 < len
      · have l1' : decide ((6 : Int) < (len : Int)) = true := by simp; omega
        have l1'' : (6 : Int) < (len : Int) := by omega
        go_enter Try.func7, Try.ntmps7
        go_wp2
        go_ret
        exact ⟨rfl, rfl⟩
      · have l1'' : (len : Int) ≤ 6 := by omega
        have l2 : (120 : Int) < (pl : Int) := by omega
        go_enter Try.func7, Try.ntmps7
        go_wp2
        go_ret
        exact ⟨rfl, rfl⟩
  · have l0 : len ≠ 0 := fun e => hl (.inl e)
    have l1 : len ≤ 6 := by omega
    have l2 : pl ≤ 120 := by omega
    have l0' : ((len : Int) == 0) = false := by simp [l0]
    have l1' : (len : Int) ≤ 6 := by omega
    have l2' : (pl : Int) ≤ 120 := by omega
    rcases h4 with h4 | ⟨b, off, rfl, hlt, hc⟩
    · exact absurd h4 l0
    have HC := hidMk hc
    have HE : Hid (snapCode zs pl = if zs.any badM then 2 else 0) := by
      show snapCode zs pl = _
      unfold snapCode
      rw [h1, if_neg hl]
      rfl
    clear hc h3
    go_enter Try.func7, Try.ntmps7
    go_wp2
    go_loopw [22] (fun u wr => ∃ k : Nat, k ≤ len ∧ u = .int .i64 (k : Int) ∧ wr = w ∧ Hid ((zs.take k).any badM = false)) (fun u _ => len - (intOf u).toNat)
    case atStart => exact ⟨0, Nat.zero_le _, rfl, rfl, by simp [Hid]⟩
    case round =>
      obtain ⟨k, hk, rfl, hwr, HA⟩ := hrel
      subst hwr
      by_cases hlt2 : k < len
      · have hlt' : (k : Int) < (len : Int) := by omega
        have hz : zs[k]? = some (zs[k]'(by omega)) := List.getElem?_eq_getElem (by omega)
        generalize zs[k]'(by omega) = z at hz
        have hcz := HC.out k z hz
        have HZ := hidMk hz
        clear hz
        by_cases z0 : z < 0
        · have HB : Hid (zs.any badM = true) := List.any_eq_true.2 ⟨z, List.mem_of_getElem? HZ.out, by simp [badM, z0]⟩
          go_wp2
          go_ret
          exact ⟨by rw [HE.out, HB.out]; rfl, rfl⟩
        · have z0' : 0 ≤ z := by omega
          by_cases z1 : 1000 < z
          · have HB : Hid (zs.any badM = true) := List.any_eq_true.2 ⟨z, List.mem_of_getElem? HZ.out, by simp [badM, z1]⟩
            go_wp2
            go_ret
            exact ⟨by rw [HE.out, HB.out]; rfl, rfl⟩
          · have z1' : z ≤ 1000 := by omega
            go_wp2
            go_roundw
            case rel =>
              refine ⟨k + 1, by omega, by go_num, by trivial, ?_⟩
              show (zs.take (k + 1)).any badM = false
              rw [List.take_add_one, HZ.out, List.any_append, HA.out]
              simp [badM]
              omega
            case measure => simp [intOf]; omega
      · obtain rfl : k = len := by omega
        go_wp2
        go_ret
        refine ⟨?_, rfl⟩
        have := HA.out
        rw [List.take_of_length_le (by omega)] at this
        rw [HE.out, this]
        rfl
end Go.Proofs.Ythadhhconkjpmaa
