/- The ring: numbers as they come in; folkmootkeep.greatest. -/
import Derived.Test.YtadanpghmfhhkaaRg9
import Derived.Test.YtadanpghmfhhkaaRh1
namespace Go.Proofs.Ytadanpghmfhhkaa
open Go.RowKit Go.ChangeShapes Go.WideShapes Go.Deep
set_option linter.unusedVariables false

/-- Numbers as a slice that came in. -/
def CameI (w : World) (a : Option Addr) (len cap : Nat) (zs : List Int) : Prop := RowI w a len cap zs
theorem came_ints {w : World} {a : Option Addr} {len cap : Nat} {zs : List Int}
    (h : (a = none ∧ len = 0 ∧ cap = 0 ∧ zs = []) ∨
      ∃ x, a = some x ∧ len ≤ cap ∧ cap ≤ maxLen ∧ zs.length = cap ∧ (∀ i, i < zs.length → w.cell? (x.add i) = some (.int .i64 (zs.getD i 0))) ∧ ∀ n ∈ zs, (Lit.int .i64 n).wf = true) :
    CameI w a len cap (zs.take len) := by
  rcases h with ⟨rfl, rfl, rfl, rfl⟩ | ⟨⟨b, off, spot⟩, rfl, hl, hm, hz, hcell, hwz⟩
  · exact ⟨rfl, Nat.le_refl _, Nat.zero_le _, .inl rfl⟩
  · refine ⟨by simp; omega, hl, Nat.le_trans hl hm, ?_⟩
    by_cases h0 : len = 0
    · exact .inl h0
    · have hc := hcell 0 (by omega)
      have hspot : spot = none := by simpa [Addr.add] using World.cell?_spot hc
      subst hspot
      refine .inr ⟨b, off, rfl, ?_, ?_⟩
      · have hc' : w.cell? ⟨b, off + 0, none⟩ = some (.int .i64 (zs.getD 0 0)) := by simpa [Addr.add] using hc
        exact World.block_lt_of_cell? _ _ hc'
      · intro j x hn
        have hjl : j < (zs.take len).length := (List.getElem?_eq_some_iff.1 hn).1
        rw [List.length_take] at hjl
        have e : zs[j]? = some x := by rw [List.getElem?_take] at hn; split at hn <;> simp_all
        have hj' := hcell j (by omega)
        rw [List.getD_eq_getElem?_getD, e, Option.getD_some, addr_add] at hj'
        exact hj'
theorem dist_of {zs : List Int} {n : Nat} (h : zs.length = n) (hd : zs.Nodup) : Dist n (nmL zs) := fun i j hi hj e => nm_nodup hd (by omega) (by omega) e

set_option maxRecDepth 100000 in
set_option maxHeartbeats 4000000 in
theorem greatest_any {w : World} {a : Option Addr} {n c g : Nat} {zs : List Int} (h : RowI w a n c zs) (hn : n ≤ 1000) (hg : g < n) (hG : Great n (nmL zs) g) :
    Calls Try.prog 12 #[.slice a n c] w fun e w2 => e = .returned (.int .i64 (g : Int)) ∧ ∃ m, w2 = w.drewN m := by
  obtain ⟨l1, c1, _, r1⟩ := h
  have hn' : (n : Int) ≤ 1000 := by omega
  rcases r1 with r1 | ⟨b, o, rfl, _, k1⟩
  · omega
  have HC : Hid (∀ i, i < n → w.cell? ⟨b, o + i, none⟩ = some (.int .i64 (nmL zs i))) := fun i hi => k1 i _ (nmL_at (by omega))
  have HG := hidMk hG
  clear k1 hG l1
  generalize nmL zs = nm at *
  go_enter Try.func12, Try.ntmps12
  go_wp2
  go_loopw [3, 4] (fun v u wr => ∃ k be q : Nat, k ≤ n ∧ be < n ∧ u = .int .i64 (k : Int) ∧ v = .int .i64 (be : Int) ∧ wr = w.drewN q ∧ Hid (∀ i, i < k → nm i ≤ nm be)) (fun _ u _ => n - (intOf u).toNat)
  case atStart => exact ⟨0, 0, 0, Nat.zero_le _, by omega, rfl, rfl, rfl, fun i hi => by omega⟩
  case round =>
    obtain ⟨k, be, q, hk, hbe, rfl, rfl, hwr, HA⟩ := hrel
    by_cases hlt : k < n
    · have hlt' : (k : Int) < (n : Int) := by omega
      have hbe' : (be : Int) < (n : Int) := by omega
      have d1 : wr.cell? ⟨b, o + k, none⟩ = some (.int .i64 (nm k)) := by rw [hwr]; exact HC.out k hlt
      have d2 : wr.cell? ⟨b, o + be, none⟩ = some (.int .i64 (nm be)) := by rw [hwr]; exact HC.out be hbe
      have HW := hidMk hwr
      clear hwr
      by_cases hx : nm be < nm k
      · have q1 : decide (nm be < nm k) = true := decide_eq_true hx
        have HX := hidMk hx
        clear hx
        go_wp2_with (fail)
        go_quiet (fail)
        go_wp2
        go_roundw
        case rel =>
          refine ⟨k + 1, k, q + nq, by omega, by omega, by go_num, rfl, by rw [HW.out, drewN_plus], fun i hi => ?_⟩
          by_cases e : i = k
          · subst e; exact Int.le_refl _
          · have := HA.out i (by omega)
            have := HX.out
            omega
        case measure => simp [intOf]; omega
      · have q1 : decide (nm be < nm k) = false := decide_eq_false hx
        have HX := hidMk hx
        clear hx
        go_wp2_with (fail)
        go_quiet (fail)
        go_wp2
        go_roundw
        case rel =>
          refine ⟨k + 1, be, q + nq, by omega, by omega, by go_num, rfl, by rw [HW.out, drewN_plus], fun i hi => ?_⟩
          by_cases e : i = k
          · subst e; have := HX.out; omega
          · exact HA.out i (by omega)
        case measure => simp [intOf]; omega
    · obtain rfl : k = n := by omega
      have e : be = g := by
        refine Classical.byContradiction fun e => ?_
        have h1 := HG.out be hbe e
        have h2 := HA.out g hg
        omega
      have HW := hidMk hwr
      subst e
      clear hwr
      go_wp2
      go_ret
      exact ⟨rfl, q, HW.out⟩
end Go.Proofs.Ytadanpghmfhhkaa
