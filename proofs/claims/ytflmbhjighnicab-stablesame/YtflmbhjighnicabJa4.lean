/- Machines in a ring: the document's Free and Moved; states. -/
import Derived.Test.YtflmbhjighnicabJa3
namespace Go.Proofs.Ytflmbhjighnicab
open Go.RowKit
set_option linter.unusedVariables false

/-- Numbers as a slice that came in. -/
def CameI (w : World) (a : Option Addr) (len cap : Nat) (zs : List Int) : Prop := RowI w a len cap zs
theorem came_ints {w : World} {a : Option Addr} {len cap : Nat} {zs : List Int}
    (h : (a = none ∧ len = 0 ∧ cap = 0 ∧ zs = []) ∨
      ∃ x, a = some x ∧ len ≤ cap ∧ cap ≤ maxLen ∧ zs.length = cap ∧ (∀ i, i < zs.length → w.cell? (x.add i) = some (.int .i64 (zs.getD i 0))) ∧ ∀ n ∈ zs, (Lit.int .i64 n).wf = true) :
    CameI w a len cap (zs.take len) := by
  rcases h with ⟨rfl, rfl, rfl, rfl⟩ | ⟨⟨b, off, spot⟩, rfl, hl, hm, hz, hcell, hwz⟩
  · exact ⟨rfl, Nat.le_refl _, Nat.zero_le _, .inl rfl⟩
  · refine ⟨by simp; omega, hl, Nat.le_trans hl hm, ?_⟩
    by_cases h0 : len = 0
    · exact .inl h0
    · have hc := hcell 0 (by omega)
      have hspot : spot = none := by simpa [Addr.add] using World.cell?_spot hc
      subst hspot
      refine .inr ⟨b, off, rfl, ?_, ?_⟩
      · have hc' : w.cell? ⟨b, off + 0, none⟩ = some (.int .i64 (zs.getD 0 0)) := by simpa [Addr.add] using hc
        exact World.block_lt_of_cell? _ _ hc'
      · intro j x hn
        have hjl : j < (zs.take len).length := (List.getElem?_eq_some_iff.1 hn).1
        rw [List.length_take] at hjl
        have e : zs[j]? = some x := by rw [List.getElem?_take] at hn; split at hn <;> simp_all
        have hj' := hcell j (by omega)
        rw [List.getD_eq_getElem?_getD, e, Option.getD_some, addr_add] at hj'
        exact hj'
/-- States that came in and may be. -/
theorem stJ {w : World} {a : Option Addr} {n c : Nat} {zs : List Int} {k : Int} (h : RowI w a n c zs) (hz : codeJ k zs = 0) :
    ∃ s, zs = rwJ n s ∧ RowI w a n c (rwJ n s) ∧ 2 ≤ n ∧ n ≤ 6 ∧ 2 ≤ k ∧ k ≤ 1000 ∧ OkJ k n s := by
  have hl := h.1
  obtain ⟨h1, h2, h3, h4, _⟩ := codeJ_zero hz
  have hv := okJ_of hz
  have e := rwJ_of zs
  subst hl
  exact ⟨_, e, by rw [← e]; exact h, h1, h2, h3, h4, hv⟩

theorem code_bool (x : Int) : Ending.returned (.bool (x == 0)) = Ending.returned (.bool (decide (x = 0))) := by
  congr 2
set_option maxRecDepth 100000 in
set_option maxHeartbeats 4000000 in
theorem states_any {w : World} {a : Option Addr} {len cap : Nat} {zs : List Int} (h : RowI w a len cap zs) (k : Int) :
    Calls Try.prog 5 #[.int .i64 k, .slice a len cap] w fun e w2 => e = .returned (.bool (codeJ k zs == 0)) ∧ w2 = w := by
  have HC := hidMk (refCheckJ h k)
  generalize codeJ k zs = rc at *
  clear h
  go_enter Try.func5, Try.ntmps5
  go_wp2_with (go_at_call 8; refine (HC.out).mono ?_; rintro e w1 ⟨rfl, hw⟩; obtain rfl := hw.symm)
  go_ret
  exact ⟨rfl, rfl⟩


end Go.Proofs.Ytflmbhjighnicab
