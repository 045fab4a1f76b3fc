/- The statement QuorumChecks, walked: whatever came in, it answers true and keeps what lay there. -/
import Derived.Test.YtblinhncklpidaaA9
namespace Go.Proofs.Ytblinhncklpidaa
open Go.RowKit

theorem came_of {w : World} {a : Option Addr} {len cap : Nat} {zs : List Int}
    (h : (a = none ∧ len = 0 ∧ cap = 0 ∧ zs = []) ∨
      ∃ x, a = some x ∧ len ≤ cap ∧ cap ≤ maxLen ∧ zs.length = cap ∧ (∀ i, i < zs.length → w.cell? (x.add i) = some (.int .u32 (zs.getD i 0))) ∧ ∀ n ∈ zs, (Lit.int .u32 n).wf = true) :
    Came32 w a len cap ((zs.take len).map Int.toNat) := by
  rcases h with ⟨rfl, rfl, rfl, rfl⟩ | ⟨⟨b, off, spot⟩, rfl, hl, hm, hz, hcell, hwz⟩
  · exact ⟨rfl, Nat.le_refl _, Nat.zero_le _, .inl rfl⟩
  · refine ⟨by simp; omega, hl, Nat.le_trans hl hm, ?_⟩
    by_cases h0 : len = 0
    · exact .inl h0
    · have hc := hcell 0 (by omega)
      have hspot : spot = none := by simpa [Addr.add] using World.cell?_spot hc
      subst hspot
      have hb : ∀ n ∈ zs, 0 ≤ n ∧ n < 4294967296 := by
        intro n hn
        have := hwz n hn
        have h2 : IntKind.u32.min ≤ n ∧ n ≤ IntKind.u32.max := by simpa [Lit.wf] using this
        have e1 : IntKind.u32.min = 0 := by decide
        have e2 : IntKind.u32.max = 4294967295 := by decide
        omega
      refine .inr ⟨b, off, rfl, ?_, ?_, ?_⟩
      · have hc' : w.cell? ⟨b, off + 0, none⟩ = some (.int .u32 (zs.getD 0 0)) := by simpa [Addr.add] using hc
        by_cases hlt : b < w.heap.size
        · exact hlt
        · simp [World.cell?, Array.getElem?_eq_none (Nat.le_of_not_lt hlt)] at hc'
      · intro x hx
        obtain ⟨n, hn, rfl⟩ := List.mem_map.1 hx
        have := hb n (List.mem_of_mem_take hn)
        omega
      · intro j x hj
        rw [List.getElem?_map, Option.map_eq_some_iff] at hj
        obtain ⟨n, hn, rfl⟩ := hj
        have hjl : j < (zs.take len).length := (List.getElem?_eq_some_iff.1 hn).1
        rw [List.length_take] at hjl
        have e : zs[j]? = some n := by rw [List.getElem?_take] at hn; split at hn <;> simp_all
        have hj' := hcell j (by omega)
        have hn0 := hb n (List.mem_of_getElem? e)
        rw [List.getD_eq_getElem?_getD, e, Option.getD_some] at hj'
        rw [Int.toNat_of_nonneg hn0.1]
        have ea : (Addr.add ⟨b, off, none⟩ j) = ⟨b, off + j, none⟩ := by
          by_cases h0 : j = 0
          · subst h0; simp [Addr.add]
          · simp [Addr.add, h0]
        rw [ea] at hj'; exact hj'

set_option maxHeartbeats 400000 in
theorem quorumChecks_walk (n : Int) (a : Option Addr) (len cap : Nat) (qs : List Nat) (w : World) (h : Came32 w a len cap qs) :
    Calls Try.prog 3 #[.int .i64 n, .slice a len cap] w fun e w' => e = .returned (.bool true) ∧ Below w.heap.size w w' := by
  have HC := hidMk (check_any n a len cap qs w h)
  have HS : Hid (∀ w1, Below w.heap.size w w1 → Calls Try.prog 10 #[.int .i64 n, .slice a len cap] w1 fun e w' => e = .returned (.int .i64 (sysCodeOf n qs)) ∧ w' = w1) :=
    fun w1 hb => refSystem_any n a len cap qs w1 (h.below hb)
  generalize sysCodeOf n qs = c at HC HS
  clear h
  go_enter Try.func3, Try.ntmps3
  go_wp2_with (first | (go_at_call 9; refine (HC.out).mono ?_; rintro e w1 ⟨rfl, hB⟩) | (go_at_call 10; refine (HS.out _ hB).mono ?_; rintro e w2 ⟨rfl, rfl⟩))
  go_ret
  exact ⟨by simp, hB⟩
end Go.Proofs.Ytblinhncklpidaa
