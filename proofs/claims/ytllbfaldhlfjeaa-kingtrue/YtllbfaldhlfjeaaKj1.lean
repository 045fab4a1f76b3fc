/- King: numbers and a row of lies as they come in. -/
import Derived.Test.YtllbfaldhlfjeaaKj0
namespace Go.Proofs.Ytllbfaldhlfjeaa
open Go.RowKit
set_option linter.unusedVariables false

theorem u32_inK {z : Int} (hz : (Lit.int .u32 z).wf = true) : ∃ t : Nat, z = (t : Int) ∧ t < 4294967296 := by
  have h2 : IntKind.u32.min ≤ z ∧ z ≤ IntKind.u32.max := by simpa [Lit.wf] using hz
  have e1 : IntKind.u32.min = 0 := by decide
  have e2 : IntKind.u32.max = 4294967295 := by decide
  exact ⟨z.toNat, by omega, by omega⟩
theorem u64_inK {z : Int} (hz : (Lit.int .u64 z).wf = true) : ∃ t : Nat, z = (t : Int) ∧ t < 18446744073709551616 := by
  have h2 : IntKind.u64.min ≤ z ∧ z ≤ IntKind.u64.max := by simpa [Lit.wf] using hz
  have e1 : IntKind.u64.min = 0 := by decide
  have e2 : IntKind.u64.max = 18446744073709551615 := by decide
  exact ⟨z.toNat, by omega, by omega⟩
theorem came_u64s {w : World} {a : Option Addr} {len cap : Nat} {zs : List Int}
    (h : (a = none ∧ len = 0 ∧ cap = 0 ∧ zs = []) ∨
      ∃ x, a = some x ∧ len ≤ cap ∧ cap ≤ maxLen ∧ zs.length = cap ∧ (∀ i, i < zs.length → w.cell? (x.add i) = some (.int .u64 (zs.getD i 0))) ∧ ∀ n ∈ zs, (Lit.int .u64 n).wf = true) :
    RowQ w a len cap ((zs.take len).map Int.toNat) := by
  rcases h with ⟨rfl, rfl, rfl, rfl⟩ | ⟨⟨b, off, spot⟩, rfl, hl, hm, hz, hcell, hwz⟩
  · exact ⟨rfl, Nat.le_refl _, Nat.zero_le _, by simp, .inl rfl⟩
  · refine ⟨by simp; omega, hl, Nat.le_trans hl hm, ?_, ?_⟩
    · intro l hl'
      obtain ⟨z, hz', rfl⟩ := List.mem_map.1 hl'
      obtain ⟨t, rfl, ht⟩ := u64_inK (hwz z (List.mem_of_mem_take hz'))
      simpa using ht
    · by_cases h0 : len = 0
      · exact .inl h0
      · have hc := hcell 0 (by omega)
        have hspot : spot = none := by simpa [Addr.add] using World.cell?_spot hc
        subst hspot
        refine .inr ⟨b, off, rfl, ?_, ?_⟩
        · have hc' : w.cell? ⟨b, off + 0, none⟩ = some (.int .u64 (zs.getD 0 0)) := by simpa [Addr.add] using hc
          exact World.block_lt_of_cell? _ _ hc'
        · intro j x hn
          rw [List.getElem?_map] at hn
          obtain ⟨z, hz', rfl⟩ := Option.map_eq_some_iff.1 hn
          have hjl : j < (zs.take len).length := (List.getElem?_eq_some_iff.1 hz').1
          rw [List.length_take] at hjl
          have e : zs[j]? = some z := by rw [List.getElem?_take] at hz'; split at hz' <;> simp_all
          have hj' := hcell j (by omega)
          rw [List.getD_eq_getElem?_getD, e, Option.getD_some, addr_add] at hj'
          obtain ⟨t, rfl, ht⟩ := u64_inK (hwz z (List.mem_of_getElem? e))
          simpa using hj'
theorem kplays_in (hP : KPlayAt) {W : World} {n t zt zv : Int} {la : Option Addr} {ll lc : Nat} {ls : List Nat} (ht : (Lit.int .u32 zt).wf = true) (hv : (Lit.int .u32 zv).wf = true) (hq : RowQ W la ll lc ls) :
    Calls Try.prog 3 #[.int .i64 n, .int .i64 t, .int .u32 zt, .int .u32 zv, .slice la ll lc] W fun e W2 => e = .returned (.bool true) ∧ Below W.heap.size W W2 := by
  obtain ⟨T, rfl, hT⟩ := u32_inK ht
  obtain ⟨V, rfl, hV⟩ := u32_inK hv
  exact kplays_walk hP n t T V hT hV hq
theorem kagree_in (hP : KPlayAt) {W : World} {n t zt zv : Int} {la : Option Addr} {ll lc : Nat} {ls : List Nat} (ht : (Lit.int .u32 zt).wf = true) (hv : (Lit.int .u32 zv).wf = true) (hq : RowQ W la ll lc ls) :
    Calls Try.prog 4 #[.int .i64 n, .int .i64 t, .int .u32 zt, .int .u32 zv, .slice la ll lc] W fun e W2 => e = .returned (.bool true) ∧ Below W.heap.size W W2 := by
  obtain ⟨T, rfl, hT⟩ := u32_inK ht
  obtain ⟨V, rfl, hV⟩ := u32_inK hv
  exact kagree_walk hP n t T V hT hV hq
theorem ktrue_in (hP : KPlayAt) {W : World} {n t zv : Int} {la : Option Addr} {ll lc : Nat} {ls : List Nat} (hv : (Lit.int .u32 zv).wf = true) (hq : RowQ W la ll lc ls) :
    Calls Try.prog 5 #[.int .i64 n, .int .i64 t, .int .u32 zv, .slice la ll lc] W fun e W2 => e = .returned (.bool true) ∧ Below W.heap.size W W2 := by
  obtain ⟨V, rfl, hV⟩ := u32_inK hv
  exact ktrue_walk hP n t V hV hq
end Go.Proofs.Ytllbfaldhlfjeaa
