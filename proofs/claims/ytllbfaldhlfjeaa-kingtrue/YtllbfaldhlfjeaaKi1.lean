/- One phase each: what is said. -/
import Derived.Test.YtllbfaldhlfjeaaKi0
import Derived.Test.YtllbfaldhlfjeaaGe1
namespace Go.Proofs.Ytllbfaldhlfjeaa
open Go.RowKit
set_option linter.unusedVariables false

theorem wrapG {z : Int} (h : I64 z) : IntKind.i64.wrap z = z := by
  obtain ⟨h0, h1⟩ := h
  simp [IntKind.wrap, IntKind.bits, IntKind.signed]
  split <;> omega
/-- Numbers of 64 bits, as a slice. -/
def RowQ (w : World) (a : Option Addr) (len cap : Nat) (ls : List Nat) : Prop :=
  ls.length = len ∧ len ≤ cap ∧ len ≤ maxLen ∧ (∀ l ∈ ls, l < 18446744073709551616) ∧ (len = 0 ∨ ∃ b off, a = some ⟨b, off, none⟩ ∧ b < w.heap.size ∧ ∀ (j x : Nat), ls[j]? = some x → w.cell? ⟨b, off + j, none⟩ = some (.int .u64 (x : Int)))
theorem RowQ.still {w w' : World} {a : Option Addr} {len cap : Nat} {ls : List Nat} (h : RowQ w a len cap ls) (hs : Stil w w') : RowQ w' a len cap ls := by
  obtain ⟨h1, h2, h3, h5, h4⟩ := h
  refine ⟨h1, h2, h3, h5, ?_⟩
  rcases h4 with h4 | ⟨b, off, e, hr, hc⟩
  · exact .inl h4
  · exact .inr ⟨b, off, e, Nat.lt_of_lt_of_le hr hs.size, fun j x hx => hs.cell (hc j x hx)⟩
/-- What the lies say at a place. -/
def lieK (ls : List Nat) (pl b : Nat) : Bool := match ls[pl]? with
  | some l => l.testBit b
  | none => false
set_option maxRecDepth 100000 in
set_option maxHeartbeats 4000000 in
theorem says_any {W : World} {a : Option Addr} {len cap n T i j pl : Nat} {ls : List Nat} (x : Bool) (h : RowQ W a len cap ls) (hT : T < 4294967296) (hn : n ≤ 9) (hi : i < n) (hj : j < n) (hp : pl ≤ 100) :
    Calls Try.prog 17 #[.int .i64 (n : Int), .int .u32 (T : Int), .slice a len cap, .int .i64 (i : Int), .int .i64 (j : Int), .int .i64 (pl : Int), .bool x] W fun e w2 => e = .returned (.bool (saysK T.testBit (lieK ls) n i j pl x)) ∧ w2 = W := by
  obtain ⟨l1, l2, l3, l5, l4⟩ := h
  have hlm : (len : Int) ≤ 9223372036854775807 := by unfold maxLen at l3; omega
  have HB := hidMk (fun w => bitG_any T i hT (by omega) w)
  have HS : Hid (saysK T.testBit (lieK ls) n i j pl x = if T.testBit i = true then lieK ls pl ((n * i + j) % 64) else x) := rfl
  cases ht : T.testBit i
  · rw [ht] at HB HS
    clear l4 ht l3
    go_enter Try.func17, Try.ntmps17
    go_wp2_with (go_at_call 12; refine (HB.out _).mono ?_; rintro e w2 ⟨rfl, hw⟩; obtain rfl := hw.symm)
    go_ret
    exact ⟨by rw [HS.out]; rfl, rfl⟩
  · rw [ht] at HB HS
    clear ht l3
    by_cases hlt : pl < len
    · rcases l4 with l4 | ⟨b, off, rfl, hb, hc⟩
      · omega
      have e : ls[pl]? = some (ls[pl]'(by omega)) := List.getElem?_eq_getElem (by omega)
      have hl64 := l5 _ (List.getElem_mem (h := by omega) : ls[pl]'(by omega) ∈ ls)
      generalize ls[pl]'(by omega) = l at *
      have d0 := hc pl l e
      have hmul : n * i ≤ 81 := Nat.le_trans (Nat.mul_le_mul hn (show i ≤ 9 by omega)) (by omega)
      obtain ⟨p, hpe⟩ : ∃ p, p = n * i := ⟨_, rfl⟩
      have e1 : (n : Int) * (i : Int) = (p : Int) := by rw [hpe]; simp
      have w1 : IntKind.i64.wrap ((n : Int) * (i : Int)) = (p : Int) := by rw [e1]; exact wrapG ⟨by omega, by omega⟩
      have hp81 : p ≤ 81 := by omega
      obtain ⟨r, hr⟩ : ∃ r, r = (p + j) % 64 := ⟨_, rfl⟩
      have r1 : ((p : Int) + (j : Int)) % 64 = (r : Int) := by omega
      have r2 : ((p : Int) + (j : Int)).tmod 64 = (r : Int) := by rw [Int.tmod_eq_emod_of_nonneg (by omega)]; exact r1
      have r3 : r < 64 := by rw [hr]; exact Nat.mod_lt _ (by omega)
      have HS2 : Hid (saysK T.testBit (lieK ls) n i j pl x = l.testBit r) := by
        show _ = _
        rw [HS.out, if_pos rfl, ← hpe, ← hr]
        unfold lieK
        rw [e]
      have z1 : (pl : Int) < (len : Int) := by omega
      have z2 : decide ((len : Int) ≤ (pl : Int)) = false := decide_eq_false (by omega)
      have z3 : decide (len ≤ pl) = false := decide_eq_false (by omega)
      have hj9 : (j : Int) ≤ 9 := by omega
      clear hc e hpe e1 hr hmul
      go_enter Try.func17, Try.ntmps17
      go_wp2_with (go_at_call 12; refine (HB.out _).mono ?_; rintro e w2 ⟨rfl, hw⟩; obtain rfl := hw.symm)
      go_ret
      refine ⟨?_, rfl⟩
      rw [HS2.out]
      exact gret_bool (bit_and64w l r hl64 r3)
    · have HS2 : Hid (saysK T.testBit (lieK ls) n i j pl x = false) := by
        show _ = _
        rw [HS.out, if_pos rfl]
        unfold lieK
        rw [List.getElem?_eq_none (by omega)]
      have z1 : (len : Int) ≤ (pl : Int) := by omega
      clear l4
      go_enter Try.func17, Try.ntmps17
      go_wp2_with (go_at_call 12; refine (HB.out _).mono ?_; rintro e w2 ⟨rfl, hw⟩; obtain rfl := hw.symm)
      go_ret
      exact ⟨by rw [HS2.out]; rfl, rfl⟩
end Go.Proofs.Ytllbfaldhlfjeaa
