/- Generals: the document's Bit and sent. -/
import Derived.Test.YtllbfaldhlfjeaaGe0
import Derived.Test.YtllbfaldhlfjeaaCb2n
import Derived.Laws.BitsAllLaws
import Derived.BigRegion
import Derived.BigQuiet
namespace Go.Proofs.Ytllbfaldhlfjeaa
open Go.RowKit
set_option linter.unusedVariables false

theorem gret_bool {a b : Bool} (e : a = b) : Ending.returned (.bool a) = Ending.returned (.bool b) := by rw [e]
theorem two_pow_ltG (i : Nat) (hi : i < 32) : 2 ^ i < 4294967296 := Nat.lt_of_lt_of_le (Nat.pow_lt_pow_right (by omega) hi) (by decide)
theorem pow_modG (i : Nat) (hi : i < 32) : ((2 : Int) ^ i % 4294967296) = ((2 ^ i : Nat) : Int) := by
  have h := two_pow_ltG i hi
  have e : ((2 : Int) ^ i) = ((2 ^ i : Nat) : Int) := by simp
  rw [e]; exact Int.emod_eq_of_lt (Int.natCast_nonneg _) (Int.ofNat_lt.2 h)
theorem and_bit (x i : Nat) : (((x &&& 2 ^ i : Nat) : Int) != 0) = x.testBit i := by
  have e : (x &&& 2 ^ i).testBit i = x.testBit i := by rw [Nat.testBit_and, Nat.testBit_two_pow]; simp
  cases h : x.testBit i
  · have : x &&& 2 ^ i = 0 := Nat.eq_of_testBit_eq fun j => by
      rw [Nat.testBit_and, Nat.testBit_two_pow, Nat.zero_testBit]
      by_cases hj : i = j
      · subst hj; simp [h]
      · simp [hj]
    rw [this]; rfl
  · have : x &&& 2 ^ i ≠ 0 := fun h0 => by rw [h0, Nat.zero_testBit, h] at e; cases e
    exact bne_iff_ne.2 (by omega)
theorem bit_and32 (x i : Nat) (hx : x < 4294967296) (hi : i < 32) : (bits BinOp.and IntKind.u32 (x : Int) (2 ^ i % 4294967296) != 0) = x.testBit i := by
  rw [pow_modG i hi, u32_and_nat x _ hx (two_pow_ltG i hi)]
  exact and_bit x i
theorem two_pow_lt64 (i : Nat) (hi : i < 64) : 2 ^ i < 18446744073709551616 := Nat.lt_of_lt_of_le (Nat.pow_lt_pow_right (by omega) hi) (by decide)
theorem pow_mod64 (i : Nat) (hi : i < 64) : ((2 : Int) ^ i % 18446744073709551616) = ((2 ^ i : Nat) : Int) := by
  have h := two_pow_lt64 i hi
  have e : ((2 : Int) ^ i) = ((2 ^ i : Nat) : Int) := by simp
  rw [e]; exact Int.emod_eq_of_lt (Int.natCast_nonneg _) (Int.ofNat_lt.2 h)
theorem bit_and64 (x i : Nat) (hx : x < 18446744073709551616) (hi : i < 64) : (bits BinOp.and IntKind.u64 (x : Int) (2 ^ i % 18446744073709551616) != 0) = x.testBit i := by
  rw [pow_mod64 i hi, u64_and_nat x _ hx (two_pow_lt64 i hi)]
  exact and_bit x i

theorem bit_and64w (x i : Nat) (hx : x < 18446744073709551616) (hi : i < 64) : (bits BinOp.and IntKind.u64 (x : Int) (IntKind.u64.wrap (2 ^ i)) != 0) = x.testBit i := by
  rw [IntKind.wrap_u64]
  exact bit_and64 x i hx hi

set_option maxHeartbeats 800000 in
theorem bitG_any (x : Nat) (i : Nat) (hx : x < 4294967296) (hi : i < 32) (w : World) :
    Calls Try.prog 12 #[.int .u32 x, .int .i64 i] w fun e w' => e = .returned (.bool (x.testBit i)) ∧ w' = w := by
  go_enter Try.func12, Try.ntmps12
  go_wp2
  go_ret
  exact ⟨gret_bool (bit_and32 x i hx hi), rfl⟩

theorem way_fold : ∀ (l : List Nat) (c : Nat), (∀ j ∈ l, j < 7) → l.foldl (fun c i => 7 * c + i + 1) c + 2 ≤ (c + 2) * 8 ^ l.length
  | [], c, _ => by simp
  | a :: l, c, h => by
    have ha := h a (List.mem_cons_self ..)
    have ih := way_fold l (7 * c + a + 1) (fun j hj => h j (List.mem_cons_of_mem _ hj))
    simp only [List.foldl_cons, List.length_cons]
    have h1 : (7 * c + a + 1 + 2) * 8 ^ l.length ≤ (8 * (c + 2)) * 8 ^ l.length := Nat.mul_le_mul_right _ (by omega)
    have e : (c + 2) * 8 ^ (l.length + 1) = (8 * (c + 2)) * 8 ^ l.length := by rw [Nat.pow_succ, Nat.mul_comm 8 (c + 2), Nat.mul_assoc, Nat.mul_comm 8]
    omega
theorem way_le {way : List Nat} (h : ∀ j ∈ way, j < 7) (hl : way.length ≤ 3) : wayC way ≤ 1022 := by
  have h1 := way_fold way 0 h
  have h2 : 8 ^ way.length ≤ 8 ^ 3 := Nat.pow_le_pow_right (by omega) hl
  unfold wayC
  omega
theorem way_take {way : List Nat} {k j : Nat} (h : way[k]? = some j) : wayC (way.take (k + 1)) = 7 * wayC (way.take k) + j + 1 := by
  rw [List.take_add_one, h, Option.toList_some, wayC_app]

end Go.Proofs.Ytllbfaldhlfjeaa
