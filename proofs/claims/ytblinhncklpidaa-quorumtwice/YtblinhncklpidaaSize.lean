/- How many members a set has: plain facts, no program is named here. -/
import Derived.Test.YtblinhncklpidaaPlain
import Derived.Lib.BitFns
namespace Go.Proofs.Ytblinhncklpidaa
open Go.RowKit

/-- How many of the first k bits are set. -/
def cnt : Nat → Nat → Nat
  | 0, _ => 0
  | k + 1, x => cnt k x + (x.testBit k).toNat
/-- How many members a set has. -/
def sz (x : Nat) : Nat := cnt 32 x

theorem popAux_zero (a : Nat) : Lib.popAux a 0 = 0 := by
  induction a with
  | zero => rfl
  | succ a ih => simp [Lib.popAux, ih]
theorem popAux_add (a b x : Nat) : Lib.popAux (a + b) x = Lib.popAux a x + Lib.popAux b (x / 2 ^ a) := by
  induction a generalizing x with
  | zero => simp [Lib.popAux]
  | succ a ih =>
    have e : a + 1 + b = (a + b) + 1 := by omega
    rw [e]
    show x % 2 + Lib.popAux (a + b) (x / 2) = x % 2 + Lib.popAux a (x / 2) + _
    rw [ih, Nat.div_div_eq_div_mul, Nat.pow_succ', Nat.add_assoc]
theorem popAux_cnt (k x : Nat) : Lib.popAux k x = cnt k x := by
  induction k with
  | zero => rfl
  | succ k ih =>
    rw [popAux_add k 1 x, ih]
    show cnt k x + ((x / 2 ^ k) % 2 + 0) = cnt k x + (x.testBit k).toNat
    rw [Nat.toNat_testBit]; rfl
theorem popAux_mod (a x : Nat) : Lib.popAux a (x % 2 ^ a) = Lib.popAux a x := by
  rw [popAux_cnt, popAux_cnt]
  suffices h : ∀ k, k ≤ a → cnt k (x % 2 ^ a) = cnt k x from h a (Nat.le_refl a)
  intro k
  induction k with
  | zero => intro _; rfl
  | succ k ih =>
    intro hk
    show cnt k (x % 2 ^ a) + ((x % 2 ^ a).testBit k).toNat = cnt k x + (x.testBit k).toNat
    rw [ih (by omega), Nat.testBit_mod_two_pow]
    simp [show k < a by omega]
theorem ones8 (n : Nat) (h : n < 256) : Lib.onesCount n = Lib.popAux 8 n := by
  unfold Lib.onesCount
  rw [show (64 : Nat) = 8 + 56 from rfl, popAux_add, Nat.div_eq_of_lt (by simpa using h), popAux_zero]
  rfl
theorem pop8_nat (n : Nat) (h : n < 256) : Lib.pop8 (n : Int) = (Lib.popAux 8 n : Int) := by
  rw [← ones8 n h]; exact Lib.pop8_eq ⟨n, h⟩
theorem and255_mod (x : Nat) (hx : x < 4294967296) : bits .and .u32 (x : Int) 255 = ((x % 256 : Nat) : Int) := by
  have e := u32_and_nat x 255 hx (by decide)
  have e2 : ((255 : Nat) : Int) = 255 := rfl
  rw [e2] at e
  rw [e, show 255 = 2 ^ 8 - 1 by decide, Nat.and_two_pow_sub_one_eq_mod]
theorem and255 (x : Nat) (hx : x < 4294967296) : 0 ≤ bits .and .u32 (x : Int) 255 ∧ bits .and .u32 (x : Int) 255 ≤ 255 := by
  rw [and255_mod x hx]
  have := Nat.mod_lt x (by decide : 256 > 0)
  constructor <;> omega
theorem cnt_le (k x : Nat) : cnt k x ≤ k := by
  induction k with
  | zero => exact Nat.le_refl _
  | succ k ih =>
    have : (x.testBit k).toNat ≤ 1 := Bool.toNat_le _
    show cnt k x + _ ≤ k + 1
    omega
theorem sz_parts (x : Nat) (hx : x < 4294967296) :
    (Lib.pop8 ((x : Int) / 16777216) + Lib.pop8 (bits .and .u32 ((x : Int) / 65536) 255) + Lib.pop8 (bits .and .u32 ((x : Int) / 256) 255) + Lib.pop8 (bits .and .u32 (x : Int) 255)) % 256 = (sz x : Int) := by
  have ea : (x : Int) / 16777216 = ((x / 16777216 : Nat) : Int) := by omega
  have eb : (x : Int) / 65536 = ((x / 65536 : Nat) : Int) := by omega
  have ec : (x : Int) / 256 = ((x / 256 : Nat) : Int) := by omega
  rw [ea, eb, ec, and255_mod _ (by omega), and255_mod _ (by omega), and255_mod _ hx, pop8_nat _ (by omega), pop8_nat _ (by omega), pop8_nat _ (by omega), pop8_nat _ (by omega)]
  have h1 := popAux_mod 8 x
  have h2 := popAux_mod 8 (x / 256)
  have h3 := popAux_mod 8 (x / 65536)
  rw [show (2 : Nat) ^ 8 = 256 by decide] at h1 h2 h3
  rw [h1, h2, h3]
  have hs : sz x = Lib.popAux 8 x + (Lib.popAux 8 (x / 256) + (Lib.popAux 8 (x / 65536) + Lib.popAux 8 (x / 16777216))) := by
    unfold sz
    rw [← popAux_cnt, show (32 : Nat) = 8 + (8 + (8 + 8)) from rfl, popAux_add, popAux_add, popAux_add, Nat.div_div_eq_div_mul, Nat.div_div_eq_div_mul]
  have hl : sz x ≤ 32 := cnt_le 32 x
  omega

theorem cnt_mono (k : Nat) {t s : Nat} (h : ∀ i, t.testBit i = true → s.testBit i = true) : cnt k t ≤ cnt k s := by
  induction k with
  | zero => exact Nat.le_refl _
  | succ k ih =>
    show cnt k t + (t.testBit k).toNat ≤ cnt k s + (s.testBit k).toNat
    cases ht : t.testBit k
    · simp only [Bool.toNat_false]; omega
    · rw [h k ht]; omega
theorem sz_mono {t s : Nat} (h : inB t s = true) : sz t ≤ sz s := cnt_mono 32 (inB_iff.1 h)
theorem cnt_zero {k x : Nat} (h : cnt k x = 0) : ∀ i, i < k → x.testBit i = false := by
  induction k with
  | zero => intro i hi; omega
  | succ k ih =>
    have h' : cnt k x + (x.testBit k).toNat = 0 := h
    intro i hi
    by_cases e : i = k
    · subst e
      cases hb : x.testBit i
      · rfl
      · rw [hb] at h'; simp at h'
    · exact ih (by omega) i (by omega)
theorem cnt_of_zero (k : Nat) : cnt k 0 = 0 := by
  induction k with
  | zero => rfl
  | succ k ih => show cnt k 0 + (Nat.testBit 0 k).toNat = 0; rw [ih, Nat.zero_testBit]; rfl
theorem sz_zero {x : Nat} (hx : x < 4294967296) : sz x = 0 ↔ x = 0 := by
  constructor
  · intro h
    apply Nat.eq_of_testBit_eq
    intro i
    rw [Nat.zero_testBit]
    by_cases hi : i < 32
    · exact cnt_zero h i hi
    · cases hb : x.testBit i
      · rfl
      · exact absurd (bit_high hx hb) hi
  · rintro rfl; exact cnt_of_zero 32
theorem cnt_split (k x l : Nat) (hl : l < 4294967296) (hk : k ≤ 32) : cnt k (x &&& l) + cnt k (x &&& (4294967295 - l)) = cnt k x := by
  induction k with
  | zero => rfl
  | succ k ih =>
    show cnt k (x &&& l) + ((x &&& l).testBit k).toNat + (cnt k (x &&& (4294967295 - l)) + ((x &&& (4294967295 - l)).testBit k).toNat) = cnt k x + (x.testBit k).toNat
    rw [Nat.testBit_and, Nat.testBit_and, bit_not l k hl]
    have := ih (by omega)
    have hk' : decide (k < 32) = true := decide_eq_true (by omega)
    rw [hk']
    cases x.testBit k <;> cases l.testBit k <;> simp <;> omega
theorem sz_split (x l : Nat) (hl : l < 4294967296) : sz (x &&& l) + sz (x &&& (4294967295 - l)) = sz x := cnt_split 32 x l hl (Nat.le_refl _)
theorem cnt_lt {x n : Nat} (hx : x < 2 ^ n) (k : Nat) : cnt k x ≤ n := by
  induction k with
  | zero => exact Nat.zero_le _
  | succ k ih =>
    by_cases hk : k < n
    · exact Nat.le_trans (cnt_le (k + 1) x) hk
    · have : x.testBit k = false := Nat.testBit_lt_two_pow (Nat.lt_of_lt_of_le hx (Nat.pow_le_pow_right (by omega) (by omega)))
      show cnt k x + (x.testBit k).toNat ≤ n
      rw [this]; simpa using ih
theorem sz_lt {x n : Nat} (hx : x < 2 ^ n) : sz x ≤ n := cnt_lt hx 32
end Go.Proofs.Ytblinhncklpidaa
