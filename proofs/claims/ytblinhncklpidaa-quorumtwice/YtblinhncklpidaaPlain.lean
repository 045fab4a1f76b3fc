/- Plain facts on numbers taken as sets of members, and on lists of them: no program is named here. -/
import Derived.Laws.BitsAllLaws
import Derived.Below
namespace Go.Proofs.Ytblinhncklpidaa
open Go.RowKit

theorem ret_bool {a b : Bool} (h : a = b) : Ending.returned (.bool a) = .returned (.bool b) := by rw [h]
theorem ret_int {k : IntKind} {a b : Int} (h : a = b) : Ending.returned (.int k a) = .returned (.int k b) := by rw [h]

theorem hidMk {p : Prop} (h : p) : Hid p := h

theorem two_pow_lt (i : Nat) (hi : i < 32) : 2 ^ i < 4294967296 :=
  Nat.lt_of_lt_of_le (Nat.pow_lt_pow_right (by omega) hi) (by decide)

theorem pow_mod (i : Nat) (hi : i < 32) : ((2 : Int) ^ i % 4294967296) = ((2 ^ i : Nat) : Int) := by
  have h := two_pow_lt i hi
  have e : ((2 : Int) ^ i) = ((2 ^ i : Nat) : Int) := by simp
  rw [e]; exact Int.emod_eq_of_lt (Int.natCast_nonneg _) (Int.ofNat_lt.2 h)

theorem bit_and (x i : Nat) (hx : x < 4294967296) (hi : i < 32) : (bits BinOp.and IntKind.u32 (x : Int) (2 ^ i % 4294967296) != 0) = x.testBit i := by
  rw [pow_mod i hi, u32_and_nat x _ hx (two_pow_lt i hi)]
  have e : (x &&& 2 ^ i).testBit i = x.testBit i := by rw [Nat.testBit_and, Nat.testBit_two_pow]; simp
  cases h : x.testBit i
  · have : x &&& 2 ^ i = 0 := Nat.eq_of_testBit_eq fun j => by
      rw [Nat.testBit_and, Nat.testBit_two_pow, Nat.zero_testBit]
      by_cases hj : i = j
      · subst hj; simp [h]
      · simp [hj]
    rw [this]; rfl
  · have : x &&& 2 ^ i ≠ 0 := fun h0 => by rw [h0, Nat.zero_testBit, h] at e; cases e
    exact bne_iff_ne.2 (by omega)

/-- A row of numbers of 32 bits in a block of the heap. -/
def Row (w : World) (b off : Nat) (qs : List Nat) : Prop :=
  b < w.heap.size ∧ (∀ x ∈ qs, x < 4294967296) ∧ ∀ (j x : Nat), qs[j]? = some x → w.cell? ⟨b, off + j, none⟩ = some (.int .u32 (x : Int))

theorem Row.below {w w' : World} {b off : Nat} {qs : List Nat} (h : Row w b off qs) {n : Nat} (hn : n = w.heap.size) (hb : Below n w w') : Row w' b off qs := by
  subst hn
  refine ⟨Nat.lt_of_lt_of_le h.1 hb.size, h.2.1, fun j x hj => ?_⟩
  exact (hb.cell (p := ⟨b, off + j, none⟩) h.1).trans (h.2.2 j x hj)

theorem Row.at {w : World} {b off : Nat} {qs : List Nat} (h : Row w b off qs) {k : Nat} (hk : k < qs.length) :
    ∃ x : Nat, qs[k]? = some x ∧ x ∈ qs ∧ x < 4294967296 ∧ w.cell? ⟨b, off + k, none⟩ = some (.int .u32 (x : Int)) :=
  ⟨qs[k], List.getElem?_eq_getElem hk, List.getElem_mem hk, h.2.1 _ (List.getElem_mem hk), h.2.2 k _ (List.getElem?_eq_getElem hk)⟩

/-- The members of a set lie below n. -/
theorem lt_of_bits {x n : Nat} (hx : x < 4294967296) (h : ∀ j, n ≤ j → j < 32 → x.testBit j = false) : x < 2 ^ n := by
  apply Nat.lt_pow_two_of_testBit
  intro i hi
  by_cases h32 : i < 32
  · exact h i hi h32
  · exact Nat.testBit_lt_two_pow (Nat.lt_of_lt_of_le hx (Nat.le_trans (by decide : 4294967296 ≤ 2 ^ 32) (Nat.pow_le_pow_right (by omega) (by omega))))

theorem le_of_bit {x n i : Nat} (hi : n ≤ i) (h : x.testBit i = true) : 2 ^ n ≤ x :=
  Nat.le_trans (Nat.pow_le_pow_right (by omega) hi) (Nat.ge_two_pow_of_testBit h)

/-- What is wrong with a set of a family of n members. -/
def badB (n x : Nat) : Bool := x == 0 || decide (2 ^ n ≤ x)
def famCode (n : Nat) (qs : List Nat) : Int := if qs.any (badB n) then 2 else 0
theorem famCode_bad {n : Nat} {qs : List Nat} (h : qs.any (badB n) = true) : famCode n qs = 2 := by unfold famCode; rw [if_pos h]
theorem famCode_ok {n : Nat} {qs : List Nat} (h : qs.any (badB n) = false) : famCode n qs = 0 := by unfold famCode; rw [h]; rfl
def apartB (qs : List Nat) (a : Nat) : Bool := qs.any fun b => a &&& b == 0
def sysB (qs : List Nat) : Bool := qs.any (apartB qs)
def sysCode (qs : List Nat) : Int := if sysB qs then 3 else 0
theorem sysCode_bad {qs : List Nat} (h : sysB qs = true) : sysCode qs = 3 := by unfold sysCode; rw [if_pos h]
theorem sysCode_ok {qs : List Nat} (h : sysB qs = false) : sysCode qs = 0 := by unfold sysCode; rw [h]; rfl

theorem any_take_succ {α : Type} (p : α → Bool) (qs : List α) {k : Nat} {x : α} (h : qs[k]? = some x) :
    (qs.take (k + 1)).any p = ((qs.take k).any p || p x) := by
  have hk : k < qs.length := (List.getElem?_eq_some_iff.1 h).1
  have e : qs[k] = x := (List.getElem?_eq_some_iff.1 h).2
  rw [List.take_succ_eq_append_getElem hk, e]
  simp

theorem any_of_at {α : Type} (p : α → Bool) (qs : List α) {k : Nat} {x : α} (h : qs[k]? = some x) (hp : p x = true) : qs.any p = true :=
  List.any_eq_true.2 ⟨x, List.mem_of_getElem? h, hp⟩

/-! Sets as numbers -/
theorem bit_not (s i : Nat) (hs : s < 4294967296) : (4294967295 - s).testBit i = (decide (i < 32) && !s.testBit i) := by
  have e : 4294967295 - s = 2 ^ 32 - (s + 1) := by
    have : (2 : Nat) ^ 32 = 4294967296 := by decide
    omega
  rw [e, Nat.testBit_two_pow_sub_succ (by have : (2 : Nat) ^ 32 = 4294967296 := by decide
                                          omega)]

theorem bit_high {x i : Nat} (hx : x < 4294967296) (h : x.testBit i = true) : i < 32 := by
  by_cases hi : i < 32
  · exact hi
  · have := Nat.ge_two_pow_of_testBit h
    have h2 : 2 ^ 32 ≤ 2 ^ i := Nat.pow_le_pow_right (by omega) (by omega)
    have h3 : (2 : Nat) ^ 32 = 4294967296 := by decide
    omega

/-- The set t lies within s. -/
def inB (t s : Nat) : Bool := t ||| s == s
theorem inB_iff {t s : Nat} : inB t s = true ↔ ∀ i, t.testBit i = true → s.testBit i = true := by
  unfold inB
  rw [beq_iff_eq]
  constructor
  · intro h i hi
    rw [← h, Nat.testBit_or, hi]; rfl
  · intro h
    apply Nat.eq_of_testBit_eq
    intro i
    rw [Nat.testBit_or]
    cases ht : t.testBit i
    · simp
    · rw [h i ht]; rfl

theorem outside_in (t s : Nat) (ht : t < 4294967296) (hs : s < 4294967296) : (t &&& (4294967295 - s) != 0) = !inB t s := by
  cases h : inB t s
  · have h' : ¬ inB t s = true := by rw [h]; decide
    rw [inB_iff] at h'
    simp only [Bool.not_false, bne_iff_ne]
    intro h0
    apply h'
    intro i hi
    have e : (t &&& (4294967295 - s)).testBit i = false := by rw [h0, Nat.zero_testBit]
    rw [Nat.testBit_and, bit_not s i hs, hi] at e
    have := bit_high ht hi
    simpa [this] using e
  · rw [inB_iff] at h
    have : t &&& (4294967295 - s) = 0 := Nat.eq_of_testBit_eq fun i => by
      rw [Nat.testBit_and, bit_not s i hs, Nat.zero_testBit]
      cases hi : t.testBit i
      · rfl
      · rw [h i hi]; simp
    rw [this]; rfl

theorem in_all (t n : Nat) : inB t (2 ^ n - 1) = decide (t < 2 ^ n) := by
  rw [Bool.eq_iff_iff, inB_iff, decide_eq_true_iff]
  constructor
  · intro h
    apply Nat.lt_pow_two_of_testBit
    intro i hi
    cases hb : t.testBit i
    · rfl
    · have := h i hb
      rw [Nat.testBit_two_pow_sub_one] at this
      have := of_decide_eq_true this
      omega
  · intro h i hi
    rw [Nat.testBit_two_pow_sub_one]
    have := Nat.ge_two_pow_of_testBit hi
    apply decide_eq_true
    apply Nat.lt_of_not_le
    intro hle
    have := Nat.pow_le_pow_right (by omega : 0 < 2) hle
    omega

theorem any_or {α : Type} (p q : α → Bool) (l : List α) : (l.any fun x => p x || q x) = (l.any p || l.any q) := by
  induction l with
  | nil => rfl
  | cons a r ih => simp only [List.any_cons, ih]; cases p a <;> cases q a <;> simp

theorem any_congr {α : Type} {p q : α → Bool} {l : List α} (h : ∀ x ∈ l, p x = q x) : l.any p = l.any q := by
  induction l with
  | nil => rfl
  | cons a r ih =>
    rw [List.any_cons, List.any_cons, h a List.mem_cons_self, ih fun x hx => h x (List.mem_cons_of_mem _ hx)]

/-- What checkFamily asks is what FamilyCheck asks. -/
theorem bad_split (n : Nat) (hn : n ≤ 12) (qs : List Nat) (hb : ∀ x ∈ qs, x < 4294967296) :
    qs.any (badB n) = ((qs.any fun x => 0 == x) || (qs.any fun t => t &&& (4294967295 - (2 ^ n - 1)) != 0)) := by
  rw [← any_or]
  apply any_congr
  intro x hx
  have hp := two_pow_lt n (by omega)
  rw [outside_in x (2 ^ n - 1) (hb x hx) (by omega), in_all]
  unfold badB
  congr 1
  · rw [Bool.eq_iff_iff, beq_iff_eq, beq_iff_eq]; exact eq_comm
  · rw [Bool.eq_iff_iff]; simp

end Go.Proofs.Ytblinhncklpidaa
