/- Plain facts on least sets and on blocks: a family and its least sets have the same blocks; the blocks of the blocks are the least sets; when the least sets are the blocks. -/
import Derived.Test.YtblinhncklpidaaE6
namespace Go.Proofs.Ytblinhncklpidaa
open Go.RowKit

theorem and_ne_iff {s a : Nat} : s &&& a ≠ 0 ↔ ∃ i, s.testBit i = true ∧ a.testBit i = true := by
  constructor
  · intro h
    apply Classical.byContradiction
    intro hn
    apply h
    apply Nat.eq_of_testBit_eq
    intro i
    rw [Nat.testBit_and, Nat.zero_testBit]
    cases h1 : s.testBit i
    · rfl
    · cases h2 : a.testBit i
      · rfl
      · exact absurd ⟨i, h1, h2⟩ hn
  · rintro ⟨i, h1, h2⟩ h
    have : (s &&& a).testBit i = false := by rw [h, Nat.zero_testBit]
    rw [Nat.testBit_and, h1, h2] at this
    cases this

theorem meets_iff {qs : List Nat} {s : Nat} : meetsB qs s = true ↔ ∀ a ∈ qs, ∃ i, s.testBit i = true ∧ a.testBit i = true := by
  unfold meetsB apartB
  rw [Bool.not_eq_true', List.any_eq_false]
  constructor
  · intro h a ha
    apply and_ne_iff.1
    have := h a ha
    simpa using this
  · intro h a ha
    have := and_ne_iff.2 (h a ha)
    simpa using this

theorem needs_iff {qs : List Nat} {s : Nat} : needsB qs s = true ↔ ∀ i, i < 32 → s.testBit i = true → meetsB qs (wo s i) = false := by
  constructor
  · intro h i hi hb
    cases hm : meetsB qs (wo s i)
    · rfl
    · rw [needs_not hi hb hm] at h; cases h
  · exact needs_of
theorem block_iff {qs : List Nat} {s : Nat} : blockB qs s = true ↔ meetsB qs s = true ∧ ∀ i, i < 32 → s.testBit i = true → meetsB qs (wo s i) = false := by
  unfold blockB
  rw [Bool.and_eq_true, needs_iff]
theorem blocksTo_iff {qs : List Nat} {k x : Nat} : x ∈ blocksTo qs k ↔ x < k ∧ blockB qs x = true := by
  unfold blocksTo
  rw [List.mem_filter, List.mem_range]

theorem meets_mono {qs : List Nat} {a b : Nat} (h : inB a b = true) (hm : meetsB qs a = true) : meetsB qs b = true := by
  rw [meets_iff] at hm ⊢
  intro x hx
  obtain ⟨i, h1, h2⟩ := hm x hx
  exact ⟨i, inB_iff.1 h i h1, h2⟩

theorem diff_bit {a b : Nat} (h : inB a b = true) (hne : a ≠ b) : ∃ i, b.testBit i = true ∧ a.testBit i = false := by
  apply Classical.byContradiction
  intro hn
  apply hne
  refine in_anti h (inB_iff.2 fun i hi => ?_)
  cases ha : a.testBit i
  · exact absurd ⟨i, hi, ha⟩ hn
  · rfl
theorem in_wo {a b i : Nat} (h : inB a b = true) (ha : a.testBit i = false) (hi : i < 32) (hb : b < 4294967296) : inB a (wo b i) = true := by
  rw [inB_iff]
  intro j hj
  rw [wo_bit b i j hi hb, inB_iff.1 h j hj]
  by_cases e : i = j
  · subst e; rw [ha] at hj; cases hj
  · simp [e]
theorem block_min {qs : List Nat} {a b : Nat} (hb : b < 4294967296) (h : blockB qs b = true) (ha : meetsB qs a = true) (hin : inB a b = true) : a = b := by
  apply Classical.byContradiction
  intro hne
  obtain ⟨i, h1, h2⟩ := diff_bit hin hne
  have hi := bit_high hb h1
  have := (block_iff.1 h).2 i hi h1
  rw [meets_mono (in_wo hin h2 hi hb) ha] at this
  cases this
theorem in_lt {a b k : Nat} (h : inB a b = true) (hb : b < k) : a < k := Nat.lt_of_le_of_lt (in_le h) hb

theorem nodup_len : ∀ (a b : List Nat), a.Nodup → (∀ x ∈ a, x ∈ b) → a.length ≤ b.length
  | [], _, _, _ => Nat.zero_le _
  | x :: a, b, hn, hs => by
    rw [List.nodup_cons] at hn
    have hx := hs x List.mem_cons_self
    have h := nodup_len a (b.erase x) hn.2 (fun y hy => (List.mem_erase_of_ne (fun (e : y = x) => hn.1 (by rw [← e]; exact hy))).2 (hs y (List.mem_cons_of_mem _ hy)))
    rw [List.length_erase_of_mem hx] at h
    have := List.length_pos_of_mem hx
    simp only [List.length_cons]
    omega
theorem rise_nodup {a : List Nat} (h : a.Pairwise (· < ·)) : a.Nodup := h.imp fun h e => by omega
theorem leasts_rise (qs : List Nat) (k : Nat) : (leastsTo qs k).Pairwise (· < ·) := rise_range _ _
theorem blocks_rise (qs : List Nat) (k : Nat) : (blocksTo qs k).Pairwise (· < ·) := rise_range _ _
theorem leasts_few (qs : List Nat) (k : Nat) : (leastsTo qs k).length ≤ qs.length :=
  nodup_len _ _ (rise_nodup (leasts_rise qs k)) fun _ h => (leastsTo_iff.1 h).2.1

theorem leasts_in {qs : List Nat} {k s : Nat} (hx : ∀ x ∈ qs, x < k) (hs : s ∈ qs) : ∃ t ∈ leastsTo qs k, inB t s = true := by
  obtain ⟨t, h1, h2, h3⟩ := least_in qs s s (Nat.le_refl _) hs
  exact ⟨t, leastsTo_iff.2 ⟨hx t h1, h1, h2⟩, h3⟩
theorem leasts_pos {qs : List Nat} {k : Nat} (hx : ∀ x ∈ qs, x < k) (h : 1 ≤ qs.length) : 1 ≤ (leastsTo qs k).length := by
  obtain ⟨x, hxm⟩ : ∃ x, x ∈ qs := ⟨qs[0], List.getElem_mem _⟩
  obtain ⟨t, ht, _⟩ := leasts_in hx hxm
  exact List.length_pos_of_mem ht

theorem leasts_meets {qs : List Nat} {k : Nat} (hx : ∀ x ∈ qs, x < k) (s : Nat) : meetsB (leastsTo qs k) s = meetsB qs s := by
  rw [Bool.eq_iff_iff, meets_iff, meets_iff]
  constructor
  · intro h a ha
    obtain ⟨t, ht, hin⟩ := leasts_in hx ha
    obtain ⟨i, h1, h2⟩ := h t ht
    exact ⟨i, h1, inB_iff.1 hin i h2⟩
  · intro h a ha
    exact h a (leastsTo_iff.1 ha).2.1
theorem blocks_same {qs : List Nat} {k : Nat} (hx : ∀ x ∈ qs, x < k) (m : Nat) : blocksTo (leastsTo qs k) m = blocksTo qs m := by
  have : blockB (leastsTo qs k) = blockB qs := by
    funext s
    unfold blockB needsB
    rw [leasts_meets hx s]
    simp only [leasts_meets hx]
  unfold blocksTo
  rw [this]
theorem blocks_pos {qs : List Nat} {n : Nat} (hn : n ≤ 12) (hx : ∀ x ∈ qs, 0 < x ∧ x < 2 ^ n) : 1 ≤ (blocksTo qs (2 ^ n)).length := by
  have hp := two_pow_lt n (by omega)
  have h0 : 0 < 2 ^ n := Nat.two_pow_pos n
  have hm : meetsB qs (2 ^ n - 1) = true := by
    rw [meets_iff]
    intro a ha
    obtain ⟨i, hi⟩ : ∃ i, a.testBit i = true := by
      apply Classical.byContradiction
      intro hn
      have : a = 0 := Nat.eq_of_testBit_eq fun i => by
        rw [Nat.zero_testBit]
        cases h : a.testBit i
        · rfl
        · exact absurd ⟨i, h⟩ hn
      have := (hx a ha).1
      omega
    have hin : inB a (2 ^ n - 1) = true := by rw [in_all]; exact decide_eq_true (hx a ha).2
    exact ⟨i, inB_iff.1 hin i hi, hi⟩
  obtain ⟨t, h1, _, h3⟩ := shrink (2 ^ n - 1) (by omega) hm
  exact List.length_pos_of_mem (blocksTo_iff.2 ⟨by omega, h3⟩)

theorem leasts_twice {qs : List Nat} {k : Nat} : leastsTo (leastsTo qs k) k = leastsTo qs k := by
  apply rise_eq _ _ (leasts_rise _ _) (leasts_rise _ _)
  intro x
  rw [leastsTo_iff]
  constructor
  · rintro ⟨_, h, _⟩; exact h
  · intro h
    refine ⟨leastsTo_lt h, h, ?_⟩
    rw [leastB_iff]
    intro t ht hne
    exact leastB_iff.1 (leastsTo_iff.1 h).2.2 t (leastsTo_iff.1 ht).2.1 hne

theorem family_ok {n : Int} {ys : List Nat} (h1 : 1 ≤ n) (h2 : n ≤ 12) (h3 : 1 ≤ ys.length) (h4 : ys.length ≤ 64) (h5 : ∀ x ∈ ys, 0 < x ∧ x < 2 ^ n.toNat) : famCodeOf n ys = 0 := by
  unfold famCodeOf
  rw [if_neg (by omega), if_neg (by omega)]
  apply famCode_ok
  rw [List.any_eq_false]
  intro x hx
  have := h5 x hx
  unfold badB
  simp
  omega
theorem leasts_family {n : Int} {qs : List Nat} (h : famCodeOf n qs = 0) : famCodeOf n (leastsTo qs (2 ^ n.toNat)) = 0 := by
  obtain ⟨z1, z2, z3, z4, z5⟩ := famCodeOf_zero h
  exact family_ok z1 z2 (leasts_pos (fun x hx => (good_lt z5 hx).2) z3) (Nat.le_trans (leasts_few _ _) z4) fun x hx => good_lt z5 (leastsTo_iff.1 hx).2.1

/-- All members but those of w. -/
def co (n w : Nat) : Nat := (2 ^ n - 1) &&& (4294967295 - w)
theorem co_bit (n w i : Nat) (hw : w < 4294967296) (hn : n ≤ 32) : (co n w).testBit i = (decide (i < n) && !w.testBit i) := by
  unfold co
  rw [Nat.testBit_and, Nat.testBit_two_pow_sub_one, bit_not w i hw]
  by_cases h : i < n
  · have : i < 32 := by omega
    simp [h, this]
  · simp [h]
theorem co_lt (n w : Nat) : co n w < 2 ^ n := by
  have := Nat.two_pow_pos n
  have h : co n w ≤ 2 ^ n - 1 := Nat.and_le_left
  omega
theorem bit_lt {x n i : Nat} (hx : x < 2 ^ n) (h : x.testBit i = true) : i < n := by
  apply Nat.lt_of_not_le
  intro hle
  have := le_of_bit hle h
  omega

/-- Some set of l lies within w. -/
def holdsB (l : List Nat) (w : Nat) : Bool := l.any fun a => inB a w
theorem holds_iff {l : List Nat} {w : Nat} : holdsB l w = true ↔ ∃ a ∈ l, inB a w = true := by unfold holdsB; rw [List.any_eq_true]

/-- What has no set of the family within: all others meet each. -/
theorem co_meets {qs : List Nat} {n w : Nat} (hn : n ≤ 12) (hw : w < 2 ^ n) (hx : ∀ x ∈ qs, x < 2 ^ n) (h : holdsB qs w = false) : meetsB qs (co n w) = true := by
  have hw32 : w < 4294967296 := Nat.lt_trans hw (two_pow_lt n (by omega))
  rw [meets_iff]
  intro a ha
  have hna : ¬ inB a w = true := fun hi => by
    have := holds_iff.2 ⟨a, ha, hi⟩
    rw [h] at this; cases this
  rw [inB_iff] at hna
  apply Classical.byContradiction
  intro hc
  apply hna
  intro i hi
  cases hwi : w.testBit i
  · refine absurd ⟨i, ?_, hi⟩ hc
    rw [co_bit n w i hw32 (by omega), hwi]
    simp [bit_lt (hx a ha) hi]
  · rfl
/-- What meets all has no set of the family among the others. -/
theorem meets_co {qs : List Nat} {n w : Nat} (hn : n ≤ 12) (hw : w < 2 ^ n) (h : meetsB qs w = true) : holdsB qs (co n w) = false := by
  have hw32 : w < 4294967296 := Nat.lt_trans hw (two_pow_lt n (by omega))
  cases hh : holdsB qs (co n w)
  · rfl
  · obtain ⟨a, ha, hin⟩ := holds_iff.1 hh
    obtain ⟨i, h1, h2⟩ := meets_iff.1 h a ha
    have := inB_iff.1 hin i h2
    rw [co_bit n w i hw32 (by omega), h1] at this
    simp at this

theorem meets_blocks {qs : List Nat} {n x : Nat} (hn : n ≤ 12) (hq : ∀ y ∈ qs, y < 2 ^ n) (hx : x < 2 ^ n) : meetsB (blocksTo qs (2 ^ n)) x = holdsB qs x := by
  have hp := two_pow_lt n (by omega)
  rw [Bool.eq_iff_iff]
  constructor
  · intro hm
    cases hh : holdsB qs x
    · obtain ⟨t, _, h2, h3⟩ := shrink (co n x) (Nat.lt_trans (co_lt n x) hp) (co_meets hn hx hq hh)
      obtain ⟨i, h4, h5⟩ := meets_iff.1 hm t (blocksTo_iff.2 ⟨in_lt h2 (co_lt n x), h3⟩)
      have := inB_iff.1 h2 i h5
      rw [co_bit n x i (by omega) (by omega), h4] at this
      simp at this
    · rfl
  · intro hh
    obtain ⟨a, ha, hin⟩ := holds_iff.1 hh
    rw [meets_iff]
    intro t ht
    obtain ⟨i, h1, h2⟩ := meets_iff.1 (block_iff.1 (blocksTo_iff.1 ht).2).1 a ha
    exact ⟨i, inB_iff.1 hin i h2, h1⟩

/-- BERGE: what meets each of the blocks, at least, are the least sets. -/
theorem berge {qs : List Nat} {n : Nat} (hn : n ≤ 12) (hq : ∀ y ∈ qs, y < 2 ^ n) : blocksTo (blocksTo qs (2 ^ n)) (2 ^ n) = leastsTo qs (2 ^ n) := by
  have hp := two_pow_lt n (by omega)
  apply rise_eq _ _ (blocks_rise _ _) (leasts_rise _ _)
  intro x
  rw [blocksTo_iff, leastsTo_iff]
  constructor
  · rintro ⟨hx, hb⟩
    obtain ⟨hm, hmin⟩ := block_iff.1 hb
    rw [meets_blocks hn hq hx] at hm
    have key : ∀ a ∈ qs, inB a x = true → a = x := by
      intro a ha hin
      apply Classical.byContradiction
      intro hne
      obtain ⟨i, h1, h2⟩ := diff_bit hin hne
      have hi := bit_high (Nat.lt_trans hx hp) h1
      have := hmin i hi h1
      rw [meets_blocks hn hq (Nat.lt_trans (wo_less h1 hi (Nat.lt_trans hx hp)) hx)] at this
      rw [holds_iff.2 ⟨a, ha, in_wo hin h2 hi (Nat.lt_trans hx hp)⟩] at this
      cases this
    obtain ⟨a, ha, hin⟩ := holds_iff.1 hm
    have e := key a ha hin
    refine ⟨hx, e ▸ ha, ?_⟩
    rw [leastB_iff]
    intro t ht hne
    cases hi : inB t x
    · rfl
    · exact absurd (key t ht hi) hne
  · rintro ⟨hx, hm, hl⟩
    refine ⟨hx, block_iff.2 ⟨?_, ?_⟩⟩
    · rw [meets_blocks hn hq hx]; exact holds_iff.2 ⟨x, hm, in_refl x⟩
    · intro i hi hb
      have hwl := wo_less hb hi (Nat.lt_trans hx hp)
      rw [meets_blocks hn hq (Nat.lt_trans hwl hx)]
      cases hh : holdsB qs (wo x i)
      · rfl
      · obtain ⟨t, ht, hin⟩ := holds_iff.1 hh
        have hle := in_le hin
        have := leastB_iff.1 hl t ht (by omega)
        rw [in_trans hin (wo_in x i hi (Nat.lt_trans hx hp))] at this
        cases this

/-- A system is full just if of each set of members and all others one has a set of it in it. -/
theorem full_iff {qs : List Nat} {n : Nat} (hn : n ≤ 12) (hq : ∀ y ∈ qs, y < 2 ^ n) (hs : sysB qs = false) :
    fullB n qs = (List.range (2 ^ n)).all fun w => holdsB qs w || holdsB qs (co n w) := by
  have hp := two_pow_lt n (by omega)
  have hmeet : ∀ a ∈ qs, meetsB qs a = true := by
    intro a ha
    unfold sysB at hs
    have := List.any_eq_false.1 hs a ha
    unfold meetsB
    simpa using this
  unfold fullB
  rw [Bool.eq_iff_iff, beq_iff_eq, List.all_eq_true]
  constructor
  · intro e w hw
    rw [List.mem_range] at hw
    cases hh : holdsB qs w
    · obtain ⟨t, _, h2, h3⟩ := shrink (co n w) (Nat.lt_trans (co_lt n w) hp) (co_meets hn hw hq hh)
      have ht : t ∈ blocksTo qs (2 ^ n) := blocksTo_iff.2 ⟨in_lt h2 (co_lt n w), h3⟩
      rw [← e] at ht
      rw [holds_iff.2 ⟨t, (leastsTo_iff.1 ht).2.1, h2⟩]; rfl
    · rfl
  · intro h
    have hbl : ∀ b ∈ blocksTo qs (2 ^ n), b ∈ leastsTo qs (2 ^ n) := by
      intro b hb
      obtain ⟨hlt, hbb⟩ := blocksTo_iff.1 hb
      have hm := (block_iff.1 hbb).1
      have := h b (List.mem_range.2 hlt)
      rw [meets_co hn hlt hm, Bool.or_false] at this
      obtain ⟨a, ha, hin⟩ := holds_iff.1 this
      have e := block_min (Nat.lt_trans hlt hp) hbb (hmeet a ha) hin
      refine leastsTo_iff.2 ⟨hlt, e ▸ ha, ?_⟩
      rw [leastB_iff]
      intro t ht hne
      cases hi : inB t b
      · rfl
      · exact absurd (block_min (Nat.lt_trans hlt hp) hbb (hmeet t ht) hi) hne
    apply rise_eq _ _ (leasts_rise _ _) (blocks_rise _ _)
    intro x
    constructor
    · intro hx
      obtain ⟨hlt, hm, hl⟩ := leastsTo_iff.1 hx
      obtain ⟨t, _, h2, h3⟩ := shrink x (Nat.lt_trans hlt hp) (hmeet x hm)
      have ht : t ∈ blocksTo qs (2 ^ n) := blocksTo_iff.2 ⟨in_lt h2 hlt, h3⟩
      have htl := (leastsTo_iff.1 (hbl t ht)).2.1
      by_cases e : t = x
      · exact e ▸ ht
      · have := leastB_iff.1 hl t htl e
        rw [h2] at this; cases this
    · exact hbl x
end Go.Proofs.Ytblinhncklpidaa
