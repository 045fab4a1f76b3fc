/- Plain: the document's way of hearing is the program's. -/
import Derived.Test.YtpdccjhabolccaaCa10
namespace Go.Proofs.Ytpdccjhabolccaa
set_option linter.unusedVariables false

def readyL (heard caus : List Nat) (m : Nat) : Bool := !heard.contains m && caus.all fun c => heard.contains c
/-- The least one of the first j that may be heard, or -1. -/
def nxt (heard : List Nat) (cs : Nat → List Nat) (come : List Nat) : Nat → Int
  | 0 => -1
  | j + 1 => if (readyL heard (cs (come.getD j 0)) (come.getD j 0) && (decide (nxt heard cs come j < 0) || decide (((come.getD j 0 : Nat) : Int) < nxt heard cs come j))) = true then ((come.getD j 0 : Nat) : Int) else nxt heard cs come j
theorem nxt_spec (heard : List Nat) (cs : Nat → List Nat) (come : List Nat) : ∀ j, j ≤ come.length →
    (nxt heard cs come j = -1 ∧ ∀ i m, i < j → come[i]? = some m → readyL heard (cs m) m = false) ∨
    ∃ m : Nat, nxt heard cs come j = (m : Int) ∧ m ∈ come ∧ readyL heard (cs m) m = true ∧ ∀ i m', i < j → come[i]? = some m' → readyL heard (cs m') m' = true → m ≤ m'
  | 0, _ => .inl ⟨rfl, fun i m h => by omega⟩
  | j + 1, hj => by
    have ih := nxt_spec heard cs come j (by omega)
    have hx : come[j]? = some (come[j]'(by omega)) := List.getElem?_eq_getElem (by omega)
    have hd : come.getD j 0 = come[j]'(by omega) := by rw [List.getD_eq_getElem?_getD, hx]; rfl
    generalize come[j]'(by omega) = x at hx hd
    unfold nxt
    rw [hd]
    rcases ih with ⟨h1, h2⟩ | ⟨m, h1, h2, h3, h4⟩
    · rw [h1]
      by_cases hr : readyL heard (cs x) x = true
      · rw [if_pos (by rw [hr]; simp)]
        refine .inr ⟨x, rfl, List.mem_of_getElem? hx, hr, fun i m' hi hm hr' => ?_⟩
        by_cases e : i = j
        · subst e; rw [hx] at hm; cases hm; exact Nat.le_refl _
        · rw [h2 i m' (by omega) hm] at hr'; cases hr'
      · have hr2 : readyL heard (cs x) x = false := by simpa using hr
        rw [if_neg (by rw [hr2]; simp)]
        refine .inl ⟨rfl, fun i m hi hm => ?_⟩
        by_cases e : i = j
        · subst e; rw [hx] at hm; cases hm; exact hr2
        · exact h2 i m (by omega) hm
    · rw [h1]
      by_cases hr : readyL heard (cs x) x = true ∧ x < m
      · rw [if_pos (by rw [hr.1]; simp; omega)]
        refine .inr ⟨x, rfl, List.mem_of_getElem? hx, hr.1, fun i m' hi hm hr' => ?_⟩
        by_cases e : i = j
        · subst e; rw [hx] at hm; cases hm; exact Nat.le_refl _
        · have := h4 i m' (by omega) hm hr'; omega
      · rw [if_neg (by
          intro hc
          rw [Bool.and_eq_true] at hc
          apply hr
          refine ⟨hc.1, ?_⟩
          have := hc.2
          simp at this
          omega)]
        refine .inr ⟨m, rfl, h2, h3, fun i m' hi hm hr' => ?_⟩
        by_cases e : i = j
        · subst e
          rw [hx] at hm
          cases hm
          apply Nat.le_of_not_lt
          intro hlt
          exact hr ⟨hr', hlt⟩
        · exact h4 i m' (by omega) hm hr'
def hearsTo (heard : List Nat) (cs : Nat → List Nat) (come : List Nat) : Nat → List Nat
  | 0 => heard
  | t + 1 => if 0 ≤ nxt (hearsTo heard cs come t) cs come come.length then hearsTo heard cs come t ++ [(nxt (hearsTo heard cs come t) cs come come.length).toNat] else hearsTo heard cs come t

variable {n : Nat} {s : CS}
/-- What has come to one from others. -/
def ComeOf (s : CS) (who : Nat) (come : List Nat) : Prop := ∀ m, m ∈ come ↔ (s.came who m ≠ 0 ∧ (s.msgs.getD m (0, 0)).1 ≠ who ∧ m < s.msgs.length)
theorem wait_come (h : CInv n s) {who m : Nat} {come : List Nat} (hc : ComeOf s who come) (h1 : s.came who m = 1) : m ∈ come := by
  have hm : m < s.msgs.length := by
    apply Nat.lt_of_not_le
    intro hle
    have := h.i5 who m hle
    omega
  refine (hc m).2 ⟨by omega, fun e => ?_, hm⟩
  have hq : s.msgs[m]? = some s.msgs[m] := List.getElem?_eq_getElem hm
  have h2 := h.i2 m _ hq
  rw [List.getD_eq_getElem?_getD, hq] at e
  have e3 : (s.msgs[m]).1 = who := e
  rw [e3] at h2
  have := (h.i4 who m).2 (List.mem_of_getElem? h2)
  omega
theorem ready_same (h : CInv n s) {who m : Nat} {come : List Nat} (hc : ComeOf s who come) (hm : m ∈ come) : readyL (s.ls who) (causC s m) m = readyC s who m := by
  have h0 := ((hc m).1 hm).1
  have h11 := h.i11 who m
  have h4 := h.i4 who m
  unfold readyL readyC okC
  have e1 : (!(s.ls who).contains m) = (s.came who m == 1) := by
    rw [Bool.eq_iff_iff]
    simp
    constructor
    · intro hx
      have : ¬ s.came who m = 2 := fun e => hx (h4.1 e)
      omega
    · intro hx hy
      have := h4.2 hy
      omega
  have e2 : ((causC s m).all fun c => (s.ls who).contains c) = !((causC s m).any fun c => s.came who c != 2) := by
    rw [Bool.eq_iff_iff]
    simp only [List.all_eq_true, Bool.not_eq_true', List.any_eq_false]
    constructor
    · intro hx c hcm
      have := hx c hcm
      have hmem : c ∈ s.ls who := by simpa using this
      have := (h.i4 who c).2 hmem
      simp [this]
    · intro hx c hcm
      have := hx c hcm
      have h2 : s.came who c = 2 := by simpa using this
      simpa using (h.i4 who c).1 h2
  rw [e1, e2]
theorem nxt_none (h : CInv n s) {who : Nat} {come : List Nat} (hc : ComeOf s who come) (hn : ∀ m, readyC s who m = false) : nxt (s.ls who) (causC s) come come.length = -1 := by
  rcases nxt_spec (s.ls who) (causC s) come come.length (Nat.le_refl _) with ⟨h1, _⟩ | ⟨m, _, h2, h3, _⟩
  · exact h1
  · rw [ready_same h hc h2, hn m] at h3; cases h3
theorem nxt_hit (h : CInv n s) {who k : Nat} {come : List Nat} (hc : ComeOf s who come) (hk : readyC s who k = true) (hn : ∀ m, m < k → readyC s who m = false) : nxt (s.ls who) (causC s) come come.length = (k : Int) := by
  have hw : s.came who k = 1 := by
    unfold readyC at hk
    rw [Bool.and_eq_true, beq_iff_eq] at hk
    exact hk.1
  have hmem := wait_come h hc hw
  obtain ⟨i, hi, e⟩ := List.getElem_of_mem hmem
  have hi2 : come[i]? = some k := by rw [List.getElem?_eq_getElem hi, e]
  rcases nxt_spec (s.ls who) (causC s) come come.length (Nat.le_refl _) with ⟨_, h2⟩ | ⟨m, h1, h2, h3, h4⟩
  · have := h2 i k hi hi2
    rw [ready_same h hc hmem, hk] at this
    cases this
  · have h5 := h4 i k hi hi2 (by rw [ready_same h hc hmem]; exact hk)
    rw [ready_same h hc h2] at h3
    have h6 : ¬ m < k := fun hlt => by rw [hn m hlt] at h3; cases h3
    rw [h1]
    omega
theorem come_gone {who k : Nat} {come : List Nat} {t : CS} (g : Gone n s t who k) (hc : ComeOf s who come) : ComeOf t who come := fun m => by
  rw [hc m, g.msgs]
  have h1 : t.came who m ≠ 0 ↔ s.came who m ≠ 0 := by
    rcases g.same m with e | ⟨e1, e2⟩
    · rw [e]
    · rw [e1, e2]; omega
  rw [h1]
theorem hears_to (h : CInv n s) {who : Nat} {come : List Nat} (hw : who < n) (hc : ComeOf s who come) : ∀ k, ∃ t, t ≤ ((List.range k).filter fun m => s.came who m == 1).length ∧ hearsTo (s.ls who) (causC s) come t = (hearTo s who k).ls who
  | 0 => ⟨0, Nat.zero_le _, rfl⟩
  | k + 1 => by
    obtain ⟨t, h1, h2⟩ := hears_to h hw hc k
    have g := gone_to h hw k
    rw [List.range_succ, List.filter_append, List.length_append]
    unfold hearTo
    by_cases hr : readyC (hearTo s who k) who k = true
    · rw [if_pos hr]
      have h3 := nxt_hit g.inv (come_gone g hc) hr g.none
      have e1 : causC (hearTo s who k) = causC s := funext g.caus
      rw [e1] at h3
      refine ⟨t + 1, ?_, ?_⟩
      · have hw1 : s.came who k = 1 := by
          have hr2 := hr
          unfold readyC at hr2
          rw [Bool.and_eq_true, beq_iff_eq] at hr2
          exact (g.late k (Nat.le_refl _)).symm.trans hr2.1
        simp [hw1]
        simpa using h1
      · unfold hearsTo
        rw [h2, h3, if_pos (by omega)]
        show _ = upd1 (hearTo s who k).ls who ((hearTo s who k).ls who ++ [k]) who
        rw [upd1_same]
        simp
    · rw [if_neg hr]
      exact ⟨t, by omega, h2⟩
theorem hears_more {heard come : List Nat} {cs : Nat → List Nat} {t : Nat} (h : nxt (hearsTo heard cs come t) cs come come.length = -1) : ∀ j, hearsTo heard cs come (t + j) = hearsTo heard cs come t
  | 0 => rfl
  | j + 1 => by
    show (if 0 ≤ nxt (hearsTo heard cs come (t + j)) cs come come.length then hearsTo heard cs come (t + j) ++ [(nxt (hearsTo heard cs come (t + j)) cs come come.length).toNat] else hearsTo heard cs come (t + j)) = _
    rw [hears_more h j, h]
    simp
/-- So many turns as there has come are enough. -/
theorem hears_is (h : CInv n s) {who : Nat} {come : List Nat} (hw : who < n) (hc : ComeOf s who come) : hearsTo (s.ls who) (causC s) come come.length = (hearTo s who s.msgs.length).ls who := by
  obtain ⟨t, h1, h2⟩ := hears_to h hw hc s.msgs.length
  have g := gone_to h hw s.msgs.length
  have hle : t ≤ come.length := by
    refine Nat.le_trans h1 (sub_len (List.Pairwise.filter _ List.nodup_range) (fun x hx => ?_))
    rw [List.mem_filter] at hx
    exact wait_come h hc (by simpa using hx.2)
  have h3 := nxt_none g.inv (come_gone g hc) (fun m => by
    by_cases hm : m < s.msgs.length
    · exact g.none m hm
    · have := g.inv.i5 who m (by rw [g.msgs]; omega)
      unfold readyC
      rw [this]; rfl)
  have e1 : causC (hearTo s who s.msgs.length) = causC s := funext g.caus
  rw [e1, ← h2] at h3
  have := hears_more h3 (come.length - t)
  rw [show t + (come.length - t) = come.length by omega] at this
  rw [this, h2]
end Go.Proofs.Ytpdccjhabolccaa
