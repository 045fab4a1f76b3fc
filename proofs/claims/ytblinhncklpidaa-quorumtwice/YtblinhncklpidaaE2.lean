/- Plain facts on least sets of a family: what slices.Compact leaves of a sorted row of them. -/
import Derived.Test.YtblinhncklpidaaE1
import Derived.Test.YtblinhncklpidaaS10
namespace Go.Proofs.Ytblinhncklpidaa
open Go.RowKit

/-- No other set of the family lies in s. -/
def leastB (qs : List Nat) (s : Nat) : Bool := !qs.any (partB s)
/-- Of the first k sets of the family, in its order, the least ones. -/
def leastL (qs : List Nat) (k : Nat) : List Nat := (qs.take k).filter (leastB qs)
/-- s is a least set of the family. -/
def isLeastB (qs : List Nat) (s : Nat) : Bool := qs.any (fun a => a == s) && leastB qs s
/-- Of all sets below k the least ones of the family, rising. -/
def leastsTo (qs : List Nat) (k : Nat) : List Nat := (List.range k).filter (isLeastB qs)

theorem leastsTo_hit {qs : List Nat} {k : Nat} (h : isLeastB qs k = true) : leastsTo qs (k + 1) = leastsTo qs k ++ [k] := by
  unfold leastsTo; rw [List.range_succ, List.filter_append]; simp [h]
theorem leastsTo_miss {qs : List Nat} {k : Nat} (h : isLeastB qs k = false) : leastsTo qs (k + 1) = leastsTo qs k := by
  unfold leastsTo; rw [List.range_succ, List.filter_append]; simp [h]
theorem leastsTo_len (qs : List Nat) (k : Nat) : (leastsTo qs k).length ≤ k := by
  unfold leastsTo
  have := List.length_filter_le (isLeastB qs) (List.range k)
  simpa using this
theorem leastsTo_lt {qs : List Nat} {k x : Nat} (h : x ∈ leastsTo qs k) : x < k := List.mem_range.1 (List.mem_filter.1 h).1
theorem isLeast_iff {qs : List Nat} {s : Nat} : isLeastB qs s = true ↔ s ∈ qs ∧ leastB qs s = true := by
  unfold isLeastB
  rw [Bool.and_eq_true, List.any_eq_true]
  constructor
  · rintro ⟨⟨x, hx, e⟩, h⟩; exact ⟨beq_iff_eq.1 e ▸ hx, h⟩
  · rintro ⟨h1, h2⟩; exact ⟨⟨s, h1, beq_self_eq_true s⟩, h2⟩
theorem leastsTo_iff {qs : List Nat} {k x : Nat} : x ∈ leastsTo qs k ↔ x < k ∧ x ∈ qs ∧ leastB qs x = true := by
  unfold leastsTo
  rw [List.mem_filter, List.mem_range, isLeast_iff]
theorem leastB_iff {qs : List Nat} {s : Nat} : leastB qs s = true ↔ ∀ t ∈ qs, t ≠ s → inB t s = false := by
  unfold leastB partB
  rw [Bool.not_eq_true', List.any_eq_false]
  constructor
  · intro h t ht hne
    have := h t ht
    rw [show (t != s) = true from bne_iff_ne.2 hne] at this
    simpa using this
  · intro h t ht hb
    rw [Bool.and_eq_true] at hb
    have := h t ht (bne_iff_ne.1 hb.1)
    rw [this] at hb
    cases hb.2

theorem rise_range (p : Nat → Bool) (k : Nat) : ((List.range k).filter p).Pairwise (· < ·) := List.pairwise_lt_range.filter p

theorem rise_eq : ∀ (a b : List Nat), a.Pairwise (· < ·) → b.Pairwise (· < ·) → (∀ x, x ∈ a ↔ x ∈ b) → a = b
  | [], [], _, _, _ => rfl
  | [], y :: b, _, _, h => by have := (h y).2 List.mem_cons_self; cases this
  | x :: a, [], _, _, h => by have := (h x).1 List.mem_cons_self; cases this
  | x :: a, y :: b, ha, hb, h => by
    rw [List.pairwise_cons] at ha hb
    have e : x = y := by
      have h1 := (h x).1 List.mem_cons_self
      have h2 := (h y).2 List.mem_cons_self
      rw [List.mem_cons] at h1 h2
      rcases h1 with h1 | h1
      · exact h1
      · rcases h2 with h2 | h2
        · exact h2.symm
        · have := hb.1 x h1; have := ha.1 y h2; omega
    subst e
    rw [rise_eq a b ha.2 hb.2 ?_]
    intro z
    constructor
    · intro hz
      have := (h z).1 (List.mem_cons_of_mem _ hz)
      rw [List.mem_cons] at this
      rcases this with h1 | h1
      · have := ha.1 z hz; omega
      · exact h1
    · intro hz
      have := (h z).2 (List.mem_cons_of_mem _ hz)
      rw [List.mem_cons] at this
      rcases this with h1 | h1
      · have := hb.1 z hz; omega
      · exact h1

theorem compTo_mem (d : Array Nat) (x : Nat) : ∀ k, x ∈ compTo d k ↔ ∃ j, j < k ∧ d[j]! = x
  | 0 => by constructor
            · intro h; cases h
            · rintro ⟨j, h, _⟩; omega
  | k + 1 => by
    by_cases hc : k ≠ 0 ∧ d[k]! = d[k - 1]!
    · rw [compTo_same hc.1 hc.2, compTo_mem d x k]
      constructor
      · rintro ⟨j, h, e⟩; exact ⟨j, by omega, e⟩
      · rintro ⟨j, h, e⟩
        by_cases hj : j = k
        · subst hj; have := hc.1; exact ⟨j - 1, by omega, by rw [← hc.2]; exact e⟩
        · exact ⟨j, by omega, e⟩
    · rw [compTo_new (by by_cases h : k = 0
                         · exact .inl h
                         · exact .inr fun e => hc ⟨h, e⟩), List.mem_append, compTo_mem d x k, List.mem_singleton]
      constructor
      · rintro (⟨j, h, e⟩ | e)
        · exact ⟨j, by omega, e⟩
        · exact ⟨k, by omega, e.symm⟩
      · rintro ⟨j, h, e⟩
        by_cases hj : j = k
        · subst hj; exact .inr e.symm
        · exact .inl ⟨j, by omega, e⟩

theorem compTo_rise (d : Array Nat) (hs : ∀ i j, i < j → j < d.size → d[i]! ≤ d[j]!) : ∀ k, k ≤ d.size → (compTo d k).Pairwise (· < ·)
  | 0, _ => List.Pairwise.nil
  | k + 1, hk => by
    by_cases hc : k ≠ 0 ∧ d[k]! = d[k - 1]!
    · rw [compTo_same hc.1 hc.2]; exact compTo_rise d hs k (by omega)
    · have hn : k = 0 ∨ d[k]! ≠ d[k - 1]! := by
        by_cases h : k = 0
        · exact .inl h
        · exact .inr fun e => hc ⟨h, e⟩
      rw [compTo_new hn, List.pairwise_append]
      refine ⟨compTo_rise d hs k (by omega), List.pairwise_singleton _ _, ?_⟩
      intro a ha b hb
      rw [List.mem_singleton] at hb
      subst hb
      obtain ⟨j, hj, e⟩ := (compTo_mem d a k).1 ha
      have h1 : d[k - 1]! ≤ d[k]! := hs (k - 1) k (by omega) (by omega)
      have h2 : a ≤ d[k - 1]! := by
        by_cases hjk : j = k - 1
        · rw [← e, hjk]; exact Nat.le_refl _
        · rw [← e]; exact hs j (k - 1) (by omega) (by omega)
      rcases hn with h | h
      · omega
      · show a < d[k]!
        omega

/-- What is left of the sorted row of the least sets. -/
theorem comp_leasts {n : Nat} {qs : List Nat} {d d' : Array Nat} (hb : ∀ x ∈ qs, x < 2 ^ n) (hd : d = (leastL qs qs.length).toArray)
    (hp : Go.Sort.PermIn 0 d.size d d') (hs : Go.Sort.SortedIn lt32 0 d.size d') : compTo d' d'.size = leastsTo qs (2 ^ n) := by
  have hsz : d'.size = d.size := hp.1
  have hperm := hp.2.2
  have he' : (d'.extract 0 d.size).toList = d'.toList := by rw [← hsz]; simp
  have he : (d.extract 0 d.size).toList = d.toList := by simp
  rw [he, he'] at hperm
  apply rise_eq
  · refine compTo_rise d' ?_ _ (Nat.le_refl _)
    intro i j hij hj
    have := hs i j (Nat.zero_le _) hij (by omega)
    unfold lt32 at this
    simpa using this
  · exact rise_range _ _
  · intro x
    rw [compTo_mem, leastsTo_iff]
    have hm : (∃ j, j < d'.size ∧ d'[j]! = x) ↔ x ∈ d'.toList := by
      rw [List.mem_iff_getElem]
      constructor
      · rintro ⟨j, h, e⟩
        refine ⟨j, by simpa using h, ?_⟩
        rw [getElem!_pos d' j h] at e
        simpa using e
      · rintro ⟨j, h, e⟩
        have h' : j < d'.size := by simpa using h
        refine ⟨j, h', ?_⟩
        rw [getElem!_pos d' j h']
        simpa using e
    rw [hm, hperm.mem_iff, hd]
    unfold leastL
    rw [List.take_of_length_le (Nat.le_refl _)]
    show x ∈ qs.filter (leastB qs) ↔ _
    rw [List.mem_filter]
    constructor
    · rintro ⟨h1, h2⟩; exact ⟨hb x h1, h1, h2⟩
    · rintro ⟨_, h1, h2⟩; exact ⟨h1, h2⟩

theorem in_le {t s : Nat} (h : inB t s = true) : t ≤ s := by
  unfold inB at h
  rw [beq_iff_eq] at h
  rw [← h]; exact Nat.left_le_or
theorem in_refl (s : Nat) : inB s s = true := inB_iff.2 fun _ h => h
theorem in_trans {a b c : Nat} (h : inB a b = true) (k : inB b c = true) : inB a c = true := inB_iff.2 fun i hi => inB_iff.1 k i (inB_iff.1 h i hi)
theorem in_anti {a b : Nat} (h : inB a b = true) (k : inB b a = true) : a = b := by have := in_le h; have := in_le k; omega

/-- Each set of a family has a least one in it. -/
theorem least_in (qs : List Nat) : ∀ (m s : Nat), s ≤ m → s ∈ qs → ∃ t, t ∈ qs ∧ leastB qs t = true ∧ inB t s = true := by
  intro m
  induction m with
  | zero =>
    intro s hs hm
    refine ⟨s, hm, ?_, in_refl s⟩
    rw [leastB_iff]
    intro t _ hne
    cases h : inB t s
    · rfl
    · have := in_le h; omega
  | succ m ih =>
    intro s hs hm
    cases h : leastB qs s
    · have : qs.any (partB s) = true := by
        unfold leastB at h
        simpa using h
      obtain ⟨t, ht, hp⟩ := List.any_eq_true.1 this
      unfold partB at hp
      rw [Bool.and_eq_true, bne_iff_ne] at hp
      have := in_le hp.2
      obtain ⟨u, h1, h2, h3⟩ := ih t (by omega) ht
      exact ⟨u, h1, h2, in_trans h3 hp.2⟩
    · exact ⟨s, hm, h, in_refl s⟩

theorem leastL_pos {qs : List Nat} (h : 1 ≤ qs.length) : 1 ≤ (leastL qs qs.length).length := by
  obtain ⟨x, hx⟩ : ∃ x, x ∈ qs := ⟨qs[0], List.getElem_mem _⟩
  obtain ⟨t, h1, h2, _⟩ := least_in qs x x (Nat.le_refl _) hx
  have : t ∈ leastL qs qs.length := by
    unfold leastL
    rw [List.take_of_length_le (Nat.le_refl _)]
    exact List.mem_filter.2 ⟨h1, h2⟩
  exact List.length_pos_of_mem this
theorem leastL_len (qs : List Nat) (k : Nat) : (leastL qs k).length ≤ k := by
  unfold leastL
  exact Nat.le_trans (List.length_filter_le _ _) (by simp; omega)
theorem leastL_hit {qs : List Nat} {k x : Nat} (hx : qs[k]? = some x) (h : leastB qs x = true) : leastL qs (k + 1) = leastL qs k ++ [x] := by
  obtain ⟨h1, e⟩ := List.getElem?_eq_some_iff.1 hx
  unfold leastL
  rw [List.take_succ_eq_append_getElem h1, e, List.filter_append]
  simp [h]
theorem leastL_miss {qs : List Nat} {k x : Nat} (hx : qs[k]? = some x) (h : leastB qs x = false) : leastL qs (k + 1) = leastL qs k := by
  obtain ⟨h1, e⟩ := List.getElem?_eq_some_iff.1 hx
  unfold leastL
  rw [List.take_succ_eq_append_getElem h1, e, List.filter_append]
  simp [h]

theorem made_arr {w : World} {base g cap n : Nat} {L : List Nat} (h : Made w base (.slice (some ⟨g, 0, none⟩) n cap) L) : base ≤ g ∧ cap ≤ maxLen ∧ n = L.length ∧ Arr w g cap L.toArray := by
  have h' : w.ownsRow base 34 1 _ L.length (L.map enc32) := h
  rcases h'.2 with ⟨h0, _⟩ | ⟨g', cap', cur, e, hb, hg, h1, h2, h3, h4⟩
  · cases h0
  · cases e
    refine ⟨hb, h2, rfl, cur, hg, by omega, by simpa using h1, fun j hj => ?_⟩
    have hj' : j < L.length := by simpa using hj
    have : (cur.toList.take (L.length * 1))[j]? = (L.map enc32)[j]? := by rw [h4]
    rw [List.getElem?_take_of_lt (by omega), List.getElem?_map, List.getElem?_eq_getElem hj'] at this
    rw [getElem!_pos _ j hj]
    simpa using this
theorem arr_made {w : World} {base g cap : Nat} {L : List Nat} (hb : base ≤ g) (hc : cap ≤ maxLen) (h : Arr w g cap L.toArray) : Made w base (.slice (some ⟨g, 0, none⟩) L.length cap) L := by
  obtain ⟨cur, h1, h2, h3, h4⟩ := h
  have h3' : L.length ≤ cap := by simpa using h3
  refine ⟨by simp, .inr ⟨g, cap, cur, rfl, hb, h1, h3', hc, by omega, ?_⟩⟩
  apply List.ext_getElem?
  intro j
  by_cases hj : j < L.length
  · have := h4 j (by simpa using hj)
    rw [List.getElem?_take_of_lt (by omega), List.getElem?_map, List.getElem?_eq_getElem hj]
    rw [getElem!_pos _ j (by simpa using hj)] at this
    simpa using this
  · rw [List.getElem?_eq_none (by simp; omega), List.getElem?_eq_none (by simp; omega)]
end Go.Proofs.Ytblinhncklpidaa
