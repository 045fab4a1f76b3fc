/- The document's way: all letters in one list; plain. -/
import Derived.Test.YtaojmbebkggafaaMb6
namespace Go.Proofs.Ytaojmbebkggafaa
set_option linter.unusedVariables false

structure Lt where
  f : Nat
  t : Nat
  x : Nat
  c : Bool
def hit (i j : Nat) (l : Lt) : Bool := !l.c && (l.f == i && l.t == j)
/-- What is on a way. -/
def pend (L : List Lt) (i j : Nat) : List Nat := (L.filter (hit i j)).map (fun l => l.x)
theorem pend_nil (i j : Nat) : pend [] i j = [] := rfl
theorem pend_cons (l : Lt) (L : List Lt) (i j : Nat) : pend (l :: L) i j = if hit i j l = true then l.x :: pend L i j else pend L i j := by
  unfold pend
  rw [List.filter_cons]
  split <;> rfl
theorem pend_app (L : List Lt) (a b x i j : Nat) : pend (L ++ [⟨a, b, x, false⟩]) i j = if i = a ∧ j = b then pend L i j ++ [x] else pend L i j := by
  unfold pend
  rw [List.filter_append, List.map_append]
  by_cases e : i = a ∧ j = b
  · obtain ⟨rfl, rfl⟩ := e
    rw [if_pos ⟨rfl, rfl⟩]
    simp [hit]
  · rw [if_neg e]
    have h2 : hit i j ⟨a, b, x, false⟩ = false := by
      unfold hit
      simp only [Bool.not_false, Bool.true_and, Bool.and_eq_false_iff, beq_eq_false_iff_ne]
      by_cases e1 : a = i
      · right; intro e2; exact e ⟨e1.symm, e2.symm⟩
      · left; exact e1
    simp [h2]
def comeL (l : Lt) : Lt := ⟨l.f, l.t, l.x, true⟩
theorem hit_come (i j : Nat) (l : Lt) : hit i j (comeL l) = false := by simp [hit, comeL]
theorem pend_first (i j : Nat) : ∀ (L : List Lt) (q : Nat), L.findIdx? (hit i j) = some q → ∃ l, L[q]? = some l ∧ l.f = i ∧ l.t = j ∧ l.c = false ∧ pend L i j = l.x :: pend (L.set q (comeL l)) i j ∧ ∀ a b, ¬ (a = i ∧ b = j) → pend (L.set q (comeL l)) a b = pend L a b
  | [], q, h => by simp at h
  | l :: L, q, h => by
    rw [List.findIdx?_cons] at h
    by_cases hh : hit i j l = true
    · rw [if_pos hh] at h
      simp only [Option.some.injEq] at h
      subst h
      have h3 := hh
      unfold hit at h3
      simp only [Bool.and_eq_true, Bool.not_eq_true', beq_iff_eq] at h3
      obtain ⟨h4, h5, h6⟩ := h3
      refine ⟨l, rfl, h5, h6, h4, ?_, fun a b hab => ?_⟩
      · rw [pend_cons, if_pos hh, List.set_cons_zero, pend_cons, hit_come]; simp
      · rw [List.set_cons_zero, pend_cons, hit_come, pend_cons]
        have : hit a b l = false := by
          unfold hit
          simp only [Bool.and_eq_false_iff, beq_eq_false_iff_ne]
          by_cases e1 : l.f = a
          · right; right; intro e2; exact hab ⟨e1.symm.trans h5, e2.symm.trans h6⟩
          · right; left; exact e1
        rw [this]; simp
    · rw [if_neg hh] at h
      cases h2 : L.findIdx? (hit i j) with
      | none => rw [h2] at h; simp at h
      | some q2 =>
        rw [h2] at h
        simp only [Option.map_some, Option.some.injEq] at h
        subst h
        obtain ⟨l2, g1, g2, g3, g4, g5, g6⟩ := pend_first i j L q2 h2
        refine ⟨l2, by simpa using g1, g2, g3, g4, ?_, fun a b hab => ?_⟩
        · rw [List.set_cons_succ, pend_cons, if_neg hh, pend_cons, if_neg hh, g5]
        · rw [List.set_cons_succ, pend_cons, pend_cons, g6 a b hab]
theorem pend_empty (i j : Nat) (L : List Lt) : L.findIdx? (hit i j) = none ↔ pend L i j = [] := by
  rw [List.findIdx?_eq_none_iff]
  unfold pend
  rw [List.map_eq_nil_iff, List.filter_eq_nil_iff]
  constructor
  · intro h a ha; rw [h a ha]; simp
  · intro h a ha; simpa using h a ha
/-- Where the first one stands of those from a place on; -1: none. -/
def atFrom (i j : Nat) (L : List Lt) (o : Nat) : Int := match (L.drop o).findIdx? (hit i j) with
  | some q => ((o + q : Nat) : Int)
  | none => -1
theorem atFrom_end (i j : Nat) (L : List Lt) : atFrom i j L L.length = -1 := by unfold atFrom; rw [List.drop_length]; rfl
theorem atFrom_step (i j : Nat) {L : List Lt} {o : Nat} {l : Lt} (h : L[o]? = some l) : atFrom i j L o = if hit i j l = true then (o : Int) else atFrom i j L (o + 1) := by
  unfold atFrom
  have hl := (List.getElem?_eq_some_iff.1 h).1
  have e : L.drop o = l :: L.drop (o + 1) := by
    rw [List.drop_eq_getElem_cons hl]
    congr 1
    exact (List.getElem?_eq_some_iff.1 h).2
  rw [e, List.findIdx?_cons]
  by_cases hh : hit i j l = true
  · rw [if_pos hh, if_pos hh]; rfl
  · rw [if_neg hh, if_neg hh]
    cases (L.drop (o + 1)).findIdx? (hit i j) with
    | none => rfl
    | some q => show ((o + (q + 1) : Nat) : Int) = ((o + 1 + q : Nat) : Int); omega
theorem atFrom_zero (i j : Nat) (L : List Lt) : (atFrom i j L 0 = -1 ∧ pend L i j = []) ∨ ∃ q : Nat, atFrom i j L 0 = (q : Int) ∧ L.findIdx? (hit i j) = some q := by
  unfold atFrom
  rw [List.drop_zero]
  cases h : L.findIdx? (hit i j) with
  | none => exact .inl ⟨rfl, (pend_empty i j L).1 h⟩
  | some q => exact .inr ⟨q, by show ((0 + q : Nat) : Int) = _; omega, rfl⟩
/-- How many have not come. -/
def leftL (L : List Lt) : Nat := L.countP (fun l => !l.c)
def OkL (n : Nat) (L : List Lt) : Prop := ∀ l ∈ L, l.f < n ∧ l.t < n
theorem awayTo_one1 {f g : Nat → Nat} {i : Nat} : ∀ n, i < n → (∀ m, m < n → m ≠ i → f m = g m) → f i = g i + 1 → awayTo f n = awayTo g n + 1
  | 0, h, _, _ => by omega
  | n + 1, hi, h, he => by
    unfold awayTo
    by_cases e : i = n
    · subst e
      have : ∀ m, (∀ q, q < m → f q = g q) → awayTo f m = awayTo g m := fun m => by
        induction m with
        | zero => intro _; rfl
        | succ m ih => intro h2; unfold awayTo; rw [ih (fun q hq => h2 q (by omega)), h2 m (by omega)]
      rw [this i (fun q hq => h q (by omega) (by omega)), he]
      omega
    · rw [awayTo_one1 n (by omega) (fun m hm => h m (by omega)) he, h n (by omega) (by omega)]
      omega
theorem awayTo_eq {f g : Nat → Nat} : ∀ n, (∀ m, m < n → f m = g m) → awayTo f n = awayTo g n
  | 0, _ => rfl
  | n + 1, h => by unfold awayTo; rw [awayTo_eq n (fun m hm => h m (by omega)), h n (by omega)]
theorem left_sum (n : Nat) : ∀ L, OkL n L → leftL L = awayTo (fun i => awayTo (fun j => (pend L i j).length) n) n
  | [], _ => by
    have : ∀ (m : Nat), awayTo (fun _ => 0) m = 0 := fun m => by
      induction m with
      | zero => rfl
      | succ m ih => unfold awayTo; rw [ih]
    symm
    show awayTo (fun i => awayTo (fun j => 0) n) n = 0
    rw [awayTo_eq n (g := fun _ => 0) (fun m _ => this n), this]
  | l :: L, h => by
    have ih := left_sum n L (fun l2 h2 => h l2 (List.mem_cons_of_mem _ h2))
    have hl := h l (by simp)
    have hc : leftL (l :: L) = leftL L + if l.c = true then 0 else 1 := by
      unfold leftL; rw [List.countP_cons]; cases l.c <;> simp
    rw [hc, ih]
    cases hlc : l.c with
    | true =>
      rw [if_pos rfl]
      refine awayTo_eq n (fun i _ => awayTo_eq n (fun j _ => ?_))
      rw [pend_cons, if_neg (by unfold hit; rw [hlc]; simp)]
    | false =>
      rw [if_neg (by simp)]
      symm
      have hh : ∀ i j, hit i j l = true ↔ l.f = i ∧ l.t = j := fun i j => by unfold hit; rw [hlc]; simp
      refine awayTo_one1 n hl.1 (fun i _ hne => awayTo_eq n (fun j _ => ?_)) (awayTo_one1 n hl.2 (fun j _ hne => ?_) ?_)
      · rw [pend_cons, if_neg (fun e => hne ((hh i j).1 e).1.symm)]
      · show (pend (l :: L) l.f j).length = (pend L l.f j).length
        rw [pend_cons, if_neg (fun e => hne ((hh _ j).1 e).2.symm)]
      · show (pend (l :: L) l.f l.t).length = (pend L l.f l.t).length + 1
        rw [pend_cons, if_pos ((hh _ _).2 ⟨rfl, rfl⟩)]
        rfl
/-- The letters stand for the ways. -/
structure SimL (n : Nat) (s : MS) (L : List Lt) : Prop where
  way : ∀ i j, i < n → j < n → s.ways i j = pend L i j
  ok : OkL n L
theorem away_left {n : Nat} {s : MS} {L : List Lt} (h : SimL n s L) : awayM n s = leftL L := by
  rw [left_sum n L h.ok]
  unfold awayM
  refine awayTo_eq n (fun i hi => awayTo_eq n (fun j hj => ?_))
  rw [h.way i j hi hj]
theorem sim_put {n : Nat} {s : MS} {L : List Lt} (h : SimL n s L) {a b : Nat} (ha : a < n) (hb : b < n) (x : Nat) : SimL n (putM s a b x) (L ++ [⟨a, b, x, false⟩]) := by
  refine ⟨fun i j hi hj => ?_, fun l hl => ?_⟩
  · rw [pend_app, ← h.way i j hi hj]
    show upd2 s.ways a b (s.ways a b ++ [x]) i j = _
    by_cases e : i = a ∧ j = b
    · obtain ⟨rfl, rfl⟩ := e; rw [upd2_same, if_pos ⟨rfl, rfl⟩]
    · rw [upd2_other _ _ e, if_neg e]
  · rw [List.mem_append, List.mem_singleton] at hl
    rcases hl with hl | hl
    · exact h.ok l hl
    · subst hl; exact ⟨ha, hb⟩
theorem sim_pr {n : Nat} {s : MS} {L : List Lt} (h : SimL n s L) (i : Nat) (p : Pr) : SimL n (prM s i p) L := ⟨h.way, h.ok⟩
theorem sim_take {n : Nat} {s : MS} {L : List Lt} (h : SimL n s L) {i j q : Nat} (hi : i < n) (hj : j < n) (hq : L.findIdx? (hit i j) = some q) : ∃ l r, L[q]? = some l ∧ l.f = i ∧ l.t = j ∧ l.c = false ∧ s.ways i j = l.x :: r ∧ SimL n (wayM s i j r) (L.set q (comeL l)) := by
  obtain ⟨l, h1, h2, h3, h4, h5, h6⟩ := pend_first i j L q hq
  refine ⟨l, pend (L.set q (comeL l)) i j, h1, h2, h3, h4, by rw [h.way i j hi hj, h5], fun a b ha hb => ?_, fun l2 hl2 => ?_⟩
  · show upd2 s.ways i j _ a b = _
    by_cases e : a = i ∧ b = j
    · obtain ⟨rfl, rfl⟩ := e; rw [upd2_same]
    · rw [upd2_other _ _ e, h6 a b e, h.way a b ha hb]
  · rcases List.mem_or_eq_of_mem_set hl2 with h7 | h7
    · exact h.ok l2 h7
    · subst h7
      exact h.ok l (List.mem_of_getElem? h1)
end Go.Proofs.Ytaojmbebkggafaa
