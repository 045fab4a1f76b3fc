/- What is before what, by the numbers and by all ways: plain facts; no program is named here. -/
import Derived.Test.YtjglbjiekndpeabH5
namespace Go.Proofs.Ytjglbjiekndpeab
open Go.RowKit
set_option linter.unusedVariables false

variable {N : Int} {es : List Ev}

/-- How many events of process p stand ahead of place m. -/
def pc (es : List Ev) (p : Nat) : Nat → Nat
  | 0 => 0
  | m + 1 => pc es p m + if whoAt es m = (p : Int) then 1 else 0
theorem pc_mono (es : List Ev) (p : Nat) : ∀ {a b : Nat}, a ≤ b → pc es p a ≤ pc es p b
  | a, 0, h => by have : a = 0 := by omega
                  subst this; exact Nat.le_refl _
  | a, b + 1, h => by
    by_cases e : a = b + 1
    · subst e; exact Nat.le_refl _
    · exact Nat.le_trans (pc_mono es p (b := b) (by omega)) (Nat.le_add_right _ _)

theorem whoAt_at {k : Nat} {e : Ev} (he : es[k]? = some e) : whoAt es k = e.who := by unfold whoAt; rw [he]
theorem last_some {p : Int} : ∀ {k j : Nat}, k ≤ es.length → lastAt es k p = some j → whoAt es j = p ∧ ∀ m, j < m → m < k → whoAt es m ≠ p
  | 0, j, _, h => by cases h
  | k + 1, j, hk, h => by
    have he : es[k]? = some es[k] := List.getElem?_eq_getElem (by omega)
    simp only [lastAt, he] at h
    by_cases hw : es[k].who = p
    · rw [if_pos hw] at h
      cases h
      exact ⟨(whoAt_at he).trans hw, fun m h1 h2 => by omega⟩
    · rw [if_neg hw] at h
      obtain ⟨h1, h2⟩ := last_some (by omega) h
      refine ⟨h1, fun m h3 h4 => ?_⟩
      by_cases hmk : m = k
      · subst hmk; rw [whoAt_at he]; exact hw
      · exact h2 m h3 (by omega)
theorem last_none {p : Int} : ∀ {k : Nat}, k ≤ es.length → lastAt es k p = none → ∀ m, m < k → whoAt es m ≠ p
  | 0, _, _, m, hm => by omega
  | k + 1, hk, h, m, hm => by
    have he : es[k]? = some es[k] := List.getElem?_eq_getElem (by omega)
    simp only [lastAt, he] at h
    by_cases hw : es[k].who = p
    · rw [if_pos hw] at h; cases h
    · rw [if_neg hw] at h
      by_cases hmk : m = k
      · subst hmk; rw [whoAt_at he]; exact hw
      · exact last_none (by omega) h m (by omega)
theorem pc_flat (p : Nat) : ∀ {a b : Nat}, a ≤ b → (∀ m, a ≤ m → m < b → whoAt es m ≠ (p : Int)) → pc es p b = pc es p a
  | a, 0, h, _ => by have : a = 0 := by omega
                     subst this; rfl
  | a, b + 1, h, hm => by
    by_cases e : a = b + 1
    · subst e; rfl
    · have := pc_flat p (a := a) (b := b) (by omega) (fun m h1 h2 => hm m h1 (by omega))
      show pc es p b + _ = _
      rw [this, if_neg (hm b (by omega) (by omega))]
      rfl
theorem pc_last {p k j : Nat} (hk : k ≤ es.length) (h : lastAt es k (p : Int) = some j) : pc es p k = pc es p j + 1 := by
  obtain ⟨h1, h2⟩ := last_some hk h
  have := lastAt_lt h
  rw [pc_flat p (a := j + 1) (by omega) (fun m h3 h4 => h2 m (by omega) h4)]
  show pc es p j + _ = _
  rw [if_pos h1]
theorem pc_none {p k : Nat} (hk : k ≤ es.length) (h : lastAt es k (p : Int) = none) : pc es p k = 0 :=
  pc_flat p (a := 0) (Nat.zero_le _) (fun m _ h4 => last_none hk h m h4)

theorem opt_max {f : Nat → Nat} {o : Option Nat} {B : Nat} (h : ∀ k, o = some k → f k ≤ B) : (o.map f).getD 0 ≤ B := by
  cases o with
  | none => exact Nat.zero_le _
  | some k => exact h k rfl

theorem vc_pc (hv : Valid N es) (p : Nat) : ∀ (m j : Nat), j < m → vc es p j ≤ pc es p (j + 1)
  | 0, _, h => by omega
  | m + 1, j, h => by
    rw [vc_eq hv p j]
    have hf : ∀ k, k < j → vc es p k ≤ pc es p j := fun k hk => Nat.le_trans (vc_pc hv p m k (by omega)) (pc_mono es p hk)
    have h1 := opt_max (f := vc es p) (o := lastAt es j (whoAt es j)) (fun k e => hf k (lastAt_lt e))
    have h2 := opt_max (f := vc es p) (o := takenAt es j) (fun k e => hf k (taken_lt hv e))
    show _ ≤ pc es p j + _
    omega
theorem vc_own (hv : Valid N es) (p : Nat) : ∀ (m j : Nat), j < m → j < es.length → whoAt es j = (p : Int) → vc es p j = pc es p j + 1
  | 0, _, h, _, _ => by omega
  | m + 1, j, h, hl, hw => by
    rw [vc_eq hv p j, hw, if_pos rfl]
    have h2 := opt_max (f := vc es p) (o := takenAt es j) (B := pc es p j) (fun k e => Nat.le_trans (vc_pc hv p (k + 1) k (by omega)) (pc_mono es p (taken_lt hv e)))
    cases hla : lastAt es j (p : Int) with
    | none =>
      have := pc_none (Nat.le_of_lt hl) hla
      simp only [Option.map_none, Option.getD_none]
      omega
    | some k =>
      have h3 := lastAt_lt hla
      have h4 := vc_own hv p m k (by omega) (by omega) (last_some (Nat.le_of_lt hl) hla).1
      have h5 := pc_last (Nat.le_of_lt hl) hla
      simp only [Option.map_some, Option.getD_some]
      omega

/-! What is before. -/
theorem up_self (hv : Valid N es) (i : Nat) : upTo es i i = true := by rw [upTo_eq hv]; simp
theorem near_cases {i j : Nat} (hv : Valid N es) : upTo es i j = true ↔ i = j ∨ ∃ k, k ∈ nearOf es j ∧ upTo es i k = true := by
  rw [upTo_eq hv]
  unfold nearOf
  cases lastAt es j (whoAt es j) <;> cases takenAt es j <;> simp <;> exact or_assoc
theorem up_le (hv : Valid N es) {i : Nat} : ∀ (m : Nat) {j : Nat}, j < m → upTo es i j = true → i ≤ j
  | 0, _, h, _ => by omega
  | m + 1, j, h, hu => by
    rcases (near_cases hv).1 hu with e | ⟨k, hk, h2⟩
    · omega
    · have := nearOf_lt hv hk
      have := up_le hv m (by omega) h2
      omega
theorem up_trans (hv : Valid N es) {i j : Nat} (hij : upTo es i j = true) : ∀ (m : Nat) {k : Nat}, k < m → upTo es j k = true → upTo es i k = true
  | 0, _, h, _ => by omega
  | m + 1, k, h, hu => by
    rcases (near_cases hv).1 hu with e | ⟨x, hx, h2⟩
    · subst e; exact hij
    · exact (near_cases hv).2 (.inr ⟨x, hx, up_trans hv hij m (by have := nearOf_lt hv hx; omega) h2⟩)
theorem near_last {j k : Nat} (h : lastAt es j (whoAt es j) = some k) : k ∈ nearOf es j := by unfold nearOf; rw [h]; simp
theorem near_taken {j k : Nat} (h : takenAt es j = some k) : k ∈ nearOf es j := by unfold nearOf; rw [h]; simp
theorem up_same (hv : Valid N es) {i : Nat} : ∀ (m : Nat) {j : Nat}, j < m → j < es.length → i ≤ j → whoAt es i = whoAt es j → upTo es i j = true
  | 0, _, h, _, _, _ => by omega
  | m + 1, j, h, hl, hij, hw => by
    by_cases e : i = j
    · subst e; exact up_self hv i
    · cases hla : lastAt es j (whoAt es j) with
      | none => exact absurd hw (last_none (Nat.le_of_lt hl) hla i (by omega))
      | some k =>
        obtain ⟨h1, h2⟩ := last_some (Nat.le_of_lt hl) hla
        have h3 := lastAt_lt hla
        have h4 : i ≤ k := by
          apply Nat.le_of_not_lt
          intro hki
          exact h2 i hki (by omega) hw
        exact (near_cases hv).2 (.inr ⟨k, near_last hla, up_same hv m (by omega) (by omega) h4 (hw.trans h1.symm)⟩)

theorem lt_max_iff (a b c : Nat) : a < max b c ↔ a < b ∨ a < c := by omega
theorem up_iff (hv : Valid N es) {i p : Nat} (hi : i < es.length) (hp : whoAt es i = (p : Int)) : ∀ (m : Nat) {j : Nat}, j < m → j < es.length → (upTo es i j = true ↔ pc es p i < vc es p j)
  | 0, _, h, _ => by omega
  | m + 1, j, h, hl => by
    by_cases hw : whoAt es j = (p : Int)
    · rw [vc_own hv p (j + 1) j (by omega) hl hw]
      constructor
      · intro hu
        have := pc_mono es p (up_le hv (j + 1) (by omega) hu)
        omega
      · intro hlt
        refine up_same hv (j + 1) (by omega) hl ?_ (hp.trans hw.symm)
        apply Nat.le_of_not_lt
        intro hji
        have h1 := pc_mono es p (show j + 1 ≤ i from hji)
        have h2 : pc es p (j + 1) = pc es p j + 1 := by show pc es p j + _ = _; rw [if_pos hw]
        omega
    · have hne : i ≠ j := fun e => hw (by rw [← e]; exact hp)
      rw [vc_eq hv p j, if_neg hw, Nat.add_zero, lt_max_iff, near_cases hv]
      have hopt : ∀ {o : Option Nat}, (∀ k, o = some k → k < j) → (pc es p i < (o.map (vc es p)).getD 0 ↔ ∃ k, o = some k ∧ upTo es i k = true) := by
        intro o ho
        cases o with
        | none => simp
        | some k =>
          have hk := ho k rfl
          simp only [Option.map_some, Option.getD_some, Option.some.injEq, exists_eq_left']
          exact (up_iff hv hi hp m (by omega) (by omega)).symm
      rw [hopt (fun k e => lastAt_lt e), hopt (fun k e => taken_lt hv e)]
      constructor
      · rintro (e | ⟨k, hk, hu⟩)
        · exact absurd e hne
        · unfold nearOf at hk
          rcases List.mem_append.1 hk with h1 | h1
          · left
            cases hla : lastAt es j (whoAt es j) with
            | none => rw [hla] at h1; cases h1
            | some x => rw [hla] at h1; simp at h1; subst h1; exact ⟨k, rfl, hu⟩
          · right
            cases hla : takenAt es j with
            | none => rw [hla] at h1; cases h1
            | some x => rw [hla] at h1; simp at h1; subst h1; exact ⟨k, rfl, hu⟩
      · rintro (⟨k, hk, hu⟩ | ⟨k, hk, hu⟩)
        · exact .inr ⟨k, near_last hk, hu⟩
        · exact .inr ⟨k, near_taken hk, hu⟩

theorem who_nat (hv : Valid N es) {i : Nat} (hi : i < es.length) : ∃ p : Nat, whoAt es i = (p : Int) ∧ (p : Int) < N := by
  have he : es[i]? = some es[i] := List.getElem?_eq_getElem hi
  obtain ⟨_, h1, h2, _⟩ := hv.2.2.2 i _ he
  exact ⟨es[i].who.toNat, by rw [whoAt_at he]; omega, by omega⟩

/-- What Before answers is what is before. -/
theorem before_is (hv : Valid N es) {i j : Nat} (hi : i < es.length) (hj : j < es.length) : (i != j && decide (vc es (whoAt es i).toNat i ≤ vc es (whoAt es i).toNat j)) = befB es i j := by
  obtain ⟨p, hp, _⟩ := who_nat hv hi
  have e : (whoAt es i).toNat = p := by rw [hp]; simp
  unfold befB
  congr 1
  rw [e, vc_own hv p (i + 1) i (by omega) hi hp, Bool.eq_iff_iff, decide_eq_true_iff, up_iff hv hi hp (j + 1) (by omega) hj]
  omega

theorem bef_iff {i j : Nat} : befB es i j = true ↔ i ≠ j ∧ upTo es i j = true := by unfold befB; simp
theorem bef_lt (hv : Valid N es) {i j : Nat} (h : befB es i j = true) : i < j := by
  obtain ⟨h1, h2⟩ := bef_iff.1 h
  have := up_le hv (j + 1) (by omega) h2
  omega
theorem bef_trans (hv : Valid N es) {i j k : Nat} (h : befB es i j = true) (h2 : befB es j k = true) : befB es i k = true := by
  have := bef_lt hv h
  have := bef_lt hv h2
  exact bef_iff.2 ⟨by omega, up_trans hv (bef_iff.1 h).2 (k + 1) (by omega) (bef_iff.1 h2).2⟩
theorem bef_same (hv : Valid N es) {i j : Nat} (hj : j < es.length) (h : i < j) (hw : whoAt es i = whoAt es j) : befB es i j = true :=
  bef_iff.2 ⟨by omega, up_same hv (j + 1) (by omega) hj (by omega) hw⟩
theorem bef_near (hv : Valid N es) {k j : Nat} (h : k ∈ nearOf es j) : befB es k j = true :=
  bef_iff.2 ⟨by have := nearOf_lt hv h; omega, (near_cases hv).2 (.inr ⟨k, h, up_self hv k⟩)⟩
theorem bef_cases (hv : Valid N es) {i j : Nat} (h : befB es i j = true) : ∃ k, k ∈ nearOf es j ∧ (i = k ∨ befB es i k = true) := by
  obtain ⟨h1, h2⟩ := bef_iff.1 h
  rcases (near_cases hv).1 h2 with e | ⟨k, hk, hu⟩
  · exact absurd e h1
  · refine ⟨k, hk, ?_⟩
    by_cases e : i = k
    · exact .inl e
    · exact .inr (bef_iff.2 ⟨e, hu⟩)

/-! LAMPORT; FIDGE, MATTERN. -/
theorem sc_near (hv : Valid N es) {k j : Nat} (h : k ∈ nearOf es j) : sc es k < sc es j := by
  rw [sc_eq hv j]
  unfold nearOf at h
  rcases List.mem_append.1 h with h1 | h1
  · cases hla : lastAt es j (whoAt es j) with
    | none => rw [hla] at h1; cases h1
    | some x => rw [hla] at h1; simp at h1; subst h1; simp only [Option.map_some, Option.getD_some]; omega
  · cases hla : takenAt es j with
    | none => rw [hla] at h1; cases h1
    | some x => rw [hla] at h1; simp at h1; subst h1; simp only [Option.map_some, Option.getD_some]; omega
theorem sc_bef (hv : Valid N es) {i : Nat} : ∀ (m : Nat) {j : Nat}, j < m → befB es i j = true → sc es i < sc es j
  | 0, _, h, _ => by omega
  | m + 1, j, h, hb => by
    obtain ⟨k, hk, hik⟩ := bef_cases hv hb
    have h1 := sc_near hv hk
    rcases hik with e | hb2
    · subst e; exact h1
    · have := sc_bef hv m (by have := nearOf_lt hv hk; omega) hb2
      omega
theorem sc_pos (hv : Valid N es) (j : Nat) : 1 ≤ sc es j := by rw [sc_eq hv j]; omega
theorem vc_near (hv : Valid N es) (p : Nat) {k j : Nat} (h : k ∈ nearOf es j) : vc es p k ≤ vc es p j := by
  rw [vc_eq hv p j]
  unfold nearOf at h
  rcases List.mem_append.1 h with h1 | h1
  · cases hla : lastAt es j (whoAt es j) with
    | none => rw [hla] at h1; cases h1
    | some x => rw [hla] at h1; simp at h1; subst h1; simp only [Option.map_some, Option.getD_some]; omega
  · cases hla : takenAt es j with
    | none => rw [hla] at h1; cases h1
    | some x => rw [hla] at h1; simp at h1; subst h1; simp only [Option.map_some, Option.getD_some]; omega
theorem vc_bef (hv : Valid N es) (p : Nat) {i : Nat} : ∀ (m : Nat) {j : Nat}, j < m → befB es i j = true → vc es p i ≤ vc es p j
  | 0, _, h, _ => by omega
  | m + 1, j, h, hb => by
    obtain ⟨k, hk, hik⟩ := bef_cases hv hb
    have h1 := vc_near hv p hk
    rcases hik with e | hb2
    · subst e; exact h1
    · have := vc_bef hv p m (by have := nearOf_lt hv hk; omega) hb2
      omega
theorem mattern (hv : Valid N es) {n i j : Nat} (hn : N = (n : Int)) (hi : i < es.length) (hj : j < es.length) (hne : i ≠ j) : befB es i j = true ↔ ∀ p, p < n → vc es p i ≤ vc es p j := by
  constructor
  · exact fun h p _ => vc_bef hv p (j + 1) (by omega) h
  · intro h
    obtain ⟨p, hp, hpn⟩ := who_nat hv hi
    have h1 := h p (by omega)
    rw [vc_own hv p (i + 1) i (by omega) hi hp] at h1
    exact bef_iff.2 ⟨hne, (up_iff hv hi hp (j + 1) (by omega) hj).2 (by omega)⟩
end Go.Proofs.Ytjglbjiekndpeab
