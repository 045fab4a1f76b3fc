/- Two neighbours change places: plain facts; no program is named here. -/
import Derived.Test.YteahkegjekaanabK3
namespace Go.Proofs.Yteahkegjekaanab
open Go.RowKit
set_option linter.unusedVariables false

variable {N : Int} {es ms : List Ev} {i : Nat}

/-- i and i + 1 change places. -/
def sw (i j : Nat) : Nat := if j = i then i + 1 else if j = i + 1 then i else j
theorem sw_sw (i j : Nat) : sw i (sw i j) = j := by
  unfold sw
  by_cases h1 : j = i
  · subst h1; simp
  · by_cases h2 : j = i + 1
    · subst h2; simp
    · simp [h1, h2]
theorem sw_lt {i j n : Nat} (hi : i + 1 < n) (hj : j < n) : sw i j < n := by unfold sw; split <;> (try split) <;> omega
theorem sw_mono {i x j : Nat} (h : x < j) (hne : ¬ (x = i ∧ j = i + 1)) : sw i x < sw i j := by
  unfold sw
  split <;> split <;> (try split) <;> (try split) <;> omega
theorem sw_back {i m j : Nat} (h : sw i m < sw i j) : m < j ∨ (j = i ∧ m = i + 1) := by
  by_cases h1 : m < j
  · exact .inl h1
  · right
    unfold sw at h
    split at h <;> split at h <;> (try split at h) <;> (try split at h) <;> omega

/-- An event whose sending has changed its place. -/
def mev (i : Nat) (e : Ev) : Ev := if e.kind = 3 ∧ (e.of = (i : Int) ∨ e.of = (i : Int) + 1) then ⟨e.kind, e.who, 2 * (i : Int) + 1 - e.of⟩ else e
theorem mev_kind (i : Nat) (e : Ev) : (mev i e).kind = e.kind := by unfold mev; split <;> rfl
theorem mev_who (i : Nat) (e : Ev) : (mev i e).who = e.who := by unfold mev; split <;> rfl
theorem mev_of {i t : Nat} {e : Ev} (h3 : e.kind = 3) (h : e.of = (t : Int)) : (mev i e).of = ((sw i t : Nat) : Int) := by
  unfold mev sw
  by_cases h1 : t = i
  · subst h1
    rw [if_pos ⟨h3, .inl h⟩, if_pos rfl]
    show 2 * (t : Int) + 1 - e.of = _
    omega
  · by_cases h2 : t = i + 1
    · subst h2
      rw [if_pos ⟨h3, .inr (by rw [h]; simp)⟩, if_neg h1, if_pos rfl]
      show 2 * (i : Int) + 1 - e.of = _
      omega
    · rw [if_neg (fun h4 => by omega), if_neg h1, if_neg h2]
      exact h

/-- The events with two neighbours the other way round. -/
def Swapped (i : Nat) (es ms : List Ev) : Prop := ms.length = es.length ∧ ∀ j, j < es.length → ms[sw i j]? = (es[j]?).map (mev i)

theorem sw_who (hs : Swapped i es ms) {j : Nat} (hj : j < es.length) : whoAt ms (sw i j) = whoAt es j := by
  have he : es[j]? = some es[j] := List.getElem?_eq_getElem hj
  have h1 := hs.2 j hj
  rw [he] at h1
  rw [whoAt_at he, whoAt_at h1, mev_who]
theorem sw_taken (hv : Valid N es) (hs : Swapped i es ms) {j : Nat} (hj : j < es.length) : takenAt ms (sw i j) = (takenAt es j).map (sw i) := by
  have he : es[j]? = some es[j] := List.getElem?_eq_getElem hj
  have h1 := hs.2 j hj
  rw [he] at h1
  unfold takenAt
  rw [h1, he]
  simp only [Option.map_some, mev_kind]
  by_cases h3 : es[j].kind = 3
  · obtain ⟨t, ht, _⟩ := (hv.2.2.2 j _ he).2.2.2 h3
    rw [if_pos h3, if_pos h3, mev_of h3 ht, ht]
    simp
  · rw [if_neg h3, if_neg h3]
    rfl
theorem last_spec {p : Int} : ∀ {k x : Nat}, k ≤ es.length → x < k → whoAt es x = p → (∀ m, x < m → m < k → whoAt es m ≠ p) → lastAt es k p = some x
  | 0, x, _, h, _, _ => by omega
  | k + 1, x, hk, hx, hw, hm => by
    have he : es[k]? = some es[k] := List.getElem?_eq_getElem (by omega)
    simp only [lastAt, he]
    by_cases e : x = k
    · subst e
      rw [if_pos (by rw [← whoAt_at he]; exact hw)]
    · rw [if_neg (by rw [← whoAt_at he]; exact hm k (by omega) (by omega))]
      exact last_spec (by omega) (by omega) hw (fun m h1 h2 => hm m h1 (by omega))
theorem last_spec_none {p : Int} : ∀ {k : Nat}, k ≤ es.length → (∀ m, m < k → whoAt es m ≠ p) → lastAt es k p = none
  | 0, _, _ => rfl
  | k + 1, hk, hm => by
    have he : es[k]? = some es[k] := List.getElem?_eq_getElem (by omega)
    simp only [lastAt, he]
    rw [if_neg (by rw [← whoAt_at he]; exact hm k (by omega))]
    exact last_spec_none (by omega) (fun m h => hm m (by omega))
theorem sw_last (hs : Swapped i es ms) (hi : i + 1 < es.length) (hw : whoAt es i ≠ whoAt es (i + 1)) {j : Nat} (hj : j < es.length) : lastAt ms (sw i j) (whoAt es j) = (lastAt es j (whoAt es j)).map (sw i) := by
  have hlen := hs.1
  have hsj := sw_lt hi hj
  have rev : ∀ m2, m2 < sw i j → ∃ m, m2 = sw i m ∧ m < es.length ∧ (m < j ∨ (j = i ∧ m = i + 1)) := fun m2 h2 => by
    have h3 : sw i (sw i m2) < sw i j := by rw [sw_sw]; exact h2
    exact ⟨sw i m2, (sw_sw i m2).symm, sw_lt hi (by omega), sw_back h3⟩
  cases hla : lastAt es j (whoAt es j) with
  | none =>
    have h0 := last_none (Nat.le_of_lt hj) hla
    refine last_spec_none (by omega) (fun m2 h2 => ?_)
    obtain ⟨m, rfl, hml, h3⟩ := rev m2 h2
    rw [sw_who hs hml]
    rcases h3 with h3 | ⟨rfl, rfl⟩
    · exact h0 m h3
    · exact fun e => hw e.symm
  | some x =>
    obtain ⟨h1, h2⟩ := last_some (Nat.le_of_lt hj) hla
    have hxj := lastAt_lt hla
    refine last_spec (by omega) (sw_mono hxj (fun ⟨e1, e2⟩ => hw (by rw [e1, e2] at h1; exact h1))) (by rw [sw_who hs (by omega)]; exact h1) (fun m2 h3 h4 => ?_)
    obtain ⟨m, rfl, hml, h5⟩ := rev m2 h4
    rw [sw_who hs hml]
    rcases h5 with h5 | ⟨rfl, rfl⟩
    · rcases sw_back h3 with h6 | ⟨e1, e2⟩
      · exact h2 m h6 h5
      · intro e
        rw [← h1, e1, e2] at e
        exact hw e
    · exact fun e => hw e.symm
theorem sw_vc (hv : Valid N es) (hv2 : Valid N ms) (hs : Swapped i es ms) (hi : i + 1 < es.length) (hw : whoAt es i ≠ whoAt es (i + 1)) (p : Nat) : ∀ (q j : Nat), j < q → j < es.length → vc ms p (sw i j) = vc es p j
  | 0, _, h, _ => by omega
  | q + 1, j, h, hj => by
    rw [vc_eq hv2 p (sw i j), vc_eq hv p j, sw_who hs hj, sw_last hs hi hw hj, sw_taken hv hs hj, Option.map_map, Option.map_map,
      map_opt_congr (f := vc ms p ∘ sw i) (g := vc es p) (o := lastAt es j (whoAt es j)) (fun k hk => by have := lastAt_lt hk; exact sw_vc hv hv2 hs hi hw p q k (by omega) (by omega)),
      map_opt_congr (f := vc ms p ∘ sw i) (g := vc es p) (o := takenAt es j) (fun k hk => by have := taken_lt hv hk; exact sw_vc hv hv2 hs hi hw p q k (by omega) (by omega))]

theorem noSend_iff {l : List Ev} {k : Nat} {z : Int} : noSend (l.take k) z = false ↔ ∃ (t : Nat) (e : Ev), z = t ∧ t < k ∧ l[t]? = some e ∧ e.kind = 2 := by
  constructor
  · intro h
    unfold noSend at h
    by_cases h0 : z < 0
    · rw [if_pos h0] at h; cases h
    · rw [if_neg h0] at h
      cases he : (l.take k)[z.toNat]? with
      | none => rw [he] at h; cases h
      | some e =>
        rw [he] at h
        obtain ⟨h1, h2⟩ := take_at he
        exact ⟨z.toNat, e, by omega, h1, h2, by simpa using h⟩
  · rintro ⟨t, e, rfl, h1, h2, h3⟩
    rw [noSend_at h1 h2, h3]
    rfl
theorem evCode_iff {n : Int} {l : List Ev} {e : Ev} : evCode n l e = 0 ↔ (e.kind = 1 ∨ e.kind = 2 ∨ e.kind = 3) ∧ ¬ (e.who < 0 ∨ n ≤ e.who) ∧ (e.kind = 3 → noSend l e.of = false) := by
  constructor
  · intro h
    unfold evCode at h
    by_cases h1 : e.kind ≠ 1 ∧ e.kind ≠ 2 ∧ e.kind ≠ 3
    · rw [if_pos h1] at h; omega
    · rw [if_neg h1] at h
      by_cases h2 : e.who < 0 ∨ n ≤ e.who
      · rw [if_pos h2] at h; omega
      · rw [if_neg h2] at h
        refine ⟨by omega, h2, fun h3 => ?_⟩
        cases hn : noSend l e.of
        · rfl
        · rw [if_pos ⟨h3, hn⟩] at h; omega
  · rintro ⟨h1, h2, h3⟩
    exact evCode_ok h1 h2 h3
theorem sw_ok (hz : evsCode N es = 0) (hs : Swapped i es ms) (hi : i + 1 < es.length) (hd : ¬ (takenAt es (i + 1) = some i)) : evsCode N ms = 0 := by
  rw [evs_ok_iff] at hz ⊢
  refine ⟨by rw [hs.1]; exact hz.1, fun j2 e2 h2 => ?_⟩
  have hj2 : j2 < es.length := by have := (List.getElem?_eq_some_iff.1 h2).1; rw [hs.1] at this; exact this
  have hj := sw_lt hi hj2
  have he : es[sw i j2]? = some es[sw i j2] := List.getElem?_eq_getElem hj
  have h1 := hs.2 (sw i j2) hj
  rw [sw_sw, he, h2] at h1
  obtain rfl : e2 = mev i es[sw i j2] := by simpa using h1
  obtain ⟨c1, c2, c3⟩ := evCode_iff.1 (hz.2 _ _ he)
  refine evCode_iff.2 ⟨by rw [mev_kind]; exact c1, by rw [mev_who]; exact c2, fun h3 => ?_⟩
  rw [mev_kind] at h3
  obtain ⟨t, e, ht, htj, het, hk⟩ := noSend_iff.1 (c3 h3)
  have htl : t < es.length := (List.getElem?_eq_some_iff.1 het).1
  refine noSend_iff.2 ⟨sw i t, mev i e, mev_of h3 ht, ?_, by rw [hs.2 t htl, het]; rfl, by rw [mev_kind]; exact hk⟩
  have h4 : sw i t < sw i (sw i j2) := sw_mono htj (fun ⟨e1, e2⟩ => hd (by
    unfold takenAt
    rw [← e2, he]
    simp [h3, ht, e1]))
  rwa [sw_sw] at h4

/-- The list that ClocksSwap lays. -/
def swapped (i : Nat) (es : List Ev) : List Ev := match es[i]?, es[i + 1]? with
  | some a, some b => ((es.map (mev i)).set i (mev i b)).set (i + 1) (mev i a)
  | _, _ => es.map (mev i)
theorem swapped_is (hi : i + 1 < es.length) : Swapped i es (swapped i es) := by
  have ha : es[i]? = some es[i] := List.getElem?_eq_getElem (by omega)
  have hb : es[i + 1]? = some es[i + 1] := List.getElem?_eq_getElem hi
  unfold swapped
  rw [ha, hb]
  refine ⟨by simp, fun j hj => ?_⟩
  have hej : es[j]? = some es[j] := List.getElem?_eq_getElem hj
  unfold sw
  by_cases h1 : j = i
  · subst h1
    rw [if_pos rfl, List.getElem?_set_self (by simp; omega), hej]
    rfl
  · by_cases h2 : j = i + 1
    · subst h2
      rw [if_neg h1, if_pos rfl, List.getElem?_set_ne (by omega), List.getElem?_set_self (by simp; omega), hej]
      rfl
    · rw [if_neg h1, if_neg h2, List.getElem?_set_ne (by omega), List.getElem?_set_ne (by omega), List.getElem?_map]
end Go.Proofs.Yteahkegjekaanab
