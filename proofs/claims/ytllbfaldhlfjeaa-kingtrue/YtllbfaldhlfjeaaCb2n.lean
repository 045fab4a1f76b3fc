/- Numbers of a slice, as rows. -/
import Derived.Test.YtllbfaldhlfjeaaCb0
import Derived.Test.YtllbfaldhlfjeaaCb1
namespace Go.Proofs.Ytllbfaldhlfjeaa
open Go.RowKit
set_option linter.unusedVariables false

def natsI (l : List Nat) : List Int := l.map fun (z : Nat) => (z : Int)
theorem natsI_at {l : List Nat} {k x : Nat} (h : l[k]? = some x) : (natsI l)[k]? = some (x : Int) := by simp [natsI, h]
theorem natsI_back {l : List Nat} {k : Nat} {x : Int} (h : (natsI l)[k]? = some x) : ∃ m : Nat, l[k]? = some m ∧ x = (m : Int) := by
  simp [natsI] at h
  obtain ⟨m, h1, h2⟩ := h
  exact ⟨m, h1, h2.symm⟩
theorem natsI_len (l : List Nat) : (natsI l).length = l.length := by simp [natsI]
theorem natsI_nodup {l : List Nat} (h : l.Nodup) : (natsI l).Nodup := by
  unfold natsI
  exact List.Pairwise.map _ (fun a b hab e => hab (by have e2 : (a : Int) = (b : Int) := e; omega)) h
theorem natsI_mem {l : List Nat} {x : Int} (h : x ∈ natsI l) : ∃ m : Nat, m ∈ l ∧ x = (m : Int) := by
  unfold natsI at h
  obtain ⟨m, h1, h2⟩ := List.mem_map.1 h
  exact ⟨m, h1, h2.symm⟩
theorem natsI_app (a b : List Nat) : natsI (a ++ b) = natsI a ++ natsI b := by simp [natsI]
theorem posN_none {l : List Nat} {m : Nat} (h : m ∉ l) : posI (natsI l) (m : Int) = -1 := posI_none (fun hm => by
  obtain ⟨k, h1, h2⟩ := natsI_mem hm
  obtain rfl : m = k := by omega
  exact h h1)
theorem posN_at {l : List Nat} (h : l.Nodup) {k m : Nat} (hk : l[k]? = some m) : posI (natsI l) (m : Int) = (k : Int) := posI_at (natsI_nodup h) (natsI_at hk)

/-- A slice of the call's own, as a row. -/
theorem seg_row {W : World} {ok : Nat → Prop} {e : TypeId} {a : Option Addr} {n c : Nat} {l : List Nat} (h : Seg W ok e 1 (.slice a n c) n (natsL l)) : RowI W a n c (natsI l) := by
  obtain ⟨h1, ⟨h2, h3⟩ | ⟨g, off, cap, cur, h2, h3, h4, h5, h6, h7, h8⟩⟩ := h
  · subst h3
    cases h2
    exact ⟨by rw [natsI_len]; simpa [natsL] using h1, Nat.le_refl _, Nat.zero_le _, .inl rfl⟩
  · cases h2
    refine ⟨by rw [natsI_len]; simpa [natsL] using h1, h5, by omega, .inr ⟨g, off, rfl, (Array.getElem?_eq_some_iff.1 h4).1, fun j x hx => ?_⟩⟩
    obtain ⟨m, hm, rfl⟩ := natsI_back hx
    rw [cell_of_row W _ _ _ _ _ h4]
    exact h8 j _ (by simp [natsL, hm])

end Go.Proofs.Ytllbfaldhlfjeaa
