/- Steps that are laid one behind the other. -/
import Derived.Test.YtdigkdebdlpnpaaV1
import Derived.SizedLaws
namespace Go.Proofs.Ytdigkdebdlpnpaa
open Go.RowKit Go.ChangeShapes Go.WideShapes Go.Deep
set_option linter.unusedVariables false

def cellsP (p : Pass) : List Value := [.int .i64 p.kind, .int .i64 p.who, .int .i64 p.other, .int .i64 p.n]
def flatP (l : List Pass) : List Value := l.flatMap cellsP
theorem flatP_cons (p : Pass) (l : List Pass) : flatP (p :: l) = cellsP p ++ flatP l := by simp [flatP]
theorem flatP_append (a b : List Pass) : flatP (a ++ b) = flatP a ++ flatP b := by simp [flatP]
theorem flatP_one (p : Pass) : flatP [p] = cellsP p := by simp [flatP]
theorem flatP_len : ∀ l : List Pass, (flatP l).length = l.length * 4
  | [] => rfl
  | p :: l => by rw [flatP_cons, List.length_append, flatP_len l]; simp [cellsP]; omega
theorem flatP_at : ∀ (l : List Pass) (j : Nat) (p : Pass), l[j]? = some p → ∀ t, t < 4 → (flatP l)[j * 4 + t]? = (cellsP p)[t]?
  | [], _, _, h, _, _ => by simp at h
  | q :: l, 0, p, h, t, ht => by
    simp at h
    subst h
    rw [flatP_cons, Nat.zero_mul, Nat.zero_add, List.getElem?_append_left (by simp [cellsP]; omega)]
  | q :: l, j + 1, p, h, t, ht => by
    rw [flatP_cons, List.getElem?_append_right (by simp [cellsP]; omega)]
    have e : (j + 1) * 4 + t - (cellsP q).length = j * 4 + t := by simp [cellsP]; omega
    rw [e]
    exact flatP_at l j p (by simpa using h) t ht
theorem seg_came {w : World} {ok : Nat → Prop} {v : Value} {l : List Pass} (h : Seg w ok 35 4 v l.length (flatP l)) : ∃ a c, v = .slice a l.length c ∧ CameP w a l.length c l := by
  obtain ⟨h1, ⟨h2, h3⟩ | ⟨g, off, cap, cur, h2, h3, h4, h5, h6, h7, h8⟩⟩ := h
  · refine ⟨none, 0, by rw [h2, h3], rfl, by omega, by omega, .inl h3⟩
  · refine ⟨_, _, h2, rfl, h5, Nat.le_trans h5 h6, .inr ⟨g, off, rfl, (Array.getElem?_eq_some_iff.1 h4).1, fun j p hj => ?_⟩⟩
    have key : ∀ t, t < 4 → ∀ x, (cellsP p)[t]? = some x → w.cell? ⟨g, off + (j * 4 + t), none⟩ = some x := fun t ht x hx => by
      rw [cell_of_row w g _ cur _ _ h4]
      exact h8 (j * 4 + t) x (by rw [flatP_at l j p hj t ht]; exact hx)
    exact ⟨by simpa using key 0 (by omega) _ rfl, by have := key 1 (by omega) _ rfl; rwa [← Nat.add_assoc] at this, by have := key 2 (by omega) _ rfl; rwa [← Nat.add_assoc] at this, by have := key 3 (by omega) _ rfl; rwa [← Nat.add_assoc] at this⟩
theorem Try.info35 : (Try.prog.info? 35).map (fun i => (i.zero, i.size, i.bytes)) = some (some (.agg #[.int .i64 0, .int .i64 0, .int .i64 0, .int .i64 0]), 4, 32) := by kernel_rfl
theorem pass_cells (kd wh ot x : Int) : ∀ u ∈ cellsP ⟨kd, wh, ot, x⟩, u.oneCell' = true := by
  intro u hu
  simp [cellsP] at hu
  rcases hu with rfl | rfl | rfl | rfl <;> rfl
theorem cells_pass_at (w : World) (kd wh ot x : Int) (t : TypeId) (g : Nat) (hg : w.heap.size = g) : ∀ j u, (cellsP ⟨kd, wh, ot, x⟩)[j]? = some u → (w.alloc (.cells #[.int .i64 kd, .int .i64 wh, .int .i64 ot, .int .i64 x] t)).cell? ((⟨g, 0, none⟩ : Addr).add j) = some u := by
  intro j u hu
  subst hg
  rw [addr_add, Nat.zero_add, cell_of_row _ _ _ _ _ _ (al_new _ _)]
  simpa [cellsP] using hu
theorem came_len {H : Type} {enc : TypeId × Value → H} {W : World} {a : Option Addr} {len cap fuel : Nat} {d : DataW H} {p : List MemPlace}
    (h : DataW.trod enc Try.prog W 0 (fun _ => true) true fuel 23 [.slice a len cap] = some (d, p)) : len = 0 ∨ ∃ el sp, d = .slice el sp ∧ el.length = len := by
  rcases open_slice Try.underlying23 h with ⟨hcs, _⟩ | ⟨a', len', cap', m, n, D, Pl, hcs, _, hl, hm, hmm, hx, hel⟩
  · simp at hcs
    exact .inl hcs.2.1
  · simp at hcs
    obtain ⟨rfl, rfl, rfl⟩ := hcs
    simp only [Prod.mk.injEq] at hx
    exact .inr ⟨_, _, by first | exact hx.1 | exact hx.2.1, by simp⟩
theorem pass_size {H : Type} {enc : TypeId × Value → H} {W : World} {a : Option Addr} {len cap fuel : Nat} {d : DataW H} {p : List MemPlace} {ts : List TypeId} {ds : List (DataW H)} {j : Nat}
    (h : DataW.trod enc Try.prog W 0 (fun _ => true) true fuel 23 [.slice a len cap] = some (d, p)) (hs : (DataW.weightsEach Try.prog ts ds).all (· ≤ reachBytes) = true) (ht : ts[j]? = some 23) (hd : ds[j]? = some d) : len * 32 ≤ 140737488351232 := by
  rcases came_len h with e | ⟨el, sp, e, hl⟩
  · omega
  · subst e
    have h1 := sized_slice hs ht hd Try.underlying23
    have h2 : Try.prog.bytesOf 35 = 32 := by kernel_rfl
    rw [h2, hl] at h1
    have h3 : (len + sp.length) * 32 ≤ 140737488351232 := h1
    omega
end Go.Proofs.Ytdigkdebdlpnpaa
