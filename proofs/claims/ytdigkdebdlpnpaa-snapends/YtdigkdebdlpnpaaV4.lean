/- append of steps that came in. -/
import Derived.Test.YtdigkdebdlpnpaaV3
namespace Go.Proofs.Ytdigkdebdlpnpaa
open Go.RowKit
set_option linter.unusedVariables false

theorem run_append_none {P : Program} (w : World) (t ty e : TypeId) (i : TypeInfo) (ht : P.underlying t = some (.slice e)) (hi : P.info? e = some i) (g off n cap c : Nat) (a : Option Addr) (hn : n ≤ cap) :
    (Builtin.append_ #[t, t] ty #[.slice (some ⟨g, off, none⟩) n cap, .slice a 0 c]).run P w = .ok (.slice (some ⟨g, off, none⟩) n cap) w := by
  cases a <;> simp [Builtin.append_, run_underlying ht, sizeOf, typeInfo, hi, Builtin.lenOf, Builtin.firstCells, loadCells, loadCellsFrom, storeCells, hn]

theorem flatP_one_cell (l : List Pass) : ∀ u ∈ flatP l, u.oneCell' = true := by
  intro u hu
  unfold flatP at hu
  obtain ⟨p, _, hp⟩ := List.mem_flatMap.1 hu
  simp [cellsP] at hp
  rcases hp with rfl | rfl | rfl | rfl <;> rfl
theorem flatP_back {l : List Pass} {q : Nat} {u : Value} (h : (flatP l)[q]? = some u) : ∃ p, l[q / 4]? = some p ∧ (cellsP p)[q % 4]? = some u := by
  have hq := (List.getElem?_eq_some_iff.1 h).1
  rw [flatP_len] at hq
  have hl : q / 4 < l.length := by omega
  refine ⟨l[q / 4], List.getElem?_eq_getElem hl, ?_⟩
  have := flatP_at l (q / 4) _ (List.getElem?_eq_getElem hl) (q % 4) (Nat.mod_lt _ (by omega))
  rw [← this, ← h]
  congr 1
  omega
theorem prow_cells {w : World} {b off : Nat} {ps : List Pass} (h : PRow w b off ps) : ∀ q u, (flatP ps)[q]? = some u → w.cell? ((⟨b, off, none⟩ : Addr).add q) = some u := by
  intro q u hu
  obtain ⟨p, h1, h2⟩ := flatP_back hu
  obtain ⟨d0, d1, d2, d3⟩ := h (q / 4) p h1
  rw [addr_add]
  have e : off + q = off + q / 4 * 4 + q % 4 := by omega
  rw [e]
  have h4 : q % 4 < 4 := Nat.mod_lt _ (by omega)
  obtain e | e | e | e : q % 4 = 0 ∨ q % 4 = 1 ∨ q % 4 = 2 ∨ q % 4 = 3 := by omega
  all_goals rw [e] at h2 ⊢
  · simp [cellsP] at h2; subst h2; exact d0
  · simp [cellsP] at h2; subst h2; exact d1
  · simp [cellsP] at h2; subst h2; exact d2
  · simp [cellsP] at h2; subst h2; exact d3

theorem wpList_append_came {w : World} {ops : Array Oper} {rest : List Oper} {o : Oper} {a : Act} {Q : Exit → Act → World → Prop} (hgd : o.guard = none) (s x : Operand)
    (ho : o.op = .call { callee := .builtin .append, args := #[s, x], argTypes := #[23, 23] })
    (ok : Nat → Prop) (g off n cap : Nat) (xs : List Value) (hs : a.eval s = .slice (some ⟨g, off, none⟩) n cap) (hown : Seg w ok 35 4 (.slice (some ⟨g, off, none⟩) n cap) n xs)
    (pa : Option Addr) (pl pc : Nat) (ps : List Pass) (hx : a.eval x = .slice pa pl pc) (hp : CameP w pa pl pc ps) (h63 : n + pl ≤ 100000)
    (h : ∀ v' w', Seg w' (fun q => (q = g ∧ ok q) ∨ q = w.heap.size) 35 4 v' (n + pl) (xs ++ flatP ps) → w.grownBy w' (some g) → wpList Try.prog ops Q rest (a.put o.dst v') w') :
    wpList Try.prog ops Q (o :: rest) a w := by
  refine wpList_plain hgd fun K hK => ?_
  obtain ⟨i0, hi, hz0, hz1, hz2⟩ := info_parts Try.info35
  have key : ∃ v' w', (Builtin.append_ #[23, 23] o.type #[.slice (some ⟨g, off, none⟩) n cap, .slice pa pl pc]).run Try.prog w = .ok v' w' ∧ Seg w' (fun q => (q = g ∧ ok q) ∨ q = w.heap.size) 35 4 v' (n + pl) (xs ++ flatP ps) ∧ w.grownBy w' (some g) := by
    obtain ⟨h1, h2, h3, h4⟩ := hp
    have hnc : n ≤ cap ∧ ok g := by
      obtain ⟨_, ⟨e, _⟩ | ⟨g', off', cap', cur, e, hk, _, h5, _⟩⟩ := hown
      · cases e
      · simp only [Value.slice.injEq, Option.some.injEq, Addr.mk.injEq] at e
        obtain ⟨⟨rfl, rfl, _⟩, _, rfl⟩ := e
        exact ⟨h5, hk⟩
    rcases h4 with h4 | ⟨b, of2, rfl, hb, hr⟩
    · subst h4
      have e : ps = [] := List.eq_nil_of_length_eq_zero h1
      subst e
      refine ⟨_, _, run_append_none w _ _ _ i0 Try.underlying23 hi g off n cap pc pa hnc.1, ?_, ⟨rfl, rfl, rfl, Nat.le_refl _, fun _ _ _ => rfl⟩⟩
      have e2 : xs ++ flatP [] = xs := by simp [flatP]
      rw [e2, Nat.add_zero]
      obtain ⟨h5, ⟨e, _⟩ | ⟨g', off', cap', cur, e, hk, h6⟩⟩ := hown
      · cases e
      · have e3 := e
        simp only [Value.slice.injEq, Option.some.injEq, Addr.mk.injEq] at e3
        obtain ⟨⟨rfl, rfl, _⟩, _, rfl⟩ := e3
        exact ⟨h5, .inr ⟨g, off, cap, cur, rfl, .inl ⟨rfl, hk⟩, h6⟩⟩
    · obtain ⟨v', w', hr1, hr2, hr3⟩ := run_append_seg (P := Try.prog) w 23 o.type 35 i0 _ 4 32 Try.underlying23 hi hz0 hz1 hz2 rfl (by decide) _ n xs hown ⟨b, of2, none⟩ pl pc (flatP ps) (by rw [flatP_len, h1]) (prow_cells hr) (flatP_one_cell ps) (by unfold maxLen; omega) (by omega)
      refine ⟨v', w', hr1, hr2.mono (fun q _ e => ?_), hr3⟩
      rcases e with ⟨e, e2⟩ | e
      · simp [Value.ownBlock] at e
        exact .inl ⟨e.symm, e2⟩
      · exact .inr e
  obtain ⟨v', w', hr, h2, h3⟩ := key
  unfold Oper.wp execOp
  simp only [ho, resolve, invoke, builtin, Sem.run_bind, Sem.run_pure, Result.andThen_ok, List.map_toArray, List.map_cons, List.map_nil, hs, hx, hr]
  exact hK _ _ (h v' w' h2 h3)
end Go.Proofs.Ytdigkdebdlpnpaa
