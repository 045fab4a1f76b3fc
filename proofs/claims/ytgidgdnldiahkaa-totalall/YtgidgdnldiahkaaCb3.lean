/- Steps that are laid one behind the other; append of steps that came in. -/
import Derived.Test.YtgidgdnldiahkaaCb2
namespace Go.Proofs.Ytgidgdnldiahkaa
open Go.RowKit
set_option linter.unusedVariables false

def cellsC (p : Cst) : List Value := [.int .i64 p.kind, .int .i64 p.who, .int .i64 p.msg]
def flatC (l : List Cst) : List Value := l.flatMap cellsC
theorem flatC_cons (p : Cst) (l : List Cst) : flatC (p :: l) = cellsC p ++ flatC l := by simp [flatC]
theorem flatC_append (a b : List Cst) : flatC (a ++ b) = flatC a ++ flatC b := by simp [flatC]
theorem flatC_one (p : Cst) : flatC [p] = cellsC p := by simp [flatC]
theorem flatC_len : ∀ l : List Cst, (flatC l).length = l.length * 3
  | [] => rfl
  | p :: l => by rw [flatC_cons, List.length_append, flatC_len l]; simp [cellsC]; omega
theorem flatC_at : ∀ (l : List Cst) (j : Nat) (p : Cst), l[j]? = some p → ∀ t, t < 3 → (flatC l)[j * 3 + t]? = (cellsC p)[t]?
  | [], _, _, h, _, _ => by simp at h
  | q :: l, 0, p, h, t, ht => by
    simp at h
    subst h
    rw [flatC_cons, Nat.zero_mul, Nat.zero_add, List.getElem?_append_left (by simp [cellsC]; omega)]
  | q :: l, j + 1, p, h, t, ht => by
    rw [flatC_cons, List.getElem?_append_right (by simp [cellsC]; omega)]
    have e : (j + 1) * 3 + t - (cellsC q).length = j * 3 + t := by simp [cellsC]; omega
    rw [e]
    exact flatC_at l j p (by simpa using h) t ht
theorem segC_came {w : World} {ok : Nat → Prop} {v : Value} {l : List Cst} (h : Seg w ok 39 3 v l.length (flatC l)) : ∃ a c, v = .slice a l.length c ∧ CameC w a l.length c l := by
  obtain ⟨h1, ⟨h2, h3⟩ | ⟨g, off, cap, cur, h2, h3, h4, h5, h6, h7, h8⟩⟩ := h
  · refine ⟨none, 0, by rw [h2, h3], rfl, by omega, by omega, .inl h3⟩
  · refine ⟨_, _, h2, rfl, h5, Nat.le_trans h5 h6, .inr ⟨g, off, rfl, (Array.getElem?_eq_some_iff.1 h4).1, fun j p hj => ?_⟩⟩
    have key : ∀ t, t < 3 → ∀ x, (cellsC p)[t]? = some x → w.cell? ⟨g, off + (j * 3 + t), none⟩ = some x := fun t ht x hx => by
      rw [cell_of_row w g _ cur _ _ h4]
      exact h8 (j * 3 + t) x (by rw [flatC_at l j p hj t ht]; exact hx)
    exact ⟨by simpa using key 0 (by omega) _ rfl, by have := key 1 (by omega) _ rfl; rwa [← Nat.add_assoc] at this, by have := key 2 (by omega) _ rfl; rwa [← Nat.add_assoc] at this⟩
theorem cInfoCast : (Try.prog.info? 39).map (fun i => (i.zero, i.size, i.bytes)) = some (some (.agg #[.int .i64 0, .int .i64 0, .int .i64 0]), 3, 24) := by kernel_rfl
theorem castCells (kd wh x : Int) : ∀ u ∈ cellsC ⟨kd, wh, x⟩, u.oneCell' = true := by
  intro u hu
  simp [cellsC] at hu
  rcases hu with rfl | rfl | rfl <;> rfl
theorem cells_cast_at (w : World) (kd wh x : Int) (t : TypeId) (g : Nat) (hg : w.heap.size = g) : ∀ j u, (cellsC ⟨kd, wh, x⟩)[j]? = some u → (w.alloc (.cells #[.int .i64 kd, .int .i64 wh, .int .i64 x] t)).cell? ((⟨g, 0, none⟩ : Addr).add j) = some u := by
  intro j u hu
  subst hg
  rw [addr_add, Nat.zero_add, cell_of_row _ _ _ _ _ _ (al_new _ _)]
  simpa [cellsC] using hu
theorem run_append_noneC {P : Program} (w : World) (t ty e : TypeId) (i : TypeInfo) (ht : P.underlying t = some (.slice e)) (hi : P.info? e = some i) (g off n cap c : Nat) (a : Option Addr) (hn : n ≤ cap) :
    (Builtin.append_ #[t, t] ty #[.slice (some ⟨g, off, none⟩) n cap, .slice a 0 c]).run P w = .ok (.slice (some ⟨g, off, none⟩) n cap) w := by
  cases a <;> simp [Builtin.append_, run_underlying ht, sizeOf, typeInfo, hi, Builtin.lenOf, Builtin.firstCells, loadCells, loadCellsFrom, storeCells, hn]
theorem flatC_one_cell (l : List Cst) : ∀ u ∈ flatC l, u.oneCell' = true := by
  intro u hu
  unfold flatC at hu
  obtain ⟨p, _, hp⟩ := List.mem_flatMap.1 hu
  simp [cellsC] at hp
  rcases hp with rfl | rfl | rfl <;> rfl
theorem flatC_back {l : List Cst} {q : Nat} {u : Value} (h : (flatC l)[q]? = some u) : ∃ p, l[q / 3]? = some p ∧ (cellsC p)[q % 3]? = some u := by
  have hq := (List.getElem?_eq_some_iff.1 h).1
  rw [flatC_len] at hq
  have hl : q / 3 < l.length := by omega
  refine ⟨l[q / 3], List.getElem?_eq_getElem hl, ?_⟩
  have := flatC_at l (q / 3) _ (List.getElem?_eq_getElem hl) (q % 3) (Nat.mod_lt _ (by omega))
  rw [← this, ← h]
  congr 1
  omega
theorem crow_cells {w : World} {b off : Nat} {ps : List Cst} (h : CRow w b off ps) : ∀ q u, (flatC ps)[q]? = some u → w.cell? ((⟨b, off, none⟩ : Addr).add q) = some u := by
  intro q u hu
  obtain ⟨p, h1, h2⟩ := flatC_back hu
  obtain ⟨d0, d1, d2⟩ := h (q / 3) p h1
  rw [addr_add]
  have e : off + q = off + q / 3 * 3 + q % 3 := by omega
  rw [e]
  have h4 : q % 3 < 3 := Nat.mod_lt _ (by omega)
  obtain e | e | e : q % 3 = 0 ∨ q % 3 = 1 ∨ q % 3 = 2 := by omega
  all_goals rw [e] at h2 ⊢
  · simp [cellsC] at h2; subst h2; exact d0
  · simp [cellsC] at h2; subst h2; exact d1
  · simp [cellsC] at h2; subst h2; exact d2

theorem wpList_append_cast {w : World} {ops : Array Oper} {rest : List Oper} {o : Oper} {a : Act} {Q : Exit → Act → World → Prop} (hgd : o.guard = none) (s x : Operand)
    (ho : o.op = .call { callee := .builtin .append, args := #[s, x], argTypes := #[22, 22] })
    (ok : Nat → Prop) (g off n cap : Nat) (xs : List Value) (hs : a.eval s = .slice (some ⟨g, off, none⟩) n cap) (hown : Seg w ok 39 3 (.slice (some ⟨g, off, none⟩) n cap) n xs)
    (pa : Option Addr) (pl pc : Nat) (ps : List Cst) (hx : a.eval x = .slice pa pl pc) (hp : CameC w pa pl pc ps) (h63 : n + pl ≤ 100000)
    (h : ∀ v' w', Seg w' (fun q => (q = g ∧ ok q) ∨ q = w.heap.size) 39 3 v' (n + pl) (xs ++ flatC ps) → w.grownBy w' (some g) → wpList Try.prog ops Q rest (a.put o.dst v') w') :
    wpList Try.prog ops Q (o :: rest) a w := by
  refine wpList_plain hgd fun K hK => ?_
  obtain ⟨i0, hi, hz0, hz1, hz2⟩ := info_parts cInfoCast
  have key : ∃ v' w', (Builtin.append_ #[22, 22] o.type #[.slice (some ⟨g, off, none⟩) n cap, .slice pa pl pc]).run Try.prog w = .ok v' w' ∧ Seg w' (fun q => (q = g ∧ ok q) ∨ q = w.heap.size) 39 3 v' (n + pl) (xs ++ flatC ps) ∧ w.grownBy w' (some g) := by
    obtain ⟨h1, h2, h3, h4⟩ := hp
    have hnc : n ≤ cap ∧ ok g := by
      obtain ⟨_, ⟨e, _⟩ | ⟨g', off', cap', cur, e, hk, _, h5, _⟩⟩ := hown
      · cases e
      · simp only [Value.slice.injEq, Option.some.injEq, Addr.mk.injEq] at e
        obtain ⟨⟨rfl, rfl, _⟩, _, rfl⟩ := e
        exact ⟨h5, hk⟩
    rcases h4 with h4 | ⟨b, of2, rfl, hb, hr⟩
    · subst h4
      have e : ps = [] := List.eq_nil_of_length_eq_zero h1
      subst e
      refine ⟨_, _, run_append_noneC w _ _ _ i0 Try.underlying22 hi g off n cap pc pa hnc.1, ?_, ⟨rfl, rfl, rfl, Nat.le_refl _, fun _ _ _ => rfl⟩⟩
      have e2 : xs ++ flatC [] = xs := by simp [flatC]
      rw [e2, Nat.add_zero]
      obtain ⟨h5, ⟨e, _⟩ | ⟨g', off', cap', cur, e, hk, h6⟩⟩ := hown
      · cases e
      · have e3 := e
        simp only [Value.slice.injEq, Option.some.injEq, Addr.mk.injEq] at e3
        obtain ⟨⟨rfl, rfl, _⟩, _, rfl⟩ := e3
        exact ⟨h5, .inr ⟨g, off, cap, cur, rfl, .inl ⟨rfl, hk⟩, h6⟩⟩
    · obtain ⟨v', w', hr1, hr2, hr3⟩ := run_append_seg (P := Try.prog) w 22 o.type 39 i0 _ 3 24 Try.underlying22 hi hz0 hz1 hz2 rfl (by decide) _ n xs hown ⟨b, of2, none⟩ pl pc (flatC ps) (by rw [flatC_len, h1]) (crow_cells hr) (flatC_one_cell ps) (by unfold maxLen; omega) (by omega)
      refine ⟨v', w', hr1, hr2.mono (fun q _ e => ?_), hr3⟩
      rcases e with ⟨e, e2⟩ | e
      · simp [Value.ownBlock] at e
        exact .inl ⟨e.symm, e2⟩
      · exact .inr e
  obtain ⟨v', w', hr, h2, h3⟩ := key
  unfold Oper.wp execOp
  simp only [ho, resolve, invoke, builtin, Sem.run_bind, Sem.run_pure, Result.andThen_ok, List.map_toArray, List.map_cons, List.map_nil, hs, hx, hr]
  exact hK _ _ (h v' w' h2 h3)

/-- The script of a law that lets all take all, so far. -/
def tkRow (kd : Int) (m p : Nat) : List Cst := (List.range p).map fun (q : Nat) => ⟨kd, (q : Int), (m : Int)⟩
theorem tkRow_succ (kd : Int) (m p : Nat) : tkRow kd m (p + 1) = tkRow kd m p ++ [⟨kd, (p : Int), (m : Int)⟩] := by simp [tkRow, List.range_succ]
theorem tkRow_len (kd : Int) (m p : Nat) : (tkRow kd m p).length = p := by simp [tkRow]
def tkAll (kd : Int) (n many : Nat) : Nat → List Cst
  | 0 => []
  | d + 1 => tkAll kd n many d ++ tkRow kd (many - 1 - d) n
theorem tkAll_len (kd : Int) (n many : Nat) : ∀ d, (tkAll kd n many d).length = d * n
  | 0 => by simp [tkAll]
  | d + 1 => by
    show (tkAll kd n many d ++ tkRow kd (many - 1 - d) n).length = _
    rw [List.length_append, tkAll_len, tkRow_len, Nat.add_mul, Nat.one_mul]
def scrC (kd : Int) (ps : List Cst) (n many d p : Nat) : List Cst := ps ++ tkAll kd n many d ++ tkRow kd (many - 1 - d) p
theorem scrC_zero (kd : Int) (ps : List Cst) (n many : Nat) : scrC kd ps n many 0 0 = ps := by simp [scrC, tkAll, tkRow]
theorem scrC_more (kd : Int) (ps : List Cst) (n many d p : Nat) : scrC kd ps n many d (p + 1) = scrC kd ps n many d p ++ [⟨kd, (p : Int), ((many - 1 - d : Nat) : Int)⟩] := by
  unfold scrC; rw [tkRow_succ]; simp
theorem scrC_row (kd : Int) (ps : List Cst) (n many d : Nat) : scrC kd ps n many (d + 1) 0 = scrC kd ps n many d n := by
  unfold scrC
  show ps ++ (tkAll kd n many d ++ tkRow kd (many - 1 - d) n) ++ tkRow kd (many - 1 - (d + 1)) 0 = _
  simp [tkRow]
theorem scrC_len (kd : Int) (ps : List Cst) (n many d p : Nat) : (scrC kd ps n many d p).length = ps.length + d * n + p := by
  unfold scrC; rw [List.length_append, List.length_append, tkAll_len, tkRow_len]
end Go.Proofs.Ytgidgdnldiahkaa
