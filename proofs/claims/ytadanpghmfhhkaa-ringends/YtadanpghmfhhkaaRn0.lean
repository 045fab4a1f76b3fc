/- Turns that are laid one behind the other; append of turns that came in; the script of RingEnds. -/
import Derived.Test.YtadanpghmfhhkaaRp0
namespace Go.Proofs.Ytadanpghmfhhkaa
open Go.RowKit
set_option linter.unusedVariables false

def cellsT (p : Tu) : List Value := [.int .i64 p.kind, .int .i64 p.who]
def flatT (l : List Tu) : List Value := l.flatMap cellsT
theorem flatT_cons (p : Tu) (l : List Tu) : flatT (p :: l) = cellsT p ++ flatT l := by simp [flatT]
theorem flatT_append (a b : List Tu) : flatT (a ++ b) = flatT a ++ flatT b := by simp [flatT]
theorem flatT_one (p : Tu) : flatT [p] = cellsT p := by simp [flatT]
theorem flatT_len : ∀ l : List Tu, (flatT l).length = l.length * 2
  | [] => rfl
  | p :: l => by rw [flatT_cons, List.length_append, flatT_len l]; simp [cellsT]; omega
theorem flatT_at : ∀ (l : List Tu) (j : Nat) (p : Tu), l[j]? = some p → ∀ t, t < 2 → (flatT l)[j * 2 + t]? = (cellsT p)[t]?
  | [], _, _, h, _, _ => by simp at h
  | q :: l, 0, p, h, t, ht => by
    simp at h
    subst h
    rw [flatT_cons, Nat.zero_mul, Nat.zero_add, List.getElem?_append_left (by simp [cellsT]; omega)]
  | q :: l, j + 1, p, h, t, ht => by
    rw [flatT_cons, List.getElem?_append_right (by simp [cellsT]; omega)]
    have e : (j + 1) * 2 + t - (cellsT q).length = j * 2 + t := by simp [cellsT]; omega
    rw [e]
    exact flatT_at l j p (by simpa using h) t ht
abbrev SegTs (w : World) (lo : Nat) (v : Value) (l : List Tu) : Prop := Seg w (fun g => lo ≤ g) 36 2 v l.length (flatT l)
theorem segT_came {w : World} {ok : Nat → Prop} {v : Value} {l : List Tu} (h : Seg w ok 36 2 v l.length (flatT l)) : ∃ a c, v = .slice a l.length c ∧ CameT w a l.length c l := by
  obtain ⟨h1, ⟨h2, h3⟩ | ⟨g, off, cap, cur, h2, h3, h4, h5, h6, h7, h8⟩⟩ := h
  · refine ⟨none, 0, by rw [h2, h3], rfl, by omega, by omega, .inl h3⟩
  · refine ⟨_, _, h2, rfl, h5, Nat.le_trans h5 h6, .inr ⟨g, off, rfl, (Array.getElem?_eq_some_iff.1 h4).1, fun j p hj => ?_⟩⟩
    have key : ∀ t, t < 2 → ∀ x, (cellsT p)[t]? = some x → w.cell? ⟨g, off + (j * 2 + t), none⟩ = some x := fun t ht x hx => by
      rw [cell_of_row w g _ cur _ _ h4]
      exact h8 (j * 2 + t) x (by rw [flatT_at l j p hj t ht]; exact hx)
    exact ⟨by simpa using key 0 (by omega) _ rfl, by have := key 1 (by omega) _ rfl; rwa [← Nat.add_assoc] at this⟩
theorem cInfoTurn : (Try.prog.info? 36).map (fun i => (i.zero, i.size, i.bytes)) = some (some (.agg #[.int .i64 0, .int .i64 0]), 2, 16) := by kernel_rfl
theorem turnCells (kd wh : Int) : ∀ u ∈ cellsT ⟨kd, wh⟩, u.oneCell' = true := by
  intro u hu
  simp [cellsT] at hu
  rcases hu with rfl | rfl <;> rfl
theorem cells_turn_at (w : World) (kd wh : Int) (t : TypeId) (g : Nat) (hg : w.heap.size = g) : ∀ j u, (cellsT ⟨kd, wh⟩)[j]? = some u → (w.alloc (.cells #[.int .i64 kd, .int .i64 wh] t)).cell? ((⟨g, 0, none⟩ : Addr).add j) = some u := by
  intro j u hu
  subst hg
  rw [addr_add, Nat.zero_add, cell_of_row _ _ _ _ _ _ (al_new _ _)]
  simpa [cellsT] using hu
theorem run_append_noneT {P : Program} (w : World) (t ty e : TypeId) (i : TypeInfo) (ht : P.underlying t = some (.slice e)) (hi : P.info? e = some i) (g off n cap c : Nat) (a : Option Addr) (hn : n ≤ cap) :
    (Builtin.append_ #[t, t] ty #[.slice (some ⟨g, off, none⟩) n cap, .slice a 0 c]).run P w = .ok (.slice (some ⟨g, off, none⟩) n cap) w := by
  cases a <;> simp [Builtin.append_, run_underlying ht, sizeOf, typeInfo, hi, Builtin.lenOf, Builtin.firstCells, loadCells, loadCellsFrom, storeCells, hn]
theorem flatT_one_cell (l : List Tu) : ∀ u ∈ flatT l, u.oneCell' = true := by
  intro u hu
  unfold flatT at hu
  obtain ⟨p, _, hp⟩ := List.mem_flatMap.1 hu
  simp [cellsT] at hp
  rcases hp with rfl | rfl <;> rfl
theorem flatT_back {l : List Tu} {q : Nat} {u : Value} (h : (flatT l)[q]? = some u) : ∃ p, l[q / 2]? = some p ∧ (cellsT p)[q % 2]? = some u := by
  have hq := (List.getElem?_eq_some_iff.1 h).1
  rw [flatT_len] at hq
  have hl : q / 2 < l.length := by omega
  refine ⟨l[q / 2], List.getElem?_eq_getElem hl, ?_⟩
  have := flatT_at l (q / 2) _ (List.getElem?_eq_getElem hl) (q % 2) (Nat.mod_lt _ (by omega))
  rw [← this, ← h]
  congr 1
  omega
theorem turow_cells {w : World} {b off : Nat} {ps : List Tu} (h : TuRow w b off ps) : ∀ q u, (flatT ps)[q]? = some u → w.cell? ((⟨b, off, none⟩ : Addr).add q) = some u := by
  intro q u hu
  obtain ⟨p, h1, h2⟩ := flatT_back hu
  obtain ⟨d0, d1⟩ := h (q / 2) p h1
  rw [addr_add]
  have e : off + q = off + q / 2 * 2 + q % 2 := by omega
  rw [e]
  have h4 : q % 2 < 2 := Nat.mod_lt _ (by omega)
  obtain e | e : q % 2 = 0 ∨ q % 2 = 1 := by omega
  all_goals rw [e] at h2 ⊢
  · simp [cellsT] at h2; subst h2; exact d0
  · simp [cellsT] at h2; subst h2; exact d1

theorem wpList_append_turn {w : World} {ops : Array Oper} {rest : List Oper} {o : Oper} {a : Act} {Q : Exit → Act → World → Prop} (hgd : o.guard = none) (s x : Operand)
    (ho : o.op = .call { callee := .builtin .append, args := #[s, x], argTypes := #[23, 23] })
    (ok : Nat → Prop) (g off n cap : Nat) (xs : List Value) (hs : a.eval s = .slice (some ⟨g, off, none⟩) n cap) (hown : Seg w ok 36 2 (.slice (some ⟨g, off, none⟩) n cap) n xs)
    (pa : Option Addr) (pl pc : Nat) (ps : List Tu) (hx : a.eval x = .slice pa pl pc) (hp : CameT w pa pl pc ps) (h63 : n + pl ≤ 100000)
    (h : ∀ v' w', Seg w' (fun q => (q = g ∧ ok q) ∨ q = w.heap.size) 36 2 v' (n + pl) (xs ++ flatT ps) → w.grownBy w' (some g) → wpList Try.prog ops Q rest (a.put o.dst v') w') :
    wpList Try.prog ops Q (o :: rest) a w := by
  refine wpList_plain hgd fun K hK => ?_
  obtain ⟨i0, hi, hz0, hz1, hz2⟩ := info_parts cInfoTurn
  have key : ∃ v' w', (Builtin.append_ #[23, 23] o.type #[.slice (some ⟨g, off, none⟩) n cap, .slice pa pl pc]).run Try.prog w = .ok v' w' ∧ Seg w' (fun q => (q = g ∧ ok q) ∨ q = w.heap.size) 36 2 v' (n + pl) (xs ++ flatT ps) ∧ w.grownBy w' (some g) := by
    obtain ⟨h1, h2, h3, h4⟩ := hp
    have hnc : n ≤ cap ∧ ok g := by
      obtain ⟨_, ⟨e, _⟩ | ⟨g', off', cap', cur, e, hk, _, h5, _⟩⟩ := hown
      · cases e
      · simp only [Value.slice.injEq, Option.some.injEq, Addr.mk.injEq] at e
        obtain ⟨⟨rfl, rfl, _⟩, _, rfl⟩ := e
        exact ⟨h5, hk⟩
    rcases h4 with h4 | ⟨b, of2, rfl, hb, hr⟩
    · subst h4
      have e : ps = [] := List.eq_nil_of_length_eq_zero h1
      subst e
      refine ⟨_, _, run_append_noneT w _ _ _ i0 Try.underlying23 hi g off n cap pc pa hnc.1, ?_, ⟨rfl, rfl, rfl, Nat.le_refl _, fun _ _ _ => rfl⟩⟩
      have e2 : xs ++ flatT [] = xs := by simp [flatT]
      rw [e2, Nat.add_zero]
      obtain ⟨h5, ⟨e, _⟩ | ⟨g', off', cap', cur, e, hk, h6⟩⟩ := hown
      · cases e
      · have e3 := e
        simp only [Value.slice.injEq, Option.some.injEq, Addr.mk.injEq] at e3
        obtain ⟨⟨rfl, rfl, _⟩, _, rfl⟩ := e3
        exact ⟨h5, .inr ⟨g, off, cap, cur, rfl, .inl ⟨rfl, hk⟩, h6⟩⟩
    · obtain ⟨v', w', hr1, hr2, hr3⟩ := run_append_seg (P := Try.prog) w 23 o.type 36 i0 _ 2 16 Try.underlying23 hi hz0 hz1 hz2 rfl (by decide) _ n xs hown ⟨b, of2, none⟩ pl pc (flatT ps) (by rw [flatT_len, h1]) (turow_cells hr) (flatT_one_cell ps) (by unfold maxLen; omega) (by omega)
      refine ⟨v', w', hr1, hr2.mono (fun q _ e => ?_), hr3⟩
      rcases e with ⟨e, e2⟩ | e
      · simp [Value.ownBlock] at e
        exact .inl ⟨e.symm, e2⟩
      · exact .inr e
  obtain ⟨v', w', hr, h2, h3⟩ := key
  unfold Oper.wp execOp
  simp only [ho, resolve, invoke, builtin, Sem.run_bind, Sem.run_pure, Result.andThen_ok, List.map_toArray, List.map_cons, List.map_nil, hs, hx, hr]
  exact hK _ _ (h v' w' h2 h3)

/-! The script of RingEnds: a beginning, so many rounds of takings, and some more. -/
def rowT (p : Nat) : List Tu := (List.range p).map fun (i : Nat) => (⟨2, (i : Int)⟩ : Tu)
def roundsT (n : Nat) : Nat → List Tu
  | 0 => []
  | d + 1 => roundsT n d ++ rowT n
def scrT (ps : List Tu) (n d p : Nat) : List Tu := ps ++ [⟨1, 0⟩] ++ roundsT n d ++ rowT p
theorem rowT_len (p : Nat) : (rowT p).length = p := by simp [rowT]
theorem roundsT_len (n : Nat) : ∀ d, (roundsT n d).length = d * n
  | 0 => by simp [roundsT]
  | d + 1 => by unfold roundsT; rw [List.length_append, roundsT_len n d, rowT_len, Nat.succ_mul]
theorem scrT_len (ps : List Tu) (n d p : Nat) : (scrT ps n d p).length = ps.length + 1 + d * n + p := by
  unfold scrT
  rw [List.length_append, List.length_append, List.length_append, roundsT_len, rowT_len]; rfl
theorem scrT_zero (ps : List Tu) (n : Nat) : scrT ps n 0 0 = ps ++ [⟨1, 0⟩] := by simp [scrT, roundsT, rowT]
theorem scrT_more (ps : List Tu) (n d p : Nat) : scrT ps n d (p + 1) = scrT ps n d p ++ [⟨2, (p : Int)⟩] := by
  unfold scrT rowT
  rw [List.range_succ, List.map_append, ← List.append_assoc]; rfl
theorem scrT_row (ps : List Tu) (n d : Nat) : scrT ps n (d + 1) 0 = scrT ps n d n := by
  unfold scrT
  have : rowT 0 = [] := rfl
  rw [this, List.append_nil]
  show _ ++ (roundsT n d ++ rowT n) = _
  rw [List.append_assoc, List.append_assoc, List.append_assoc]
theorem roundsT_at (n : Nat) : ∀ R r d, r < R → d < n → (roundsT n R)[r * n + d]? = some ⟨2, (d : Int)⟩
  | 0, r, d, h, _ => by omega
  | R + 1, r, d, h, hd => by
    unfold roundsT
    by_cases e : r = R
    · subst e
      rw [List.getElem?_append_right (by rw [roundsT_len]; omega), roundsT_len, show r * n + d - r * n = d by omega]
      simp [rowT, hd]
    · have hr : r < R := by omega
      have h2 : (r + 1) * n ≤ R * n := Nat.mul_le_mul_right _ (by omega)
      rw [Nat.succ_mul] at h2
      rw [List.getElem?_append_left (by rw [roundsT_len]; omega)]
      exact roundsT_at n R r d hr hd
theorem scrT_at (ps : List Tu) (n R r d : Nat) (hr : r < R) (hd : d < n) : (scrT ps n R 0)[ps.length + 1 + r * n + d]? = some ⟨2, (d : Int)⟩ := by
  unfold scrT
  have e : rowT 0 = [] := rfl
  rw [e, List.append_nil, List.getElem?_append_right (by simp; omega)]
  have : ps.length + 1 + r * n + d - (ps ++ [(⟨1, 0⟩ : Tu)]).length = r * n + d := by simp; omega
  rw [this]
  exact roundsT_at n R r d hr hd
theorem scrT_begin (ps : List Tu) (n R : Nat) : (scrT ps n R 0)[ps.length]? = some ⟨1, 0⟩ := by
  unfold scrT
  rw [List.append_assoc, List.append_assoc, List.getElem?_append_right (Nat.le_refl _), Nat.sub_self]
  rfl
theorem begin_tp {n : Nat} (hn : 0 < n) (nm : Nat → Int) (s : GS) : ((stepG n nm s ⟨1, 0⟩).pr 0).tp = true := by
  have h1 : inP n 0 = true := by unfold inP; simp; omega
  cases ht : (s.pr 0).tp with
  | true => exact tp_mono n nm s _ 0 ht
  | false =>
    have hc : codeG n s ⟨1, 0⟩ = 0 := by
      unfold codeG
      simp [h1, ht]
    unfold stepG
    rw [if_pos hc]
    unfold doG
    simp only [if_pos, Int.toNat_zero]
    rw [sendG_tp, if_pos rfl]
/-- Behind that script all is said. -/
theorem ends_scr {n : Nat} {nm : Nat → Int} (hn : 0 < n) (hd : Dist n nm) (ps : List Tu) (R : Nat) (hR : n * (n + 1) ≤ 2 * R) :
    awayG (gsAt n nm (scrT ps n R 0) (scrT ps n R 0).length) n = 0 ∧ ∃ g, g < n ∧ (gsAt n nm (scrT ps n R 0) (scrT ps n R 0).length).ch = [g] ∧ Great n nm g := by
  rw [scrT_len, Nat.add_zero]
  refine ends_at hn hd _ _ R hR ?_ (fun r d hr hd => scrT_at ps n R r d hr hd)
  show ((match (scrT ps n R 0)[ps.length]? with | some p => stepG n nm (gsAt n nm (scrT ps n R 0) ps.length) p | none => gsAt n nm (scrT ps n R 0) ps.length).pr 0).tp = true
  rw [scrT_begin]
  exact begin_tp hn nm _
end Go.Proofs.Ytadanpghmfhhkaa
