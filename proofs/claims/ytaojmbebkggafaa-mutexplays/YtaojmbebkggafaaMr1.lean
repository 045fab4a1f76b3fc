/- The document's Mutex in memory. -/
import Derived.Test.YtaojmbebkggafaaMr0
namespace Go.Proofs.Ytaojmbebkggafaa
open Go.RowKit
set_option linter.unusedVariables false

inductive RT where
  | out | procs | post | cd | ins | isd
  | wt (i : Nat)
deriving DecidableEq
def rpc (s : MS) (v : RT → Value) (i k : Nat) : Value := match k with
  | 0 => .int .i64 ((s.pr i).num : Int)
  | 1 => .int .i64 ((s.pr i).st : Int)
  | 2 => .int .i64 ((s.pr i).kn : Int)
  | 3 => .int .i64 ((s.pr i).yes : Int)
  | 4 => v (.wt i)
  | _ => .bool false
def rprocL (n : Nat) (F : Nat → Nat → Value) : List Value := (List.range (n * 5)).map fun q => F (q / 5) (q % 5)
theorem rprocL_at {n i k : Nat} (F : Nat → Nat → Value) (hi : i < n) (hk : k < 5) : (rprocL n F)[i * 5 + k]? = some (F i k) := by
  unfold rprocL
  rw [List.getElem?_map, List.getElem?_range (by omega)]
  simp only [Option.map_some]
  congr 2 <;> omega
theorem rprocL_set {n i k : Nat} (F : Nat → Nat → Value) (hi : i < n) (hk : k < 5) (x : Value) : (rprocL n F).set (i * 5 + k) x = rprocL n (upd2 F i k x) := by
  apply List.ext_getElem?
  intro q
  rw [List.getElem?_set]
  by_cases hq : q < n * 5
  · by_cases e : i * 5 + k = q
    · subst e
      rw [if_pos rfl, if_pos (by simp [rprocL]; omega), rprocL_at _ hi hk, upd2_same]
    · rw [if_neg e]
      unfold rprocL
      rw [List.getElem?_map, List.getElem?_map, List.getElem?_range hq]
      simp only [Option.map_some]
      rw [upd2_other _ _ (by omega)]
  · rw [if_neg (by omega), List.getElem?_eq_none (by simp [rprocL]; omega), List.getElem?_eq_none (by simp [rprocL]; omega)]
def cellsL (l : Lt) : List Value := [.int .i64 (l.f : Int), .int .i64 (l.t : Int), .int .i64 (l.x : Int), .bool l.c]
def flatL (L : List Lt) : List Value := L.flatMap cellsL
theorem flatL_cons (p : Lt) (l : List Lt) : flatL (p :: l) = cellsL p ++ flatL l := by simp [flatL]
theorem flatL_app (a b : List Lt) : flatL (a ++ b) = flatL a ++ flatL b := by simp [flatL]
theorem flatL_one (p : Lt) : flatL [p] = cellsL p := by simp [flatL]
theorem flatL_at : ∀ (l : List Lt) (j : Nat) (p : Lt), l[j]? = some p → ∀ t, t < 4 → (flatL l)[j * 4 + t]? = (cellsL p)[t]?
  | [], _, _, h, _, _ => by simp at h
  | q :: l, 0, p, h, t, ht => by
    simp at h
    subst h
    rw [flatL_cons, Nat.zero_mul, Nat.zero_add, List.getElem?_append_left (by simp [cellsL]; omega)]
  | q :: l, j + 1, p, h, t, ht => by
    rw [flatL_cons, List.getElem?_append_right (by simp [cellsL]; omega)]
    have e : (j + 1) * 4 + t - (cellsL q).length = j * 4 + t := by simp [cellsL]; omega
    rw [e]
    exact flatL_at l j p (by simpa using h) t ht
theorem flatL_len : ∀ l : List Lt, (flatL l).length = l.length * 4
  | [] => rfl
  | p :: l => by rw [flatL_cons, List.length_append, flatL_len l]; simp [cellsL]; omega
theorem flatL_come : ∀ (L : List Lt) (q : Nat) (l : Lt), L[q]? = some l → (flatL L).set (q * 4 + 3) (.bool true) = flatL (L.set q (comeL l))
  | [], _, _, h => by simp at h
  | a :: L, 0, l, h => by
    simp at h
    subst h
    rw [flatL_cons, List.set_cons_zero, flatL_cons]
    simp [cellsL, comeL]
  | a :: L, q + 1, l, h => by
    rw [flatL_cons, List.set_cons_succ, flatL_cons, ← flatL_come L q l (by simpa using h)]
    have e : (q + 1) * 4 + 3 = (cellsL a).length + (q * 4 + 3) := by simp [cellsL]; omega
    rw [e, List.set_append_right _ _ (by omega)]
    congr 2
    omega
/-- What each slice holds. -/
def RD (n b5 P : Nat) (s : MS) (L : List Lt) (cds : List Int) (isd : List Nat) (aw : Nat) (v : RT → Value) : RT → Option Slot
  | .out => some ⟨26, 4, .slice (some ⟨b5, 0, none⟩) 1 1, 1, [v .cd, v .ins, v .isd, .int .i64 (aw : Int)]⟩
  | .procs => some ⟨48, 5, .slice (some ⟨P, 0, none⟩) n n, n, rprocL n (rpc s v)⟩
  | .post => some ⟨50, 4, v .post, L.length, flatL L⟩
  | .cd => some ⟨27, 1, v .cd, cds.length, intsV cds⟩
  | .ins => some ⟨3, 1, v .ins, s.ins.length, natsL s.ins⟩
  | .isd => some ⟨3, 1, v .isd, isd.length, natsL isd⟩
  | .wt i => if i < n then some ⟨3, 1, v (.wt i), (s.pr i).wait.length, natsL (s.pr i).wait⟩ else none
variable {n b5 P aw : Nat} {s : MS} {L : List Lt} {cds : List Int} {isd : List Nat} {v : RT → Value} {W W2 : World} {t t2 : Nat → Option RT}
def updV (v : RT → Value) (τ : RT) (x : Value) (y : RT) : Value := if y = τ then x else v y
theorem updV_same (v : RT → Value) (τ : RT) (x : Value) : updV v τ x τ = x := if_pos rfl
theorem updV_other (v : RT → Value) {τ y : RT} (x : Value) (h : y ≠ τ) : updV v τ x y = v y := if_neg h
theorem updD_twice {ι : Type} [DecidableEq ι] {W : World} {t : Nat → Option ι} {d : ι → Option Slot} {τ : ι} {a b : Slot} (P : Pool W t (updD (updD d τ a) τ b)) : Pool W t (updD d τ b) :=
  P.congr (fun x q hx => by
    by_cases e : x = τ
    · subst e; rw [updD_same] at hx ⊢; exact hx
    · rw [updD_other _ _ e] at hx; rw [updD_other _ _ e, updD_other _ _ e]; exact hx)

theorem rd_out (Q : Pool W t (RD n b5 P s L cds isd aw v)) : t b5 = some .out ∧ W.cell? ⟨b5, 0, none⟩ = some (v .cd) ∧ W.cell? ⟨b5, 1, none⟩ = some (v .ins) ∧ W.cell? ⟨b5, 2, none⟩ = some (v .isd) ∧ W.cell? ⟨b5, 3, none⟩ = some (.int .i64 (aw : Int)) ∧ ∀ k, W.frozen? ⟨b5, k, none⟩ = false := by
  obtain ⟨h1, _, h2, h3⟩ := Q.cells (τ := .out) (s := _) rfl rfl
  exact ⟨h1, by simpa using h2 0 _ rfl, by simpa using h2 1 _ rfl, by simpa using h2 2 _ rfl, by simpa using h2 3 _ rfl, h3⟩
theorem rd_proc (Q : Pool W t (RD n b5 P s L cds isd aw v)) {i : Nat} (hi : i < n) : W.cell? ⟨P, i * 5, none⟩ = some (.int .i64 ((s.pr i).num : Int)) ∧ W.cell? ⟨P, i * 5 + 1, none⟩ = some (.int .i64 ((s.pr i).st : Int)) ∧ W.cell? ⟨P, i * 5 + 2, none⟩ = some (.int .i64 ((s.pr i).kn : Int)) ∧
    W.cell? ⟨P, i * 5 + 3, none⟩ = some (.int .i64 ((s.pr i).yes : Int)) ∧ W.cell? ⟨P, i * 5 + 4, none⟩ = some (v (.wt i)) ∧ ∀ k, W.frozen? ⟨P, k, none⟩ = false := by
  obtain ⟨_, _, h2, h3⟩ := Q.cells (τ := .procs) (s := _) rfl rfl
  have key : ∀ k, k < 5 → W.cell? ⟨P, i * 5 + k, none⟩ = some (rpc s v i k) := fun k hk => by have := h2 _ _ (rprocL_at _ hi hk); simpa using this
  exact ⟨key 0 (by omega), key 1 (by omega), key 2 (by omega), key 3 (by omega), key 4 (by omega), h3⟩
/-- A field of a process is another one. -/
theorem rd_setF (Q : Pool W t (RD n b5 P s L cds isd aw v)) {i k : Nat} (hi : i < n) (hk : k < 5) {x : Value} {p : Pr} (hp : ∀ q, q ≠ k → rpc (prM s i p) v i q = rpc s v i q) (hx : rpc (prM s i p) v i k = x) (hw : p.wait = (s.pr i).wait) :
    Pool (W.setCell ⟨P, i * 5 + k, none⟩ x) t (RD n b5 P (prM s i p) L cds isd aw v) ∧ PStep W t (W.setCell ⟨P, i * 5 + k, none⟩ x) t := by
  obtain ⟨h1, h2⟩ := Q.set (τ := .procs) (s := ⟨48, 5, .slice (some ⟨P, 0, none⟩) n n, n, rprocL n (rpc s v)⟩) rfl (x := x) rfl (i := i * 5 + k) (by simp only; omega)
  rw [Nat.zero_add] at h1 h2
  refine ⟨h1.congr (fun y q hy => ?_), h2⟩
  cases y with
  | procs =>
    rw [updD_same, ← hy]
    simp only [RD]
    rw [rprocL_set _ hi hk]
    congr 3
    funext a q
    by_cases e : a = i ∧ q = k
    · obtain ⟨rfl, rfl⟩ := e; rw [upd2_same, hx]
    · rw [upd2_other _ _ e]
      by_cases ea : a = i
      · subst ea; exact (hp q (fun e2 => e ⟨rfl, e2⟩)).symm
      · unfold rpc prM
        simp only [upd1_other _ _ ea]
  | wt a =>
    rw [updD_other _ _ (by simp), ← hy]
    simp only [RD, prM]
    by_cases e : a = i
    · subst e; rw [upd1_same, hw]
    · rw [upd1_other _ _ e]
  | out => rw [updD_other _ _ (by simp)]; exact hy
  | post => rw [updD_other _ _ (by simp)]; exact hy
  | cd => rw [updD_other _ _ (by simp)]; exact hy
  | ins => rw [updD_other _ _ (by simp)]; exact hy
  | isd => rw [updD_other _ _ (by simp)]; exact hy
theorem rd_num (Q : Pool W t (RD n b5 P s L cds isd aw v)) {i : Nat} (hi : i < n) (x : Nat) : Pool (W.setCell ⟨P, i * 5, none⟩ (.int .i64 (x : Int))) t (RD n b5 P (prM s i { s.pr i with num := x }) L cds isd aw v) ∧ PStep W t (W.setCell ⟨P, i * 5, none⟩ (.int .i64 (x : Int))) t :=
  rd_setF Q hi (k := 0) (by omega) (p := { s.pr i with num := x }) (fun q hq => by unfold rpc prM; simp only [upd1_same]; split <;> first | rfl | exact absurd rfl hq) (by unfold rpc prM; simp only [upd1_same]) rfl
theorem rd_st (Q : Pool W t (RD n b5 P s L cds isd aw v)) {i : Nat} (hi : i < n) (x : Nat) : Pool (W.setCell ⟨P, i * 5 + 1, none⟩ (.int .i64 (x : Int))) t (RD n b5 P (prM s i { s.pr i with st := x }) L cds isd aw v) ∧ PStep W t (W.setCell ⟨P, i * 5 + 1, none⟩ (.int .i64 (x : Int))) t :=
  rd_setF Q hi (k := 1) (by omega) (p := { s.pr i with st := x }) (fun q hq => by unfold rpc prM; simp only [upd1_same]; split <;> first | rfl | exact absurd rfl hq) (by unfold rpc prM; simp only [upd1_same]) rfl
theorem rd_kn (Q : Pool W t (RD n b5 P s L cds isd aw v)) {i : Nat} (hi : i < n) (x : Nat) : Pool (W.setCell ⟨P, i * 5 + 2, none⟩ (.int .i64 (x : Int))) t (RD n b5 P (prM s i { s.pr i with kn := x }) L cds isd aw v) ∧ PStep W t (W.setCell ⟨P, i * 5 + 2, none⟩ (.int .i64 (x : Int))) t :=
  rd_setF Q hi (k := 2) (by omega) (p := { s.pr i with kn := x }) (fun q hq => by unfold rpc prM; simp only [upd1_same]; split <;> first | rfl | exact absurd rfl hq) (by unfold rpc prM; simp only [upd1_same]) rfl
theorem rd_yes (Q : Pool W t (RD n b5 P s L cds isd aw v)) {i : Nat} (hi : i < n) (x : Nat) : Pool (W.setCell ⟨P, i * 5 + 3, none⟩ (.int .i64 (x : Int))) t (RD n b5 P (prM s i { s.pr i with yes := x }) L cds isd aw v) ∧ PStep W t (W.setCell ⟨P, i * 5 + 3, none⟩ (.int .i64 (x : Int))) t :=
  rd_setF Q hi (k := 3) (by omega) (p := { s.pr i with yes := x }) (fun q hq => by unfold rpc prM; simp only [upd1_same]; split <;> first | rfl | exact absurd rfl hq) (by unfold rpc prM; simp only [upd1_same]) rfl
/-- The key's process is nowhere in the document's memory. -/
theorem rd_kp (Q : Pool W t (RD n b5 P s L cds isd aw v)) (i x : Nat) : Pool W t (RD n b5 P (prM s i { s.pr i with kp := x }) L cds isd aw v) := by
  refine Q.congr (fun y q hy => ?_)
  have hp : ∀ a, ((prM s i { s.pr i with kp := x }).pr a).num = (s.pr a).num ∧ ((prM s i { s.pr i with kp := x }).pr a).st = (s.pr a).st ∧ ((prM s i { s.pr i with kp := x }).pr a).kn = (s.pr a).kn ∧ ((prM s i { s.pr i with kp := x }).pr a).yes = (s.pr a).yes ∧ ((prM s i { s.pr i with kp := x }).pr a).wait = (s.pr a).wait := fun a => by
    unfold prM
    by_cases e : a = i
    · subst e; simp [upd1_same]
    · simp [upd1_other _ _ e]
  cases y with
  | procs =>
    rw [← hy]
    simp only [RD]
    congr 3
    funext a q
    unfold rpc
    simp only [(hp a).1, (hp a).2.1, (hp a).2.2.1, (hp a).2.2.2.1]
  | wt a =>
    rw [← hy]
    simp only [RD, (hp a).2.2.2.2]
  | out => exact hy
  | post => exact hy
  | cd => exact hy
  | ins => exact hy
  | isd => exact hy
/-- A letter more. -/
theorem rd_post (Q : Pool W t (RD n b5 P s L cds isd aw v)) {l : Lt} {wa w3 : World} {v3 : Value} (ha : Keep (fun _ => False) W wa)
    (hs : Seg w3 (fun g => ((v .post).ownBlock = some g ∧ t g = some .post) ∨ g = wa.heap.size) 50 4 v3 (L.length + 1) (flatL L ++ cellsL l)) (hg : wa.grownBy w3 (v .post).ownBlock) :
    ∃ t3, Pool w3 t3 (RD n b5 P s (L ++ [l]) cds isd aw (updV v .post v3)) ∧ PStep W t w3 t3 := by
  obtain ⟨t3, h1, h2⟩ := Q.app (τ := .post) (s := ⟨50, 4, v .post, L.length, flatL L⟩) rfl (m := 1) (news := cellsL l) ha hs hg
  refine ⟨t3, h1.congr (fun y q hy => ?_), h2⟩
  cases y with
  | post =>
    rw [updD_same, ← hy]
    simp only [RD]
    rw [updV_same, flatL_app, flatL_one, List.length_append, List.length_singleton]
  | out => rw [updD_other _ _ (by simp), ← hy]; simp only [RD]; rw [updV_other _ _ (by simp), updV_other _ _ (by simp), updV_other _ _ (by simp)]
  | procs =>
    rw [updD_other _ _ (by simp), ← hy]; simp only [RD]
    congr 3
  | cd => rw [updD_other _ _ (by simp), ← hy]; simp only [RD]; rw [updV_other _ _ (by simp)]
  | ins => rw [updD_other _ _ (by simp), ← hy]; simp only [RD]; rw [updV_other _ _ (by simp)]
  | isd => rw [updD_other _ _ (by simp), ← hy]; simp only [RD]; rw [updV_other _ _ (by simp)]
  | wt a => rw [updD_other _ _ (by simp), ← hy]; simp only [RD]; rw [updV_other _ _ (by simp)]
/-- A letter has come. -/
theorem rd_come (Q : Pool W t (RD n b5 P s L cds isd aw v)) {q g off cap : Nat} {l : Lt} (hv : v .post = .slice (some ⟨g, off, none⟩) L.length cap) (hq : L[q]? = some l) :
    (∀ k, k < 4 → W.cell? ⟨g, off + (q * 4 + k), none⟩ = (cellsL l)[k]?) ∧ (∀ k, W.frozen? ⟨g, k, none⟩ = false) ∧ t g = some .post ∧
    Pool (W.setCell ⟨g, off + (q * 4 + 3), none⟩ (.bool true)) t (RD n b5 P s (L.set q (comeL l)) cds isd aw v) ∧ PStep W t (W.setCell ⟨g, off + (q * 4 + 3), none⟩ (.bool true)) t := by
  have hl := (List.getElem?_eq_some_iff.1 hq).1
  obtain ⟨h1, _, h3, h4⟩ := Q.cells (τ := .post) (s := ⟨50, 4, v .post, L.length, flatL L⟩) rfl hv
  obtain ⟨g1, g2⟩ := Q.set (τ := .post) (s := ⟨50, 4, v .post, L.length, flatL L⟩) rfl (x := .bool true) hv (i := q * 4 + 3) (by simp only; omega)
  refine ⟨fun k hk => ?_, h4, h1, g1.congr (fun y z hy => ?_), g2⟩
  · have h5 := flatL_at L q l hq k hk
    cases e : (cellsL l)[k]? with
    | none => rw [List.getElem?_eq_none_iff] at e; simp [cellsL] at e; omega
    | some x => rw [e] at h5; exact h3 _ _ h5
  · cases y with
    | post =>
      rw [updD_same, ← hy]
      simp only [RD]
      rw [flatL_come L q l hq, List.length_set]
    | out => rw [updD_other _ _ (by simp)]; exact hy
    | procs => rw [updD_other _ _ (by simp)]; exact hy
    | cd => rw [updD_other _ _ (by simp)]; exact hy
    | ins => rw [updD_other _ _ (by simp)]; exact hy
    | isd => rw [updD_other _ _ (by simp)]; exact hy
    | wt a => rw [updD_other _ _ (by simp)]; exact hy
/-- Who waits for a process: another list, laid in memory already. -/
theorem rd_wait (Q : Pool W t (RD n b5 P s L cds isd aw v)) {i : Nat} {w3 : World} {v3 : Value} {l : List Nat} {t3 : Nat → Option RT} (hi : i < n)
    (P3 : Pool w3 t3 (updD (RD n b5 P s L cds isd aw v) (.wt i) ⟨3, 1, v3, l.length, natsL l⟩)) (S3 : PStep W t w3 t3) :
    (∀ k, k < 5 → w3.cell? ⟨P, i * 5 + k, none⟩ = some (rpc s v i k)) ∧ (∀ k, w3.frozen? ⟨P, k, none⟩ = false) ∧
    Pool (w3.setCell ⟨P, i * 5 + 4, none⟩ v3) t3 (RD n b5 P (prM s i { s.pr i with wait := l }) L cds isd aw (updV v (.wt i) v3)) ∧ PStep W t (w3.setCell ⟨P, i * 5 + 4, none⟩ v3) t3 := by
  have hls : updD (RD n b5 P s L cds isd aw v) (.wt i) ⟨3, 1, v3, l.length, natsL l⟩ .procs = some ⟨48, 5, .slice (some ⟨P, 0, none⟩) n n, n, rprocL n (rpc s v)⟩ := by rw [updD_other _ _ (by simp)]; rfl
  obtain ⟨_, _, c1, c2⟩ := P3.cells hls rfl
  obtain ⟨P4, S4⟩ := P3.set hls (x := v3) rfl (i := i * 5 + 4) (by simp only; omega)
  rw [Nat.zero_add] at P4 S4
  refine ⟨fun k hk => by have := c1 _ _ (rprocL_at (rpc s v) hi hk); simpa using this, c2, P4.congr (fun y q hy => ?_), S3.trans S4⟩
  cases y with
  | procs =>
    rw [updD_same, ← hy]
    simp only [RD]
    rw [rprocL_set _ hi (by omega)]
    congr 3
    funext a q
    by_cases e : a = i ∧ q = 4
    · obtain ⟨rfl, rfl⟩ := e; rw [upd2_same]; show v3 = updV v (.wt a) v3 (.wt a); rw [updV_same]
    · rw [upd2_other _ _ e]
      unfold rpc prM
      by_cases ea : a = i
      · subst ea
        simp only [upd1_same]
        split <;> first | rfl | (exact absurd ⟨rfl, rfl⟩ e)
      · simp only [upd1_other _ _ ea]
        rw [updV_other _ _ (by simpa using ea)]
  | wt a =>
    rw [updD_other _ _ (by simp)]
    by_cases e : a = i
    · subst e
      rw [updD_same, ← hy]
      simp only [RD, prM]
      rw [if_pos hi, upd1_same, updV_same]
    · rw [updD_other _ _ (by simpa using e), ← hy]
      simp only [RD, prM]
      rw [upd1_other _ _ e, updV_other _ _ (by simpa using e)]
  | out => rw [updD_other _ _ (by simp), updD_other _ _ (by simp), ← hy]; simp only [RD]; rw [updV_other _ _ (by simp), updV_other _ _ (by simp), updV_other _ _ (by simp)]
  | post => rw [updD_other _ _ (by simp), updD_other _ _ (by simp), ← hy]; simp only [RD]; rw [updV_other _ _ (by simp)]
  | cd => rw [updD_other _ _ (by simp), updD_other _ _ (by simp), ← hy]; simp only [RD]; rw [updV_other _ _ (by simp)]
  | ins => rw [updD_other _ _ (by simp), updD_other _ _ (by simp), ← hy]; simp only [RD]; rw [updV_other _ _ (by simp)]; rfl
  | isd => rw [updD_other _ _ (by simp), updD_other _ _ (by simp), ← hy]; simp only [RD]; rw [updV_other _ _ (by simp)]
/-- One of out's lists grows: behind the append, and behind the store. -/
theorem rd_code (Q : Pool W t (RD n b5 P s L cds isd aw v)) {e : Int} {wa w3 : World} {v3 : Value} (ha : Keep (fun _ => False) W wa)
    (hs : Seg w3 (fun g => ((v .cd).ownBlock = some g ∧ t g = some .cd) ∨ g = wa.heap.size) 27 1 v3 (cds.length + 1) (intsV cds ++ [.int .i64 e])) (hg : wa.grownBy w3 (v .cd).ownBlock) :
    w3.cell? ⟨b5, 0, none⟩ = some (v .cd) ∧ w3.frozen? ⟨b5, 0, none⟩ = false ∧ ∃ t3, Pool (w3.setCell ⟨b5, 0, none⟩ v3) t3 (RD n b5 P s L (cds ++ [e]) isd aw (updV v .cd v3)) ∧ PStep W t (w3.setCell ⟨b5, 0, none⟩ v3) t3 := by
  obtain ⟨t3, P3, S3⟩ := Q.app (τ := .cd) (s := ⟨27, 1, v .cd, cds.length, intsV cds⟩) rfl (m := 1) (news := [.int .i64 e]) ha hs hg
  have ho : updD (RD n b5 P s L cds isd aw v) .cd ⟨27, 1, v3, cds.length + 1, intsV cds ++ [.int .i64 e]⟩ .out = some ⟨26, 4, .slice (some ⟨b5, 0, none⟩) 1 1, 1, [v .cd, v .ins, v .isd, .int .i64 (aw : Int)]⟩ := by rw [updD_other _ _ (by simp)]; rfl
  obtain ⟨_, _, c1, c2⟩ := P3.cells ho rfl
  obtain ⟨P4, S4⟩ := P3.set ho (x := v3) rfl (i := 0) (by simp)
  refine ⟨by simpa using c1 0 _ rfl, c2 0, t3, P4.congr (fun y q hy => ?_), S3.trans S4⟩
  cases y with
  | out => rw [updD_same, ← hy]; simp only [RD, List.set_cons_zero]; rw [updV_same, updV_other _ _ (by simp), updV_other _ _ (by simp)]
  | cd => rw [updD_other _ _ (by simp), updD_same, ← hy]; simp only [RD]; rw [updV_same, intsV_app, List.length_append, List.length_singleton]; try rfl
  | procs => rw [updD_other _ _ (by simp), updD_other _ _ (by simp), ← hy]; simp only [RD]; congr 3
  | post => rw [updD_other _ _ (by simp), updD_other _ _ (by simp), ← hy]; simp only [RD]; rw [updV_other _ _ (by simp)]
  | ins => rw [updD_other _ _ (by simp), updD_other _ _ (by simp), ← hy]; simp only [RD]; rw [updV_other _ _ (by simp)]
  | isd => rw [updD_other _ _ (by simp), updD_other _ _ (by simp), ← hy]; simp only [RD]; rw [updV_other _ _ (by simp)]
  | wt a => rw [updD_other _ _ (by simp), updD_other _ _ (by simp), ← hy]; simp only [RD]; rw [updV_other _ _ (by simp)]
theorem rd_ins (Q : Pool W t (RD n b5 P s L cds isd aw v)) {w : Nat} {wa w3 : World} {v3 : Value} (ha : Keep (fun _ => False) W wa)
    (hs : Seg w3 (fun g => ((v .ins).ownBlock = some g ∧ t g = some .ins) ∨ g = wa.heap.size) 3 1 v3 (s.ins.length + 1) (natsL s.ins ++ [.int .i64 (w : Int)])) (hg : wa.grownBy w3 (v .ins).ownBlock) :
    w3.cell? ⟨b5, 1, none⟩ = some (v .ins) ∧ w3.frozen? ⟨b5, 1, none⟩ = false ∧ ∃ t3, Pool (w3.setCell ⟨b5, 1, none⟩ v3) t3 (RD n b5 P ⟨s.pr, s.ways, s.ins ++ [w]⟩ L cds isd aw (updV v .ins v3)) ∧ PStep W t (w3.setCell ⟨b5, 1, none⟩ v3) t3 := by
  obtain ⟨t3, P3, S3⟩ := Q.app (τ := .ins) (s := ⟨3, 1, v .ins, s.ins.length, natsL s.ins⟩) rfl (m := 1) (news := [.int .i64 (w : Int)]) ha hs hg
  have ho : updD (RD n b5 P s L cds isd aw v) .ins ⟨3, 1, v3, s.ins.length + 1, natsL s.ins ++ [.int .i64 (w : Int)]⟩ .out = some ⟨26, 4, .slice (some ⟨b5, 0, none⟩) 1 1, 1, [v .cd, v .ins, v .isd, .int .i64 (aw : Int)]⟩ := by rw [updD_other _ _ (by simp)]; rfl
  obtain ⟨_, _, c1, c2⟩ := P3.cells ho rfl
  obtain ⟨P4, S4⟩ := P3.set ho (x := v3) rfl (i := 1) (by simp)
  refine ⟨by simpa using c1 1 _ rfl, c2 1, t3, P4.congr (fun y q hy => ?_), S3.trans S4⟩
  cases y with
  | out => rw [updD_same, ← hy]; simp only [RD, List.set_cons_succ, List.set_cons_zero]; rw [updV_same, updV_other _ _ (by simp), updV_other _ _ (by simp)]
  | ins => rw [updD_other _ _ (by simp), updD_same, ← hy]; simp only [RD]; rw [updV_same, List.length_append, List.length_singleton]; simp [natsL]
  | procs => rw [updD_other _ _ (by simp), updD_other _ _ (by simp), ← hy]; simp only [RD]; congr 3
  | post => rw [updD_other _ _ (by simp), updD_other _ _ (by simp), ← hy]; simp only [RD]; rw [updV_other _ _ (by simp)]
  | cd => rw [updD_other _ _ (by simp), updD_other _ _ (by simp), ← hy]; simp only [RD]; rw [updV_other _ _ (by simp)]
  | isd => rw [updD_other _ _ (by simp), updD_other _ _ (by simp), ← hy]; simp only [RD]; rw [updV_other _ _ (by simp)]
  | wt a => rw [updD_other _ _ (by simp), updD_other _ _ (by simp), ← hy]; simp only [RD]; rw [updV_other _ _ (by simp)]
theorem rd_isd (Q : Pool W t (RD n b5 P s L cds isd aw v)) {w : Nat} {wa w3 : World} {v3 : Value} (ha : Keep (fun _ => False) W wa)
    (hs : Seg w3 (fun g => ((v .isd).ownBlock = some g ∧ t g = some .isd) ∨ g = wa.heap.size) 3 1 v3 (isd.length + 1) (natsL isd ++ [.int .i64 (w : Int)])) (hg : wa.grownBy w3 (v .isd).ownBlock) :
    w3.cell? ⟨b5, 2, none⟩ = some (v .isd) ∧ w3.frozen? ⟨b5, 2, none⟩ = false ∧ ∃ t3, Pool (w3.setCell ⟨b5, 2, none⟩ v3) t3 (RD n b5 P s L cds (isd ++ [w]) aw (updV v .isd v3)) ∧ PStep W t (w3.setCell ⟨b5, 2, none⟩ v3) t3 := by
  obtain ⟨t3, P3, S3⟩ := Q.app (τ := .isd) (s := ⟨3, 1, v .isd, isd.length, natsL isd⟩) rfl (m := 1) (news := [.int .i64 (w : Int)]) ha hs hg
  have ho : updD (RD n b5 P s L cds isd aw v) .isd ⟨3, 1, v3, isd.length + 1, natsL isd ++ [.int .i64 (w : Int)]⟩ .out = some ⟨26, 4, .slice (some ⟨b5, 0, none⟩) 1 1, 1, [v .cd, v .ins, v .isd, .int .i64 (aw : Int)]⟩ := by rw [updD_other _ _ (by simp)]; rfl
  obtain ⟨_, _, c1, c2⟩ := P3.cells ho rfl
  obtain ⟨P4, S4⟩ := P3.set ho (x := v3) rfl (i := 2) (by simp)
  refine ⟨by simpa using c1 2 _ rfl, c2 2, t3, P4.congr (fun y q hy => ?_), S3.trans S4⟩
  cases y with
  | out => rw [updD_same, ← hy]; simp only [RD, List.set_cons_succ, List.set_cons_zero]; rw [updV_same, updV_other _ _ (by simp), updV_other _ _ (by simp)]
  | isd => rw [updD_other _ _ (by simp), updD_same, ← hy]; simp only [RD]; rw [updV_same, List.length_append, List.length_singleton]; simp [natsL]
  | procs => rw [updD_other _ _ (by simp), updD_other _ _ (by simp), ← hy]; simp only [RD]; congr 3
  | post => rw [updD_other _ _ (by simp), updD_other _ _ (by simp), ← hy]; simp only [RD]; rw [updV_other _ _ (by simp)]
  | cd => rw [updD_other _ _ (by simp), updD_other _ _ (by simp), ← hy]; simp only [RD]; rw [updV_other _ _ (by simp)]
  | ins => rw [updD_other _ _ (by simp), updD_other _ _ (by simp), ← hy]; simp only [RD]; rw [updV_other _ _ (by simp)]
  | wt a => rw [updD_other _ _ (by simp), updD_other _ _ (by simp), ← hy]; simp only [RD]; rw [updV_other _ _ (by simp)]
theorem rd_away (Q : Pool W t (RD n b5 P s L cds isd aw v)) (x : Nat) : Pool (W.setCell ⟨b5, 3, none⟩ (.int .i64 (x : Int))) t (RD n b5 P s L cds isd x v) ∧ PStep W t (W.setCell ⟨b5, 3, none⟩ (.int .i64 (x : Int))) t := by
  obtain ⟨P4, S4⟩ := Q.set (τ := .out) (s := ⟨26, 4, .slice (some ⟨b5, 0, none⟩) 1 1, 1, [v .cd, v .ins, v .isd, .int .i64 (aw : Int)]⟩) rfl (x := .int .i64 (x : Int)) rfl (i := 3) (by simp)
  rw [Nat.zero_add] at P4 S4
  refine ⟨P4.congr (fun y q hy => ?_), S4⟩
  cases y with
  | out => rw [updD_same, ← hy]; rfl
  | procs => rw [updD_other _ _ (by simp)]; exact hy
  | post => rw [updD_other _ _ (by simp)]; exact hy
  | cd => rw [updD_other _ _ (by simp)]; exact hy
  | ins => rw [updD_other _ _ (by simp)]; exact hy
  | isd => rw [updD_other _ _ (by simp)]; exact hy
  | wt a => rw [updD_other _ _ (by simp)]; exact hy
/-- Of the ways the document's memory knows nothing. -/
theorem rd_ways {s2 : MS} (Q : Pool W t (RD n b5 P s L cds isd aw v)) (h1 : s2.pr = s.pr) (h2 : s2.ins = s.ins) : Pool W t (RD n b5 P s2 L cds isd aw v) := by
  refine Q.congr (fun y q hy => ?_)
  cases y with
  | procs => rw [← hy]; simp only [RD]; congr 3; funext a q; unfold rpc; rw [h1]
  | wt a => rw [← hy]; simp only [RD]; rw [h1]
  | ins => rw [← hy]; simp only [RD]; rw [h2]
  | out => exact hy
  | post => exact hy
  | cd => exact hy
  | isd => exact hy
end Go.Proofs.Ytaojmbebkggafaa
