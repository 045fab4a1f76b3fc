/- The ring: Play begins. -/
import Derived.Test.YtadanpghmfhhkaaRg6
import Derived.Laws.ResultCell
namespace Go.Proofs.Ytadanpghmfhhkaa
open Go.RowKit
set_option linter.unusedVariables false

/-- Turns as a slice that came in. -/
def TuRow (w : World) (b off : Nat) (ps : List Tu) : Prop := ∀ (j : Nat) (p : Tu), ps[j]? = some p →
  w.cell? ⟨b, off + j * 2, none⟩ = some (.int .i64 p.kind) ∧ w.cell? ⟨b, off + j * 2 + 1, none⟩ = some (.int .i64 p.who)
def CameT (w : World) (a : Option Addr) (len cap : Nat) (ps : List Tu) : Prop :=
  ps.length = len ∧ len ≤ cap ∧ len ≤ maxLen ∧ (len = 0 ∨ ∃ b off, a = some ⟨b, off, none⟩ ∧ b < w.heap.size ∧ TuRow w b off ps)
theorem CameT.still {w w' : World} {a : Option Addr} {len cap : Nat} {ps : List Tu} (h : CameT w a len cap ps) (hs : Stil w w') : CameT w' a len cap ps := by
  obtain ⟨h1, h2, h3, h4⟩ := h
  refine ⟨h1, h2, h3, ?_⟩
  rcases h4 with h4 | ⟨b, off, e, hr, hc⟩
  · exact .inl h4
  · exact .inr ⟨b, off, e, Nat.lt_of_lt_of_le hr hs.size, fun j p hj => ⟨hs.cell (hc j p hj).1, hs.cell (hc j p hj).2⟩⟩
theorem CameT.take {w : World} {a : Option Addr} {len cap : Nat} {ps : List Tu} (h : CameT w a len cap ps) {m : Nat} (hm : m ≤ len) : CameT w a m cap (ps.take m) := by
  obtain ⟨h1, h2, h3, h4⟩ := h
  refine ⟨by rw [List.length_take]; omega, by omega, by omega, ?_⟩
  rcases h4 with h4 | ⟨b, off, h5, h6, h7⟩
  · exact .inl (by omega)
  · exact .inr ⟨b, off, h5, h6, fun j z hz => h7 j z (by rw [List.getElem?_take] at hz; split at hz <;> simp_all)⟩

theorem results_cell_tmp_rowC {P : Program} {fn : Func} {p u : Tmp} {ty : TypeId} (h : fn.results = #[.cell p ty, .tmp u]) (tmps : Array Value) (w : World) (g : Nat) (t : TypeId) (cs : Array Value) (fr : Nat × Nat) (d : TypeDesc)
    (hp : tmps.getD p undef = .pointer (some ⟨g, 0, none⟩)) (hg : w.heap[g]? = some (.cells cs t fr))
    (hu : P.underlying ty = some d) (hd : (match d with | .struct _ | .array _ _ => true | _ => false) = true) (hi : (P.info? ty).map (·.size) = some cs.size) :
    (results fn tmps).run P w = .ok (.tuple #[.agg cs, tmps.getD u undef]) w := by
  rw [results_cell_tmp h, hp]
  simp [asAddr, run_loadVar_row w g t ty cs fr d hg hu hd hi, Result.andThen]

/-- The codes of the first k steps. -/
def gcRow (f : Nat → Int) (len k : Nat) : List Value := (List.range len).map fun q => .int .i64 (if q < k then f q else 0)
theorem gcRow_len (f : Nat → Int) (len k : Nat) : (gcRow f len k).length = len := by simp [gcRow]
theorem gcRow_at {f : Nat → Int} {len k q : Nat} (h : q < len) : (gcRow f len k)[q]? = some (.int .i64 (if q < k then f q else 0)) := by simp [gcRow, h]
theorem gcRow_set {f : Nat → Int} {len k : Nat} (h : k < len) : (gcRow f len k).set k (.int .i64 (f k)) = gcRow f len (k + 1) := by
  apply List.ext_getElem?
  intro q
  rw [List.getElem?_set]
  by_cases hq : q < len
  · by_cases e : k = q
    · subst e
      rw [if_pos rfl, if_pos (by rw [gcRow_len]; exact hq), gcRow_at hq, if_pos (by omega)]
    · rw [if_neg e, gcRow_at hq, gcRow_at hq]
      by_cases h1 : q < k
      · rw [if_pos h1, if_pos (by omega)]
      · rw [if_neg h1, if_neg (by omega)]
  · rw [if_neg (by omega), List.getElem?_eq_none (by rw [gcRow_len]; omega), List.getElem?_eq_none (by rw [gcRow_len]; omega)]
theorem cInfoErr : (Try.prog.info? 27).map (fun i => (i.zero, i.size, i.bytes)) = some (some (.int .i64 0), 1, 8) := by kernel_rfl
def zP : Array Value := #[.int .i64 0, .bool false, .slice none 0 0]
theorem mInfoProc : (Try.prog.info? 45).map (fun i => (i.zero, i.size, i.bytes)) = some (some (.agg zP), 3, 40) := by kernel_rfl
theorem mMakeCodes (m : Nat) (hm : m ≤ 200) (W : World) : (Instr.makeSlice 24 (.int .i64 (m : Int)) (.int .i64 (m : Int))).run Try.prog W = .ok (.slice (some ⟨W.heap.size, 0, none⟩) m m) (W.alloc (.cells (madeCells #[.int .i64 0] m) 27)) := by
  obtain ⟨i0, hi, hz0, hz1, hz2⟩ := info_parts cInfoErr
  have h := run_makeSlice (P := Try.prog) W 24 27 i0 _ Try.underlying24 hi hz0 .i64 .i64 (m : Int) (m : Int) (by omega) (Int.le_refl _) (by rw [hz1]; simp; omega) (by rw [hz2]; omega) (by omega)
  rw [hz1] at h
  simpa [Value.cells] using h
theorem mMakeProcs (m : Nat) (hm : m ≤ 200) (W : World) : (Instr.makeSlice 41 (.int .i64 (m : Int)) (.int .i64 (m : Int))).run Try.prog W = .ok (.slice (some ⟨W.heap.size, 0, none⟩) m m) (W.alloc (.cells (madeCells zP (m * 3)) 45)) := by
  obtain ⟨i0, hi, hz0, hz1, hz2⟩ := info_parts mInfoProc
  have h := run_makeSlice (P := Try.prog) W 41 45 i0 _ Try.underlying41 hi hz0 .i64 .i64 (m : Int) (m : Int) (by omega) (Int.le_refl _) (by rw [hz1]; simp; omega) (by rw [hz2]; omega) (by omega)
  rw [hz1] at h
  simpa [Value.cells, zP] using h
theorem mMadeCodes (f : Nat → Int) (m : Nat) : madeCells #[Value.int .i64 0] m = (gcRow f m 0).toArray := by
  simp only [madeCells, gcRow]
  apply Array.ext_getElem?
  intro k
  by_cases h : k < m
  · simp [h, Nat.mod_one]
  · simp [h]
def nilQ (_ : Nat) : Value := .slice none 0 0
def nm0 (_ : Nat) : Int := 0
def procS (n : Nat) : Array Value := (procG n (pcG nm0 gs0 nilQ)).toArray
theorem mMadeProcs (m : Nat) : madeCells zP (m * 3) = procS m := by
  unfold procS
  simp only [madeCells, procG]
  apply Array.ext_getElem?
  intro k
  by_cases h : k < m * 3
  · have e : zP.size = 3 := rfl
    simp [h, e]
    have h6 : k % 3 < 3 := Nat.mod_lt _ (by omega)
    generalize k % 3 = q at *
    obtain e | e | e : q = 0 ∨ q = 1 ∨ q = 2 := by omega
    all_goals subst e; rfl
  · simp [h]
/-- How it begins. -/
theorem gmv_start (w : World) (n : Nat) (hn : n ≤ 6) : ∃ h, h.P = w.heap.size ∧ Gmv ((w.alloc (.cells (procS n) 45)).alloc (.cells #[.slice (some ⟨w.heap.size, 0, none⟩) n n, .slice none 0 0, .int .i64 0] 43)) (w.heap.size + 1) n nm0 gs0 h ∧ ∀ g, h.own (w.heap.size + 1) g → w.heap.size ≤ g := by
  have z1 : (w.alloc (.cells (procS n) 45)).heap.size = w.heap.size + 1 := by simp
  obtain ⟨t1, P1, S1⟩ := (Pool.empty (ι := GTag) w).new .procs 45 3 n n (procS n) (procG n (pcG nm0 gs0 nilQ)) (by simp [procG]) (Nat.le_refl _) (by unfold maxLen; omega) (by simp [procS, procG]) (fun j x h => by simpa [procS] using h)
  have P3 := P1.alloc (.cells #[.slice (some ⟨w.heap.size, 0, none⟩) n n, .slice none 0 0, .int .i64 0] 43)
  have hb := al_new (w.alloc (.cells (procS n) 45)) (.cells #[.slice (some ⟨w.heap.size, 0, none⟩) n n, .slice none 0 0, .int .i64 0] 43)
  rw [z1] at hb
  have t1b : t1 (w.heap.size + 1) = none := P1.fresh _ (by rw [z1]; exact Nat.le_refl _)
  refine ⟨⟨w.heap.size, .slice none 0 0, nilQ, t1⟩, rfl, ⟨P3.nils (fun y q hy => ?_), t1b, hb⟩, fun g hg => ?_⟩
  · cases y with
    | procs => left; rw [updD_same, ← hy]; rfl
    | chosen =>
      right
      simp only [dG, Option.some.injEq] at hy
      subst hy
      exact ⟨rfl, rfl, rfl⟩
    | co a =>
      right
      simp only [dG] at hy
      split at hy
      · cases hy; exact ⟨rfl, rfl, rfl⟩
      · cases hy
  · rcases hg with hg | hg
    · apply Nat.le_of_not_lt
      intro hlt
      exact hg (S1.tags g hlt)
    · omega
/-- A name is laid. -/
theorem Gmv.setNm {W : World} {mb n : Nat} {nm : Nat → Int} {s : GS} {h : GSh} (m : Gmv W mb n nm s h) {i : Nat} (hi : i < n) (x : Int) : Gmv (W.setCell ⟨h.P, i * 3, none⟩ (.int .i64 x)) mb n (upd1 nm i x) s h ∧ GStp mb W h (W.setCell ⟨h.P, i * 3, none⟩ (.int .i64 x)) h := by
  obtain ⟨hpl, hs⟩ := m.pool.set (τ := .procs) (s := ⟨45, 3, .slice (some ⟨h.P, 0, none⟩) n n, n, procG n (pcG nm s h.qv)⟩) rfl (x := .int .i64 x) rfl (i := i * 3) (by simp only; omega)
  rw [Nat.zero_add] at hpl hs
  refine ⟨⟨hpl.congr (fun y q hy => ?_), m.tmb, hs.block m.tmb m.blk⟩, ⟨hs.keep.mono (fun g _ e => .inl e), fun _ _ => rfl, rfl⟩⟩
  cases y with
  | procs =>
    rw [updD_same, ← hy]
    simp only [dG]
    have := procG_set (pcG nm s h.qv) hi (show 0 < 3 by omega) (.int .i64 x)
    rw [Nat.add_zero] at this
    rw [this]
    congr 3
    funext a q
    by_cases e : a = i ∧ q = 0
    · obtain ⟨rfl, rfl⟩ := e; rw [upd2_same]; simp [pcG, upd1_same]
    · rw [upd2_other _ _ e]
      unfold pcG
      split
      · rw [upd1_other _ _ (fun ea => e ⟨ea, rfl⟩)]
      · rfl
      · rfl
      · rfl
  | chosen => rw [updD_other _ _ (by simp)]; exact hy
  | co a => rw [updD_other _ _ (by simp)]; exact hy
/-- The first k names. -/
def nmTo (zs : List Int) (k i : Nat) : Int := if i < k then nmL zs i else 0
theorem nmTo_zero (zs : List Int) : nmTo zs 0 = nm0 := by funext i; simp [nmTo, nm0]
theorem nmTo_succ (zs : List Int) (k : Nat) : nmTo zs (k + 1) = upd1 (nmTo zs k) k (nmL zs k) := by
  funext i
  unfold nmTo upd1
  by_cases e : i = k
  · subst e; simp
  · rw [if_neg e]
    show _ = if i < k then nmL zs i else 0
    by_cases h : i < k
    · rw [if_pos h, if_pos (by omega)]
    · rw [if_neg h, if_neg (by omega)]
theorem nmTo_all {zs : List Int} {n : Nat} (h : zs.length = n) : nmTo zs n = nmL zs := by
  funext i
  unfold nmTo
  split
  · rfl
  · unfold nmL
    rw [List.getD_eq_getElem?_getD, List.getElem?_eq_none (by omega)]
    rfl

theorem ringCode_zero {zs : List Int} {pl : Nat} (h : ringCode zs pl = 0) : 0 < zs.length ∧ zs.length ≤ 6 ∧ pl ≤ 120 ∧ zs.Nodup := by
  unfold ringCode at h
  split at h
  · omega
  · unfold ndCode at h
    split at h
    · rename_i h1 h2; exact ⟨by omega, by omega, by omega, h2⟩
    · omega
set_option maxRecDepth 100000 in
set_option maxHeartbeats 4000000 in
theorem play_badG {W : World} {pa qa : Option Addr} {n pc pl qc : Nat} {zs : List Int} (hp : RowI W pa n pc zs) (hz : ringCode zs pl ≠ 0) :
    Calls Try.prog 8 #[.slice pa n pc, .slice qa pl qc] W fun e W2 => e = .returned (.tuple #[.agg #[.slice none 0 0, .slice none 0 0, .int .i64 0, .int .i64 0], .int .i64 (ringCode zs pl)]) ∧ Stil W W2 := by
  have HD := hidMk (check_any (qa := qa) (qc := qc) (pl := pl) (hp.still (Stil.new W (.cells #[.slice none 0 0, .slice none 0 0, .int .i64 0, .int .i64 0] 26))))
  generalize ringCode zs pl = rc at *
  have q1 : (rc != 0) = true := by simpa using hz
  clear hp hz
  go_enter Try.func8, Try.ntmps8
  go_wp2_with (go_at_call 15; refine (HD.out).mono ?_; rintro e w1 ⟨rfl, hw⟩; obtain rfl := hw.symm)
  refine bodyPost_ret (results_cell_tmp_rowC (P := Try.prog) rfl _ _ W.heap.size 26 #[.slice none 0 0, .slice none 0 0, .int .i64 0, .int .i64 0] (0, 0) _ rfl (al_new _ _) Try.underlying26 rfl (by kernel_rfl)) rfl ?_
  exact ⟨rfl, (Keep.refl _ W).alloc _⟩
end Go.Proofs.Ytadanpghmfhhkaa
