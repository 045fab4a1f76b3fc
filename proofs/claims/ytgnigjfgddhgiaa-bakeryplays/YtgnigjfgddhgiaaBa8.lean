/- The bakery: Play. -/
import Derived.Test.YtgnigjfgddhgiaaBa7
namespace Go.Proofs.Ytgnigjfgddhgiaa
open Go.RowKit
set_option linter.unusedVariables false

def bakCode (n : Int) (len : Nat) : Int := if n < 1 ∨ 4 < n ∨ 120 < len then 1 else 0
theorem bakCode_zero {z : Int} {len : Nat} (h : bakCode z len = 0) : ∃ n : Nat, z = (n : Int) ∧ 0 < n ∧ n ≤ 4 ∧ len ≤ 120 := by
  unfold bakCode at h
  split at h
  · omega
  · exact ⟨z.toNat, by omega, by omega, by omega, by omega⟩
theorem results_cell_tmp_rowC {P : Program} {fn : Func} {p u : Tmp} {ty : TypeId} (h : fn.results = #[.cell p ty, .tmp u]) (tmps : Array Value) (w : World) (g : Nat) (t : TypeId) (cs : Array Value) (fr : Nat × Nat) (d : TypeDesc)
    (hp : tmps.getD p undef = .pointer (some ⟨g, 0, none⟩)) (hg : w.heap[g]? = some (.cells cs t fr))
    (hu : P.underlying ty = some d) (hd : (match d with | .struct _ | .array _ _ => true | _ => false) = true) (hi : (P.info? ty).map (·.size) = some cs.size) :
    (results fn tmps).run P w = .ok (.tuple #[.agg cs, tmps.getD u undef]) w := by
  rw [results_cell_tmp h, hp]
  simp [asAddr, run_loadVar_row w g t ty cs fr d hg hu hd hi, Result.andThen]

/-- The codes of the first k steps. -/
def bcRow (n : Nat) (zs : List Int) (len k : Nat) : List Value := (List.range len).map fun q => .int .i64 (if q < k then bcAt n zs q else 0)
theorem bcRow_len (n : Nat) (zs : List Int) (len k : Nat) : (bcRow n zs len k).length = len := by simp [bcRow]
theorem bcRow_at {n : Nat} {zs : List Int} {len k q : Nat} (h : q < len) : (bcRow n zs len k)[q]? = some (.int .i64 (if q < k then bcAt n zs q else 0)) := by simp [bcRow, h]
theorem bcRow_set {n : Nat} {zs : List Int} {len k : Nat} (h : k < len) : (bcRow n zs len k).set k (.int .i64 (bcAt n zs k)) = bcRow n zs len (k + 1) := by
  apply List.ext_getElem?
  intro q
  rw [List.getElem?_set]
  by_cases hq : q < len
  · by_cases e : k = q
    · subst e
      rw [if_pos rfl, if_pos (by rw [bcRow_len]; exact hq), bcRow_at hq, if_pos (by omega)]
    · rw [if_neg e, bcRow_at hq, bcRow_at hq]
      by_cases h1 : q < k
      · rw [if_pos h1, if_pos (by omega)]
      · rw [if_neg h1, if_neg (by omega)]
  · rw [if_neg (by omega), List.getElem?_eq_none (by rw [bcRow_len]; omega), List.getElem?_eq_none (by rw [bcRow_len]; omega)]
theorem cInfoErr : (Try.prog.info? 27).map (fun i => (i.zero, i.size, i.bytes)) = some (some (.int .i64 0), 1, 8) := by kernel_rfl
def zP : Array Value := #[.int .i64 0, .int .i64 0, .bool false, .int .i64 0, .int .i64 0]
theorem mInfoProc : (Try.prog.info? 54).map (fun i => (i.zero, i.size, i.bytes)) = some (some (.agg zP), 5, 40) := by kernel_rfl
theorem mMakeCodes (m : Nat) (hm : m ≤ 200) (W : World) : (Instr.makeSlice 23 (.int .i64 (m : Int)) (.int .i64 (m : Int))).run Try.prog W = .ok (.slice (some ⟨W.heap.size, 0, none⟩) m m) (W.alloc (.cells (madeCells #[.int .i64 0] m) 27)) := by
  obtain ⟨i0, hi, hz0, hz1, hz2⟩ := info_parts cInfoErr
  have h := run_makeSlice (P := Try.prog) W 23 27 i0 _ Try.underlying23 hi hz0 .i64 .i64 (m : Int) (m : Int) (by omega) (Int.le_refl _) (by rw [hz1]; simp; omega) (by rw [hz2]; omega) (by omega)
  rw [hz1] at h
  simpa [Value.cells] using h
theorem mMakeProcs (m : Nat) (hm : m ≤ 200) (W : World) : (Instr.makeSlice 40 (.int .i64 (m : Int)) (.int .i64 (m : Int))).run Try.prog W = .ok (.slice (some ⟨W.heap.size, 0, none⟩) m m) (W.alloc (.cells (madeCells zP (m * 5)) 54)) := by
  obtain ⟨i0, hi, hz0, hz1, hz2⟩ := info_parts mInfoProc
  have h := run_makeSlice (P := Try.prog) W 40 54 i0 _ Try.underlying40 hi hz0 .i64 .i64 (m : Int) (m : Int) (by omega) (Int.le_refl _) (by rw [hz1]; simp; omega) (by rw [hz2]; omega) (by omega)
  rw [hz1] at h
  simpa [Value.cells, zP] using h
theorem mMadeCodes (n : Nat) (zs : List Int) (m : Nat) : madeCells #[Value.int .i64 0] m = (bcRow n zs m 0).toArray := by
  simp only [madeCells, bcRow]
  apply Array.ext_getElem?
  intro k
  by_cases h : k < m
  · simp [h, Nat.mod_one]
  · simp [h]
def procS (n : Nat) : Array Value := (procB n (pcB bs0)).toArray
theorem mMadeProcs (m : Nat) : madeCells zP (m * 5) = procS m := by
  unfold procS
  simp only [madeCells, procB]
  apply Array.ext_getElem?
  intro k
  by_cases h : k < m * 5
  · have e : zP.size = 5 := rfl
    simp [h, e]
    have h6 : k % 5 < 5 := Nat.mod_lt _ (by omega)
    generalize k % 5 = q at *
    obtain e | e | e | e | e : q = 0 ∨ q = 1 ∨ q = 2 ∨ q = 3 ∨ q = 4 := by omega
    all_goals subst e; rfl
  · simp [h]
/-- How it begins. -/
theorem bmov_start (w : World) (n : Nat) (hn : n ≤ 4) : ∃ h, Bmov ((w.alloc (.cells (procS n) 54)).alloc (.cells #[.slice (some ⟨w.heap.size, 0, none⟩) n n, .slice none 0 0] 42)) (w.heap.size + 1) n bs0 h ∧ ∀ g, h.own (w.heap.size + 1) g → w.heap.size ≤ g := by
  have z1 : (w.alloc (.cells (procS n) 54)).heap.size = w.heap.size + 1 := by simp
  obtain ⟨t1, P1, S1⟩ := (Pool.empty (ι := BTag) w).new .procs 54 5 n n (procS n) (procB n (pcB bs0)) (by simp [procB]) (Nat.le_refl _) (by unfold maxLen; omega) (by simp [procS, procB]) (fun j x h => by simpa [procS] using h)
  have P3 := P1.alloc (.cells #[.slice (some ⟨w.heap.size, 0, none⟩) n n, .slice none 0 0] 42)
  have hb := al_new (w.alloc (.cells (procS n) 54)) (.cells #[.slice (some ⟨w.heap.size, 0, none⟩) n n, .slice none 0 0] 42)
  rw [z1] at hb
  have t1b : t1 (w.heap.size + 1) = none := P1.fresh _ (by rw [z1]; exact Nat.le_refl _)
  refine ⟨⟨w.heap.size, .slice none 0 0, t1⟩, ⟨P3.nils (fun y q hy => ?_), t1b, hb⟩, fun g hg => ?_⟩
  · cases y with
    | procs => left; rw [updD_same, ← hy]; rfl
    | ins =>
      right
      simp only [dB, Option.some.injEq] at hy
      subst hy
      exact ⟨rfl, rfl, rfl⟩
  · rcases hg with hg | hg
    · apply Nat.le_of_not_lt
      intro hlt
      exact hg (S1.tags g hlt)
    · omega

set_option maxRecDepth 100000 in
set_option maxHeartbeats 4000000 in
theorem play_badB {W : World} {pa : Option Addr} {pl pc : Nat} {z : Int} (hz : bakCode z pl ≠ 0) (hpl : pl ≤ maxLen) :
    Calls Try.prog 8 #[.int .i64 z, .slice pa pl pc] W fun e W2 => e = .returned (.tuple #[.agg #[.slice none 0 0, .slice none 0 0, .slice none 0 0, .slice none 0 0, .slice none 0 0], .int .i64 1]) ∧ Stil W W2 := by
  unfold bakCode at hz
  have hc : z < 1 ∨ 4 < z ∨ 120 < pl := by
    refine Classical.byContradiction fun e => ?_
    rw [if_neg e] at hz
    exact hz rfl
  clear hz
  have h9 : maxLen ≤ 9223372036854775807 := by decide
  have hpl' : (pl : Int) ≤ 9223372036854775807 := by omega
  clear h9
  by_cases hb : z < 1
  · have q1 : decide (z < 1) = true := decide_eq_true hb
    clear hc hpl
    go_enter Try.func8, Try.ntmps8
    go_wp2
    refine bodyPost_ret (results_cell_tmp_rowC (P := Try.prog) rfl _ _ W.heap.size 26 #[.slice none 0 0, .slice none 0 0, .slice none 0 0, .slice none 0 0, .slice none 0 0] (0, 0) _ rfl (al_new _ _) Try.underlying26 rfl (by kernel_rfl)) rfl ?_
    exact ⟨rfl, (Keep.refl _ W).alloc _⟩
  by_cases hb2 : 4 < z
  · have q1 : decide (z < 1) = false := decide_eq_false hb
    have q2 : decide (4 < z) = true := decide_eq_true hb2
    clear hc hpl
    go_enter Try.func8, Try.ntmps8
    go_wp2
    refine bodyPost_ret (results_cell_tmp_rowC (P := Try.prog) rfl _ _ W.heap.size 26 #[.slice none 0 0, .slice none 0 0, .slice none 0 0, .slice none 0 0, .slice none 0 0] (0, 0) _ rfl (al_new _ _) Try.underlying26 rfl (by kernel_rfl)) rfl ?_
    exact ⟨rfl, (Keep.refl _ W).alloc _⟩
  · have q1 : decide (z < 1) = false := decide_eq_false hb
    have q2 : decide (4 < z) = false := decide_eq_false hb2
    have q3 : decide (120 < (pl : Int)) = true := decide_eq_true (by omega)
    clear hc hpl
    go_enter Try.func8, Try.ntmps8
    go_wp2
    refine bodyPost_ret (results_cell_tmp_rowC (P := Try.prog) rfl _ _ W.heap.size 26 #[.slice none 0 0, .slice none 0 0, .slice none 0 0, .slice none 0 0, .slice none 0 0] (0, 0) _ rfl (al_new _ _) Try.underlying26 rfl (by kernel_rfl)) rfl ?_
    exact ⟨rfl, (Keep.refl _ W).alloc _⟩

theorem rowI_keep {w w' : World} {o : Nat → Prop} {a : Option Addr} {len cap : Nat} {xs : List Int} (h : RowI w a len cap xs) (hs : Keep o w w') (ho : ∀ x, a = some x → ¬ o x.block) : RowI w' a len cap xs := by
  obtain ⟨h1, h2, h3, h4⟩ := h
  refine ⟨h1, h2, h3, ?_⟩
  rcases h4 with h4 | ⟨b, off, e, hr, hc⟩
  · exact .inl h4
  · exact .inr ⟨b, off, e, Nat.lt_of_lt_of_le hr hs.size, fun j x hx => (World.cell?_of_block (hs.block b hr (ho _ e))).trans (hc j x hx)⟩
theorem rowO_keep {w w' : World} {o : Nat → Prop} {a : Option Addr} {len cap : Nat} {xs : List Bool} (h : RowO w a len cap xs) (hs : Keep o w w') (ho : ∀ x, a = some x → ¬ o x.block) : RowO w' a len cap xs := by
  obtain ⟨h1, h2, h3, h4⟩ := h
  refine ⟨h1, h2, h3, ?_⟩
  rcases h4 with h4 | ⟨b, off, e, hr, hc⟩
  · exact .inl h4
  · exact .inr ⟨b, off, e, Nat.lt_of_lt_of_le hr hs.size, fun j x hx => (World.cell?_of_block (hs.block b hr (ho _ e))).trans (hc j x hx)⟩
/-- A play, as laws see it. -/
structure SeenB (w : World) (C n pl : Nat) (s : BS) (cd : Nat → Int) (a1 : Option Addr) (c1 : Nat) (a2 : Option Addr) (c2 : Nat) (a3 : Option Addr) (c3 : Nat) (va : Option Addr) (vc : Nat) : Prop where
  codes : RowI w (some ⟨C, 0, none⟩) pl pl ((List.range pl).map cd)
  «at» : RowI w a1 n c1 (natsI (plL s n))
  tk : RowI w a2 n c2 (natsI (tkL s n))
  ch : RowO w a3 n c3 (chL s n)
  ins : RowI w va s.ins.length vc (natsI s.ins)
theorem SeenB.still {w w' : World} {C n pl : Nat} {s : BS} {cd : Nat → Int} {a1 a2 a3 va : Option Addr} {c1 c2 c3 vc : Nat} (h : SeenB w C n pl s cd a1 c1 a2 c2 a3 c3 va vc) (hs : Stil w w') : SeenB w' C n pl s cd a1 c1 a2 c2 a3 c3 va vc :=
  ⟨h.codes.still hs, h.at.still hs, h.tk.still hs, h.ch.still hs, h.ins.still hs⟩

set_option maxRecDepth 100000 in
set_option maxHeartbeats 8000000 in
theorem play_seenB {W : World} {pa : Option Addr} {n pl pc : Nat} {zs : List Int} (hp : RowI W pa pl pc zs) (h0 : 0 < n) (h4 : n ≤ 4) (hpl : pl ≤ 120) :
    Calls Try.prog 8 #[.int .i64 (n : Int), .slice pa pl pc] W fun e W2 => (∃ C a1 c1 a2 c2 a3 c3 va vc, e = .returned (.tuple #[.agg #[.slice (some ⟨C, 0, none⟩) pl pl, .slice a1 n c1, .slice a2 n c2, .slice a3 n c3, .slice va (bsAt n zs pl).ins.length vc], .int .i64 0]) ∧ SeenB W2 C n pl (bsAt n zs pl) (bcAt n zs) a1 c1 a2 c2 a3 c3 va vc) ∧ Stil W W2 := by
  have HP := hidMk hp
  have q1 : decide ((n : Int) < 1) = false := decide_eq_false (by omega)
  have q2 : decide (4 < (n : Int)) = false := decide_eq_false (by omega)
  have q3 : decide (120 < (pl : Int)) = false := decide_eq_false (by omega)
  have hpl' : (pl : Int) ≤ 120 := by omega
  have hmk := mMakeCodes pl (by omega)
  rw [mMadeCodes n zs pl] at hmk
  have hmr := mMakeProcs n (by omega)
  rw [mMadeProcs n] at hmr
  have HR0 : Hid ((W.alloc (.cells #[.slice none 0 0, .slice none 0 0, .slice none 0 0, .slice none 0 0, .slice none 0 0] 26)).heap[W.heap.size]? = some (.cells #[.slice none 0 0, .slice none 0 0, .slice none 0 0, .slice none 0 0, .slice none 0 0] 26 (0, 0))) := al_new _ _
  have HK0 : Hid (Stil W (W.alloc (.cells #[.slice none 0 0, .slice none 0 0, .slice none 0 0, .slice none 0 0, .slice none 0 0] 26))) := Stil.new _ _
  have HZ0 : Hid (W.heap.size < (W.alloc (.cells #[.slice none 0 0, .slice none 0 0, .slice none 0 0, .slice none 0 0, .slice none 0 0] 26)).heap.size) := by show _ < _; simp
  clear hp
  go_enter Try.func8, Try.ntmps8
  go_upto_region 3 with fail
  generalize W.alloc (.cells #[.slice none 0 0, .slice none 0 0, .slice none 0 0, .slice none 0 0, .slice none 0 0] 26) = w0 at *
  generalize hr : W.heap.size = r at *
  have HM5 : Hid (∃ h, Bmov ((w0.alloc (.cells (procS n) 54)).alloc (.cells #[.slice (some ⟨w0.heap.size, 0, none⟩) n n, .slice none 0 0] 42)) (w0.heap.size + 1) n bs0 h ∧ ∀ g, h.own (w0.heap.size + 1) g → r < g) := by
    obtain ⟨h, m, hl⟩ := bmov_start w0 n h4
    exact ⟨h, m, fun g hg => by have := hl g hg; have := HZ0.out; omega⟩
  have HK1 : Hid (Stil w0 ((w0.alloc (.cells (procS n) 54)).alloc (.cells #[.slice (some ⟨w0.heap.size, 0, none⟩) n n, .slice none 0 0] 42))) := ((Keep.refl _ w0).alloc _).alloc _
  go_upto_region 4 with fail
  generalize hwc : ((w0.alloc (.cells (procS n) 54)).alloc (.cells #[.slice (some ⟨w0.heap.size, 0, none⟩) n n, .slice none 0 0] 42)) = wc at *
  generalize w0.heap.size + 1 = mb at *
  clear hwc
  have HM5b : Hid (∃ h, Bmov (wc.alloc (Obj.cells (bcRow n zs pl 0).toArray 27)) mb n bs0 h ∧ ¬ h.own mb wc.heap.size ∧ ∀ g, h.own mb g → r < g) := by
    obtain ⟨h, m, hl⟩ := HM5.out
    exact ⟨h, m.alloc _, m.fresh (Nat.le_refl _), hl⟩
  have hwc : r < wc.heap.size := by have := (Array.getElem?_eq_some_iff.1 HR0.out).1; have := HK1.out.size; omega
  have HKW : Hid (Stil W (wc.alloc (Obj.cells (bcRow n zs pl 0).toArray 27))) := (Stil.tr HK0.out HK1.out).alloc _
  have HRW : Hid ((wc.alloc (Obj.cells (bcRow n zs pl 0).toArray 27)).heap[r]? = some (.cells #[.slice none 0 0, .slice none 0 0, .slice none 0 0, .slice none 0 0, .slice none 0 0] 26 (0, 0))) := by
    show _ = _
    rw [al_old _ _ _ hwc, HK1.out.block _ (Array.getElem?_eq_some_iff.1 HR0.out).1 (fun e => e)]
    exact HR0.out
  have HCW : Hid ((wc.alloc (Obj.cells (bcRow n zs pl 0).toArray 27)).heap[wc.heap.size]? = some (Obj.cells (bcRow n zs pl 0).toArray 27 (0, 0))) := al_new _ _
  clear HM5 HK1 HK0 HR0 HZ0 hmr q1 q2 q3
  go_wp2_with (fail)
  clear hmk
  generalize wc.alloc (Obj.cells (bcRow n zs pl 0).toArray 27) = w5 at *
  generalize wc.heap.size = C at *
  obtain ⟨h5, HM6, hT1, hT3⟩ := HM5b.out
  have HM6 := hidMk HM6
  have HT5 : Hid (¬ h5.own mb C ∧ ∀ g, h5.own mb g → r < g) := ⟨hT1, hT3⟩
  clear hT1 hT3 HM5b
  go_loopw [30] (fun u wr => ∃ k h, k ≤ pl ∧ u = .int .i64 (k : Int) ∧ Hid (Bmov wr mb n (bsAt n zs k) h) ∧ Hid (wr.heap[C]? = some (.cells (bcRow n zs pl k).toArray 27 (0, 0))) ∧ Hid (wr.heap[r]? = some (.cells #[.slice none 0 0, .slice none 0 0, .slice none 0 0, .slice none 0 0, .slice none 0 0] 26 (0, 0))) ∧
    Hid (¬ h.own mb C ∧ ∀ g, h.own mb g → r < g) ∧ Hid (Stil W wr)) (fun u _ => pl - (intOf u).toNat)
  case atStart => exact ⟨0, h5, Nat.zero_le _, rfl, HM6, HCW, HRW, HT5, HKW⟩
  case round =>
    obtain ⟨k, h, hk, rfl, HM, HC, HR, HT, HK⟩ := hrel
    by_cases hlt : k < pl
    · have hlt' : (k : Int) < (pl : Int) := by omega
      obtain ⟨hpl1, hpl2, hpl3, hpr⟩ := HP.out
      rcases hpr with hpr | ⟨b, off, rfl, hbW, hpr⟩
      · omega
      have hpk : zs[k]? = some (zs[k]'(by omega)) := List.getElem?_eq_getElem (by omega)
      generalize zs[k]'(by omega) = z at hpk
      have d0 := HK.out.cell (hpr k z hpk)
      have hall := binv_at n zs k
      have ek : bsAt n zs (k + 1) = stepB n (bsAt n zs k) z := by show (match zs[k]? with | some p => _ | none => _) = _; rw [hpk]
      have ec : bcAt n zs k = codeB n z := by unfold bcAt; rw [hpk]
      have HEK := hidMk ek
      have HEC := hidMk ec
      clear ek ec hpk hpr
      have HDo := hidMk (step_any HM.out hall (by omega) z h4)
      rw [← HEK.out] at HDo
      generalize codeB n z = cd at *
      clear hall hpl3
      go_wp2_with (fail)
      go_at_call 15
      refine (HDo.out).mono ?_
      rintro e w6 ⟨rfl, h8, M6, S6⟩
      have t1 := HT.out
      have hCl : C < wr.heap.size := (Array.getElem?_eq_some_iff.1 HC.out).1
      have hRl : r < wr.heap.size := (Array.getElem?_eq_some_iff.1 HR.out).1
      have nr : ¬ h.own mb r := fun e => by have := t1.2 r e; omega
      have hC6 := S6.block t1.1 HC.out
      have hR6 := S6.block nr HR.out
      have K6 : Stil W w6 := HK.out.trans S6.keep (fun _ _ e => e) (fun g hg e => by have := t1.2 g e; omega)
      have hsk : (bcRow n zs pl k).toArray.setIfInBounds k (.int .i64 cd) = (bcRow n zs pl (k + 1)).toArray := by rw [← bcRow_set hlt, HEC.out]; simp
      have HC7 := hidMk (heap_setCell_same w6 C k _ _ (.int .i64 cd) hC6)
      rw [hsk] at HC7
      have hne : r ≠ C := by omega
      have HR7 := hidMk ((Below.heap_setCell w6 ⟨C, k, none⟩ (.int .i64 cd) _ hne).trans hR6)
      have nC : ¬ h8.own mb C := fun e => t1.1 ((S6.own hCl).1 e)
      have HM7 : Hid (Bmov (w6.setCell ⟨C, k, none⟩ (.int .i64 cd)) mb n (bsAt n zs (k + 1)) h8) := M6.keep ((Keep.refl (fun g => g = C) w6).setCell _ _ _ (fun _ => rfl)) (fun g _ e => by subst e; exact nC)
      have HK7 : Hid (Stil W (w6.setCell ⟨C, k, none⟩ (.int .i64 cd))) := K6.setCell _ _ _ (fun e => by omega)
      have c6 : w6.cell? ⟨C, k, none⟩ = some (.int .i64 0) := by
        rw [cell_of_row w6 _ _ _ _ _ hC6]
        simp only [List.getElem?_toArray]
        rw [bcRow_at hlt, if_neg (by omega)]
      have f6 : w6.frozen? ⟨C, k, none⟩ = false := frozen_of_row w6 _ _ _ _ hC6
      have HT8 : Hid (¬ h8.own mb C ∧ ∀ g, h8.own mb g → r < g) := by
        refine ⟨nC, fun g hg => ?_⟩
        by_cases hgw : r < g
        · exact hgw
        · exact t1.2 g ((S6.own (by omega)).1 hg)
      clear S6 M6 hC6 hR6 K6 hsk HC HR HM HK HDo d0 HT t1 nr nC
      go_wp2
      go_roundw
      case rel => exact ⟨k + 1, h8, by omega, by go_num, HM7, HC7, HR7, HT8, HK7⟩
      case measure => simp [intOf]; omega
    · obtain rfl : k = pl := by omega
      have hS := HM.out.ins
      obtain ⟨va, vc, hvv⟩ := segForm hS
      have HTo := hidMk (told_any HM.out h4 C k k)
      rw [hvv] at HTo hS
      have HSg := hidMk hS
      clear hS hvv
      go_wp2_with (fail)
      go_at_call 16
      refine (HTo.out).mono ?_
      rintro e w6 ⟨a1, c1, a2, c2, a3, c3, rfl, R1, R2, R3, R4, R5, R6, S6⟩
      have hb := (S6.block r (Array.getElem?_eq_some_iff.1 HR.out).1 (fun e => e)).trans HR.out
      have hCl : C < wr.heap.size := (Array.getElem?_eq_some_iff.1 HC.out).1
      have hC6 := (S6.block C hCl (fun e => e)).trans HC.out
      have hrl : r < wr.heap.size := (Array.getElem?_eq_some_iff.1 HR.out).1
      have HQ1 := hidMk R1
      have HQ4 : Hid ((∀ x, a1 = some x → ¬ x.block = r) ∧ (∀ x, a2 = some x → ¬ x.block = r) ∧ (∀ x, a3 = some x → ¬ x.block = r)) := ⟨fun x hx => by have := R4 x hx; omega, fun x hx => by have := R5 x hx; omega, fun x hx => by have := R6 x hx; omega⟩
      have HQ2 := hidMk R2
      have HQ3 := hidMk R3
      have HS6 := hidMk S6
      have S6size := hidMk S6.size
      have r0 : w6.cell? ⟨r, 0, none⟩ = some (.slice none 0 0) := by rw [cell_of_row w6 _ _ _ _ _ hb]; rfl
      have r1 : w6.cell? ⟨r, 1, none⟩ = some (.slice none 0 0) := by rw [cell_of_row w6 _ _ _ _ _ hb]; rfl
      have r2 : w6.cell? ⟨r, 2, none⟩ = some (.slice none 0 0) := by rw [cell_of_row w6 _ _ _ _ _ hb]; rfl
      have r3 : w6.cell? ⟨r, 3, none⟩ = some (.slice none 0 0) := by rw [cell_of_row w6 _ _ _ _ _ hb]; rfl
      have r4 : w6.cell? ⟨r, 4, none⟩ = some (.slice none 0 0) := by rw [cell_of_row w6 _ _ _ _ _ hb]; rfl
      have f0 : w6.frozen? ⟨r, 0, none⟩ = false := frozen_of_row w6 _ _ _ _ hb
      have f1 : w6.frozen? ⟨r, 1, none⟩ = false := frozen_of_row w6 _ _ _ _ hb
      have f2 : w6.frozen? ⟨r, 2, none⟩ = false := frozen_of_row w6 _ _ _ _ hb
      have f3 : w6.frozen? ⟨r, 3, none⟩ = false := frozen_of_row w6 _ _ _ _ hb
      have f4 : w6.frozen? ⟨r, 4, none⟩ = false := frozen_of_row w6 _ _ _ _ hb
      clear R1 R2 R3 R4 R5 R6 S6 HTo
      generalize hil : (bsAt n zs k).ins.length = il at *
      go_wp2
      have b1 := heap_setCell_same w6 r 0 _ _ (.slice (some ⟨C, 0, none⟩) k k) hb
      have b2 := heap_setCell_same _ r 1 _ _ (.slice a1 n c1) b1
      have b3 := heap_setCell_same _ r 2 _ _ (.slice a2 n c2) b2
      have b4 := heap_setCell_same _ r 3 _ _ (.slice a3 n c3) b3
      have b5 := heap_setCell_same _ r 4 _ _ (.slice va il vc) b4
      have kk := (((((Keep.refl (fun g => g = r) w6).setCell r 0 (.slice (some ⟨C, 0, none⟩) k k) (fun _ => rfl)).setCell r 1 (.slice a1 n c1) (fun _ => rfl)).setCell r 2 (.slice a2 n c2) (fun _ => rfl)).setCell r 3 (.slice a3 n c3) (fun _ => rfl)).setCell r 4 (.slice va il vc) (fun _ => rfl)
      refine bodyPost_ret (results_cell_tmp_rowC (P := Try.prog) rfl _ _ r 26 #[.slice (some ⟨C, 0, none⟩) k k, .slice a1 n c1, .slice a2 n c2, .slice a3 n c3, .slice va il vc] (0, 0) _ rfl (by simpa using b5) Try.underlying26 rfl (by kernel_rfl)) rfl ?_
      have hCr : ¬ C = r := fun e => by have := HC.out; rw [e] at this; rw [HR.out] at this; simp at this
      have hrow : RowI wr va il vc (natsI (bsAt n zs k).ins) := seg_row HSg.out
      subst hil
      refine ⟨⟨C, a1, c1, a2, c2, a3, c3, va, vc, rfl, ?_, rowI_keep HQ1.out kk HQ4.out.1, rowI_keep HQ2.out kk HQ4.out.2.1, rowO_keep HQ3.out kk HQ4.out.2.2, rowI_keep (hrow.still HS6.out) kk (fun x hx e => ?_)⟩, (HK.out.tr HS6.out).trans kk (fun _ _ e => e) (fun g hg e => by omega)⟩
      · refine ⟨by simp, Nat.le_refl _, by unfold maxLen; omega, .inr ⟨C, 0, rfl, ?_, fun j x hx => ?_⟩⟩
        · exact Nat.lt_of_lt_of_le (Nat.lt_of_lt_of_le hCl S6size.out) kk.size
        · rw [cell_of_row _ _ _ _ _ _ ((kk.block C (Nat.lt_of_lt_of_le hCl S6size.out) hCr).trans hC6)]
          simp only [List.getElem?_toArray, Nat.zero_add]
          have hj := (List.getElem?_eq_some_iff.1 hx).1
          simp at hj
          rw [bcRow_at hj, if_pos hj]
          simp [hj] at hx
          rw [hx]
      · have := (HSg.out.block (k := x.block) (by rw [hx]; rfl)).1
        have h9 := HT.out.2 x.block (.inl (by rw [this]; simp))
        omega
end Go.Proofs.Ytgnigjfgddhgiaa
