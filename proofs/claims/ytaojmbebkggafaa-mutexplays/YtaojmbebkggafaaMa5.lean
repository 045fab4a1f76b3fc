/- take, ask, leave. -/
import Derived.Test.YtaojmbebkggafaaMa4
import Derived.Test.YtaojmbebkggafaaMa1
namespace Go.Proofs.Ytaojmbebkggafaa
open Go.RowKit Go.WideMaps
set_option linter.unusedVariables false

variable {W W2 : World} {mb n : Nat} {s : MS} {h h2 : MSh}
/-- All but the first. -/
theorem Seg.tail {W : World} {ok : Nat → Prop} {e : TypeId} {v : Value} {k : Nat} {x : Value} {xs : List Value} (h : Seg W ok e 1 v (k + 1) (x :: xs)) : ∃ g off cap, v = .slice (some ⟨g, off, none⟩) (k + 1) cap ∧ k + 1 ≤ cap ∧ cap ≤ maxLen ∧ ok g ∧ W.cell? ⟨g, off, none⟩ = some x ∧
    Seg W ok e 1 (.slice (some (if cap = 1 then ⟨g, off, none⟩ else ⟨g, off + 1, none⟩)) k (cap - 1)) k xs := by
  obtain ⟨h1, ⟨_, h0⟩ | ⟨g, off, cap, cur, rfl, h3, h4, h5, h6, h7, h8⟩⟩ := h
  · omega
  · refine ⟨g, off, cap, rfl, h5, h6, h3, ?_, by simpa using h1, .inr ?_⟩
    · rw [cell_of_row W g _ cur e (0, 0) h4]
      exact h8 0 x rfl
    · by_cases hc : cap = 1
      · rw [if_pos hc]
        refine ⟨g, off, cap - 1, cur, rfl, h3, h4, by omega, by omega, by omega, fun j y hy => ?_⟩
        have := (List.getElem?_eq_some_iff.1 hy).1
        simp at h1
        omega
      · rw [if_neg hc]
        refine ⟨g, off + 1, cap - 1, cur, rfl, h3, h4, by omega, by omega, by omega, fun j y hy => ?_⟩
        have := h8 (j + 1) y (by simpa using hy)
        rw [← this]
        congr 1
        omega
theorem Mmov.popWay (m : Mmov W mb n s h) {i j : Nat} {r : List Nat} {TV : Value} (hi : i < n) (hj : j < n) (hn : n ≤ 6) (hc : h.c < 100000) (hs : Seg W (fun g => h.t g = some (.wy i j)) 3 1 TV r.length (natsL r)) (q : Nat) :
    ∃ W2 h2, (Instr.mapUpdate 35 (.map (some h.M)) (.agg #[.int .i64 (i : Int), .int .i64 (j : Int)]) TV).run Try.prog (W.drewN q) = .ok () W2 ∧ Mmov W2 mb n (wayM s i j r) h2 ∧ MStp mb W h W2 h2 1 ∧ h2.wv = h.wv ∧ Keep (fun g => g = h.M) (W.drewN q) W2 := by
  obtain ⟨t2, P2, S2⟩ := m.pool.repl (τ := .wy i j) (s := ⟨3, 1, h.f i j, (s.ways i j).length, natsL (s.ways i j)⟩) (show dM n s h (.wy i j) = some ⟨3, 1, h.f i j, (s.ways i j).length, natsL (s.ways i j)⟩ from if_pos ⟨hi, hj⟩) (n2 := r.length) (v3 := TV) (xs2 := natsL r)
    ((Stil.drewN W q).mono (fun _ _ e => e.elim)) ((hs.keep (Stil.drewN W q) (fun _ _ _ e => e)).mono (fun _ _ e => .inl e))
  exact m.setWay hi hj (by omega) hc P2 S2
theorem yesesTo_snoc (who j : Nat) : ∀ (l : List Nat) (s : MS), yesesTo s who (l ++ [j]) = putM (yesesTo s who l) who j 0
  | [], _ => rfl
  | a :: r, s => yesesTo_snoc who j r (putM s who a 0)
set_option maxRecDepth 100000 in
set_option maxHeartbeats 8000000 in
theorem take_Ay (m : Mmov W mb n s h) {i j x g off : Nat} {r : List Nat} (hi : i < n) (hj : j < n) (hn : n ≤ 6) (hc : h.c < 99999) (hw : s.ways i j = x :: r) (hx : x = 0) (hV : h.f i j = .slice (some ⟨g, off, none⟩) (r.length + 1) 1) (htg : h.t g = some (.wy i j)) (t0 : W.cell? ⟨g, off, none⟩ = some (.int .i64 (x : Int)))
    (hs : Seg W (fun g => h.t g = some (.wy i j)) 3 1 (.slice (some ⟨g, off, none⟩) r.length 0) r.length (natsL r))
    (hne : i ≠ j) (hl2 : (s.ways j i).length ≤ 1000) (hwl : (s.pr j).wait.length ≤ 1000) (hnum : (s.pr j).num ≤ 100000) (hxl : x ≤ 100000) (hst : (s.pr j).st ≤ 2) (hy : (s.pr j).yes < 1000) (hin : s.ins.length ≤ 1000) :
    Calls Try.prog 17 #[.pointer (some ⟨mb, 0, none⟩), .int .i64 (i : Int), .int .i64 (j : Int)] W fun e W2 => e = .returned (.tuple #[]) ∧ ∃ h2, Mmov W2 mb n (takeM n s i j) h2 ∧ MStp mb W h W2 h2 2 := by
  obtain ⟨c0, c1', c2, cf⟩ := m.cells
  have lk := m.look hi hj (by omega)
  rw [hV] at lk
  have hj' : (j : Int) < (n : Int) := by omega
  have hg : g ≠ h.M := fun e => by rw [e, m.tM] at htg; cases htg
  have HPop := hidMk (m.popWay hi hj hn (by omega) hs)
  have HEq := hidMk (show takeM n s i j = enterM n (yesS (wayM s i j r) j) j from by unfold takeM; simp only [hw]; rw [if_pos hx])
  subst hx
  clear m hs hV
  go_enter Try.func17, Try.ntmps17
  go_wp2_with (fail)
  refine wp_region_tail rfl (by kernel_rfl) (by kernel_rfl) (by kernel_rfl) (by kernel_rfl) (by kernel_rfl) rfl ?_
  simp only [List.dropLast]
  repeat (go_big_quiet_step (fail))
  refine wpQuiet_nil ?_
  rintro _ ⟨q, rfl⟩
  obtain ⟨W1, h1, hr1, M1, S1, _, K1⟩ := HPop.out q
  have t1 : W1.cell? ⟨g, off, none⟩ = some (.int .i64 0) := (World.cell?_of_block (K1.block g (World.block_lt_of_cell? _ _ t0) hg)).trans t0
  have HM1 := hidMk M1
  have HS1 := hidMk S1
  have hc1 : h1.c ≤ h.c + 1 := S1.count
  clear M1 S1 K1 HPop c0 c1' c2 cf lk t0
  obtain ⟨d0, d1, d2, df⟩ := HM1.out.cells
  obtain ⟨p0, p1, p2, p3, p4, p5, pf⟩ := HM1.out.proc hj
  have f4 := pf (j * 6 + 4)
  obtain ⟨M2, S2⟩ := HM1.out.setYes hj ((s.pr j).yes + 1)
  have p4' : W1.cell? ⟨h1.P, j * 6 + 4, none⟩ = some (.int .i64 ((s.pr j).yes : Int)) := p4
  have hw1 : IntKind.i64.wrap (((s.pr j).yes : Int) + 1) = (((s.pr j).yes + 1 : Nat) : Int) := by
    rw [show (((s.pr j).yes : Int) + 1) = (((s.pr j).yes + 1 : Nat) : Int) from by omega]
    exact wrap_of ⟨by omega, by omega⟩
  have HEn := hidMk (enter_any M2 hj hn (by
    show (upd1 s.pr j { s.pr j with yes := (s.pr j).yes + 1 } j).yes ≤ 1000
    rw [upd1_same]
    show (s.pr j).yes + 1 ≤ 1000
    omega) (show s.ins.length ≤ 1000 from hin))
  have HS2 := hidMk (HS1.out.trans S2)
  clear M2 S2 p0 p1 p2 p3 p4 p5 pf d1 d2 df
  generalize hyv : (s.pr j).yes = yv at *
  generalize hyw : yv + 1 = yw at *
  go_wp2_with (go_at_call 20; refine (HEn.out).mono ?_; rintro e w3 ⟨rfl, h3, M3, S3⟩)
  go_end0
  refine ⟨rfl, h3, ?_, (HS2.out.trans S3).mono (by omega)⟩
  rw [HEq.out]
  have e9 : yesS (wayM s i j r) j = prM (wayM s i j r) j { (wayM s i j r).pr j with yes := yw } := by
    unfold yesS
    show prM (wayM s i j r) j { s.pr j with yes := (s.pr j).yes + 1 } = prM (wayM s i j r) j { s.pr j with yes := yw }
    rw [hyv, hyw]
  rw [e9]
  exact M3

set_option maxRecDepth 100000 in
set_option maxHeartbeats 8000000 in
theorem take_Ak (m : Mmov W mb n s h) {i j x g off : Nat} {r : List Nat} (hi : i < n) (hj : j < n) (hn : n ≤ 6) (hc : h.c < 99999) (hw : s.ways i j = x :: r) (hx : x ≠ 0) (hV : h.f i j = .slice (some ⟨g, off, none⟩) (r.length + 1) 1) (htg : h.t g = some (.wy i j)) (t0 : W.cell? ⟨g, off, none⟩ = some (.int .i64 (x : Int)))
    (hs : Seg W (fun g => h.t g = some (.wy i j)) 3 1 (.slice (some ⟨g, off, none⟩) r.length 0) r.length (natsL r))
    (hne : i ≠ j) (hl2 : (s.ways j i).length ≤ 1000) (hwl : (s.pr j).wait.length ≤ 1000) (hnum : (s.pr j).num ≤ 100000) (hxl : x ≤ 100000) (hst : (s.pr j).st ≤ 2) (hy : (s.pr j).yes < 1000) (hin : s.ins.length ≤ 1000) :
    Calls Try.prog 17 #[.pointer (some ⟨mb, 0, none⟩), .int .i64 (i : Int), .int .i64 (j : Int)] W fun e W2 => e = .returned (.tuple #[]) ∧ ∃ h2, Mmov W2 mb n (takeM n s i j) h2 ∧ MStp mb W h W2 h2 2 := by
  obtain ⟨c0, c1', c2, cf⟩ := m.cells
  have lk := m.look hi hj (by omega)
  rw [hV] at lk
  have hj' : (j : Int) < (n : Int) := by omega
  have hg : g ≠ h.M := fun e => by rw [e, m.tM] at htg; cases htg
  have HPop := hidMk (m.popWay hi hj hn (by omega) hs)
  have HEq := hidMk (show takeM n s i j = answerM (wayM s i j r) j x i from by unfold takeM; simp only [hw]; rw [if_neg hx])
  have hx0 : ((x : Int) == 0) = false := by rw [beq_eq_false_iff_ne]; omega
  clear m hs hV
  go_enter Try.func17, Try.ntmps17
  go_wp2_with (fail)
  refine wp_region_tail rfl (by kernel_rfl) (by kernel_rfl) (by kernel_rfl) (by kernel_rfl) (by kernel_rfl) rfl ?_
  simp only [List.dropLast]
  repeat (go_big_quiet_step (fail))
  refine wpQuiet_nil ?_
  rintro _ ⟨q, rfl⟩
  obtain ⟨W1, h1, hr1, M1, S1, _, K1⟩ := HPop.out q
  have t1 : W1.cell? ⟨g, off, none⟩ = some (.int .i64 (x : Int)) := (World.cell?_of_block (K1.block g (World.block_lt_of_cell? _ _ t0) hg)).trans t0
  have HM1 := hidMk M1
  have HS1 := hidMk S1
  have hc1 : h1.c ≤ h.c + 1 := S1.count
  clear M1 S1 K1 HPop c0 c1' c2 cf lk t0
  have HAn := hidMk (answer_any (s := wayM s i j r) (x := x) (j := i) HM1.out hj hi hn (by omega) (by
    show (upd2 s.ways i j r j i).length ≤ 1000
    rw [upd2_other _ _ (by omega)]; exact hl2) hwl hnum hxl hst)
  go_wp2_with (go_at_call 21; refine (HAn.out).mono ?_; rintro e w3 ⟨rfl, h3, M3, S3⟩)
  go_end0
  refine ⟨rfl, h3, ?_, HS1.out.trans S3⟩
  rw [HEq.out]
  exact M3

set_option maxRecDepth 100000 in
set_option maxHeartbeats 8000000 in
theorem take_By (m : Mmov W mb n s h) {i j x g off c1 : Nat} {r : List Nat} (hi : i < n) (hj : j < n) (hn : n ≤ 6) (hc : h.c < 99999) (hw : s.ways i j = x :: r) (hx : x = 0) (hV : h.f i j = .slice (some ⟨g, off, none⟩) (r.length + 1) (c1 + 2)) (htg : h.t g = some (.wy i j)) (t0 : W.cell? ⟨g, off, none⟩ = some (.int .i64 (x : Int)))
    (hs : Seg W (fun g => h.t g = some (.wy i j)) 3 1 (.slice (some ⟨g, off + 1, none⟩) r.length (c1 + 1)) r.length (natsL r))
    (hne : i ≠ j) (hl2 : (s.ways j i).length ≤ 1000) (hwl : (s.pr j).wait.length ≤ 1000) (hnum : (s.pr j).num ≤ 100000) (hxl : x ≤ 100000) (hst : (s.pr j).st ≤ 2) (hy : (s.pr j).yes < 1000) (hin : s.ins.length ≤ 1000) :
    Calls Try.prog 17 #[.pointer (some ⟨mb, 0, none⟩), .int .i64 (i : Int), .int .i64 (j : Int)] W fun e W2 => e = .returned (.tuple #[]) ∧ ∃ h2, Mmov W2 mb n (takeM n s i j) h2 ∧ MStp mb W h W2 h2 2 := by
  obtain ⟨c0, c1', c2, cf⟩ := m.cells
  have lk := m.look hi hj (by omega)
  rw [hV] at lk
  have hj' : (j : Int) < (n : Int) := by omega
  have hg : g ≠ h.M := fun e => by rw [e, m.tM] at htg; cases htg
  have HPop := hidMk (m.popWay hi hj hn (by omega) hs)
  have HEq := hidMk (show takeM n s i j = enterM n (yesS (wayM s i j r) j) j from by unfold takeM; simp only [hw]; rw [if_pos hx])
  subst hx
  clear m hs hV
  go_enter Try.func17, Try.ntmps17
  go_wp2_with (fail)
  refine wp_region_tail rfl (by kernel_rfl) (by kernel_rfl) (by kernel_rfl) (by kernel_rfl) (by kernel_rfl) rfl ?_
  simp only [List.dropLast]
  repeat (go_big_quiet_step (fail))
  refine wpQuiet_nil ?_
  rintro _ ⟨q, rfl⟩
  obtain ⟨W1, h1, hr1, M1, S1, _, K1⟩ := HPop.out q
  have t1 : W1.cell? ⟨g, off, none⟩ = some (.int .i64 0) := (World.cell?_of_block (K1.block g (World.block_lt_of_cell? _ _ t0) hg)).trans t0
  have HM1 := hidMk M1
  have HS1 := hidMk S1
  have hc1 : h1.c ≤ h.c + 1 := S1.count
  clear M1 S1 K1 HPop c0 c1' c2 cf lk t0
  obtain ⟨d0, d1, d2, df⟩ := HM1.out.cells
  obtain ⟨p0, p1, p2, p3, p4, p5, pf⟩ := HM1.out.proc hj
  have f4 := pf (j * 6 + 4)
  obtain ⟨M2, S2⟩ := HM1.out.setYes hj ((s.pr j).yes + 1)
  have p4' : W1.cell? ⟨h1.P, j * 6 + 4, none⟩ = some (.int .i64 ((s.pr j).yes : Int)) := p4
  have hw1 : IntKind.i64.wrap (((s.pr j).yes : Int) + 1) = (((s.pr j).yes + 1 : Nat) : Int) := by
    rw [show (((s.pr j).yes : Int) + 1) = (((s.pr j).yes + 1 : Nat) : Int) from by omega]
    exact wrap_of ⟨by omega, by omega⟩
  have HEn := hidMk (enter_any M2 hj hn (by
    show (upd1 s.pr j { s.pr j with yes := (s.pr j).yes + 1 } j).yes ≤ 1000
    rw [upd1_same]
    show (s.pr j).yes + 1 ≤ 1000
    omega) (show s.ins.length ≤ 1000 from hin))
  have HS2 := hidMk (HS1.out.trans S2)
  clear M2 S2 p0 p1 p2 p3 p4 p5 pf d1 d2 df
  generalize hyv : (s.pr j).yes = yv at *
  generalize hyw : yv + 1 = yw at *
  go_wp2_with (go_at_call 20; refine (HEn.out).mono ?_; rintro e w3 ⟨rfl, h3, M3, S3⟩)
  go_end0
  refine ⟨rfl, h3, ?_, (HS2.out.trans S3).mono (by omega)⟩
  rw [HEq.out]
  have e9 : yesS (wayM s i j r) j = prM (wayM s i j r) j { (wayM s i j r).pr j with yes := yw } := by
    unfold yesS
    show prM (wayM s i j r) j { s.pr j with yes := (s.pr j).yes + 1 } = prM (wayM s i j r) j { s.pr j with yes := yw }
    rw [hyv, hyw]
  rw [e9]
  exact M3

set_option maxRecDepth 100000 in
set_option maxHeartbeats 8000000 in
theorem take_Bk (m : Mmov W mb n s h) {i j x g off c1 : Nat} {r : List Nat} (hi : i < n) (hj : j < n) (hn : n ≤ 6) (hc : h.c < 99999) (hw : s.ways i j = x :: r) (hx : x ≠ 0) (hV : h.f i j = .slice (some ⟨g, off, none⟩) (r.length + 1) (c1 + 2)) (htg : h.t g = some (.wy i j)) (t0 : W.cell? ⟨g, off, none⟩ = some (.int .i64 (x : Int)))
    (hs : Seg W (fun g => h.t g = some (.wy i j)) 3 1 (.slice (some ⟨g, off + 1, none⟩) r.length (c1 + 1)) r.length (natsL r))
    (hne : i ≠ j) (hl2 : (s.ways j i).length ≤ 1000) (hwl : (s.pr j).wait.length ≤ 1000) (hnum : (s.pr j).num ≤ 100000) (hxl : x ≤ 100000) (hst : (s.pr j).st ≤ 2) (hy : (s.pr j).yes < 1000) (hin : s.ins.length ≤ 1000) :
    Calls Try.prog 17 #[.pointer (some ⟨mb, 0, none⟩), .int .i64 (i : Int), .int .i64 (j : Int)] W fun e W2 => e = .returned (.tuple #[]) ∧ ∃ h2, Mmov W2 mb n (takeM n s i j) h2 ∧ MStp mb W h W2 h2 2 := by
  obtain ⟨c0, c1', c2, cf⟩ := m.cells
  have lk := m.look hi hj (by omega)
  rw [hV] at lk
  have hj' : (j : Int) < (n : Int) := by omega
  have hg : g ≠ h.M := fun e => by rw [e, m.tM] at htg; cases htg
  have HPop := hidMk (m.popWay hi hj hn (by omega) hs)
  have HEq := hidMk (show takeM n s i j = answerM (wayM s i j r) j x i from by unfold takeM; simp only [hw]; rw [if_neg hx])
  have hx0 : ((x : Int) == 0) = false := by rw [beq_eq_false_iff_ne]; omega
  clear m hs hV
  go_enter Try.func17, Try.ntmps17
  go_wp2_with (fail)
  refine wp_region_tail rfl (by kernel_rfl) (by kernel_rfl) (by kernel_rfl) (by kernel_rfl) (by kernel_rfl) rfl ?_
  simp only [List.dropLast]
  repeat (go_big_quiet_step (fail))
  refine wpQuiet_nil ?_
  rintro _ ⟨q, rfl⟩
  obtain ⟨W1, h1, hr1, M1, S1, _, K1⟩ := HPop.out q
  have t1 : W1.cell? ⟨g, off, none⟩ = some (.int .i64 (x : Int)) := (World.cell?_of_block (K1.block g (World.block_lt_of_cell? _ _ t0) hg)).trans t0
  have HM1 := hidMk M1
  have HS1 := hidMk S1
  have hc1 : h1.c ≤ h.c + 1 := S1.count
  clear M1 S1 K1 HPop c0 c1' c2 cf lk t0
  have HAn := hidMk (answer_any (s := wayM s i j r) (x := x) (j := i) HM1.out hj hi hn (by omega) (by
    show (upd2 s.ways i j r j i).length ≤ 1000
    rw [upd2_other _ _ (by omega)]; exact hl2) hwl hnum hxl hst)
  go_wp2_with (go_at_call 21; refine (HAn.out).mono ?_; rintro e w3 ⟨rfl, h3, M3, S3⟩)
  go_end0
  refine ⟨rfl, h3, ?_, HS1.out.trans S3⟩
  rw [HEq.out]
  exact M3

theorem take_any (m : Mmov W mb n s h) {i j x : Nat} {r : List Nat} (hi : i < n) (hj : j < n) (hn : n ≤ 6) (hc : h.c < 99999) (hw : s.ways i j = x :: r)
    (hne : i ≠ j) (hl2 : (s.ways j i).length ≤ 1000) (hwl : (s.pr j).wait.length ≤ 1000) (hnum : (s.pr j).num ≤ 100000) (hxl : x ≤ 100000) (hst : (s.pr j).st ≤ 2) (hy : (s.pr j).yes < 1000) (hin : s.ins.length ≤ 1000) :
    Calls Try.prog 17 #[.pointer (some ⟨mb, 0, none⟩), .int .i64 (i : Int), .int .i64 (j : Int)] W fun e W2 => e = .returned (.tuple #[]) ∧ ∃ h2, Mmov W2 mb n (takeM n s i j) h2 ∧ MStp mb W h W2 h2 2 := by
  have hseg := m.wy hi hj
  have e : natsL (s.ways i j) = .int .i64 (x : Int) :: natsL r := by rw [hw]; rfl
  rw [e, hw, List.length_cons] at hseg
  obtain ⟨g, off, cap, hV, h1, h2, h3, h4, h5⟩ := hseg.tail
  by_cases hc1 : cap = 1
  · subst hc1
    rw [if_pos rfl] at h5
    by_cases hx : x = 0
    · exact take_Ay m hi hj hn hc hw hx hV h3 h4 h5 hne hl2 hwl hnum hxl hst hy hin
    · exact take_Ak m hi hj hn hc hw hx hV h3 h4 h5 hne hl2 hwl hnum hxl hst hy hin
  · obtain ⟨c1, rfl⟩ : ∃ c1, cap = c1 + 2 := ⟨cap - 2, by omega⟩
    rw [if_neg hc1] at h5
    by_cases hx : x = 0
    · exact take_By m hi hj hn hc hw hx hV h3 h4 h5 hne hl2 hwl hnum hxl hst hy hin
    · exact take_Bk m hi hj hn hc hw hx hV h3 h4 h5 hne hl2 hwl hnum hxl hst hy hin
end Go.Proofs.Ytaojmbebkggafaa
