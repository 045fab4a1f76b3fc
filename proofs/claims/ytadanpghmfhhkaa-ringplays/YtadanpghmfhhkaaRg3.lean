/- The ring's moves: take. -/
import Derived.Test.YtadanpghmfhhkaaRg2
import Derived.Deep.Cut
import Derived.Deep.CutRange
import Derived.Deep.CutBlock
namespace Go.Proofs.Ytadanpghmfhhkaa
open Go.RowKit
set_option linter.unusedVariables false

variable {W W2 : World} {mb n : Nat} {nm : Nat → Int} {s : GS} {h h2 : GSh}
set_option maxRecDepth 100000 in
set_option maxHeartbeats 4000000 in
theorem take_Ag (m : Gmv W mb n nm s h) {i g off : Nat} {x : Int} {r : List Int} (hi : i < n) (hn : n ≤ 6) (hw : (s.pr i).co = x :: r) (hx : nm i < x) (hV : h.qv i = .slice (some ⟨g, off, none⟩) (r.length + 1) 1) (t0 : W.cell? ⟨g, off, none⟩ = some (.int .i64 x))
    (hs : Seg W (fun g => h.t g = some (.co i)) 3 1 (.slice (some ⟨g, off, none⟩) r.length 0) r.length (intsG r)) (hco : ∀ j, (s.pr j).co.length ≤ 1000) (hse : s.sent ≤ 1000) (hch : s.ch.length ≤ 1000) :
    Calls Try.prog 22 #[.pointer (some ⟨mb, 0, none⟩), .int .i64 (i : Int)] W fun e W2 => e = .returned (.tuple #[]) ∧ ∃ h2, Gmv W2 mb n nm (takeG n nm s i) h2 ∧ GStp mb W h W2 h2 := by
  obtain ⟨i0, hit, hz0, hz1, hz2⟩ := info_parts cInfoInt
  obtain ⟨c0, c1', c2, cf⟩ := m.cells
  obtain ⟨p0, p1, p2, pf⟩ := m.proc hi
  have hi' : (i : Int) < (n : Int) := by omega
  rw [hV] at p2
  have f2 := pf (i * 3 + 2)
  have hT : Hid (takeG n nm s i = sendG n (coG s i r) i x) := by show _ = _; unfold takeG; simp only [hw]; rw [if_pos hx]
  have q1 : decide (nm i < x) = true := decide_eq_true hx
  obtain ⟨h1, hP1, M1, S1⟩ := m.popCo hi hs
  obtain ⟨d0, d1, d2, df⟩ := M1.cells
  obtain ⟨k0, k1, k2, kf⟩ := M1.proc hi
  rw [hP1] at k0 k1 d0
  have k1' : (W.setCell ⟨h.P, i * 3 + 2, none⟩ (.slice (some ⟨g, off, none⟩) r.length 0)).cell? ⟨h.P, i * 3 + 1, none⟩ = some (.bool (s.pr i).tp) := by
    rw [k1]; unfold coG; simp only [upd1_same]
  have hco1 : ∀ j, ((coG s i r).pr j).co.length ≤ 1000 := fun j => by
    rw [coG_len]
    have h1 := hco i
    have h2 := hco j
    rw [hw] at h1
    simp at h1
    split <;> omega
  have HM1 := hidMk M1
  have HS1 := hidMk S1
  have hrl : r.length ≤ 1000 := by have := hco i; rw [hw] at this; simp at this; omega
  have HD := hidMk (send_any HM1.out hi hn x hco1 hse)
  clear m M1 S1 hco hw hV hs pf cf kf df k1 k2 d2 hx d1
  generalize hgk : (W.setCell ⟨h.P, i * 3 + 2, none⟩ (.slice (some ⟨g, off, none⟩) r.length 0)) = w1 at *
  generalize r.length = rl at *
  go_enter Try.func22, Try.ntmps22
  go_wp2_with (fail)
  try rw [hgk]
  go_wp2_with (go_at_call 21; refine (HD.out).mono ?_; rintro e w3 ⟨rfl, h3, M3, S3⟩)
  go_end0
  exact ⟨rfl, h3, by rw [hT.out]; exact M3, HS1.out.trans S3⟩
set_option maxRecDepth 100000 in
set_option maxHeartbeats 4000000 in
theorem take_Ae (m : Gmv W mb n nm s h) {i g off : Nat} {x : Int} {r : List Int} (hi : i < n) (hn : n ≤ 6) (hw : (s.pr i).co = x :: r) (hx : x = nm i) (hV : h.qv i = .slice (some ⟨g, off, none⟩) (r.length + 1) 1) (t0 : W.cell? ⟨g, off, none⟩ = some (.int .i64 x))
    (hs : Seg W (fun g => h.t g = some (.co i)) 3 1 (.slice (some ⟨g, off, none⟩) r.length 0) r.length (intsG r)) (hco : ∀ j, (s.pr j).co.length ≤ 1000) (hse : s.sent ≤ 1000) (hch : s.ch.length ≤ 1000) :
    Calls Try.prog 22 #[.pointer (some ⟨mb, 0, none⟩), .int .i64 (i : Int)] W fun e W2 => e = .returned (.tuple #[]) ∧ ∃ h2, Gmv W2 mb n nm (takeG n nm s i) h2 ∧ GStp mb W h W2 h2 := by
  obtain ⟨i0, hit, hz0, hz1, hz2⟩ := info_parts cInfoInt
  obtain ⟨c0, c1', c2, cf⟩ := m.cells
  obtain ⟨p0, p1, p2, pf⟩ := m.proc hi
  have hi' : (i : Int) < (n : Int) := by omega
  rw [hV] at p2
  have f2 := pf (i * 3 + 2)
  have hT : Hid (takeG n nm s i = chG (coG s i r) i) := by show _ = _; unfold takeG; simp only [hw]; rw [if_neg (by omega), if_pos hx]
  have q1 : decide (nm i < x) = false := decide_eq_false (by omega)
  have q2 : (x == nm i) = true := by rw [beq_iff_eq]; exact hx
  obtain ⟨h1, hP1, M1, S1⟩ := m.popCo hi hs
  obtain ⟨d0, d1, d2, df⟩ := M1.cells
  obtain ⟨k0, k1, k2, kf⟩ := M1.proc hi
  rw [hP1] at k0 k1 d0
  have k1' : (W.setCell ⟨h.P, i * 3 + 2, none⟩ (.slice (some ⟨g, off, none⟩) r.length 0)).cell? ⟨h.P, i * 3 + 1, none⟩ = some (.bool (s.pr i).tp) := by
    rw [k1]; unfold coG; simp only [upd1_same]
  have hco1 : ∀ j, ((coG s i r).pr j).co.length ≤ 1000 := fun j => by
    rw [coG_len]
    have h1 := hco i
    have h2 := hco j
    rw [hw] at h1
    simp at h1
    split <;> omega
  have HM1 := hidMk M1
  have HS1 := hidMk S1
  have hrl : r.length ≤ 1000 := by have := hco i; rw [hw] at this; simp at this; omega
  have hseg := M1.chosen
  obtain ⟨sa, sc, et⟩ := segForm hseg
  rw [et] at d1 hseg
  have HET := hidMk et
  have hcl : (coG s i r).ch.length ≤ 1000 := hch
  have f1 := df 1
  generalize hln : (coG s i r).ch.length = ln at *
  have HLn := hidMk hln
  have HG := hidMk hseg
  clear hseg et hln
  clear m M1 S1 hco hw hV hs pf cf kf df k1 k2 d2 hx
  generalize hgk : (W.setCell ⟨h.P, i * 3 + 2, none⟩ (.slice (some ⟨g, off, none⟩) r.length 0)) = w1 at *
  generalize r.length = rl at *
  go_enter Try.func22, Try.ntmps22
  go_upto_region 6 with fail
  clear hgk
  go_wp2_with (at_builtin; refine wpList_append_seg _ rfl _ _ 22 rfl 3 i0 (.int .i64 0) 1 8 Try.underlying22 hit hz0 hz1 hz2 rfl (by decide) (.slice sa ln sc) ln (natsL (coG s i r).ch) rfl (segAlloc HG.out _) ⟨w1.heap.size, 0, none⟩ 1 1 [.int .i64 (i : Int)] rfl rfl (cCell1 w1 (.int .i64 (i : Int)) 3 _ rfl) (cOne _) (by unfold maxLen; omega) (by omega) ?_)
  intro v3 w3 hs3 hg3
  obtain ⟨a3, c3, rfl⟩ := segForm hs3
  obtain ⟨g1, g2, HM4⟩ := HM1.out.pushCh (x := i) (wa := w1.alloc (.cells #[.int .i64 (i : Int)] 3)) (Stil.new w1 _) (by rw [HET.out, HLn.out]; exact hs3.mono (fun g _ e => by simpa using e)) (by rw [HET.out]; exact hg3)
  have HM5 := hidMk HM4
  clear hs3 hg3 HM4 d1
  go_wp2
  go_end0
  obtain ⟨h5, M5, S5⟩ := HM5.out
  exact ⟨rfl, h5, by rw [hT.out]; exact M5, HS1.out.trans S5⟩
set_option maxRecDepth 100000 in
set_option maxHeartbeats 4000000 in
theorem take_Ap (m : Gmv W mb n nm s h) {i g off : Nat} {x : Int} {r : List Int} (hi : i < n) (hn : n ≤ 6) (hw : (s.pr i).co = x :: r) (hx : x < nm i) (htp : (s.pr i).tp = true) (hV : h.qv i = .slice (some ⟨g, off, none⟩) (r.length + 1) 1) (t0 : W.cell? ⟨g, off, none⟩ = some (.int .i64 x))
    (hs : Seg W (fun g => h.t g = some (.co i)) 3 1 (.slice (some ⟨g, off, none⟩) r.length 0) r.length (intsG r)) (hco : ∀ j, (s.pr j).co.length ≤ 1000) (hse : s.sent ≤ 1000) (hch : s.ch.length ≤ 1000) :
    Calls Try.prog 22 #[.pointer (some ⟨mb, 0, none⟩), .int .i64 (i : Int)] W fun e W2 => e = .returned (.tuple #[]) ∧ ∃ h2, Gmv W2 mb n nm (takeG n nm s i) h2 ∧ GStp mb W h W2 h2 := by
  obtain ⟨i0, hit, hz0, hz1, hz2⟩ := info_parts cInfoInt
  obtain ⟨c0, c1', c2, cf⟩ := m.cells
  obtain ⟨p0, p1, p2, pf⟩ := m.proc hi
  have hi' : (i : Int) < (n : Int) := by omega
  rw [hV] at p2
  have f2 := pf (i * 3 + 2)
  have hT : Hid (takeG n nm s i = coG s i r) := by show _ = _; unfold takeG; simp only [hw]; rw [if_neg (by omega), if_neg (by omega), if_pos htp]
  have q1 : decide (nm i < x) = false := decide_eq_false (by omega)
  have q2 : (x == nm i) = false := by rw [beq_eq_false_iff_ne]; omega
  obtain ⟨h1, hP1, M1, S1⟩ := m.popCo hi hs
  obtain ⟨d0, d1, d2, df⟩ := M1.cells
  obtain ⟨k0, k1, k2, kf⟩ := M1.proc hi
  rw [hP1] at k0 k1 d0
  have k1' : (W.setCell ⟨h.P, i * 3 + 2, none⟩ (.slice (some ⟨g, off, none⟩) r.length 0)).cell? ⟨h.P, i * 3 + 1, none⟩ = some (.bool (s.pr i).tp) := by
    rw [k1]; unfold coG; simp only [upd1_same]
  have hco1 : ∀ j, ((coG s i r).pr j).co.length ≤ 1000 := fun j => by
    rw [coG_len]
    have h1 := hco i
    have h2 := hco j
    rw [hw] at h1
    simp at h1
    split <;> omega
  have HM1 := hidMk M1
  have HS1 := hidMk S1
  have hrl : r.length ≤ 1000 := by have := hco i; rw [hw] at this; simp at this; omega
  rw [htp] at k1'
  clear m M1 S1 hco hw hV hs pf cf kf df k1 k2 d2 hx htp d1
  generalize hgk : (W.setCell ⟨h.P, i * 3 + 2, none⟩ (.slice (some ⟨g, off, none⟩) r.length 0)) = w1 at *
  generalize r.length = rl at *
  go_enter Try.func22, Try.ntmps22
  go_wp2_with (fail)
  try rw [hgk]
  go_wp2_with (fail)
  go_end0
  exact ⟨rfl, h1, by rw [hT.out]; first | exact HM1.out | (rw [hgk]; exact HM1.out), by first | exact HS1.out | (rw [hgk]; exact HS1.out)⟩
set_option maxRecDepth 100000 in
set_option maxHeartbeats 4000000 in
theorem take_An (m : Gmv W mb n nm s h) {i g off : Nat} {x : Int} {r : List Int} (hi : i < n) (hn : n ≤ 6) (hw : (s.pr i).co = x :: r) (hx : x < nm i) (htp : (s.pr i).tp = false) (hV : h.qv i = .slice (some ⟨g, off, none⟩) (r.length + 1) 1) (t0 : W.cell? ⟨g, off, none⟩ = some (.int .i64 x))
    (hs : Seg W (fun g => h.t g = some (.co i)) 3 1 (.slice (some ⟨g, off, none⟩) r.length 0) r.length (intsG r)) (hco : ∀ j, (s.pr j).co.length ≤ 1000) (hse : s.sent ≤ 1000) (hch : s.ch.length ≤ 1000) :
    Calls Try.prog 22 #[.pointer (some ⟨mb, 0, none⟩), .int .i64 (i : Int)] W fun e W2 => e = .returned (.tuple #[]) ∧ ∃ h2, Gmv W2 mb n nm (takeG n nm s i) h2 ∧ GStp mb W h W2 h2 := by
  obtain ⟨i0, hit, hz0, hz1, hz2⟩ := info_parts cInfoInt
  obtain ⟨c0, c1', c2, cf⟩ := m.cells
  obtain ⟨p0, p1, p2, pf⟩ := m.proc hi
  have hi' : (i : Int) < (n : Int) := by omega
  rw [hV] at p2
  have f2 := pf (i * 3 + 2)
  have hT : Hid (takeG n nm s i = sendG n (coG s i r) i (nm i)) := by show _ = _; unfold takeG; simp only [hw]; rw [if_neg (by omega), if_neg (by omega), if_neg (by rw [htp]; simp)]
  have q1 : decide (nm i < x) = false := decide_eq_false (by omega)
  have q2 : (x == nm i) = false := by rw [beq_eq_false_iff_ne]; omega
  obtain ⟨h1, hP1, M1, S1⟩ := m.popCo hi hs
  obtain ⟨d0, d1, d2, df⟩ := M1.cells
  obtain ⟨k0, k1, k2, kf⟩ := M1.proc hi
  rw [hP1] at k0 k1 d0
  have k1' : (W.setCell ⟨h.P, i * 3 + 2, none⟩ (.slice (some ⟨g, off, none⟩) r.length 0)).cell? ⟨h.P, i * 3 + 1, none⟩ = some (.bool (s.pr i).tp) := by
    rw [k1]; unfold coG; simp only [upd1_same]
  have hco1 : ∀ j, ((coG s i r).pr j).co.length ≤ 1000 := fun j => by
    rw [coG_len]
    have h1 := hco i
    have h2 := hco j
    rw [hw] at h1
    simp at h1
    split <;> omega
  have HM1 := hidMk M1
  have HS1 := hidMk S1
  have hrl : r.length ≤ 1000 := by have := hco i; rw [hw] at this; simp at this; omega
  rw [htp] at k1'
  have HD := hidMk (send_any HM1.out hi hn (nm i) hco1 hse)
  clear m M1 S1 hco hw hV hs pf cf kf df k1 k2 d2 hx htp d1
  generalize hgk : (W.setCell ⟨h.P, i * 3 + 2, none⟩ (.slice (some ⟨g, off, none⟩) r.length 0)) = w1 at *
  generalize r.length = rl at *
  go_enter Try.func22, Try.ntmps22
  go_wp2_with (fail)
  try rw [hgk]
  go_wp2_with (go_at_call 21; refine (HD.out).mono ?_; rintro e w3 ⟨rfl, h3, M3, S3⟩)
  go_end0
  exact ⟨rfl, h3, by rw [hT.out]; exact M3, HS1.out.trans S3⟩
set_option maxRecDepth 100000 in
set_option maxHeartbeats 4000000 in
theorem take_Bg (m : Gmv W mb n nm s h) {i g off c1 : Nat} {x : Int} {r : List Int} (hi : i < n) (hn : n ≤ 6) (hw : (s.pr i).co = x :: r) (hx : nm i < x) (hV : h.qv i = .slice (some ⟨g, off, none⟩) (r.length + 1) (c1 + 2)) (t0 : W.cell? ⟨g, off, none⟩ = some (.int .i64 x))
    (hs : Seg W (fun g => h.t g = some (.co i)) 3 1 (.slice (some ⟨g, off + 1, none⟩) r.length (c1 + 1)) r.length (intsG r)) (hco : ∀ j, (s.pr j).co.length ≤ 1000) (hse : s.sent ≤ 1000) (hch : s.ch.length ≤ 1000) :
    Calls Try.prog 22 #[.pointer (some ⟨mb, 0, none⟩), .int .i64 (i : Int)] W fun e W2 => e = .returned (.tuple #[]) ∧ ∃ h2, Gmv W2 mb n nm (takeG n nm s i) h2 ∧ GStp mb W h W2 h2 := by
  obtain ⟨i0, hit, hz0, hz1, hz2⟩ := info_parts cInfoInt
  obtain ⟨c0, c1', c2, cf⟩ := m.cells
  obtain ⟨p0, p1, p2, pf⟩ := m.proc hi
  have hi' : (i : Int) < (n : Int) := by omega
  rw [hV] at p2
  have f2 := pf (i * 3 + 2)
  have hT : Hid (takeG n nm s i = sendG n (coG s i r) i x) := by show _ = _; unfold takeG; simp only [hw]; rw [if_pos hx]
  have q1 : decide (nm i < x) = true := decide_eq_true hx
  obtain ⟨h1, hP1, M1, S1⟩ := m.popCo hi hs
  obtain ⟨d0, d1, d2, df⟩ := M1.cells
  obtain ⟨k0, k1, k2, kf⟩ := M1.proc hi
  rw [hP1] at k0 k1 d0
  have k1' : (W.setCell ⟨h.P, i * 3 + 2, none⟩ (.slice (some ⟨g, off + 1, none⟩) r.length (c1 + 1))).cell? ⟨h.P, i * 3 + 1, none⟩ = some (.bool (s.pr i).tp) := by
    rw [k1]; unfold coG; simp only [upd1_same]
  have hco1 : ∀ j, ((coG s i r).pr j).co.length ≤ 1000 := fun j => by
    rw [coG_len]
    have h1 := hco i
    have h2 := hco j
    rw [hw] at h1
    simp at h1
    split <;> omega
  have HM1 := hidMk M1
  have HS1 := hidMk S1
  have hrl : r.length ≤ 1000 := by have := hco i; rw [hw] at this; simp at this; omega
  have HD := hidMk (send_any HM1.out hi hn x hco1 hse)
  clear m M1 S1 hco hw hV hs pf cf kf df k1 k2 d2 hx d1
  generalize hgk : (W.setCell ⟨h.P, i * 3 + 2, none⟩ (.slice (some ⟨g, off + 1, none⟩) r.length (c1 + 1))) = w1 at *
  generalize r.length = rl at *
  go_enter Try.func22, Try.ntmps22
  go_wp2_with (fail)
  try rw [hgk]
  go_wp2_with (go_at_call 21; refine (HD.out).mono ?_; rintro e w3 ⟨rfl, h3, M3, S3⟩)
  go_end0
  exact ⟨rfl, h3, by rw [hT.out]; exact M3, HS1.out.trans S3⟩
set_option maxRecDepth 100000 in
set_option maxHeartbeats 4000000 in
theorem take_Be (m : Gmv W mb n nm s h) {i g off c1 : Nat} {x : Int} {r : List Int} (hi : i < n) (hn : n ≤ 6) (hw : (s.pr i).co = x :: r) (hx : x = nm i) (hV : h.qv i = .slice (some ⟨g, off, none⟩) (r.length + 1) (c1 + 2)) (t0 : W.cell? ⟨g, off, none⟩ = some (.int .i64 x))
    (hs : Seg W (fun g => h.t g = some (.co i)) 3 1 (.slice (some ⟨g, off + 1, none⟩) r.length (c1 + 1)) r.length (intsG r)) (hco : ∀ j, (s.pr j).co.length ≤ 1000) (hse : s.sent ≤ 1000) (hch : s.ch.length ≤ 1000) :
    Calls Try.prog 22 #[.pointer (some ⟨mb, 0, none⟩), .int .i64 (i : Int)] W fun e W2 => e = .returned (.tuple #[]) ∧ ∃ h2, Gmv W2 mb n nm (takeG n nm s i) h2 ∧ GStp mb W h W2 h2 := by
  obtain ⟨i0, hit, hz0, hz1, hz2⟩ := info_parts cInfoInt
  obtain ⟨c0, c1', c2, cf⟩ := m.cells
  obtain ⟨p0, p1, p2, pf⟩ := m.proc hi
  have hi' : (i : Int) < (n : Int) := by omega
  rw [hV] at p2
  have f2 := pf (i * 3 + 2)
  have hT : Hid (takeG n nm s i = chG (coG s i r) i) := by show _ = _; unfold takeG; simp only [hw]; rw [if_neg (by omega), if_pos hx]
  have q1 : decide (nm i < x) = false := decide_eq_false (by omega)
  have q2 : (x == nm i) = true := by rw [beq_iff_eq]; exact hx
  obtain ⟨h1, hP1, M1, S1⟩ := m.popCo hi hs
  obtain ⟨d0, d1, d2, df⟩ := M1.cells
  obtain ⟨k0, k1, k2, kf⟩ := M1.proc hi
  rw [hP1] at k0 k1 d0
  have k1' : (W.setCell ⟨h.P, i * 3 + 2, none⟩ (.slice (some ⟨g, off + 1, none⟩) r.length (c1 + 1))).cell? ⟨h.P, i * 3 + 1, none⟩ = some (.bool (s.pr i).tp) := by
    rw [k1]; unfold coG; simp only [upd1_same]
  have hco1 : ∀ j, ((coG s i r).pr j).co.length ≤ 1000 := fun j => by
    rw [coG_len]
    have h1 := hco i
    have h2 := hco j
    rw [hw] at h1
    simp at h1
    split <;> omega
  have HM1 := hidMk M1
  have HS1 := hidMk S1
  have hrl : r.length ≤ 1000 := by have := hco i; rw [hw] at this; simp at this; omega
  have hseg := M1.chosen
  obtain ⟨sa, sc, et⟩ := segForm hseg
  rw [et] at d1 hseg
  have HET := hidMk et
  have hcl : (coG s i r).ch.length ≤ 1000 := hch
  have f1 := df 1
  generalize hln : (coG s i r).ch.length = ln at *
  have HLn := hidMk hln
  have HG := hidMk hseg
  clear hseg et hln
  clear m M1 S1 hco hw hV hs pf cf kf df k1 k2 d2 hx
  generalize hgk : (W.setCell ⟨h.P, i * 3 + 2, none⟩ (.slice (some ⟨g, off + 1, none⟩) r.length (c1 + 1))) = w1 at *
  generalize r.length = rl at *
  go_enter Try.func22, Try.ntmps22
  go_upto_region 6 with fail
  clear hgk
  go_wp2_with (at_builtin; refine wpList_append_seg _ rfl _ _ 22 rfl 3 i0 (.int .i64 0) 1 8 Try.underlying22 hit hz0 hz1 hz2 rfl (by decide) (.slice sa ln sc) ln (natsL (coG s i r).ch) rfl (segAlloc HG.out _) ⟨w1.heap.size, 0, none⟩ 1 1 [.int .i64 (i : Int)] rfl rfl (cCell1 w1 (.int .i64 (i : Int)) 3 _ rfl) (cOne _) (by unfold maxLen; omega) (by omega) ?_)
  intro v3 w3 hs3 hg3
  obtain ⟨a3, c3, rfl⟩ := segForm hs3
  obtain ⟨g1, g2, HM4⟩ := HM1.out.pushCh (x := i) (wa := w1.alloc (.cells #[.int .i64 (i : Int)] 3)) (Stil.new w1 _) (by rw [HET.out, HLn.out]; exact hs3.mono (fun g _ e => by simpa using e)) (by rw [HET.out]; exact hg3)
  have HM5 := hidMk HM4
  clear hs3 hg3 HM4 d1
  go_wp2
  go_end0
  obtain ⟨h5, M5, S5⟩ := HM5.out
  exact ⟨rfl, h5, by rw [hT.out]; exact M5, HS1.out.trans S5⟩
set_option maxRecDepth 100000 in
set_option maxHeartbeats 4000000 in
theorem take_Bp (m : Gmv W mb n nm s h) {i g off c1 : Nat} {x : Int} {r : List Int} (hi : i < n) (hn : n ≤ 6) (hw : (s.pr i).co = x :: r) (hx : x < nm i) (htp : (s.pr i).tp = true) (hV : h.qv i = .slice (some ⟨g, off, none⟩) (r.length + 1) (c1 + 2)) (t0 : W.cell? ⟨g, off, none⟩ = some (.int .i64 x))
    (hs : Seg W (fun g => h.t g = some (.co i)) 3 1 (.slice (some ⟨g, off + 1, none⟩) r.length (c1 + 1)) r.length (intsG r)) (hco : ∀ j, (s.pr j).co.length ≤ 1000) (hse : s.sent ≤ 1000) (hch : s.ch.length ≤ 1000) :
    Calls Try.prog 22 #[.pointer (some ⟨mb, 0, none⟩), .int .i64 (i : Int)] W fun e W2 => e = .returned (.tuple #[]) ∧ ∃ h2, Gmv W2 mb n nm (takeG n nm s i) h2 ∧ GStp mb W h W2 h2 := by
  obtain ⟨i0, hit, hz0, hz1, hz2⟩ := info_parts cInfoInt
  obtain ⟨c0, c1', c2, cf⟩ := m.cells
  obtain ⟨p0, p1, p2, pf⟩ := m.proc hi
  have hi' : (i : Int) < (n : Int) := by omega
  rw [hV] at p2
  have f2 := pf (i * 3 + 2)
  have hT : Hid (takeG n nm s i = coG s i r) := by show _ = _; unfold takeG; simp only [hw]; rw [if_neg (by omega), if_neg (by omega), if_pos htp]
  have q1 : decide (nm i < x) = false := decide_eq_false (by omega)
  have q2 : (x == nm i) = false := by rw [beq_eq_false_iff_ne]; omega
  obtain ⟨h1, hP1, M1, S1⟩ := m.popCo hi hs
  obtain ⟨d0, d1, d2, df⟩ := M1.cells
  obtain ⟨k0, k1, k2, kf⟩ := M1.proc hi
  rw [hP1] at k0 k1 d0
  have k1' : (W.setCell ⟨h.P, i * 3 + 2, none⟩ (.slice (some ⟨g, off + 1, none⟩) r.length (c1 + 1))).cell? ⟨h.P, i * 3 + 1, none⟩ = some (.bool (s.pr i).tp) := by
    rw [k1]; unfold coG; simp only [upd1_same]
  have hco1 : ∀ j, ((coG s i r).pr j).co.length ≤ 1000 := fun j => by
    rw [coG_len]
    have h1 := hco i
    have h2 := hco j
    rw [hw] at h1
    simp at h1
    split <;> omega
  have HM1 := hidMk M1
  have HS1 := hidMk S1
  have hrl : r.length ≤ 1000 := by have := hco i; rw [hw] at this; simp at this; omega
  rw [htp] at k1'
  clear m M1 S1 hco hw hV hs pf cf kf df k1 k2 d2 hx htp d1
  generalize hgk : (W.setCell ⟨h.P, i * 3 + 2, none⟩ (.slice (some ⟨g, off + 1, none⟩) r.length (c1 + 1))) = w1 at *
  generalize r.length = rl at *
  go_enter Try.func22, Try.ntmps22
  go_wp2_with (fail)
  try rw [hgk]
  go_wp2_with (fail)
  go_end0
  exact ⟨rfl, h1, by rw [hT.out]; first | exact HM1.out | (rw [hgk]; exact HM1.out), by first | exact HS1.out | (rw [hgk]; exact HS1.out)⟩
set_option maxRecDepth 100000 in
set_option maxHeartbeats 4000000 in
theorem take_Bn (m : Gmv W mb n nm s h) {i g off c1 : Nat} {x : Int} {r : List Int} (hi : i < n) (hn : n ≤ 6) (hw : (s.pr i).co = x :: r) (hx : x < nm i) (htp : (s.pr i).tp = false) (hV : h.qv i = .slice (some ⟨g, off, none⟩) (r.length + 1) (c1 + 2)) (t0 : W.cell? ⟨g, off, none⟩ = some (.int .i64 x))
    (hs : Seg W (fun g => h.t g = some (.co i)) 3 1 (.slice (some ⟨g, off + 1, none⟩) r.length (c1 + 1)) r.length (intsG r)) (hco : ∀ j, (s.pr j).co.length ≤ 1000) (hse : s.sent ≤ 1000) (hch : s.ch.length ≤ 1000) :
    Calls Try.prog 22 #[.pointer (some ⟨mb, 0, none⟩), .int .i64 (i : Int)] W fun e W2 => e = .returned (.tuple #[]) ∧ ∃ h2, Gmv W2 mb n nm (takeG n nm s i) h2 ∧ GStp mb W h W2 h2 := by
  obtain ⟨i0, hit, hz0, hz1, hz2⟩ := info_parts cInfoInt
  obtain ⟨c0, c1', c2, cf⟩ := m.cells
  obtain ⟨p0, p1, p2, pf⟩ := m.proc hi
  have hi' : (i : Int) < (n : Int) := by omega
  rw [hV] at p2
  have f2 := pf (i * 3 + 2)
  have hT : Hid (takeG n nm s i = sendG n (coG s i r) i (nm i)) := by show _ = _; unfold takeG; simp only [hw]; rw [if_neg (by omega), if_neg (by omega), if_neg (by rw [htp]; simp)]
  have q1 : decide (nm i < x) = false := decide_eq_false (by omega)
  have q2 : (x == nm i) = false := by rw [beq_eq_false_iff_ne]; omega
  obtain ⟨h1, hP1, M1, S1⟩ := m.popCo hi hs
  obtain ⟨d0, d1, d2, df⟩ := M1.cells
  obtain ⟨k0, k1, k2, kf⟩ := M1.proc hi
  rw [hP1] at k0 k1 d0
  have k1' : (W.setCell ⟨h.P, i * 3 + 2, none⟩ (.slice (some ⟨g, off + 1, none⟩) r.length (c1 + 1))).cell? ⟨h.P, i * 3 + 1, none⟩ = some (.bool (s.pr i).tp) := by
    rw [k1]; unfold coG; simp only [upd1_same]
  have hco1 : ∀ j, ((coG s i r).pr j).co.length ≤ 1000 := fun j => by
    rw [coG_len]
    have h1 := hco i
    have h2 := hco j
    rw [hw] at h1
    simp at h1
    split <;> omega
  have HM1 := hidMk M1
  have HS1 := hidMk S1
  have hrl : r.length ≤ 1000 := by have := hco i; rw [hw] at this; simp at this; omega
  rw [htp] at k1'
  have HD := hidMk (send_any HM1.out hi hn (nm i) hco1 hse)
  clear m M1 S1 hco hw hV hs pf cf kf df k1 k2 d2 hx htp d1
  generalize hgk : (W.setCell ⟨h.P, i * 3 + 2, none⟩ (.slice (some ⟨g, off + 1, none⟩) r.length (c1 + 1))) = w1 at *
  generalize r.length = rl at *
  go_enter Try.func22, Try.ntmps22
  go_wp2_with (fail)
  try rw [hgk]
  go_wp2_with (go_at_call 21; refine (HD.out).mono ?_; rintro e w3 ⟨rfl, h3, M3, S3⟩)
  go_end0
  exact ⟨rfl, h3, by rw [hT.out]; exact M3, HS1.out.trans S3⟩
theorem take_any (m : Gmv W mb n nm s h) {i : Nat} (hi : i < n) (hn : n ≤ 6) (hne : (s.pr i).co ≠ []) (hco : ∀ j, (s.pr j).co.length ≤ 1000) (hse : s.sent ≤ 1000) (hch : s.ch.length ≤ 1000) :
    Calls Try.prog 22 #[.pointer (some ⟨mb, 0, none⟩), .int .i64 (i : Int)] W fun e W2 => e = .returned (.tuple #[]) ∧ ∃ h2, Gmv W2 mb n nm (takeG n nm s i) h2 ∧ GStp mb W h W2 h2 := by
  obtain ⟨x, r, hw⟩ : ∃ x r, (s.pr i).co = x :: r := by
    cases hc : (s.pr i).co with
    | nil => exact absurd hc hne
    | cons x r => exact ⟨x, r, rfl⟩
  have hseg := m.co hi
  have e : intsG (s.pr i).co = .int .i64 x :: intsG r := by rw [hw]; rfl
  rw [e, hw, List.length_cons] at hseg
  obtain ⟨g, off, cap, hV, h1, h2, h3, h4, h5⟩ := hseg.tailG
  rcases Int.lt_trichotomy (nm i) x with hx | hx | hx
  all_goals
    by_cases hc1 : cap = 1
    · rw [if_pos hc1] at h5
      subst hc1
      first
        | exact take_Ag m hi hn hw hx hV h4 h5 hco hse hch
        | exact take_Ae m hi hn hw hx.symm hV h4 h5 hco hse hch
        | (cases htp : (s.pr i).tp with
           | true => exact take_Ap m hi hn hw hx htp hV h4 h5 hco hse hch
           | false => exact take_An m hi hn hw hx htp hV h4 h5 hco hse hch)
    · rw [if_neg hc1] at h5
      obtain ⟨c1, rfl⟩ : ∃ c1, cap = c1 + 2 := ⟨cap - 2, by omega⟩
      first
        | exact take_Bg m hi hn hw hx hV h4 h5 hco hse hch
        | exact take_Be m hi hn hw hx.symm hV h4 h5 hco hse hch
        | (cases htp : (s.pr i).tp with
           | true => exact take_Bp m hi hn hw hx htp hV h4 h5 hco hse hch
           | false => exact take_Bn m hi hn hw hx htp hV h4 h5 hco hse hch)
end Go.Proofs.Ytadanpghmfhhkaa
