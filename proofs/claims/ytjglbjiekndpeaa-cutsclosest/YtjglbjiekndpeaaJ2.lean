/- Contract of folkmootref.Before: the table of what is before what. -/
import Derived.Test.YtjglbjiekndpeaaJ1
import Derived.Test.YtjglbjiekndpeaaI3
namespace Go.Proofs.Ytjglbjiekndpeaa
open Go.RowKit Go.Shelf
set_option linter.unusedVariables false

theorem Try.info4 : (Try.prog.info? 4).map (fun i => (i.zero, i.size, i.bytes)) = some (some (.bool false), 1, 1) := by kernel_rfl
theorem make_bools (m : Nat) (hm : m ≤ 10000) (W : World) : (Instr.makeSlice 45 (.int .i64 (m : Int)) (.int .i64 (m : Int))).run Try.prog W = .ok (.slice (some ⟨W.heap.size, 0, none⟩) m m) (W.alloc (.cells (madeCells #[.bool false] m) 4)) := by
  obtain ⟨i0, hi, hz0, hz1, hz2⟩ := info_parts Try.info4
  have h := run_makeSlice (P := Try.prog) W 45 4 i0 _ Try.underlying45 hi hz0 .i64 .i64 (m : Int) (m : Int) (by omega) (Int.le_refl _) (by rw [hz1]; simp; omega) (by rw [hz2]; omega) (by omega)
  rw [hz1] at h
  simpa [Value.cells] using h
theorem made_false (n : Nat) : (madeCells #[Value.bool false] (n * n)).toList = (tab n fun _ _ => false).map Value.bool := by
  simp only [madeCells, tab, Array.toList_map, Array.toList_range, List.map_map]
  apply List.map_congr_left
  intro k _
  have e : k % 1 = 0 := Nat.mod_one k
  simp [e]

/-- A table that a call made. -/
abbrev Tab (W : World) (base g n : Nat) (M : Nat → Nat → Bool) : Prop := W.ownsRow base 4 1 (.slice (some ⟨g, 0, none⟩) (n * n) (n * n)) (n * n) ((tab n M).map Value.bool)
theorem Tab.cell {W : World} {base g n : Nat} {M : Nat → Nat → Bool} (h : Tab W base g n M) {i j : Nat} (hi : i < n) (hj : j < n) : W.cell? ⟨g, i * n + j, none⟩ = some (.bool (M i j)) := by
  rw [World.ownsRow.cellAt h _ (by rw [Nat.mul_one]; exact at_lt hi hj), List.getElem?_map, tab_at hi hj]; rfl
theorem Tab.put {W : World} {base g n : Nat} {M : Nat → Nat → Bool} (h : Tab W base g n M) {i j : Nat} (hi : i < n) (hj : j < n) : Tab (W.setCell ⟨g, i * n + j, none⟩ (.bool true)) base g n (put2 M i j) ∧ W.grownBy (W.setCell ⟨g, i * n + j, none⟩ (.bool true)) (some g) := by
  have := World.ownsRow.stored h (i * n + j) (.bool true)
  rwa [← List.map_set, tab_set hi hj] at this
theorem Tab.same {W : World} {base g n : Nat} {M M2 : Nat → Nat → Bool} (h : Tab W base g n M) (e : tab n M = tab n M2) : Tab W base g n M2 := by unfold Tab at *; rw [← e]; exact h

theorem taken_iff {es : List Ev} {j i : Nat} {e : Ev} (he : es[j]? = some e) (h3 : e.kind = 3 → 0 ≤ e.of) : (takenAt es j == some i) = (e.kind == 3 && e.of == (i : Int)) := by
  unfold takenAt
  rw [he]
  dsimp only
  by_cases hk : e.kind = 3
  · rw [if_pos hk, hk]
    have := h3 hk
    rw [Bool.eq_iff_iff]
    simp
    omega
  · rw [if_neg hk]
    simp [hk]

set_option maxRecDepth 100000 in
set_option maxHeartbeats 4000000 in
theorem refBefore_row (n b off cap : Nat) (es : List Ev) (w : World) (N : Int) (hl : es.length = n) (hv : Valid N es) (hq : EvRow w b off es) :
    Calls Try.prog 29 #[.slice (some ⟨b, off, none⟩) n cap] w fun e w2 => (∃ g, e = .returned (.slice (some ⟨g, 0, none⟩) (n * n) (n * n)) ∧ Tab w2 w.heap.size g n (befB es)) ∧ Below w.heap.size w w2 := by
  have hn60 : n ≤ 60 := by have := hv.2.2.1; omega
  have hn60' : (n : Int) ≤ 60 := by omega
  have hnn : n * n ≤ 3600 := Nat.mul_le_mul hn60 hn60
  have hmk := make_bools (n * n) (by omega)
  have hnc : ((n * n : Nat) : Int) = (n : Int) * (n : Int) := by simp
  rw [hnc] at hmk
  have hnn' : (n : Int) * (n : Int) ≤ 3600 := by rw [← hnc]; omega
  have hnn0 : 0 ≤ (n : Int) * (n : Int) := by rw [← hnc]; omega
  have HL := hidMk hl
  have HV := hidMk hv
  have HQ := hidMk hq
  have HFW : Hid (tab n (fw es n) = tab n (befB es)) := tab_congr fun a b _ hb => by rw [← hl]; exact fw_is hv (by omega)
  clear hl hv hq hnc
  go_enter Try.func29, Try.ntmps29
  go_wp2
  have hT0 : Tab (w.alloc (.cells (madeCells #[.bool false] (n * n)) 4)) w.heap.size w.heap.size n (t1 es 0 0) := by
    have h0 := World.ownsRow_lit (e := 4) (size := 1) (base := w.heap.size) w (madeCells #[.bool false] (n * n)) (n * n) (Nat.le_refl _) (by unfold maxLen; omega) (by rw [size_madeCells]; omega)
    rw [made_false, ← t1_zero] at h0
    exact h0
  go_loopw [5] (fun u wr => ∃ j : Nat, j ≤ n ∧ u = .int .i64 (j : Int) ∧ Tab wr w.heap.size w.heap.size n (t1 es j 0) ∧ Hid (Below w.heap.size w wr)) (fun u _ => n - (intOf u).toNat)
  case atStart => exact ⟨0, Nat.zero_le _, rfl, hT0, (Below.refl _ _).alloc (Nat.le_refl _) _⟩
  case round =>
    clear hT0 hmk
    obtain ⟨j, hj, rfl, hT, HB⟩ := hrel
    by_cases hjn : j < n
    · have hjn' : (j : Int) < (n : Int) := by omega
      go_wp2
      go_loopw [6] (fun u wr => ∃ i : Nat, i ≤ j ∧ u = .int .i64 (i : Int) ∧ Tab wr w.heap.size w.heap.size n (t1 es j i) ∧ Hid (Below w.heap.size w wr)) (fun u _ => j - (intOf u).toNat)
      case atStart => exact ⟨0, Nat.zero_le _, rfl, hT, HB⟩
      case round =>
        clear hT HB
        obtain ⟨i, hi, rfl, hT, HB⟩ := hrel
        by_cases hij : i < j
        · have hij' : (i : Int) < (j : Int) := by omega
          have hin : i < n := by omega
          have hin' : (i : Int) < (n : Int) := by omega
          obtain ⟨ei, hei, _, _, _, hwi, _⟩ := (HQ.out.below HQ.out.1 HB.out).at (k := i) (by rw [HL.out]; exact hin)
          obtain ⟨ej, hej, _, _, hkj, hwj, hoj⟩ := (HQ.out.below HQ.out.1 HB.out).at (k := j) (by rw [HL.out]; exact hjn)
          have hnn1 : i * n ≤ 3540 := Nat.le_trans (Nat.mul_le_mul (show i ≤ 59 by omega) hn60) (by decide)
          have hnc : ((i * n : Nat) : Int) = (i : Int) * (n : Int) := by simp
          have hm0 : 0 ≤ (i : Int) * (n : Int) := by rw [← hnc]; omega
          have hm1 : (i : Int) * (n : Int) ≤ 3540 := by rw [← hnc]; omega
          have hat : (i : Int) * (n : Int) + (j : Int) < (n : Int) * (n : Int) := by
            have h1 := at_lt hin hjn
            have h2 : ((n * n : Nat) : Int) = (n : Int) * (n : Int) := by simp
            rw [← hnc, ← h2]; omega
          have htn : ((i : Int) * (n : Int) + (j : Int)).toNat = i * n + j := by rw [← hnc]; omega
          have hcl := hT.cell hin hjn
          have hfz := World.ownsRow.frozenAt hT (i * n + j)
          have HTB := hidMk hT
          have hdd : dB es i j = (ei.who == ej.who || (ej.kind == 3 && ej.of == (i : Int))) := by
            unfold dB
            rw [whoAt_eq hei, whoAt_eq hej, taken_iff hej (fun h => by obtain ⟨x, hx, _⟩ := (HV.out.2.2.2 j ej hej).2.2.2 h; omega), decide_eq_true hij, Bool.true_and]
          have HDD := hidMk hdd
          clear hT hei hej hdd hnn1 hnc
          by_cases c1 : ei.who = ej.who
          · have HD : Hid (dB es i j = true) := by show dB es i j = true; rw [HDD.out, c1]; simp
            rw [c1] at hwi
            go_wp2
            go_quiet (fail)
            go_wp2
            have hput := Tab.put (W := wr.drewN nq) HTB.out hin hjn
            exact ⟨⟨i + 1, by omega, by go_num, hput.1.same (t1_put HD.out), (below_drewN HB.out nq).grown hput.2 (below_drewN HB.out nq).size (fun k e => by cases e; exact Nat.le_refl _)⟩, by simp [intOf]; omega⟩
          · have c1' : (ei.who == ej.who) = false := by simpa using c1
            by_cases c2 : ej.kind = 3
            · rw [c2] at hkj
              by_cases c3 : ej.of = (i : Int)
              · have HD : Hid (dB es i j = true) := by show dB es i j = true; rw [HDD.out, c2, c3]; simp
                rw [c3] at hoj
                go_wp2
                go_quiet (fail)
                go_wp2
                have hput := Tab.put (W := wr.drewN nq) HTB.out hin hjn
                exact ⟨⟨i + 1, by omega, by go_num, hput.1.same (t1_put HD.out), (below_drewN HB.out nq).grown hput.2 (below_drewN HB.out nq).size (fun k e => by cases e; exact Nat.le_refl _)⟩, by simp [intOf]; omega⟩
              · have HD : Hid (dB es i j = false) := by show dB es i j = false; rw [HDD.out, c1']; simp [c3]
                have c3' : (ej.of == (i : Int)) = false := by simpa using c3
                go_wp2
                go_quiet (fail)
                go_wp2
                exact ⟨⟨i + 1, by omega, by go_num, Tab.same (W := wr.drewN nq) HTB.out (t1_skip HD.out), below_drewN HB.out nq⟩, by simp [intOf]; omega⟩
            · have HD : Hid (dB es i j = false) := by show dB es i j = false; rw [HDD.out, c1']; simp [c2]
              have c2' : (ej.kind == 3) = false := by simpa using c2
              go_wp2
              go_quiet (fail)
              go_wp2
              exact ⟨⟨i + 1, by omega, by go_num, Tab.same (W := wr.drewN nq) HTB.out (t1_skip HD.out), below_drewN HB.out nq⟩, by simp [intOf]; omega⟩
        · obtain rfl : i = j := by omega
          have HTN := hidMk (hT.same t1_next)
          clear hT
          go_wp2
          go_roundw
          case rel => exact ⟨i + 1, by omega, by go_num, HTN.out, HB⟩
          case measure => simp [intOf]; omega
    · obtain rfl : j = n := by omega
      have hT2 := hT.same (t1_end j)
      clear hT
      go_wp2
      go_loopw [7] (fun u wr => ∃ k : Nat, k ≤ j ∧ u = .int .i64 (k : Int) ∧ Tab wr w.heap.size w.heap.size j (fw es k) ∧ Hid (Below w.heap.size w wr)) (fun u _ => j - (intOf u).toNat)
      case atStart => exact ⟨0, Nat.zero_le _, rfl, hT2, HB⟩
      case round =>
        clear hT2 HB
        obtain ⟨k, hk, rfl, hT, HB⟩ := hrel
        by_cases hkn : k < j
        · have hkn' : (k : Int) < (j : Int) := by omega
          have hT2 := hT.same (t2_zero j k).symm
          clear hT
          go_wp2
          go_loopw [8] (fun u wr => ∃ i : Nat, i ≤ k ∧ u = .int .i64 (i : Int) ∧ Tab wr w.heap.size w.heap.size j (t2 es k i 0) ∧ Hid (Below w.heap.size w wr)) (fun u _ => k - (intOf u).toNat)
          case atStart => exact ⟨0, Nat.zero_le _, rfl, hT2, HB⟩
          case round =>
            clear hT2 HB
            obtain ⟨i, hi, rfl, hT, HB⟩ := hrel
            by_cases hik : i < k
            · have hik' : (i : Int) < (k : Int) := by omega
              have hT2 := hT.same t2_start
              clear hT
              go_wp2
              go_loopw [9] (fun u wr => ∃ m : Nat, k + 1 ≤ m ∧ m ≤ j ∧ u = .int .i64 (m : Int) ∧ Tab wr w.heap.size w.heap.size j (t2 es k i m) ∧ Hid (Below w.heap.size w wr)) (fun u _ => j - (intOf u).toNat)
              case atStart => exact ⟨k + 1, Nat.le_refl _, by omega, by go_num, hT2, HB⟩
              case round =>
                clear hT2 HB
                obtain ⟨m, hm1, hm2, rfl, hT, HB⟩ := hrel
                by_cases hmj : m < j
                · have hmj' : (m : Int) < (j : Int) := by omega
                  have hin : i < j := by omega
                  have hn1 : i * j ≤ 3540 := Nat.le_trans (Nat.mul_le_mul (show i ≤ 59 by omega) hn60) (by decide)
                  have hn2 : k * j ≤ 3540 := Nat.le_trans (Nat.mul_le_mul (show k ≤ 59 by omega) hn60) (by decide)
                  have hc1 : ((i * j : Nat) : Int) = (i : Int) * (j : Int) := by simp
                  have hc2 : ((k * j : Nat) : Int) = (k : Int) * (j : Int) := by simp
                  have hc3 : ((j * j : Nat) : Int) = (j : Int) * (j : Int) := by simp
                  have q0 : 0 ≤ (i : Int) * (j : Int) := by rw [← hc1]; omega
                  have q1 : (i : Int) * (j : Int) ≤ 3540 := by rw [← hc1]; omega
                  have q2 : 0 ≤ (k : Int) * (j : Int) := by rw [← hc2]; omega
                  have q3 : (k : Int) * (j : Int) ≤ 3540 := by rw [← hc2]; omega
                  have q4 : (i : Int) * (j : Int) + (k : Int) < (j : Int) * (j : Int) := by have := at_lt hin hkn; rw [← hc1, ← hc3]; omega
                  have q5 : (k : Int) * (j : Int) + (m : Int) < (j : Int) * (j : Int) := by have := at_lt hkn hmj; rw [← hc2, ← hc3]; omega
                  have q6 : (i : Int) * (j : Int) + (m : Int) < (j : Int) * (j : Int) := by have := at_lt hin hmj; rw [← hc1, ← hc3]; omega
                  have r1 : ((i : Int) * (j : Int) + (k : Int)).toNat = i * j + k := by rw [← hc1]; omega
                  have r2 : ((k : Int) * (j : Int) + (m : Int)).toNat = k * j + m := by rw [← hc2]; omega
                  have r3 : ((i : Int) * (j : Int) + (m : Int)).toNat = i * j + m := by rw [← hc1]; omega
                  have d1 := hT.cell hin hkn
                  have d2 := hT.cell hkn hmj
                  have d3 := hT.cell hin hmj
                  rw [t2_ik] at d1
                  rw [t2_kj] at d2
                  have hfz := World.ownsRow.frozenAt hT (i * j + m)
                  have HTB := hidMk hT
                  clear hT hn1 hn2 hc1 hc2 hc3
                  cases c1 : fw es k i k with
                  | true =>
                    rw [c1] at d1
                    cases c2 : fw es k k m with
                    | true =>
                      rw [c2] at d2
                      have HD := hidMk (t2_put (n := j) hik (show k < m by omega) c1 c2)
                      clear c1 c2
                      go_wp2
                      have hput := HTB.out.put hin hmj
                      exact ⟨⟨m + 1, by omega, by omega, by go_num, hput.1.same HD.out, HB.out.grown hput.2 HB.out.size (fun k e => by cases e; exact Nat.le_refl _)⟩, by simp [intOf]; omega⟩
                    | false =>
                      rw [c2] at d2
                      have HD : Hid (tab j (t2 es k i m) = tab j (t2 es k i (m + 1))) := t2_skip (by rw [c2]; simp)
                      clear c1 c2
                      go_wp2
                      exact ⟨⟨m + 1, by omega, by omega, by go_num, HTB.out.same HD.out, HB⟩, by simp [intOf]; omega⟩
                  | false =>
                    rw [c1] at d1
                    have HD : Hid (tab j (t2 es k i m) = tab j (t2 es k i (m + 1))) := t2_skip (by rw [c1]; simp)
                    clear c1
                    go_wp2
                    exact ⟨⟨m + 1, by omega, by omega, by go_num, HTB.out.same HD.out, HB⟩, by simp [intOf]; omega⟩
                · obtain rfl : m = j := by omega
                  have HTN := hidMk (hT.same t2_next)
                  clear hT
                  go_wp2
                  go_roundw
                  case rel => exact ⟨i + 1, by omega, by go_num, HTN.out, HB⟩
                  case measure => simp [intOf]; omega
            · obtain rfl : i = k := by omega
              have HTN := hidMk (hT.same t2_end)
              clear hT
              go_wp2
              go_roundw
              case rel => exact ⟨i + 1, by omega, by go_num, HTN.out, HB⟩
              case measure => simp [intOf]; omega
        · obtain rfl : k = j := by omega
          go_wp2
          go_ret
          exact ⟨⟨_, rfl, hT.same HFW.out⟩, HB.out⟩
end Go.Proofs.Ytjglbjiekndpeaa
