/- told. -/
import Derived.Test.YthadhhconkjpmaaT16
namespace Go.Proofs.Ythadhhconkjpmaa
open Go.RowKit Go.WideMaps
set_option linter.unusedVariables false

theorem wrap7 {z : Int} (h : I64 z) : IntKind.i64.wrap z = z := by
  obtain ⟨h0, h1⟩ := h
  simp [IntKind.wrap, IntKind.bits, IntKind.signed]
  split <;> omega
def nilS : Value := .slice none 0 0
def noteV (h : Sh) (i j : Nat) : Value := if i = j then .slice none 0 0 else (h.f i j).nv
/-- What is told of all ways, up to the p-th. -/
def betw (n : Nat) (h : Sh) (p : Nat) : List Value := (List.range (n * n)).map fun q => if q < p then noteV h (q / n) (q % n) else .slice none 0 0
def mkTo (n : Nat) (s : St) (p : Nat) : Bool := (List.range p).all fun q => q / n == q % n || (s.ways (q / n) (q % n)).marked
theorem betw_len (n : Nat) (h : Sh) (p : Nat) : (betw n h p).length = n * n := by simp [betw]
theorem betw_at {n : Nat} (h : Sh) (p : Nat) {q : Nat} (hq : q < n * n) : (betw n h p)[q]? = some (if q < p then noteV h (q / n) (q % n) else .slice none 0 0) := by simp [betw, hq]
theorem betw_set {n : Nat} (h : Sh) {p : Nat} (hp : p < n * n) : (betw n h p).set p (noteV h (p / n) (p % n)) = betw n h (p + 1) := by
  apply List.ext_getElem?
  intro q
  rw [List.getElem?_set]
  by_cases hq : q < n * n
  · by_cases e : p = q
    · subst e
      rw [if_pos rfl, if_pos (by rw [betw_len]; exact hq), betw_at h _ hq, if_pos (by omega)]
    · rw [if_neg e, betw_at h _ hq, betw_at h _ hq]
      by_cases h1 : q < p
      · rw [if_pos h1, if_pos (by omega)]
      · rw [if_neg h1, if_neg (by omega)]
  · rw [if_neg (by omega), List.getElem?_eq_none (by rw [betw_len]; omega), List.getElem?_eq_none (by rw [betw_len]; omega)]
theorem betw_skip {n : Nat} (h : Sh) {p : Nat} (hp : p < n * n) (he : p / n = p % n) : betw n h p = betw n h (p + 1) := by
  rw [← betw_set h hp]
  apply List.ext_getElem?
  intro q
  rw [List.getElem?_set]
  by_cases e : p = q
  · subst e
    rw [if_pos rfl, if_pos (by rw [betw_len]; exact hp), betw_at h _ hp, if_neg (by omega)]
    unfold noteV
    rw [if_pos he]
  · rw [if_neg e]
theorem mkTo_succ (n : Nat) (s : St) (p : Nat) : mkTo n s (p + 1) = (mkTo n s p && (p / n == p % n || (s.ways (p / n) (p % n)).marked)) := by
  unfold mkTo
  rw [List.range_succ, List.all_append]
  simp
theorem at_div {n i j : Nat} (hj : j < n) : (i * n + j) / n = i ∧ (i * n + j) % n = j := by
  have hn : 0 < n := by omega
  constructor
  · rw [Nat.mul_comm, Nat.mul_add_div hn, Nat.div_eq_of_lt hj]; rfl
  · rw [Nat.mul_comm, Nat.mul_add_mod, Nat.mod_eq_of_lt hj]
theorem at_lt {n i j : Nat} (hi : i < n) (hj : j < n) : i * n + j < n * n := by
  have : (i + 1) * n ≤ n * n := Nat.mul_le_mul_right n hi
  rw [Nat.add_mul] at this
  omega
theorem mkTo_all {n : Nat} {s : St} : mkTo n s (n * n) = (List.range n).all fun i => (List.range n).all fun j => i == j || (s.ways i j).marked := by
  rw [Bool.eq_iff_iff]
  unfold mkTo
  simp only [List.all_eq_true, List.mem_range]
  constructor
  · intro h i hi j hj
    have := h (i * n + j) (at_lt hi hj)
    rw [(at_div hj).1, (at_div hj).2] at this
    exact this
  · intro h q hq
    have hn : 0 < n := by
      rcases Nat.eq_zero_or_pos n with e | e
      · subst e; simp at hq
      · exact e
    exact h (q / n) (Nat.div_lt_of_lt_mul hq) (q % n) (Nat.mod_lt q hn)
theorem Try.info22 : (Try.prog.info? 22).map (fun i => (i.zero, i.size, i.bytes)) = some (some (.slice none 0 0), 1, 24) := by kernel_rfl
theorem make_rows (m : Nat) (hm : m ≤ 200) (W : World) : (Instr.makeSlice 25 (.int .i64 (m : Int)) (.int .i64 (m : Int))).run Try.prog W = .ok (.slice (some ⟨W.heap.size, 0, none⟩) m m) (W.alloc (.cells (madeCells #[.slice none 0 0] m) 22)) := by
  obtain ⟨i0, hi, hz0, hz1, hz2⟩ := info_parts Try.info22
  have h := run_makeSlice (P := Try.prog) W 25 22 i0 _ Try.underlying25 hi hz0 .i64 .i64 (m : Int) (m : Int) (by omega) (Int.le_refl _) (by rw [hz1]; simp; omega) (by rw [hz2]; omega) (by omega)
  rw [hz1] at h
  simpa [Value.cells] using h
theorem made_betw (n : Nat) (h : Sh) : madeCells #[Value.slice none 0 0] (n * n) = (betw n h 0).toArray := by
  simp only [madeCells, betw]
  apply Array.ext_getElem?
  intro k
  by_cases hk : k < n * n
  · simp [hk, Nat.mod_one]
  · simp [hk]

variable {W W2 : World} {mb n : Nat} {s : St} {h h2 : Sh}
set_option maxRecDepth 100000 in
set_option maxHeartbeats 4000000 in
theorem told_any (m : Mov W mb n s h) (hn0 : 0 < n) (hn : n ≤ 6) (ca : Option Addr) (cl cc : Nat) :
    Calls Try.prog 12 #[.pointer (some ⟨mb, 0, none⟩), .slice ca cl cc] W fun e W2 => ∃ B, e = .returned (.agg #[.slice ca cl cc, h.mv, h.ov, .slice (some ⟨B, 0, none⟩) (n * n) (n * n), .bool (doneB n s)]) ∧ W.heap.size ≤ B ∧
      W2.heap[B]? = some (.cells (betw n h (n * n)).toArray 22 (0, 0)) ∧ Keep (fun _ => False) W W2 := by
  obtain ⟨gm, om, cm, em, hcm, htgm, hclm, hfrm, hsetm⟩ := m.mon_at hn0
  obtain ⟨go, oo, co, eo, hco, htgo, hclo, hfro, hseto⟩ := m.own_at hn0
  have HM := hidMk m
  have hsq : n * n ≤ 36 := Nat.mul_le_mul hn hn
  have hmk := make_rows (n * n) (by omega)
  rw [made_betw n h] at hmk
  have hmk2 : ∀ W, (Instr.makeSlice 25 (.int .i64 ((n : Int) * (n : Int))) (.int .i64 ((n : Int) * (n : Int)))).run Try.prog W = .ok (.slice (some ⟨W.heap.size, 0, none⟩) (n * n) (n * n)) (W.alloc (.cells (betw n h 0).toArray 22)) := fun W => by
    have := hmk W
    rw [Int.natCast_mul] at this
    exact this
  have hwr : IntKind.i64.wrap ((n : Int) * (n : Int)) = (n : Int) * (n : Int) := by
    have e : ((n * n : Nat) : Int) = (n : Int) * (n : Int) := Int.natCast_mul n n
    refine wrap7 ⟨?_, ?_⟩ <;> omega
  have hlt : mb < W.heap.size := (Array.getElem?_eq_some_iff.1 m.blk).1
  rw [em, eo]
  have c0 : (W.alloc (.cells #[.slice none 0 0, .slice none 0 0, .slice none 0 0, .slice none 0 0, .bool false] 27)).cell? ⟨mb, 0, none⟩ = some (.slice (some ⟨gm, om, none⟩) n cm) := (World.cell?_of_block (al_old _ _ _ hlt)).trans (em ▸ m.cells.1)
  have c1 : ((W.alloc (.cells #[.slice none 0 0, .slice none 0 0, .slice none 0 0, .slice none 0 0, .bool false] 27)).alloc (.cells (betw n h 0).toArray 22)).cell? ⟨mb, 1, none⟩ = some (.slice (some ⟨go, oo, none⟩) n co) := (World.cell?_of_block (al_old _ _ _ (by simp; omega))).trans ((World.cell?_of_block (al_old _ _ _ hlt)).trans (eo ▸ m.cells.2.1))
  have HCT := hidMk (contains_any (W := (W.alloc (.cells #[.slice none 0 0, .slice none 0 0, .slice none 0 0, .slice none 0 0, .bool false] 27)).alloc (.cells (betw n h 0).toArray 22)) (g := go) (off := oo) (n := n) (cap := co) (f := s.own) (-1) (by omega) (fun i hi => ((((m.alloc _).alloc _).own_at hn0).elim fun g2 h2 => by
    obtain ⟨off2, cap2, e2, _, _, h3, _⟩ := h2
    rw [eo] at e2
    simp only [Value.slice.injEq, Option.some.injEq, Addr.mk.injEq] at e2
    obtain ⟨⟨rfl, rfl, _⟩, _, _⟩ := e2
    exact h3 i hi)))
  clear hclm hfrm hsetm hclo hfro hseto m hmk
  go_enter Try.func12, Try.ntmps12
  go_wp2_with (go_at_call 23; refine (HCT.out).mono ?_; rintro e w1 ⟨rfl, hw⟩; obtain rfl := hw.symm)
  have HB : Hid (((W.alloc (.cells #[.slice none 0 0, .slice none 0 0, .slice none 0 0, .slice none 0 0, .bool false] 27)).alloc (.cells (betw n h 0).toArray 22)).heap[W.heap.size + 1]? = some (.cells (betw n h (0 * n)).toArray 22 (0, 0))) := by
    show _ = _
    rw [Nat.zero_mul]
    have := al_new (W.alloc (.cells #[.slice none 0 0, .slice none 0 0, .slice none 0 0, .slice none 0 0, .bool false] 27)) (.cells (betw n h 0).toArray 22)
    simpa using this
  have HR : Hid (((W.alloc (.cells #[.slice none 0 0, .slice none 0 0, .slice none 0 0, .slice none 0 0, .bool false] 27)).alloc (.cells (betw n h 0).toArray 22)).heap[W.heap.size]? = some (.cells #[.slice none 0 0, .slice none 0 0, .slice none 0 0, .slice none 0 0, .bool false] 27 (0, 0))) := by
    show _ = _
    rw [al_old _ _ _ (by simp), al_new]
  have HK : Hid (Keep (fun _ => False) W ((W.alloc (.cells #[.slice none 0 0, .slice none 0 0, .slice none 0 0, .slice none 0 0, .bool false] 27)).alloc (.cells (betw n h 0).toArray 22))) := ((Keep.refl _ W).alloc _).alloc _
  have HD : Hid (doneB n s = ((!(List.range n).any fun i => s.own i == -1) && mkTo n s (n * n))) := by
    show _ = _
    unfold doneB
    rw [mkTo_all]
    congr 1
    rw [Bool.eq_iff_iff]
    simp
  generalize (!(List.range n).any fun i => s.own i == -1) = d0 at *
  clear c0 c1 HCT hmk2 hw
  generalize (W.alloc (.cells #[.slice none 0 0, .slice none 0 0, .slice none 0 0, .slice none 0 0, .bool false] 27)).alloc (.cells (betw n h 0).toArray 22) = w1 at *
  go_loopw [7, 27] (fun ud u wr => ∃ k : Nat, k ≤ n ∧ u = .int .i64 (k : Int) ∧ ud = .bool (d0 && mkTo n s (k * n)) ∧ Hid (wr.heap[W.heap.size + 1]? = some (.cells (betw n h (k * n)).toArray 22 (0, 0))) ∧ Hid (wr.heap[W.heap.size]? = some (.cells #[.slice none 0 0, .slice none 0 0, .slice none 0 0, .slice none 0 0, .bool false] 27 (0, 0))) ∧ Hid (Keep (fun _ => False) W wr)) (fun _ u _ => n - (intOf u).toNat)
  case atStart => exact ⟨0, Nat.zero_le _, rfl, by rw [Nat.zero_mul]; simp [mkTo], HB, HR, HK⟩
  case round =>
    obtain ⟨k, hk, rfl, rfl, HB2, HR2, HK2⟩ := hrel
    by_cases hlt2 : k < n
    · have hlt' : (k : Int) < (n : Int) := by omega
      generalize hg : wr = w2 at *
      clear hg
      generalize hd2 : (d0 && mkTo n s (k * n)) = d2 at *
      go_wp2
      go_loopw [7, 31] (fun ud u wr => ∃ j : Nat, j ≤ n ∧ u = .int .i64 (j : Int) ∧ ud = .bool (d0 && mkTo n s (k * n + j)) ∧ Hid (wr.heap[W.heap.size + 1]? = some (.cells (betw n h (k * n + j)).toArray 22 (0, 0))) ∧ Hid (wr.heap[W.heap.size]? = some (.cells #[.slice none 0 0, .slice none 0 0, .slice none 0 0, .slice none 0 0, .bool false] 27 (0, 0))) ∧ Hid (Keep (fun _ => False) W wr)) (fun _ u _ => n - (intOf u).toNat)
      case atStart => exact ⟨0, Nat.zero_le _, rfl, by rw [← hd2]; rfl, HB2, HR2, HK2⟩
      case round =>
        obtain ⟨j, hj, rfl, rfl, HB3, HR3, HK3⟩ := hrel
        clear HB2 HR2 HK2
        by_cases hlj : j < n
        · have hlj' : (j : Int) < (n : Int) := by omega
          have hp := at_lt hlt2 hlj
          have hdv := at_div (i := k) hlj
          by_cases hkj : k = j
          · have hkj' : ((k : Int) == (j : Int)) = true := by simp [hkj]
            have HB4 : Hid (wr.heap[W.heap.size + 1]? = some (.cells (betw n h (k * n + (j + 1))).toArray 22 (0, 0))) := by
              show _ = _
              rw [HB3.out, betw_skip h hp (by rw [hdv.1, hdv.2]; exact hkj)]
              rfl
            have HM4 : Hid ((d0 && mkTo n s (k * n + j)) = (d0 && mkTo n s (k * n + (j + 1)))) := by
              show _ = _
              rw [← Nat.add_assoc, mkTo_succ, hdv.1, hdv.2]
              simp [hkj]
            clear HB3
            rw [HM4.out]
            go_wp2
            go_roundw
            case rel => exact ⟨j + 1, by omega, by go_num, rfl, HB4, HR3, HK3⟩
            case measure => simp [intOf]; omega
          · have hkj' : ((k : Int) == (j : Int)) = false := by simp; omega
            have m3 := HM.out.keep HK3.out (fun _ _ e => e.elim)
            obtain ⟨ta, tc, et⟩ := (m3.th k j hlt2 hlj).form
            obtain ⟨na, nc, en⟩ := (m3.nt k j hlt2 hlj).form
            have hlk : (Instr.lookup 37 (.map (some h.M)) (.agg #[.int .i64 (k : Int), .int .i64 (j : Int)]) false).run Try.prog wr = .ok (.agg #[.slice ta (s.ways k j).things.length tc, .slice na (s.ways k j).noted.length nc, .bool (s.ways k j).marked]) wr := by
              have h1 := m3.map.look wayMap (i := k) (j := j) (by omega) (by omega)
              unfold WV.val at h1
              rw [et, en, m3.bm k j hlt2 hlj] at h1
              exact h1
            have c2 := m3.cells.2.2
            have HV : Hid (noteV h k j = .slice na (s.ways k j).noted.length nc) := by
              show _ = _
              unfold noteV
              rw [if_neg hkj, en]
            generalize (s.ways k j).things.length = tl at *
            generalize (s.ways k j).noted.length = nl at *
            have HX : Hid ((d0 && mkTo n s (k * n + j) && (s.ways k j).marked) = (d0 && mkTo n s (k * n + (j + 1)))) := by
              show _ = _
              rw [← Nat.add_assoc, mkTo_succ, hdv.1, hdv.2]
              rw [show (k == j) = false from by simpa using hkj]
              simp [Bool.and_assoc]
            generalize (s.ways k j).marked = bm at *
            generalize hdd : (d0 && mkTo n s (k * n + j)) = dd at *
            have hzB : W.heap.size + 1 < wr.heap.size := (Array.getElem?_eq_some_iff.1 HB3.out).1
            have HB4 : Hid ((wr.setCell ⟨W.heap.size + 1, k * n + j, none⟩ (.slice na nl nc)).heap[W.heap.size + 1]? = some (.cells (betw n h (k * n + (j + 1))).toArray 22 (0, 0))) := by
              show _ = _
              rw [heap_setCell_same wr _ _ _ _ _ HB3.out, ← Nat.add_assoc, ← betw_set h hp, hdv.1, hdv.2, HV.out]
              simp
            have HR4 : Hid ((wr.setCell ⟨W.heap.size + 1, k * n + j, none⟩ (.slice na nl nc)).heap[W.heap.size]? = some (.cells #[.slice none 0 0, .slice none 0 0, .slice none 0 0, .slice none 0 0, .bool false] 27 (0, 0))) :=
              (Below.heap_setCell _ _ _ _ (by simp)).trans HR3.out
            have HK4 : Hid (Keep (fun _ => False) W (wr.setCell ⟨W.heap.size + 1, k * n + j, none⟩ (.slice na nl nc))) := HK3.out.setCell _ _ _ (fun e => absurd e (by omega))
            have hcB : (wr.alloc (.cells #[.slice ta tl tc, .slice na nl nc, .bool bm] 59)).cell? ⟨W.heap.size + 1, k * n + j, none⟩ = some (.slice none 0 0) := by
              rw [World.cell?_of_block (al_old _ _ _ hzB), cell_of_row wr _ _ _ _ _ HB3.out]
              simp only [List.getElem?_toArray]
              rw [betw_at h _ hp, if_neg (by omega)]
            have hfB : (wr.alloc (.cells #[.slice ta tl tc, .slice na nl nc, .bool bm] 59)).frozen? ⟨W.heap.size + 1, k * n + j, none⟩ = false := by
              rw [World.frozen?_of_block (al_old _ _ _ hzB)]
              exact frozen_of_row wr _ _ _ _ HB3.out
            have ekn : (k : Int) * (n : Int) = ((k * n : Nat) : Int) := (Int.natCast_mul k n).symm
            have enn : (n : Int) * (n : Int) = ((n * n : Nat) : Int) := (Int.natCast_mul n n).symm
            have hw1 : IntKind.i64.wrap ((k : Int) * (n : Int)) = (k : Int) * (n : Int) := wrap7 ⟨by omega, by omega⟩
            have hw2 : IntKind.i64.wrap ((k : Int) * (n : Int) + (j : Int)) = (k : Int) * (n : Int) + (j : Int) := wrap7 ⟨by omega, by omega⟩
            have hti : ((k : Int) * (n : Int) + (j : Int)).toNat = k * n + j := by omega
            have hb0 : 0 ≤ (k : Int) * (n : Int) + (j : Int) := by omega
            have hb1 : (k : Int) * (n : Int) + (j : Int) < (n : Int) * (n : Int) := by omega
            clear HB3 HR3 HK3 m3 et en HV ekn enn
            cases dd
            all_goals
              go_wp2
              go_roundw
              case rel => exact ⟨j + 1, by omega, by go_num, by rw [← HX.out]; rfl, (al_old _ _ _ (by simp [World.setCell]; omega)).trans HB4.out, (al_old _ _ _ (by simp [World.setCell]; omega)).trans HR4.out, HK4.out.alloc _⟩
              case measure => simp [intOf]; omega
        · obtain rfl : j = n := by omega
          have HB4 : Hid (wr.heap[W.heap.size + 1]? = some (.cells (betw j h ((k + 1) * j)).toArray 22 (0, 0))) := by rw [Nat.add_mul, Nat.one_mul]; exact HB3
          have HM4 : Hid ((d0 && mkTo j s (k * j + j)) = (d0 && mkTo j s ((k + 1) * j))) := by rw [Nat.add_mul, Nat.one_mul]; rfl
          rw [HM4.out]
          go_wp2
          go_roundw
          case rel => exact ⟨k + 1, by omega, by go_num, rfl, HB4, HR3, HK3⟩
          case measure => simp [intOf]; omega
    · obtain rfl : k = n := by omega
      have m3 := HM.out.keep HK2.out (fun _ _ e => e.elim)
      have c0 := m3.cells.1
      have c1 := m3.cells.2.1
      rw [em] at c0
      rw [eo] at c1
      have HD2 := hidMk HD.out
      clear m3 HB HR HK
      go_wp2
      refine wp_region_tail rfl (by kernel_rfl) (by kernel_rfl) (by kernel_rfl) (by kernel_rfl) (by kernel_rfl) rfl ?_
      simp only [List.dropLast]
      repeat (go_big_quiet_step (fail))
      refine wpQuiet_nil ?_
      rintro _ ⟨q, rfl⟩
      have r0 : (wr.drewN q).cell? ⟨W.heap.size, 0, none⟩ = some (.slice none 0 0) := (cell_of_row wr _ 0 _ _ _ HR2.out).trans rfl
      have r1 : (wr.drewN q).cell? ⟨W.heap.size, 1, none⟩ = some (.slice none 0 0) := (cell_of_row wr _ 1 _ _ _ HR2.out).trans rfl
      have r2 : (wr.drewN q).cell? ⟨W.heap.size, 2, none⟩ = some (.slice none 0 0) := (cell_of_row wr _ 2 _ _ _ HR2.out).trans rfl
      have r3 : (wr.drewN q).cell? ⟨W.heap.size, 3, none⟩ = some (.slice none 0 0) := (cell_of_row wr _ 3 _ _ _ HR2.out).trans rfl
      have r4 : (wr.drewN q).cell? ⟨W.heap.size, 4, none⟩ = some (.bool false) := (cell_of_row wr _ 4 _ _ _ HR2.out).trans rfl
      have f0 : (wr.drewN q).frozen? ⟨W.heap.size, 0, none⟩ = false := frozen_of_row wr _ _ _ _ HR2.out
      have f1 : (wr.drewN q).frozen? ⟨W.heap.size, 1, none⟩ = false := frozen_of_row wr _ _ _ _ HR2.out
      have f2 : (wr.drewN q).frozen? ⟨W.heap.size, 2, none⟩ = false := frozen_of_row wr _ _ _ _ HR2.out
      have f3 : (wr.drewN q).frozen? ⟨W.heap.size, 3, none⟩ = false := frozen_of_row wr _ _ _ _ HR2.out
      have f4 : (wr.drewN q).frozen? ⟨W.heap.size, 4, none⟩ = false := frozen_of_row wr _ _ _ _ HR2.out
      have HB3 : Hid ((wr.drewN q).heap[W.heap.size + 1]? = some (.cells (betw k h (k * k)).toArray 22 (0, 0))) := HB2
      have HK3 := hidMk (HK2.out.drewN q)
      have HR3 : Hid ((wr.drewN q).heap[W.heap.size]? = some (.cells #[.slice none 0 0, .slice none 0 0, .slice none 0 0, .slice none 0 0, .bool false] 27 (0, 0))) := HR2
      clear c0 c1 HB2 HR2 HK2
      generalize wr.drewN q = w5 at *
      go_wp2
      have k1 := HK3.out.setCell W.heap.size 0 (.slice ca cl cc) (fun e => absurd e (Nat.lt_irrefl _))
      have k2 := k1.setCell W.heap.size 1 (.slice (some ⟨gm, om, none⟩) k cm) (fun e => absurd e (Nat.lt_irrefl _))
      have k3 := k2.setCell W.heap.size 2 (.slice (some ⟨go, oo, none⟩) k co) (fun e => absurd e (Nat.lt_irrefl _))
      have k4 := k3.setCell W.heap.size 3 (.slice (some ⟨W.heap.size + 1, 0, none⟩) (k * k) (k * k)) (fun e => absurd e (Nat.lt_irrefl _))
      have k5 := k4.setCell W.heap.size 4 (.bool (d0 && mkTo k s (k * k))) (fun e => absurd e (Nat.lt_irrefl _))
      have q1 := heap_setCell_same w5 W.heap.size 0 _ _ (.slice ca cl cc) HR3.out
      have q2 := heap_setCell_same _ W.heap.size 1 _ _ (.slice (some ⟨gm, om, none⟩) k cm) q1
      have q3 := heap_setCell_same _ W.heap.size 2 _ _ (.slice (some ⟨go, oo, none⟩) k co) q2
      have q4 := heap_setCell_same _ W.heap.size 3 _ _ (.slice (some ⟨W.heap.size + 1, 0, none⟩) (k * k) (k * k)) q3
      have q5 := heap_setCell_same _ W.heap.size 4 _ _ (.bool (d0 && mkTo k s (k * k))) q4
      have hne : W.heap.size + 1 ≠ W.heap.size := by omega
      have b5 := (Below.heap_setCell (((((w5.setCell ⟨W.heap.size, 0, none⟩ (.slice ca cl cc)).setCell ⟨W.heap.size, 1, none⟩ (.slice (some ⟨gm, om, none⟩) k cm)).setCell ⟨W.heap.size, 2, none⟩ (.slice (some ⟨go, oo, none⟩) k co)).setCell ⟨W.heap.size, 3, none⟩ (.slice (some ⟨W.heap.size + 1, 0, none⟩) (k * k) (k * k)))) ⟨W.heap.size, 4, none⟩ (.bool (d0 && mkTo k s (k * k))) _ hne).trans
        ((Below.heap_setCell _ ⟨W.heap.size, 3, none⟩ _ _ hne).trans ((Below.heap_setCell _ ⟨W.heap.size, 2, none⟩ _ _ hne).trans ((Below.heap_setCell _ ⟨W.heap.size, 1, none⟩ _ _ hne).trans ((Below.heap_setCell _ ⟨W.heap.size, 0, none⟩ _ _ hne).trans HB3.out))))
      refine bodyPost_ret (results_cell_row (P := Try.prog) rfl _ _ W.heap.size 27 #[.slice ca cl cc, .slice (some ⟨gm, om, none⟩) k cm, .slice (some ⟨go, oo, none⟩) k co, .slice (some ⟨W.heap.size + 1, 0, none⟩) (k * k) (k * k), .bool (d0 && mkTo k s (k * k))] (0, 0) _ rfl (by simpa using q5) Try.underlying27 rfl (by kernel_rfl)) rfl ?_
      exact ⟨W.heap.size + 1, by rw [HD2.out], by omega, b5, k5⟩
end Go.Proofs.Ythadhhconkjpmaa
