/- The bakery: told. -/
import Derived.Test.YtgnigjfgddhgiaaBa6
import Derived.Laws.ResultCell
import Derived.Deep.Cut
import Derived.Deep.CutRange
import Derived.Deep.CutBlock
import Derived.RegionTactic
namespace Go.Proofs.Ytgnigjfgddhgiaa
open Go.RowKit
set_option linter.unusedVariables false

variable {W W2 : World} {mb n t : Nat} {s : BS} {h h2 : BSh}
theorem OStp.fresh {o : Nat} {w w2 : World} {tt t2 : Nat → Option OTag} (x : OStp o w tt w2 t2) {lo : Nat} (ho : lo ≤ o) (hl : lo ≤ w.heap.size) (hg : ∀ g, tt g ≠ none → lo ≤ g) : ∀ g, t2 g ≠ none → lo ≤ g := fun g hg2 => by
  by_cases e : g < w.heap.size
  · rw [x.tags g e] at hg2; exact hg g hg2
  · omega
theorem OStp.cell {o : Nat} {w w2 : World} {tt t2 : Nat → Option OTag} (x : OStp o w tt w2 t2) {b i : Nat} {v : Value} (ht : tt b = none) (hb : b ≠ o) (hv : w.cell? ⟨b, i, none⟩ = some v) : w2.cell? ⟨b, i, none⟩ = some v :=
  (World.cell?_of_block (x.keep.block b (World.block_lt_of_cell? _ _ hv) (fun e => e.elim (fun e => e ht) hb))).trans hv

set_option maxRecDepth 100000 in
set_option maxHeartbeats 4000000 in
theorem told_any (m : Bmov W mb n s h) (hn : n ≤ 4) (C pl pc : Nat) :
    Calls Try.prog 16 #[.pointer (some ⟨mb, 0, none⟩), .slice (some ⟨C, 0, none⟩) pl pc] W fun e W2 => ∃ a1 c1 a2 c2 a3 c3, e = .returned (.agg #[.slice (some ⟨C, 0, none⟩) pl pc, .slice a1 n c1, .slice a2 n c2, .slice a3 n c3, h.iv]) ∧
      RowI W2 a1 n c1 (natsI (plL s n)) ∧ RowI W2 a2 n c2 (natsI (tkL s n)) ∧ RowO W2 a3 n c3 (chL s n) ∧ (∀ x, a1 = some x → W.heap.size ≤ x.block) ∧ (∀ x, a2 = some x → W.heap.size ≤ x.block) ∧ (∀ x, a3 = some x → W.heap.size ≤ x.block) ∧ Stil W W2 := by
  obtain ⟨ia, ic, hei⟩ := segForm m.ins
  rw [hei]
  have hcI := m.cells.2.1
  rw [hei] at hcI
  generalize s.ins.length = il at *
  clear hei
  obtain ⟨c0, _, cf⟩ := m.cells
  obtain ⟨i0, hit, hz0, hz1, hz2⟩ := info_parts cInfoInt
  obtain ⟨b0, bit, bz0, bz1, bz2⟩ := info_parts cInfoBool
  have HM := hidMk m
  have hn6 : (n : Int) ≤ 4 := by omega
  have m1 := m.alloc (.cells #[.slice none 0 0, .slice none 0 0, .slice none 0 0, .slice none 0 0, .slice none 0 0] 26)
  have c0' := m1.cells.1
  have c1' := Stil.cell (Stil.new W (.cells #[.slice none 0 0, .slice none 0 0, .slice none 0 0, .slice none 0 0, .slice none 0 0] 26)) hcI
  have m2 := m1.alloc (.cells #[.slice (some ⟨C, 0, none⟩) pl pc, .slice none 0 0, .slice none 0 0, .slice none 0 0, (.slice ia il ic)] 26)
  have c0'' := m2.cells.1
  have HR : Hid (((W.alloc (.cells #[.slice none 0 0, .slice none 0 0, .slice none 0 0, .slice none 0 0, .slice none 0 0] 26)).alloc (.cells #[.slice (some ⟨C, 0, none⟩) pl pc, .slice none 0 0, .slice none 0 0, .slice none 0 0, (.slice ia il ic)] 26)).heap[W.heap.size]? = some (.cells #[.slice none 0 0, .slice none 0 0, .slice none 0 0, .slice none 0 0, .slice none 0 0] 26 (0, 0))) := by
    show _ = _
    rw [al_old _ _ _ (by simp), al_new]
  have HO : Hid (Omov ((W.alloc (.cells #[.slice none 0 0, .slice none 0 0, .slice none 0 0, .slice none 0 0, .slice none 0 0] 26)).alloc (.cells #[.slice (some ⟨C, 0, none⟩) pl pc, .slice none 0 0, .slice none 0 0, .slice none 0 0, (.slice ia il ic)] 26)) (W.heap.size + 1) s (.slice (some ⟨C, 0, none⟩) pl pc) (.slice ia il ic) 0 0 0 (.slice none 0 0) (.slice none 0 0) (.slice none 0 0) (fun _ => none)) := by
    refine ⟨(Pool.empty _).nils (fun x q hq => .inr ?_), rfl, ?_⟩
    · cases x <;> (simp only [dO, Option.some.injEq] at hq; subst hq; exact ⟨rfl, rfl, rfl⟩)
    · have := al_new (W.alloc (.cells #[.slice none 0 0, .slice none 0 0, .slice none 0 0, .slice none 0 0, .slice none 0 0] 26)) (.cells #[.slice (some ⟨C, 0, none⟩) pl pc, .slice none 0 0, .slice none 0 0, .slice none 0 0, (.slice ia il ic)] 26)
      simpa using this
  have HK : Hid (Stil W ((W.alloc (.cells #[.slice none 0 0, .slice none 0 0, .slice none 0 0, .slice none 0 0, .slice none 0 0] 26)).alloc (.cells #[.slice (some ⟨C, 0, none⟩) pl pc, .slice none 0 0, .slice none 0 0, .slice none 0 0, (.slice ia il ic)] 26))) := ((Keep.refl _ W).alloc _).alloc _
  clear m m1 m2 cf
  go_enter Try.func16, Try.ntmps16
  go_wp2
  generalize ((W.alloc (.cells #[.slice none 0 0, .slice none 0 0, .slice none 0 0, .slice none 0 0, .slice none 0 0] 26)).alloc (.cells #[.slice (some ⟨C, 0, none⟩) pl pc, .slice none 0 0, .slice none 0 0, .slice none 0 0, (.slice ia il ic)] 26)) = w2 at *
  generalize hr : W.heap.size = r at *
  go_loopw [19] (fun u wr => ∃ (k : Nat) (v1 v2 v3 : Value) (tt : Nat → Option OTag), k ≤ n ∧ u = .int .i64 (k : Int) ∧ Hid (Omov wr (r + 1) s (.slice (some ⟨C, 0, none⟩) pl pc) (.slice ia il ic) k k k v1 v2 v3 tt) ∧ Hid ((∀ g, tt g ≠ none → r < g)) ∧ Hid (wr.heap[r]? = some (.cells #[.slice none 0 0, .slice none 0 0, .slice none 0 0, .slice none 0 0, .slice none 0 0] 26 (0, 0))) ∧ Hid (Stil W wr)) (fun u _ => n - (intOf u).toNat)
  case atStart => exact ⟨0, _, _, _, _, Nat.zero_le _, rfl, HO, fun g hg => absurd rfl hg, HR, HK⟩
  case round =>
    obtain ⟨k, v1, v2, v3, tt, hk, rfl, HOm, HTg, HRr, HKr⟩ := hrel
    by_cases hlt : k < n
    · have hlt' : (k : Int) < (n : Int) := by omega
      obtain ⟨p0, p1, p2, p3, p4, pf⟩ := (HM.out.still HKr.out).proc hlt
      obtain ⟨sg1, sg2, sg3⟩ := HOm.out.segs
      obtain ⟨va1, vc1, hv1⟩ := segForm sg1
      obtain ⟨va2, vc2, hv2⟩ := segForm sg2
      obtain ⟨va3, vc3, hv3⟩ := segForm sg3
      subst hv1
      subst hv2
      subst hv3
      have hO1 := HOm.out.still (Stil.new wr (.cells #[.int .i64 ((s.pr k).pl : Int), .int .i64 ((s.pr k).tk : Int), .bool (s.pr k).ch, .int .i64 ((s.pr k).k : Int), .int .i64 ((s.pr k).m : Int)] 54))
      have hL1 := al_new wr (.cells #[.int .i64 ((s.pr k).pl : Int), .int .i64 ((s.pr k).tk : Int), .bool (s.pr k).ch, .int .i64 ((s.pr k).k : Int), .int .i64 ((s.pr k).m : Int)] 54)
      have hK1 := HKr.out.alloc (.cells #[.int .i64 ((s.pr k).pl : Int), .int .i64 ((s.pr k).tk : Int), .bool (s.pr k).ch, .int .i64 ((s.pr k).k : Int), .int .i64 ((s.pr k).m : Int)] 54)
      have hrl : r < wr.heap.size := (Array.getElem?_eq_some_iff.1 HRr.out).1
      have hol : r + 1 < wr.heap.size := (Array.getElem?_eq_some_iff.1 HOm.out.blk).1
      have hR1 := (al_old wr (.cells #[.int .i64 ((s.pr k).pl : Int), .int .i64 ((s.pr k).tk : Int), .bool (s.pr k).ch, .int .i64 ((s.pr k).k : Int), .int .i64 ((s.pr k).m : Int)] 54) r hrl).trans HRr.out
      have htq : tt wr.heap.size = none := HOm.out.pool.fresh _ (Nat.le_refl _)
      have hzz : r + 1 < (wr.alloc (.cells #[.int .i64 ((s.pr k).pl : Int), .int .i64 ((s.pr k).tk : Int), .bool (s.pr k).ch, .int .i64 ((s.pr k).k : Int), .int .i64 ((s.pr k).m : Int)] 54)).heap.size := by simp; omega
      have hx0 : (wr.alloc (.cells #[.int .i64 ((s.pr k).pl : Int), .int .i64 ((s.pr k).tk : Int), .bool (s.pr k).ch, .int .i64 ((s.pr k).k : Int), .int .i64 ((s.pr k).m : Int)] 54)).cell? ⟨wr.heap.size, 0, none⟩ = some (.int .i64 ((s.pr k).pl : Int)) := by rw [cell_of_row _ _ _ _ _ _ hL1]; rfl
      have hx1 : (wr.alloc (.cells #[.int .i64 ((s.pr k).pl : Int), .int .i64 ((s.pr k).tk : Int), .bool (s.pr k).ch, .int .i64 ((s.pr k).k : Int), .int .i64 ((s.pr k).m : Int)] 54)).cell? ⟨wr.heap.size, 1, none⟩ = some (.int .i64 ((s.pr k).tk : Int)) := by rw [cell_of_row _ _ _ _ _ _ hL1]; rfl
      have hx2 : (wr.alloc (.cells #[.int .i64 ((s.pr k).pl : Int), .int .i64 ((s.pr k).tk : Int), .bool (s.pr k).ch, .int .i64 ((s.pr k).k : Int), .int .i64 ((s.pr k).m : Int)] 54)).cell? ⟨wr.heap.size, 2, none⟩ = some (.bool (s.pr k).ch) := by rw [cell_of_row _ _ _ _ _ _ hL1]; rfl
      go_upto_region 5 with fail
      clear p0 p1 p2 p3 p4 pf c0'' c0' c1' c0 hL1 HOm HKr HRr sg1 sg2 sg3
      generalize (s.pr k).k = kk at *
      generalize (s.pr k).m = mm at *
      generalize hw1 : wr.alloc (.cells #[.int .i64 ((s.pr k).pl : Int), .int .i64 ((s.pr k).tk : Int), .bool (s.pr k).ch, .int .i64 (kk : Int), .int .i64 (mm : Int)] 54) = w1 at *
      clear hw1
      generalize wr.heap.size = q at *
      have HO1 := hidMk hO1
      have HK1 := hidMk hK1
      have HR1 := hidMk hR1
      have hk1 := hO1.cells.1
      have hw1s : q < w1.heap.size := World.block_lt_of_cell? _ _ hx0
      clear hO1 hK1 hR1
      go_wp2_with (at_builtin; refine wpList_append_seg _ rfl _ _ 22 rfl 3 i0 (.int .i64 0) 1 8 Try.underlying22 hit hz0 hz1 hz2 rfl (by decide) (.slice va1 k vc1) k (natsL (plL s k)) rfl (segAlloc HO1.out.segs.1 _) ⟨w1.heap.size, 0, none⟩ 1 1 [.int .i64 ((s.pr k).pl : Int)] rfl rfl (cCell1 w1 (.int .i64 ((s.pr k).pl : Int)) 3 _ rfl) (cOne _) (by unfold maxLen; omega) (by omega) ?_)
      intro v3 w3 hs3 hg3
      obtain ⟨a3, c3, rfl⟩ := segForm hs3
      obtain ⟨g1, g2, t2, O2, S2⟩ := HO1.out.push1 (Stil.new w1 (.cells #[.int .i64 ((s.pr k).pl : Int)] 3)) (hs3.mono (fun g _ e => by simpa using e)) hg3
      have y1 := S2.cell htq (by omega) hx1
      have y2 := S2.cell htq (by omega) hx2
      have hT2 := S2.fresh (lo := r + 1) (Nat.le_refl _) (by omega) (fun g hg => HTg.out g hg)
      have ht2q := (S2.tags q hw1s).trans htq
      have hR2 : _ = _ := (S2.keep.block r (by omega) (fun e => by rcases e with e | e; exact absurd (HTg.out r e) (by omega); omega)).trans HR1.out
      have hK2 : Stil W _ := HK1.out.trans S2.keep (fun _ _ e => e) (fun g hg e => by
        rcases e with e | e
        · have := HTg.out g e; omega
        · omega)
      have hw2s : q < (w3.setCell ⟨r + 1, 1, none⟩ (.slice a3 (k + 1) c3)).heap.size := World.block_lt_of_cell? _ _ y1
      have hk2 := O2.cells.2.1
      have HO2 := hidMk O2
      have HT2 := hidMk hT2
      have HR2 := hidMk hR2
      have HK2 := hidMk hK2
      clear hs3 hg3 S2 O2 hT2 hR2 hK2 HO1 HK1 HR1 hx1 hx2 hx0 htq HTg hw1s hk1 hzz
      go_upto_region 6 with fail
      clear g1 g2
      generalize (w3.setCell ⟨r + 1, 1, none⟩ (.slice a3 (k + 1) c3)) = w4 at *
      go_wp2_with (at_builtin; refine wpList_append_seg _ rfl _ _ 22 rfl 3 i0 (.int .i64 0) 1 8 Try.underlying22 hit hz0 hz1 hz2 rfl (by decide) (.slice va2 k vc2) k (natsL (tkL s k)) rfl (segAlloc HO2.out.segs.2.1 _) ⟨w4.heap.size, 0, none⟩ 1 1 [.int .i64 ((s.pr k).tk : Int)] rfl rfl (cCell1 w4 (.int .i64 ((s.pr k).tk : Int)) 3 _ rfl) (cOne _) (by unfold maxLen; omega) (by omega) ?_)
      intro v5 w5 hs5 hg5
      obtain ⟨a5, c5, rfl⟩ := segForm hs5
      obtain ⟨g1, g2, t3, O3, S3⟩ := HO2.out.push2 (Stil.new w4 (.cells #[.int .i64 ((s.pr k).tk : Int)] 3)) (hs5.mono (fun g _ e => by simpa using e)) hg5
      have x2 := S3.cell ht2q (by omega) y2
      have hT3 := S3.fresh (lo := r + 1) (Nat.le_refl _) (by omega) HT2.out
      have ht3q := (S3.tags q hw2s).trans ht2q
      have hR3 : _ = _ := (S3.keep.block r (by omega) (fun e => by rcases e with e | e; exact absurd (HT2.out r e) (by omega); omega)).trans HR2.out
      have hK3 : Stil W _ := HK2.out.trans S3.keep (fun _ _ e => e) (fun g hg e => by
        rcases e with e | e
        · have := HT2.out g e; omega
        · omega)
      have hw3s : q < (w5.setCell ⟨r + 1, 2, none⟩ (.slice a5 (k + 1) c5)).heap.size := World.block_lt_of_cell? _ _ x2
      have hk3 := O3.cells.2.2.1
      have HO3 := hidMk O3
      have HT3 := hidMk hT3
      have HR3 := hidMk hR3
      have HK3 := hidMk hK3
      clear hs5 hg5 S3 O3 hT3 hR3 hK3 HO2 HK2 HR2 y1 y2 ht2q HT2 hw2s hk2
      go_upto_region 7 with fail
      clear g1 g2
      generalize (w5.setCell ⟨r + 1, 2, none⟩ (.slice a5 (k + 1) c5)) = w6 at *
      go_wp2_with (at_builtin; refine wpList_append_seg _ rfl _ _ 24 rfl 4 b0 (.bool false) 1 1 Try.underlying24 bit bz0 bz1 bz2 rfl (by decide) (.slice va3 k vc3) k (boolsL (chL s k)) rfl (segAlloc HO3.out.segs.2.2 _) ⟨w6.heap.size, 0, none⟩ 1 1 [.bool (s.pr k).ch] rfl rfl (cCell1 w6 (.bool (s.pr k).ch) 4 _ rfl) (cOneB _) (by unfold maxLen; omega) (by omega) ?_)
      intro v7 w7 hs7 hg7
      obtain ⟨a7, c7, rfl⟩ := segForm hs7
      obtain ⟨g1, g2, t4, O4, S4⟩ := HO3.out.push3 (Stil.new w6 (.cells #[.bool (s.pr k).ch] 4)) (hs7.mono (fun g _ e => by simpa using e)) hg7
      have hT4 := S4.fresh (lo := r + 1) (Nat.le_refl _) (by omega) HT3.out
      have hR4 : _ = _ := (S4.keep.block r (by omega) (fun e => by rcases e with e | e; exact absurd (HT3.out r e) (by omega); omega)).trans HR3.out
      have hK4 : Stil W _ := HK3.out.trans S4.keep (fun _ _ e => e) (fun g hg e => by
        rcases e with e | e
        · have := HT3.out g e; omega
        · omega)
      have HO4 := hidMk O4
      have HT4 := hidMk hT4
      have HR4 := hidMk hR4
      have HK4 := hidMk hK4
      clear hs7 hg7 S4 O4 hT4 hR4 hK4 HO3 HK3 HR3 x2 ht3q HT3 hw3s hk3
      go_wp2
      go_roundw
      case rel => exact ⟨k + 1, _, _, _, t4, by omega, by go_num, HO4, fun g hg => HT4.out g hg, HR4, HK4⟩
      case measure => simp [intOf]; omega
    · obtain rfl : k = n := by omega
      obtain ⟨sg1, sg2, sg3⟩ := HOm.out.segs
      obtain ⟨va1, vc1, hv1⟩ := segForm sg1
      obtain ⟨va2, vc2, hv2⟩ := segForm sg2
      obtain ⟨va3, vc3, hv3⟩ := segForm sg3
      subst hv1
      subst hv2
      subst hv3
      have hob := HOm.out.blk
      have hrl : r < wr.heap.size := (Array.getElem?_eq_some_iff.1 HRr.out).1
      have o0 : wr.cell? ⟨r + 1, 0, none⟩ = some (.slice (some ⟨C, 0, none⟩) pl pc) := by rw [cell_of_row wr _ _ _ _ _ hob]; rfl
      have o1 := HOm.out.cells.1
      have o2 := HOm.out.cells.2.1
      have o3 := HOm.out.cells.2.2.1
      have o4 : wr.cell? ⟨r + 1, 4, none⟩ = some (.slice ia il ic) := by rw [cell_of_row wr _ _ _ _ _ hob]; rfl
      have hb := HRr.out
      have r0 : wr.cell? ⟨r, 0, none⟩ = some (.slice none 0 0) := by rw [cell_of_row wr _ _ _ _ _ hb]; rfl
      have r1 : wr.cell? ⟨r, 1, none⟩ = some (.slice none 0 0) := by rw [cell_of_row wr _ _ _ _ _ hb]; rfl
      have r2 : wr.cell? ⟨r, 2, none⟩ = some (.slice none 0 0) := by rw [cell_of_row wr _ _ _ _ _ hb]; rfl
      have r3 : wr.cell? ⟨r, 3, none⟩ = some (.slice none 0 0) := by rw [cell_of_row wr _ _ _ _ _ hb]; rfl
      have r4 : wr.cell? ⟨r, 4, none⟩ = some (.slice none 0 0) := by rw [cell_of_row wr _ _ _ _ _ hb]; rfl
      have f0 : wr.frozen? ⟨r, 0, none⟩ = false := frozen_of_row wr _ _ _ _ hb
      have f1 : wr.frozen? ⟨r, 1, none⟩ = false := frozen_of_row wr _ _ _ _ hb
      have f2 : wr.frozen? ⟨r, 2, none⟩ = false := frozen_of_row wr _ _ _ _ hb
      have f3 : wr.frozen? ⟨r, 3, none⟩ = false := frozen_of_row wr _ _ _ _ hb
      have f4 : wr.frozen? ⟨r, 4, none⟩ = false := frozen_of_row wr _ _ _ _ hb
      have HSg := hidMk sg1
      have HSh := hidMk sg2
      have HSi := hidMk sg3
      clear hob sg1 sg2 sg3 c0 c0' c1' c0'' hcI
      go_wp2
      have b1 := heap_setCell_same wr r 0 _ _ (.slice (some ⟨C, 0, none⟩) pl pc) hb
      have b2 := heap_setCell_same _ r 1 _ _ (.slice va1 k vc1) b1
      have b3 := heap_setCell_same _ r 2 _ _ (.slice va2 k vc2) b2
      have b4 := heap_setCell_same _ r 3 _ _ (.slice va3 k vc3) b3
      have b5 := heap_setCell_same _ r 4 _ _ (.slice ia il ic) b4
      have kk := (((((Keep.refl (fun g => g = r) wr).setCell r 0 (.slice (some ⟨C, 0, none⟩) pl pc) (fun _ => rfl)).setCell r 1 (.slice va1 k vc1) (fun _ => rfl)).setCell r 2 (.slice va2 k vc2) (fun _ => rfl)).setCell r 3 (.slice va3 k vc3) (fun _ => rfl)).setCell r 4 (.slice ia il ic) (fun _ => rfl)
      refine bodyPost_ret (results_one_row (P := Try.prog) rfl _ _ r 26 #[.slice (some ⟨C, 0, none⟩) pl pc, .slice va1 k vc1, .slice va2 k vc2, .slice va3 k vc3, .slice ia il ic] (0, 0) _ rfl (by simpa using b5) Try.underlying26 rfl (by kernel_rfl)) rfl ?_
      have hno : ∀ {x : OTag} {g : Nat}, tt g = some x → ¬ g = r := fun {x g} e e2 => by have := HTg.out g (by rw [e]; simp); omega
      exact ⟨_, _, _, _, _, _, rfl, seg_row (HSg.out.keep kk (fun g _ e => hno e)), seg_row (HSh.out.keep kk (fun g _ e => hno e)), seg_rowO (HSi.out.keep kk (fun g _ e => hno e)), (fun x hx => by have := (HSg.out.block (k := x.block) (by rw [hx]; rfl)).1; have := HTg.out x.block (by rw [this]; simp); omega), (fun x hx => by have := (HSh.out.block (k := x.block) (by rw [hx]; rfl)).1; have := HTg.out x.block (by rw [this]; simp); omega), (fun x hx => by have := (HSi.out.block (k := x.block) (by rw [hx]; rfl)).1; have := HTg.out x.block (by rw [this]; simp); omega), HKr.out.trans kk (fun _ _ e => e) (fun g hg e => by omega)⟩
end Go.Proofs.Ytgnigjfgddhgiaa
