/- Play: how it goes. -/
import Derived.Test.YtpdccjhabolccaaCa8
namespace Go.Proofs.Ytpdccjhabolccaa
open Go.RowKit Go.WideMaps
set_option linter.unusedVariables false

/-- What a play leaves. -/
structure PlayedC (W W2 : World) (n pl : Nat) (ps : List Cst) (h : CSh) (mb C : Nat) : Prop where
  mov : Cmov W2 mb n (csAt n ps pl) h
  low : ∀ g, h.t g ≠ .no → W.heap.size ≤ g
  cW : W.heap.size ≤ C
  codes : W2.heap[C]? = some (.cells (ccRow n ps pl pl).toArray 28 (0, 0))
  keep : Still W W2

set_option maxRecDepth 100000 in
set_option maxHeartbeats 8000000 in
theorem play_okC {W : World} {pa : Option Addr} {n pl pc : Nat} {ps : List Cst} (hp : CameC W pa pl pc ps) (h0 : 0 < n) (h6 : n ≤ 6) (hpl : pl ≤ 120) :
    Calls Try.prog 12 #[.int .i64 (n : Int), .slice pa pl pc] W fun e W2 => ∃ C mb h, e = .returned (.tuple #[.agg #[.slice (some ⟨C, 0, none⟩) pl pl, .slice (some ⟨h.L, 0, none⟩) n n], .int .i64 0]) ∧ PlayedC W W2 n pl ps h mb C := by
  have HP := hidMk hp
  have q1 : decide ((n : Int) < 1) = false := decide_eq_false (by omega)
  have q2 : decide (6 < (n : Int)) = false := decide_eq_false (by omega)
  have q3 : decide (120 < (pl : Int)) = false := decide_eq_false (by omega)
  have hmm := @run_makeMap Try.prog
  have hmk := cMakeCodes pl (by omega)
  rw [cMadeCodes n ps pl] at hmk
  have hmr := cMakeRows n (by omega)
  rw [cMadeRows n] at hmr
  clear hp
  go_enter Try.func12, Try.ntmps12
  go_wp2
  have HMv : Hid (∃ h, Cmov (((((W.alloc (.cells #[.slice none 0 0, .slice none 0 0] 36)).alloc (.map #[] 0)).alloc (.cells ((List.range n).map noList).toArray 22)).alloc (.cells #[.slice none 0 0, .map (some (W.heap.size + 1)), .slice (some ⟨W.heap.size + 1 + 1, 0, none⟩) n n] 72)).alloc (.cells (ccRow n ps pl 0).toArray 28)) (W.heap.size + 1 + 1 + 1) n cs0 h ∧ h.t (W.heap.size + 1 + 1 + 1 + 1) = .no ∧ h.t W.heap.size = .no ∧ h.c = 0 ∧ ∀ g, h.t g ≠ .no → W.heap.size ≤ g) := by
    have m0 := cmov_start (w := ((((W.alloc (.cells #[.slice none 0 0, .slice none 0 0] 36)).alloc (.map #[] 0)).alloc (.cells ((List.range n).map noList).toArray 22)).alloc (.cells #[.slice none 0 0, .map (some (W.heap.size + 1)), .slice (some ⟨W.heap.size + 1 + 1, 0, none⟩) n n] 72))) (r := W.heap.size) (n := n) (by simp)
      (by rw [al_old _ _ _ (by simp)]; have := al_new ((W.alloc (.cells #[.slice none 0 0, .slice none 0 0] 36)).alloc (.map #[] 0)) (.cells ((List.range n).map noList).toArray 22); simpa using this)
      (by have := ((Pairs.made (W.alloc (.cells #[.slice none 0 0, .slice none 0 0] 36)) 95 (.int .i64 0)).keep (((Keep.refl (fun _ => False) _).alloc (.cells ((List.range n).map noList).toArray 22)).alloc (.cells #[.slice none 0 0, .map (some (W.heap.size + 1)), .slice (some ⟨W.heap.size + 1 + 1, 0, none⟩) n n] 72)) (fun e => e)); simpa using this)
      (by have := al_new (((W.alloc (.cells #[.slice none 0 0, .slice none 0 0] 36)).alloc (.map #[] 0)).alloc (.cells ((List.range n).map noList).toArray 22)) (.cells #[.slice none 0 0, .map (some (W.heap.size + 1)), .slice (some ⟨W.heap.size + 1 + 1, 0, none⟩) n n] 72); simpa using this)
    refine ⟨_, m0.alloc _, ?_, ?_, rfl, ?_⟩
    · show ctag0 _ _ = _
      unfold ctag0
      rw [if_neg (by omega), if_neg (by omega), if_neg (by omega)]
    · show ctag0 _ _ = _
      unfold ctag0
      rw [if_neg (by omega), if_neg (by omega), if_neg (by omega)]
    · intro g hg
      have hg2 : ctag0 W.heap.size g ≠ .no := hg
      unfold ctag0 at hg2
      split at hg2
      · omega
      · split at hg2
        · omega
        · split at hg2
          · omega
          · exact absurd rfl hg2
  have HKW : Hid (Still W (((((W.alloc (.cells #[.slice none 0 0, .slice none 0 0] 36)).alloc (.map #[] 0)).alloc (.cells ((List.range n).map noList).toArray 22)).alloc (.cells #[.slice none 0 0, .map (some (W.heap.size + 1)), .slice (some ⟨W.heap.size + 1 + 1, 0, none⟩) n n] 72)).alloc (.cells (ccRow n ps pl 0).toArray 28))) := ((((((Keep.refl _ W).alloc _).alloc _).alloc _).alloc _).alloc _)
  have HRW : Hid ((((((W.alloc (.cells #[.slice none 0 0, .slice none 0 0] 36)).alloc (.map #[] 0)).alloc (.cells ((List.range n).map noList).toArray 22)).alloc (.cells #[.slice none 0 0, .map (some (W.heap.size + 1)), .slice (some ⟨W.heap.size + 1 + 1, 0, none⟩) n n] 72)).alloc (.cells (ccRow n ps pl 0).toArray 28)).heap[W.heap.size]? = some (.cells #[.slice none 0 0, .slice none 0 0] 36 (0, 0))) := by
    show _ = _
    rw [al_old _ _ _ (by simp; omega), al_old _ _ _ (by simp; omega), al_old _ _ _ (by simp; omega), al_old _ _ _ (by simp), al_new]
  have HCW : Hid ((((((W.alloc (.cells #[.slice none 0 0, .slice none 0 0] 36)).alloc (.map #[] 0)).alloc (.cells ((List.range n).map noList).toArray 22)).alloc (.cells #[.slice none 0 0, .map (some (W.heap.size + 1)), .slice (some ⟨W.heap.size + 1 + 1, 0, none⟩) n n] 72)).alloc (.cells (ccRow n ps pl 0).toArray 28)).heap[W.heap.size + 1 + 1 + 1 + 1]? = some (.cells (ccRow n ps pl 0).toArray 28 (0, 0))) := by
    show _ = _
    have := al_new ((((W.alloc (.cells #[.slice none 0 0, .slice none 0 0] 36)).alloc (.map #[] 0)).alloc (.cells ((List.range n).map noList).toArray 22)).alloc (.cells #[.slice none 0 0, .map (some (W.heap.size + 1)), .slice (some ⟨W.heap.size + 1 + 1, 0, none⟩) n n] 72)) (.cells (ccRow n ps pl 0).toArray 28)
    simpa using this
  clear hmm hmk hmr q1 q2 q3
  generalize (((((W.alloc (.cells #[.slice none 0 0, .slice none 0 0] 36)).alloc (.map #[] 0)).alloc (.cells ((List.range n).map noList).toArray 22)).alloc (.cells #[.slice none 0 0, .map (some (W.heap.size + 1)), .slice (some ⟨W.heap.size + 1 + 1, 0, none⟩) n n] 72)).alloc (.cells (ccRow n ps pl 0).toArray 28)) = w5 at *
  obtain ⟨h5, HM5, HT5⟩ := HMv.out
  clear HMv
  generalize hr : W.heap.size = r at *
  generalize hmbe : r + 1 + 1 + 1 = mb at *
  have hmr : r < mb := by omega
  clear hmbe
  go_loopw [31] (fun u wr => ∃ k h, k ≤ pl ∧ u = .int .i64 (k : Int) ∧ Hid (Cmov wr mb n (csAt n ps k) h) ∧ Hid (wr.heap[mb + 1]? = some (.cells (ccRow n ps pl k).toArray 28 (0, 0))) ∧ Hid (wr.heap[r]? = some (.cells #[.slice none 0 0, .slice none 0 0] 36 (0, 0))) ∧
    Hid (h.t (mb + 1) = .no ∧ h.t r = .no ∧ h.c ≤ 121 * k ∧ ∀ g, h.t g ≠ .no → r ≤ g) ∧ Hid (Still W wr)) (fun u _ => pl - (intOf u).toNat)
  case atStart => exact ⟨0, h5, Nat.zero_le _, rfl, HM5, HCW, HRW, ⟨HT5.1, HT5.2.1, by rw [HT5.2.2.1]; omega, HT5.2.2.2⟩, HKW⟩
  case round =>
    obtain ⟨k, h, hk, rfl, HM, HC, HR, HT, HK⟩ := hrel
    by_cases hlt : k < pl
    · have hlt' : (k : Int) < (pl : Int) := by omega
      obtain ⟨hpl1, hpl2, hpl3, hpr⟩ := HP.out
      rcases hpr with hpr | ⟨b, off, rfl, hbW, hpr⟩
      · omega
      have hpk : ps[k]? = some (ps[k]'(by omega)) := List.getElem?_eq_getElem (by omega)
      generalize ps[k]'(by omega) = p at hpk
      obtain ⟨d0, d1, d2⟩ := (hpr.keep hbW HK.out (fun e => e)) k p hpk
      have hinv := cat_inv (n := n) ps k
      have hml : (csAt n ps k).msgs.length ≤ 120 := by have := cat_msgs_len (n := n) ps k; omega
      have ek : csAt n ps (k + 1) = stepC n (csAt n ps k) p := by show (match ps[k]? with | some p => _ | none => _) = _; rw [hpk]
      have ec : ccAt n ps k = codeC n (csAt n ps k) p := by unfold ccAt; rw [hpk]
      have HEK := hidMk ek
      have HEC := hidMk ec
      clear ek ec hpk hpr
      generalize csAt n ps k = S at *
      have HCk := hidMk (fun o : Obj => chk_any (HM.out.alloc o) h6 (by omega) p)
      have HDo := hidMk (fun (w9 : World) (m9 : Cmov w9 mb n S h) (hc9 : codeC n S p = 0) => do_anyC m9 hinv hc9 h6 (by omega) (by have := HT.out.2.2.1; omega))
      unfold stepV at HDo
      obtain ⟨kd, wh, x⟩ := p
      simp only at d0 d1 d2 HCk HDo
      clear hinv hpl3
      have HML := hidMk hml
      clear hml
      go_wp2_with (fail)
      go_at_call 31
      refine (HCk.out _).mono ?_
      rintro e w6 ⟨rfl, hk6⟩
      have hLw : wr.heap.size < w6.heap.size := by have := hk6.size; simp at this; omega
      have hL6 : w6.heap[wr.heap.size]? = some (.cells #[.int .i64 kd, .int .i64 wh, .int .i64 x] 47 (0, 0)) := by rw [hk6.block wr.heap.size (by simp) (fun e => e), al_new]
      have hCl : mb + 1 < wr.heap.size := (Array.getElem?_eq_some_iff.1 HC.out).1
      have hRl : r < wr.heap.size := (Array.getElem?_eq_some_iff.1 HR.out).1
      have hC6 : w6.heap[mb + 1]? = some (.cells (ccRow n ps pl k).toArray 28 (0, 0)) := by rw [hk6.block _ (by simp; omega) (fun e => e), al_old _ _ _ hCl]; exact HC.out
      have hR6 : w6.heap[r]? = some (.cells #[.slice none 0 0, .slice none 0 0] 36 (0, 0)) := by rw [hk6.block _ (by simp; omega) (fun e => e), al_old _ _ _ hRl]; exact HR.out
      have M6 : Cmov w6 mb n S h := (HM.out.alloc _).still hk6
      have K6 : Still W w6 := (HK.out.alloc _).trans hk6 (fun _ _ e => e) (fun _ _ e => e)
      have hsk : (ccRow n ps pl k).toArray.setIfInBounds k (.int .i64 (codeC n S ⟨kd, wh, x⟩)) = (ccRow n ps pl (k + 1)).toArray := by rw [← ccRow_set hlt, HEC.out]; simp
      have HC7 := hidMk (heap_setCell_same w6 (mb + 1) k _ _ (.int .i64 (codeC n S ⟨kd, wh, x⟩)) hC6)
      rw [hsk] at HC7
      have hne : r ≠ mb + 1 := by omega
      have HR7 := hidMk ((Below.heap_setCell w6 ⟨mb + 1, k, none⟩ (.int .i64 (codeC n S ⟨kd, wh, x⟩)) _ hne).trans hR6)
      have HL7 := hidMk ((Below.heap_setCell w6 ⟨mb + 1, k, none⟩ (.int .i64 (codeC n S ⟨kd, wh, x⟩)) wr.heap.size (by show wr.heap.size ≠ mb + 1; omega)).trans hL6)
      have HM7 : Hid (Cmov (w6.setCell ⟨mb + 1, k, none⟩ (.int .i64 (codeC n S ⟨kd, wh, x⟩))) mb n S h) := M6.keep ((Keep.refl (fun g => g = mb + 1) w6).setCell _ _ _ (fun _ => rfl)) (fun g _ e => by subst e; exact HT.out.1)
      have HK7 : Hid (Still W (w6.setCell ⟨mb + 1, k, none⟩ (.int .i64 (codeC n S ⟨kd, wh, x⟩)))) := K6.setCell _ _ _ (fun e => by omega)
      have c6 : w6.cell? ⟨mb + 1, k, none⟩ = some (.int .i64 0) := by
        rw [cell_of_row w6 _ _ _ _ _ hC6]
        simp only [List.getElem?_toArray]
        rw [ccRow_at hlt, if_neg (by omega)]
      have f6 : w6.frozen? ⟨mb + 1, k, none⟩ = false := frozen_of_row w6 _ _ _ _ hC6
      have l0 : w6.cell? ⟨wr.heap.size, 0, none⟩ = some (.int .i64 kd) := by rw [cell_of_row w6 _ _ _ _ _ hL6]; rfl
      clear hk6 hL6 hC6 hR6 M6 K6 hsk HC HR HM HK HCk d0 d1 d2
      by_cases hcd : codeC n S ⟨kd, wh, x⟩ = 0
      · have HD1 := hidMk (fun (w9 : World) (m9 : Cmov w9 mb n S h) => HDo.out w9 m9 hcd)
        have HE2 : Hid (csAt n ps (k + 1) = doC S ⟨kd, wh, x⟩) := by
          show _ = _
          rw [HEK.out]; unfold stepC; rw [if_pos hcd]
        rw [hcd] at HC7 HR7 HL7 HM7 HK7 ⊢
        have HD2 := hidMk (HD1.out _ HM7.out)
        have q0 : (w6.setCell ⟨mb + 1, k, none⟩ (.int .i64 0)).cell? ⟨wr.heap.size, 0, none⟩ = some (.int .i64 kd) := by rw [cell_of_row _ _ _ _ _ _ HL7.out]; rfl
        have q1 : (w6.setCell ⟨mb + 1, k, none⟩ (.int .i64 0)).cell? ⟨wr.heap.size, 1, none⟩ = some (.int .i64 wh) := by rw [cell_of_row _ _ _ _ _ _ HL7.out]; rfl
        have q2 : (w6.setCell ⟨mb + 1, k, none⟩ (.int .i64 0)).cell? ⟨wr.heap.size, 2, none⟩ = some (.int .i64 x) := by rw [cell_of_row _ _ _ _ _ _ HL7.out]; rfl
        clear HDo HD1 l0
        go_wp2_with (fail)
        go_at_call 32
        refine (HD2.out).mono ?_
        rintro e w8 ⟨rfl, h8, m8, st8⟩
        have t1 := HT.out
        have HM8 : Hid (Cmov w8 mb n (csAt n ps (k + 1)) h8) := by rw [HE2.out]; exact m8
        have HC8 : Hid (w8.heap[mb + 1]? = some (.cells (ccRow n ps pl (k + 1)).toArray 28 (0, 0))) := (st8.keep.block _ (Array.getElem?_eq_some_iff.1 HC7.out).1 (fun e => e t1.1)).trans HC7.out
        have HR8 : Hid (w8.heap[r]? = some (.cells #[.slice none 0 0, .slice none 0 0] 36 (0, 0))) := (st8.keep.block _ (Array.getElem?_eq_some_iff.1 HR7.out).1 (fun e => e t1.2.1)).trans HR7.out
        have HK8 : Hid (Still W w8) := HK7.out.trans st8.keep (fun _ _ e => e) (fun g hg e => by have := t1.2.2.2 g e; omega)
        have HT8 : Hid (h8.t (mb + 1) = .no ∧ h8.t r = .no ∧ h8.c ≤ 121 * (k + 1) ∧ ∀ g, h8.t g ≠ .no → r ≤ g) := by
          refine ⟨(st8.tags _ (Array.getElem?_eq_some_iff.1 HC7.out).1).trans t1.1, (st8.tags _ (Array.getElem?_eq_some_iff.1 HR7.out).1).trans t1.2.1, by have := st8.count; have := t1.2.2.1; have := HML.out; omega, fun g hg => ?_⟩
          by_cases hgw : r ≤ g
          · exact hgw
          · rw [st8.tags g (by have := (Array.getElem?_eq_some_iff.1 HR7.out).1; omega)] at hg
            exact t1.2.2.2 g hg
        clear m8 st8 HC7 HR7 HL7 HM7 HK7 HD2 HT t1 q0 q1 q2
        go_wp2
        go_roundw
        case rel => exact ⟨k + 1, h8, by omega, by go_num, HM8, HC8, HR8, HT8, HK8⟩
        case measure => simp [intOf]; omega
      · have HE2 : Hid (csAt n ps (k + 1) = S) := by
          show _ = _
          rw [HEK.out]; unfold stepC; rw [if_neg hcd]
        have hcd' : (codeC n S ⟨kd, wh, x⟩ == 0) = false := by simpa using hcd
        have HM8 : Hid (Cmov (w6.setCell ⟨mb + 1, k, none⟩ (.int .i64 (codeC n S ⟨kd, wh, x⟩))) mb n (csAt n ps (k + 1)) h) := by rw [HE2.out]; exact HM7
        have HT8 : Hid (h.t (mb + 1) = .no ∧ h.t r = .no ∧ h.c ≤ 121 * (k + 1) ∧ ∀ g, h.t g ≠ .no → r ≤ g) := ⟨HT.out.1, HT.out.2.1, by have := HT.out.2.2.1; omega, HT.out.2.2.2⟩
        clear HDo HM7 HT HEK HEC HE2
        generalize codeC n S ⟨kd, wh, x⟩ = cd at *
        go_wp2
        go_roundw
        case rel => exact ⟨k + 1, h, by omega, by go_num, HM8, HC7, HR7, HT8, HK7⟩
        case measure => simp [intOf]; omega
    · obtain rfl : k = pl := by omega
      have c2 := HM.out.cells.2.2
      have r0 : wr.cell? ⟨r, 0, none⟩ = some (.slice none 0 0) := (cell_of_row wr _ 0 _ _ _ HR.out).trans rfl
      have r1 : wr.cell? ⟨r, 1, none⟩ = some (.slice none 0 0) := (cell_of_row wr _ 1 _ _ _ HR.out).trans rfl
      have f0 : wr.frozen? ⟨r, 0, none⟩ = false := frozen_of_row wr _ _ _ _ HR.out
      have f1 : wr.frozen? ⟨r, 1, none⟩ = false := frozen_of_row wr _ _ _ _ HR.out
      go_wp2
      have a1 := (Keep.refl (fun g => g = r) wr).setCell r 0 (.slice (some ⟨mb + 1, 0, none⟩) k k) (fun _ => rfl)
      have a2 := a1.setCell r 1 (.slice (some ⟨h.L, 0, none⟩) n n) (fun _ => rfl)
      have q1 := heap_setCell_same wr r 0 _ _ (.slice (some ⟨mb + 1, 0, none⟩) k k) HR.out
      have q2 := heap_setCell_same _ r 1 _ _ (.slice (some ⟨h.L, 0, none⟩) n n) q1
      refine bodyPost_ret (results_cell_tmp_rowC (P := Try.prog) rfl _ _ r 36 #[.slice (some ⟨mb + 1, 0, none⟩) k k, .slice (some ⟨h.L, 0, none⟩) n n] (0, 0) _ rfl (by simpa using q2) Try.underlying36 rfl (by kernel_rfl)) rfl ?_
      refine ⟨mb + 1, mb, h, rfl, ?_⟩
      have hC7 := HC.out
      exact ⟨HM.out.keep a2 (fun g _ e => by subst e; exact HT.out.2.1), by rw [hr]; exact HT.out.2.2.2, by omega, (a2.block _ (Array.getElem?_eq_some_iff.1 hC7).1 (by show ¬ (mb + 1 = r); omega)).trans hC7, HK.out.trans a2 (fun _ _ e => e) (fun g hg e => by omega)⟩
end Go.Proofs.Ytpdccjhabolccaa
