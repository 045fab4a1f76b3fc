/- Play: how it goes. -/
import Derived.Test.YtipoopbkapgfiaaTa8
import Derived.Deep.Cut
import Derived.Deep.CutRange
import Derived.RegionTactic
import Derived.BigRegion
namespace Go.Proofs.Ytipoopbkapgfiaa
open Go.RowKit Go.WideMaps
set_option linter.unusedVariables false

/-- What a play leaves. -/
structure PlayedT (W W2 : World) (n pl : Nat) (ps : List Cst) (h : TSh) (mb C : Nat) : Prop where
  mov : Tmov W2 mb n (tsAt n ps pl) h
  low : ∀ g, h.own mb g → W.heap.size ≤ g
  cW : W.heap.size ≤ C
  codes : W2.heap[C]? = some (.cells (tcRow n ps pl pl).toArray 27 (0, 0))
  keep : Stil W W2

/-- How it begins, in whatever order the blocks were laid. -/
theorem tmov_from {w : World} {n r N M L mb : Nat} (hn : n ≤ 6) (d1 : N ≠ L) (d2 : M ≠ mb) (d3 : N ≠ M) (d4 : L ≠ M) (d5 : N ≠ mb) (d6 : L ≠ mb) (l1 : r < N) (l2 : r < M) (l3 : r < L) (l4 : r < mb)
    (hN : w.heap[N]? = some (.cells ((List.range n).map zeroI).toArray 3 (0, 0))) (hM : w.heap[M]? = some (.map #[] 0)) (hL : w.heap[L]? = some (.cells ((List.range n).map noList).toArray 34 (0, 0)))
    (hmb : w.heap[mb]? = some (.cells #[.int .i64 0, .slice (some ⟨N, 0, none⟩) n n, .map (some M), .slice (some ⟨L, 0, none⟩) n n] 37 (0, 0))) :
    ∃ h, Tmov w mb n ts0 h ∧ h.c = 0 ∧ ∀ g, h.own mb g → r < g := by
  have sN := (Array.getElem?_eq_some_iff.1 hN).1
  have sL := (Array.getElem?_eq_some_iff.1 hL).1
  refine ⟨⟨M, 0, N, L, fun g => if g = N then some .num else if g = L then some .ls else none, noList⟩, ⟨⟨fun g hg => ?_, fun x q hx => ?_⟩, ?_, ?_, fun e => d2 e.symm, hmb, ?_⟩, rfl, fun g hg => ?_⟩
  · show (if g = N then some TTag.num else if g = L then some .ls else none) = none
    rw [if_neg (by omega), if_neg (by omega)]
  · cases x with
    | num =>
      simp only [dT, Option.some.injEq] at hx
      subst hx
      exact ⟨by simp, .inr ⟨N, 0, n, _, rfl, if_pos rfl, hN, Nat.le_refl _, by unfold maxLen; omega, by simp, fun j x h => by simpa [ts0, zeroI] using h⟩⟩
    | ls =>
      simp only [dT, Option.some.injEq] at hx
      subst hx
      exact ⟨by simp, .inr ⟨L, 0, n, _, rfl, by show (if L = N then some TTag.num else if L = L then some .ls else none) = _; rw [if_neg (fun e => d1 e.symm), if_pos rfl], hL, Nat.le_refl _, by unfold maxLen; omega, by simp, fun j x h => by simpa using h⟩⟩
    | li i =>
      simp only [dT] at hx
      split at hx
      · cases hx
        exact Seg.nil _ _ _ _
      · cases hx
  · show (if mb = N then some TTag.num else if mb = L then some .ls else none) = none
    rw [if_neg (fun e => d5 e.symm), if_neg (fun e => d6 e.symm)]
  · show (if M = N then some TTag.num else if M = L then some .ls else none) = none
    rw [if_neg (fun e => d3 e.symm), if_neg (fun e => d4 e.symm)]
  · obtain ⟨D, ⟨es, clock, hb, r1⟩, h2⟩ := PairsO.made w 59
    rw [al_new] at hb
    cases hb
    exact ⟨D, ⟨#[], 0, hM, r1⟩, h2⟩
  · rcases hg with hg | hg | hg
    · by_cases e1 : g = N
      · omega
      · by_cases e2 : g = L
        · omega
        · exact absurd (by show (if g = N then some TTag.num else if g = L then some .ls else none) = none; rw [if_neg e1, if_neg e2]) hg
    · omega
    · have : g = M := hg
      omega

theorem blk0 (w : World) (c0 : Array Value) (t0 : TypeId) (B C D : Obj) : ((((w.alloc (.cells c0 t0)).alloc B).alloc C).alloc D).heap[w.heap.size]? = some (.cells c0 t0 (0, 0)) := by
  rw [al_old _ _ _ (by simp <;> omega), al_old _ _ _ (by simp <;> omega), al_old _ _ _ (by simp), al_new]
theorem blk1 (w : World) (c0 : Array Value) (t0 : TypeId) (B C D : Obj) : ((((w.alloc B).alloc (.cells c0 t0)).alloc C).alloc D).heap[w.heap.size + 1]? = some (.cells c0 t0 (0, 0)) := by
  rw [al_old _ _ _ (by simp <;> omega), al_old _ _ _ (by simp)]
  have := al_new (w.alloc B) (.cells c0 t0)
  simpa using this
theorem blk2 (w : World) (c0 : Array Value) (t0 : TypeId) (B C D : Obj) : ((((w.alloc B).alloc C).alloc (.cells c0 t0)).alloc D).heap[w.heap.size + 1 + 1]? = some (.cells c0 t0 (0, 0)) := by
  rw [al_old _ _ _ (by simp)]
  have := al_new ((w.alloc B).alloc C) (.cells c0 t0)
  simpa using this
theorem blk3 (w : World) (c0 : Array Value) (t0 : TypeId) (B C D : Obj) : ((((w.alloc B).alloc C).alloc D).alloc (.cells c0 t0)).heap[w.heap.size + 1 + 1 + 1]? = some (.cells c0 t0 (0, 0)) := by
  have := al_new (((w.alloc B).alloc C).alloc D) (.cells c0 t0)
  simpa using this
theorem mbk0 (w : World) (B C D : Obj) : ((((w.alloc (.map #[] 0)).alloc B).alloc C).alloc D).heap[w.heap.size]? = some (.map #[] 0) := by
  rw [al_old _ _ _ (by simp <;> omega), al_old _ _ _ (by simp <;> omega), al_old _ _ _ (by simp), al_new]
theorem mbk1 (w : World) (B C D : Obj) : ((((w.alloc B).alloc (.map #[] 0)).alloc C).alloc D).heap[w.heap.size + 1]? = some (.map #[] 0) := by
  rw [al_old _ _ _ (by simp <;> omega), al_old _ _ _ (by simp)]
  have := al_new (w.alloc B) (.map #[] 0)
  simpa using this
theorem mbk2 (w : World) (B C D : Obj) : ((((w.alloc B).alloc C).alloc (.map #[] 0)).alloc D).heap[w.heap.size + 1 + 1]? = some (.map #[] 0) := by
  rw [al_old _ _ _ (by simp)]
  have := al_new ((w.alloc B).alloc C) (.map #[] 0)
  simpa using this
theorem mbk3 (w : World) (B C D : Obj) : ((((w.alloc B).alloc C).alloc D).alloc (.map #[] 0)).heap[w.heap.size + 1 + 1 + 1]? = some (.map #[] 0) := by
  have := al_new (((w.alloc B).alloc C).alloc D) (.map #[] 0)
  simpa using this

set_option maxRecDepth 100000 in
set_option maxHeartbeats 8000000 in
theorem play_okT {W : World} {pa : Option Addr} {n pl pc : Nat} {ps : List Cst} (hp : CameC W pa pl pc ps) (h0 : 0 < n) (h6 : n ≤ 6) (hpl : pl ≤ 120) :
    Calls Try.prog 4 #[.int .i64 (n : Int), .slice pa pl pc] W fun e W2 => ∃ C mb h, e = .returned (.tuple #[.agg #[.slice (some ⟨C, 0, none⟩) pl pl, .slice (some ⟨h.L, 0, none⟩) n n], .int .i64 0]) ∧ PlayedT W W2 n pl ps h mb C := by
  have HP := hidMk hp
  have q1 : decide ((n : Int) < 1) = false := decide_eq_false (by omega)
  have q2 : decide (6 < (n : Int)) = false := decide_eq_false (by omega)
  have q3 : decide (120 < (pl : Int)) = false := decide_eq_false (by omega)
  have hmm := @run_makeMap Try.prog
  have hmk := cMakeCodes pl (by omega)
  rw [cMadeCodes n ps pl] at hmk
  have hmr := cMakeRows n (by omega)
  rw [cMadeRows n] at hmr
  have hmi := cMakeInts n (by omega)
  rw [cMadeInts n] at hmi
  have HK0 : Hid (Stil W (W.alloc (.cells #[.slice none 0 0, .slice none 0 0] 26))) := (Keep.refl _ W).alloc _
  have HR0 : Hid ((W.alloc (.cells #[.slice none 0 0, .slice none 0 0] 26)).heap[W.heap.size]? = some (.cells #[.slice none 0 0, .slice none 0 0] 26 (0, 0))) := al_new _ _
  have hz0 : (W.alloc (.cells #[.slice none 0 0, .slice none 0 0] 26)).heap.size = W.heap.size + 1 := by simp
  have HZ0 := hidMk hz0
  clear hp hz0
  go_enter Try.func4, Try.ntmps4
  go_upto_region 3 with fail
  generalize W.alloc (.cells #[.slice none 0 0, .slice none 0 0] 26) = w0 at *
  generalize hr : W.heap.size = r at *
  go_cut [6] from 21 to 27 (fun s6 wx => ∃ mb, s6 = .pointer (some ⟨mb, 0, none⟩) ∧ Hid (∃ h, Tmov wx mb n ts0 h ∧ h.c = 0 ∧ ∀ g, h.own mb g → r < g) ∧ Hid (Stil w0 wx))
  case first =>
    go_region
    all_goals (
      go_wp2
      go_meet
      case rel =>
        refine ⟨_, rfl, ?_, Stil.tr ((((Keep.refl _ w0).alloc _).alloc _).alloc _ |>.alloc _) (stilDrew _)⟩
        apply tmov_from (r := r) h6
        case hmb => first | exact blk0 _ _ _ _ _ _ | exact blk1 _ _ _ _ _ _ | exact blk2 _ _ _ _ _ _ | exact blk3 _ _ _ _ _ _
        case hN => first | exact blk0 _ _ _ _ _ _ | exact blk1 _ _ _ _ _ _ | exact blk2 _ _ _ _ _ _ | exact blk3 _ _ _ _ _ _
        case hL => first | exact blk0 _ _ _ _ _ _ | exact blk1 _ _ _ _ _ _ | exact blk2 _ _ _ _ _ _ | exact blk3 _ _ _ _ _ _
        case hM => first | exact mbk0 _ _ _ _ | exact mbk1 _ _ _ _ | exact mbk2 _ _ _ _ | exact mbk3 _ _ _ _
        all_goals (have := HZ0.out; omega))
  case rest =>
    obtain ⟨mb, rfl, HM0, HK1⟩ := hcut
    have HM5 : Hid (∃ h, Tmov (wc.alloc (Obj.cells (tcRow n ps pl 0).toArray 27)) mb n ts0 h ∧ ¬ h.own mb wc.heap.size ∧ h.c = 0 ∧ ∀ g, h.own mb g → r < g) := by
      obtain ⟨h, m, hc, hl⟩ := HM0.out
      exact ⟨h, m.alloc _, m.fresh (Nat.le_refl _), hc, hl⟩
    have hwc : r < wc.heap.size := by have := (Array.getElem?_eq_some_iff.1 HR0.out).1; have := HK1.out.size; omega
    have HKW : Hid (Stil W (wc.alloc (Obj.cells (tcRow n ps pl 0).toArray 27))) := (Stil.tr HK0.out HK1.out).alloc _
    have HRW : Hid ((wc.alloc (Obj.cells (tcRow n ps pl 0).toArray 27)).heap[r]? = some (.cells #[.slice none 0 0, .slice none 0 0] 26 (0, 0))) := by
      show _ = _
      rw [al_old _ _ _ hwc, HK1.out.block _ (Array.getElem?_eq_some_iff.1 HR0.out).1 (fun e => e)]
      exact HR0.out
    have HCW : Hid ((wc.alloc (Obj.cells (tcRow n ps pl 0).toArray 27)).heap[wc.heap.size]? = some (Obj.cells (tcRow n ps pl 0).toArray 27 (0, 0))) := al_new _ _
    clear HM0 HK1 HK0 HR0 HZ0 hmr hmi hmm q1 q2 q3
    go_wp2
    clear hmk
    generalize wc.alloc (Obj.cells (tcRow n ps pl 0).toArray 27) = w5 at *
    generalize wc.heap.size = C at *
    obtain ⟨h5, HM6, hT1, hT2, hT3⟩ := HM5.out
    have HM6 := hidMk HM6
    have HT5 : Hid (¬ h5.own mb C ∧ h5.c = 0 ∧ ∀ g, h5.own mb g → r < g) := ⟨hT1, hT2, hT3⟩
    clear hT1 hT2 hT3 HM5
    go_loopw [33] (fun u wr => ∃ k h, k ≤ pl ∧ u = .int .i64 (k : Int) ∧ Hid (Tmov wr mb n (tsAt n ps k) h) ∧ Hid (wr.heap[C]? = some (.cells (tcRow n ps pl k).toArray 27 (0, 0))) ∧ Hid (wr.heap[r]? = some (.cells #[.slice none 0 0, .slice none 0 0] 26 (0, 0))) ∧
      Hid (¬ h.own mb C ∧ h.c ≤ 122 * k ∧ ∀ g, h.own mb g → r < g) ∧ Hid (Stil W wr)) (fun u _ => pl - (intOf u).toNat)
    case atStart => exact ⟨0, h5, Nat.zero_le _, rfl, HM6, HCW, HRW, ⟨HT5.out.1, by rw [HT5.out.2.1]; omega, HT5.out.2.2⟩, HKW⟩
    case round =>
      obtain ⟨k, h, hk, rfl, HM, HC, HR, HT, HK⟩ := hrel
      by_cases hlt : k < pl
      · have hlt' : (k : Int) < (pl : Int) := by omega
        obtain ⟨hpl1, hpl2, hpl3, hpr⟩ := HP.out
        rcases hpr with hpr | ⟨b, off, rfl, hbW, hpr⟩
        · omega
        have hpk : ps[k]? = some (ps[k]'(by omega)) := List.getElem?_eq_getElem (by omega)
        generalize ps[k]'(by omega) = p at hpk
        obtain ⟨d0, d1, d2⟩ := (hpr.keep hbW HK.out (fun e => e)) k p hpk
        have hall := tat_all (n := n) (by omega) ps k
        have hml : (tsAt n ps k).sent ≤ 120 := by have := tat_sent (n := n) (by omega) ps k; omega
        have hnum : ∀ q, (tsAt n ps k).num q ≤ 100000 := fun q => by have := tat_num (n := n) (by omega) ps k q; omega
        have ek : tsAt n ps (k + 1) = stepT n (tsAt n ps k) p := by show (match ps[k]? with | some p => _ | none => _) = _; rw [hpk]
        have ec : tcAt n ps k = codeT n (tsAt n ps k) p := by unfold tcAt; rw [hpk]
        have HEK := hidMk ek
        have HEC := hidMk ec
        clear ek ec hpk hpr
        generalize tsAt n ps k = S at *
        have HCk := hidMk (fun o : Obj => chk_any (HM.out.alloc o) h6 (by omega) p)
        have HDo := hidMk (fun (w9 : World) (m9 : Tmov w9 mb n S h) (hc9 : codeT n S p = 0) => do_any m9 hall hc9 h6 (by omega) (by have := HT.out.2.1; omega) hnum)
        unfold stepV at HDo
        obtain ⟨kd, wh, x⟩ := p
        simp only at d0 d1 d2 HCk HDo
        clear hall hnum hpl3
        have HML := hidMk hml
        clear hml
        go_wp2_with (fail)
        go_at_call 8
        refine (HCk.out _).mono ?_
        rintro e w6 ⟨rfl, hk6⟩
        have hLw : wr.heap.size < w6.heap.size := by have := hk6.size; simp at this; omega
        have hL6 : w6.heap[wr.heap.size]? = some (.cells #[.int .i64 kd, .int .i64 wh, .int .i64 x] 39 (0, 0)) := by rw [hk6.block wr.heap.size (by simp) (fun e => e), al_new]
        have hCl : C < wr.heap.size := (Array.getElem?_eq_some_iff.1 HC.out).1
        have hRl : r < wr.heap.size := (Array.getElem?_eq_some_iff.1 HR.out).1
        have hC6 : w6.heap[C]? = some (.cells (tcRow n ps pl k).toArray 27 (0, 0)) := by rw [hk6.block _ (by simp; omega) (fun e => e), al_old _ _ _ hCl]; exact HC.out
        have hR6 : w6.heap[r]? = some (.cells #[.slice none 0 0, .slice none 0 0] 26 (0, 0)) := by rw [hk6.block _ (by simp; omega) (fun e => e), al_old _ _ _ hRl]; exact HR.out
        have M6 : Tmov w6 mb n S h := (HM.out.alloc _).still hk6
        have K6 : Stil W w6 := Stil.tr (HK.out.alloc _) hk6
        have hsk : (tcRow n ps pl k).toArray.setIfInBounds k (.int .i64 (codeT n S ⟨kd, wh, x⟩)) = (tcRow n ps pl (k + 1)).toArray := by rw [← tcRow_set hlt, HEC.out]; simp
        have HC7 := hidMk (heap_setCell_same w6 C k _ _ (.int .i64 (codeT n S ⟨kd, wh, x⟩)) hC6)
        rw [hsk] at HC7
        have hne : r ≠ C := by omega
        have HR7 := hidMk ((Below.heap_setCell w6 ⟨C, k, none⟩ (.int .i64 (codeT n S ⟨kd, wh, x⟩)) _ hne).trans hR6)
        have HL7 := hidMk ((Below.heap_setCell w6 ⟨C, k, none⟩ (.int .i64 (codeT n S ⟨kd, wh, x⟩)) wr.heap.size (by show wr.heap.size ≠ C; omega)).trans hL6)
        have HM7 : Hid (Tmov (w6.setCell ⟨C, k, none⟩ (.int .i64 (codeT n S ⟨kd, wh, x⟩))) mb n S h) := M6.keep ((Keep.refl (fun g => g = C) w6).setCell _ _ _ (fun _ => rfl)) (fun g _ e => by subst e; exact HT.out.1)
        have hWr : W.heap.size ≤ C := by omega
        have HK7 : Hid (Stil W (w6.setCell ⟨C, k, none⟩ (.int .i64 (codeT n S ⟨kd, wh, x⟩)))) := K6.setCell _ _ _ (fun e => by omega)
        have c6 : w6.cell? ⟨C, k, none⟩ = some (.int .i64 0) := by
          rw [cell_of_row w6 _ _ _ _ _ hC6]
          simp only [List.getElem?_toArray]
          rw [tcRow_at hlt, if_neg (by omega)]
        have f6 : w6.frozen? ⟨C, k, none⟩ = false := frozen_of_row w6 _ _ _ _ hC6
        have l0 : w6.cell? ⟨wr.heap.size, 0, none⟩ = some (.int .i64 kd) := by rw [cell_of_row w6 _ _ _ _ _ hL6]; rfl
        clear hk6 hL6 hC6 hR6 M6 K6 hsk HC HR HM HK HCk d0 d1 d2
        by_cases hcd : codeT n S ⟨kd, wh, x⟩ = 0
        · have HD1 := hidMk (fun (w9 : World) (m9 : Tmov w9 mb n S h) => HDo.out w9 m9 hcd)
          have HE2 : Hid (tsAt n ps (k + 1) = doT n S ⟨kd, wh, x⟩) := by
            show _ = _
            rw [HEK.out]; unfold stepT; rw [if_pos hcd]
          rw [hcd] at HC7 HR7 HL7 HM7 HK7 ⊢
          have HD2 := hidMk (HD1.out _ HM7.out)
          have q0 : (w6.setCell ⟨C, k, none⟩ (.int .i64 0)).cell? ⟨wr.heap.size, 0, none⟩ = some (.int .i64 kd) := by rw [cell_of_row _ _ _ _ _ _ HL7.out]; rfl
          have q1 : (w6.setCell ⟨C, k, none⟩ (.int .i64 0)).cell? ⟨wr.heap.size, 1, none⟩ = some (.int .i64 wh) := by rw [cell_of_row _ _ _ _ _ _ HL7.out]; rfl
          have q2 : (w6.setCell ⟨C, k, none⟩ (.int .i64 0)).cell? ⟨wr.heap.size, 2, none⟩ = some (.int .i64 x) := by rw [cell_of_row _ _ _ _ _ _ HL7.out]; rfl
          clear HDo HD1 l0
          go_wp2_with (fail)
          go_at_call 9
          refine (HD2.out).mono ?_
          rintro e w8 ⟨rfl, h8, m8, st8⟩
          have t1 := HT.out
          have hCl7 := (Array.getElem?_eq_some_iff.1 HC7.out).1
          have hRl7 := (Array.getElem?_eq_some_iff.1 HR7.out).1
          have nr : ¬ h.own mb r := fun e => by have := t1.2.2 r e; omega
          have HM8 : Hid (Tmov w8 mb n (tsAt n ps (k + 1)) h8) := by rw [HE2.out]; exact m8
          have HC8 : Hid (w8.heap[C]? = some (.cells (tcRow n ps pl (k + 1)).toArray 27 (0, 0))) := st8.block t1.1 HC7.out
          have HR8 : Hid (w8.heap[r]? = some (.cells #[.slice none 0 0, .slice none 0 0] 26 (0, 0))) := st8.block nr HR7.out
          have HK8 : Hid (Stil W w8) := HK7.out.trans st8.keep (fun _ _ e => e) (fun g hg e => by have := t1.2.2 g e; omega)
          have HT8 : Hid (¬ h8.own mb C ∧ h8.c ≤ 122 * (k + 1) ∧ ∀ g, h8.own mb g → r < g) := by
            refine ⟨fun e => t1.1 ((st8.own hCl7).1 e), by have := st8.count; have := t1.2.1; have := HML.out; omega, fun g hg => ?_⟩
            by_cases hgw : r < g
            · exact hgw
            · exact t1.2.2 g ((st8.own (by omega)).1 hg)
          clear m8 st8 HC7 HR7 HL7 HM7 HK7 HD2 HT t1 q0 q1 q2
          go_wp2
          go_roundw
          case rel => exact ⟨k + 1, h8, by omega, by go_num, HM8, HC8, HR8, HT8, HK8⟩
          case measure => simp [intOf]; omega
        · have HE2 : Hid (tsAt n ps (k + 1) = S) := by
            show _ = _
            rw [HEK.out]; unfold stepT; rw [if_neg hcd]
          have hcd' : (codeT n S ⟨kd, wh, x⟩ == 0) = false := by simpa using hcd
          have HM8 : Hid (Tmov (w6.setCell ⟨C, k, none⟩ (.int .i64 (codeT n S ⟨kd, wh, x⟩))) mb n (tsAt n ps (k + 1)) h) := by rw [HE2.out]; exact HM7
          have HT8 : Hid (¬ h.own mb C ∧ h.c ≤ 122 * (k + 1) ∧ ∀ g, h.own mb g → r < g) := ⟨HT.out.1, by have := HT.out.2.1; omega, HT.out.2.2⟩
          clear HDo HM7 HT HEK HEC HE2
          generalize codeT n S ⟨kd, wh, x⟩ = cd at *
          go_wp2
          go_roundw
          case rel => exact ⟨k + 1, h, by omega, by go_num, HM8, HC7, HR7, HT8, HK7⟩
          case measure => simp [intOf]; omega
      · obtain rfl : k = pl := by omega
        have c2 := HM.out.cells.2.2.2
        have r0 : wr.cell? ⟨r, 0, none⟩ = some (.slice none 0 0) := (cell_of_row wr _ 0 _ _ _ HR.out).trans rfl
        have r1 : wr.cell? ⟨r, 1, none⟩ = some (.slice none 0 0) := (cell_of_row wr _ 1 _ _ _ HR.out).trans rfl
        have f0 : wr.frozen? ⟨r, 0, none⟩ = false := frozen_of_row wr _ _ _ _ HR.out
        have f1 : wr.frozen? ⟨r, 1, none⟩ = false := frozen_of_row wr _ _ _ _ HR.out
        go_wp2
        have a1 := (Keep.refl (fun g => g = r) wr).setCell r 0 (.slice (some ⟨C, 0, none⟩) k k) (fun _ => rfl)
        have a2 := a1.setCell r 1 (.slice (some ⟨h.L, 0, none⟩) n n) (fun _ => rfl)
        have q1 := heap_setCell_same wr r 0 _ _ (.slice (some ⟨C, 0, none⟩) k k) HR.out
        have q2 := heap_setCell_same _ r 1 _ _ (.slice (some ⟨h.L, 0, none⟩) n n) q1
        refine bodyPost_ret (results_cell_tmp_rowC (P := Try.prog) rfl _ _ r 26 #[.slice (some ⟨C, 0, none⟩) k k, .slice (some ⟨h.L, 0, none⟩) n n] (0, 0) _ rfl (by simpa using q2) Try.underlying26 rfl (by kernel_rfl)) rfl ?_
        refine ⟨C, mb, h, rfl, ?_⟩
        have hC7 := HC.out
        exact ⟨HM.out.keep a2 (fun g _ e he => by subst e; have := HT.out.2.2 _ he; omega), fun g hg => by have := HT.out.2.2 g hg; omega, by omega, (a2.block _ (Array.getElem?_eq_some_iff.1 hC7).1 (by show ¬ (C = r); omega)).trans hC7, HK.out.trans a2 (fun _ _ e => e) (fun g hg e => by omega)⟩
end Go.Proofs.Ytipoopbkapgfiaa
