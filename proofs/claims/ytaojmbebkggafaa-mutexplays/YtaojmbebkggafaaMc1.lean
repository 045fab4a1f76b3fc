/- Play: how it goes. -/
import Derived.Test.YtaojmbebkggafaaMc0
import Derived.Deep.Cut
import Derived.Deep.CutRange
import Derived.Deep.RegionWith
import Derived.RegionTactic
import Derived.BigRegion
namespace Go.Proofs.Ytaojmbebkggafaa
open Go.RowKit Go.WideMaps
set_option linter.unusedVariables false

theorem natE (n : Nat) (s : MS) : (insideM n s).length ≤ n := insTo_len s n
theorem rowI_keep {w w' : World} {o : Nat → Prop} {a : Option Addr} {len cap : Nat} {xs : List Int} (h : RowI w a len cap xs) (hs : Keep o w w') (ho : ∀ x, a = some x → ¬ o x.block) : RowI w' a len cap xs := by
  obtain ⟨h1, h2, h3, h4⟩ := h
  refine ⟨h1, h2, h3, ?_⟩
  rcases h4 with h4 | ⟨b, off, e, hr, hc⟩
  · exact .inl h4
  · refine .inr ⟨b, off, e, Nat.lt_of_lt_of_le hr hs.size, fun j x hx => ?_⟩
    have := ho _ e
    exact (World.cell?_of_block (hs.block b hr this)).trans (hc j x hx)
/-- What a play leaves. -/
structure PlayedM (W W2 : World) (n pl : Nat) (ps : List Cst) (C : Nat) (iv : Value) (ia : Option Addr) (ic : Nat) : Prop where
  ins : Seg W2 (fun g => W.heap.size ≤ g) 3 1 iv (msAt n ps pl).ins.length (natsL (msAt n ps pl).ins)
  inside : RowI W2 ia (insideM n (msAt n ps pl)).length ic (natsI (insideM n (msAt n ps pl)))
  cW : W.heap.size ≤ C
  codes : W2.heap[C]? = some (.cells (mcRow n ps pl pl).toArray 27 (0, 0))
  keep : Stil W W2

set_option maxRecDepth 100000 in
set_option maxHeartbeats 8000000 in
theorem play_okM {W : World} {pa : Option Addr} {n pl pc : Nat} {ps : List Cst} (hp : CameC W pa pl pc ps) (h0 : 0 < n) (h6 : n ≤ 6) (hpl : pl ≤ 120) :
    Calls Try.prog 4 #[.int .i64 (n : Int), .slice pa pl pc] W fun e W2 => ∃ C iv ia ic, e = .returned (.tuple #[.agg #[.slice (some ⟨C, 0, none⟩) pl pl, iv, .slice ia (insideM n (msAt n ps pl)).length ic, .int .i64 (awayM n (msAt n ps pl) : Int)], .int .i64 0]) ∧ PlayedM W W2 n pl ps C iv ia ic := by
  have HP := hidMk hp
  have q1 : decide ((n : Int) < 1) = false := decide_eq_false (by omega)
  have q2 : decide (6 < (n : Int)) = false := decide_eq_false (by omega)
  have q3 : decide (120 < (pl : Int)) = false := decide_eq_false (by omega)
  have hmm := @run_makeMap Try.prog
  have hmk := mMakeCodes pl (by omega)
  rw [mMadeCodes n ps pl] at hmk
  have hmr := mMakeProcs n (by omega)
  rw [mMadeProcs n] at hmr
  have HK0 : Hid (Stil W (W.alloc (.cells #[.slice none 0 0, .slice none 0 0, .slice none 0 0, .int .i64 0] 26))) := (Keep.refl _ W).alloc _
  have HR0 : Hid ((W.alloc (.cells #[.slice none 0 0, .slice none 0 0, .slice none 0 0, .int .i64 0] 26)).heap[W.heap.size]? = some (.cells #[.slice none 0 0, .slice none 0 0, .slice none 0 0, .int .i64 0] 26 (0, 0))) := al_new _ _
  have hz0 : (W.alloc (.cells #[.slice none 0 0, .slice none 0 0, .slice none 0 0, .int .i64 0] 26)).heap.size = W.heap.size + 1 := by simp
  have HZ0 := hidMk hz0
  clear hp hz0
  go_enter Try.func4, Try.ntmps4
  go_upto_region 3 with fail
  generalize W.alloc (.cells #[.slice none 0 0, .slice none 0 0, .slice none 0 0, .int .i64 0] 26) = w0 at *
  generalize hr : W.heap.size = r at *
  have HM5 : Hid (∃ h, Mmov ((((w0.alloc (.cells (procS n) 61)).alloc (.map #[] 0)).alloc (.cells #[.slice (some ⟨w0.heap.size, 0, none⟩) n n, .map (some (w0.heap.size + 1)), .slice none 0 0] 37))) (w0.heap.size + 1 + 1) n ms0 h ∧ h.c = 0 ∧ ∀ g, h.own (w0.heap.size + 1 + 1) g → r < g) := by
    obtain ⟨h, m, hc, hl⟩ := mmov_start w0 n h6
    exact ⟨h, m, hc, fun g hg => by have := hl g hg; have := HZ0.out; omega⟩
  have HK1 : Hid (Stil w0 ((((w0.alloc (.cells (procS n) 61)).alloc (.map #[] 0)).alloc (.cells #[.slice (some ⟨w0.heap.size, 0, none⟩) n n, .map (some (w0.heap.size + 1)), .slice none 0 0] 37)))) := (((Keep.refl _ w0).alloc _).alloc _).alloc _
  go_upto_region 4 with fail
  generalize hwc : ((((w0.alloc (.cells (procS n) 61)).alloc (.map #[] 0)).alloc (.cells #[.slice (some ⟨w0.heap.size, 0, none⟩) n n, .map (some (w0.heap.size + 1)), .slice none 0 0] 37))) = wc at *
  generalize w0.heap.size + 1 + 1 = mb at *
  clear hwc
  have HM5b : Hid (∃ h, Mmov (wc.alloc (Obj.cells (mcRow n ps pl 0).toArray 27)) mb n ms0 h ∧ ¬ h.own mb wc.heap.size ∧ h.c = 0 ∧ ∀ g, h.own mb g → r < g) := by
    obtain ⟨h, m, hc, hl⟩ := HM5.out
    exact ⟨h, m.alloc _, m.fresh (Nat.le_refl _), hc, hl⟩
  have hwc : r < wc.heap.size := by have := (Array.getElem?_eq_some_iff.1 HR0.out).1; have := HK1.out.size; omega
  have HKW : Hid (Stil W (wc.alloc (Obj.cells (mcRow n ps pl 0).toArray 27))) := (Stil.tr HK0.out HK1.out).alloc _
  have HRW : Hid ((wc.alloc (Obj.cells (mcRow n ps pl 0).toArray 27)).heap[r]? = some (.cells #[.slice none 0 0, .slice none 0 0, .slice none 0 0, .int .i64 0] 26 (0, 0))) := by
    show _ = _
    rw [al_old _ _ _ hwc, HK1.out.block _ (Array.getElem?_eq_some_iff.1 HR0.out).1 (fun e => e)]
    exact HR0.out
  have HCW : Hid ((wc.alloc (Obj.cells (mcRow n ps pl 0).toArray 27)).heap[wc.heap.size]? = some (Obj.cells (mcRow n ps pl 0).toArray 27 (0, 0))) := al_new _ _
  clear HM5 HK1 HK0 HR0 HZ0 hmr hmm q1 q2 q3
  go_wp2_with (fail)
  clear hmk
  generalize wc.alloc (Obj.cells (mcRow n ps pl 0).toArray 27) = w5 at *
  generalize wc.heap.size = C at *
  obtain ⟨h5, HM6, hT1, hT2, hT3⟩ := HM5b.out
  have HM6 := hidMk HM6
  have HT5 : Hid (¬ h5.own mb C ∧ h5.c = 0 ∧ ∀ g, h5.own mb g → r < g) := ⟨hT1, hT2, hT3⟩
  clear hT1 hT2 hT3 HM5b
  go_loopw [31] (fun u wr => ∃ k h, k ≤ pl ∧ u = .int .i64 (k : Int) ∧ Hid (Mmov wr mb n (msAt n ps k) h) ∧ Hid (wr.heap[C]? = some (.cells (mcRow n ps pl k).toArray 27 (0, 0))) ∧ Hid (wr.heap[r]? = some (.cells #[.slice none 0 0, .slice none 0 0, .slice none 0 0, .int .i64 0] 26 (0, 0))) ∧
    Hid (¬ h.own mb C ∧ h.c ≤ 122 * k ∧ ∀ g, h.own mb g → r < g) ∧ Hid (Stil W wr)) (fun u _ => pl - (intOf u).toNat)
  case atStart => exact ⟨0, h5, Nat.zero_le _, rfl, HM6, HCW, HRW, ⟨HT5.out.1, by rw [HT5.out.2.1]; omega, HT5.out.2.2⟩, HKW⟩
  case round =>
    obtain ⟨k, h, hk, rfl, HM, HC, HR, HT, HK⟩ := hrel
    by_cases hlt : k < pl
    · have hlt' : (k : Int) < (pl : Int) := by omega
      obtain ⟨hpl1, hpl2, hpl3, hpr⟩ := HP.out
      rcases hpr with hpr | ⟨b, off, rfl, hbW, hpr⟩
      · omega
      have hpk : ps[k]? = some (ps[k]'(by omega)) := List.getElem?_eq_getElem (by omega)
      generalize ps[k]'(by omega) = p at hpk
      obtain ⟨d0, d1, d2⟩ := (hpr.keep hbW HK.out (fun e => e)) k p hpk
      have hall := mb_at (n := n) (by omega) ps k
      have ek : msAt n ps (k + 1) = stepM n (msAt n ps k) p := by show (match ps[k]? with | some p => _ | none => _) = _; rw [hpk]
      have ec : mcAt n ps k = codeM n (msAt n ps k) p := by unfold mcAt; rw [hpk]
      have HEK := hidMk ek
      have HEC := hidMk ec
      clear ek ec hpk hpr
      generalize msAt n ps k = S at *
      have HCk := hidMk (fun o : Obj => chk_any (HM.out.alloc o) h6 p)
      have HDo := hidMk (fun (w9 : World) (m9 : Mmov w9 mb n S h) (hc9 : codeM n S p = 0) => do_any m9 hall (by omega) h6 (by have := HT.out.2.1; omega) hc9)
      unfold stepV at HDo HCk
      obtain ⟨kd, wh, x⟩ := p
      simp only at d0 d1 d2 HCk HDo
      clear hall hpl3
      go_wp2_with (fail)
      go_at_call 8
      refine (HCk.out _).mono ?_
      rintro e w6 ⟨rfl, hk6⟩
      have hLw : wr.heap.size < w6.heap.size := by have := hk6.size; simp at this; omega
      have hL6 : w6.heap[wr.heap.size]? = some (.cells #[.int .i64 kd, .int .i64 wh, .int .i64 x] 39 (0, 0)) := by rw [hk6.block wr.heap.size (by simp) (fun e => e), al_new]
      have hCl : C < wr.heap.size := (Array.getElem?_eq_some_iff.1 HC.out).1
      have hRl : r < wr.heap.size := (Array.getElem?_eq_some_iff.1 HR.out).1
      have hC6 : w6.heap[C]? = some (.cells (mcRow n ps pl k).toArray 27 (0, 0)) := by rw [hk6.block _ (by simp; omega) (fun e => e), al_old _ _ _ hCl]; exact HC.out
      have hR6 : w6.heap[r]? = some (.cells #[.slice none 0 0, .slice none 0 0, .slice none 0 0, .int .i64 0] 26 (0, 0)) := by rw [hk6.block _ (by simp; omega) (fun e => e), al_old _ _ _ hRl]; exact HR.out
      have M6 : Mmov w6 mb n S h := (HM.out.alloc _).still hk6
      have K6 : Stil W w6 := Stil.tr (HK.out.alloc _) hk6
      have hsk : (mcRow n ps pl k).toArray.setIfInBounds k (.int .i64 (codeM n S ⟨kd, wh, x⟩)) = (mcRow n ps pl (k + 1)).toArray := by rw [← mcRow_set hlt, HEC.out]; simp
      have HC7 := hidMk (heap_setCell_same w6 C k _ _ (.int .i64 (codeM n S ⟨kd, wh, x⟩)) hC6)
      rw [hsk] at HC7
      have hne : r ≠ C := by omega
      have HR7 := hidMk ((Below.heap_setCell w6 ⟨C, k, none⟩ (.int .i64 (codeM n S ⟨kd, wh, x⟩)) _ hne).trans hR6)
      have HL7 := hidMk ((Below.heap_setCell w6 ⟨C, k, none⟩ (.int .i64 (codeM n S ⟨kd, wh, x⟩)) wr.heap.size (by show wr.heap.size ≠ C; omega)).trans hL6)
      have HM7 : Hid (Mmov (w6.setCell ⟨C, k, none⟩ (.int .i64 (codeM n S ⟨kd, wh, x⟩))) mb n S h) := M6.keep ((Keep.refl (fun g => g = C) w6).setCell _ _ _ (fun _ => rfl)) (fun g _ e => by subst e; exact HT.out.1)
      have hWr : W.heap.size ≤ C := by omega
      have HK7 : Hid (Stil W (w6.setCell ⟨C, k, none⟩ (.int .i64 (codeM n S ⟨kd, wh, x⟩)))) := K6.setCell _ _ _ (fun e => by omega)
      have c6 : w6.cell? ⟨C, k, none⟩ = some (.int .i64 0) := by
        rw [cell_of_row w6 _ _ _ _ _ hC6]
        simp only [List.getElem?_toArray]
        rw [mcRow_at hlt, if_neg (by omega)]
      have f6 : w6.frozen? ⟨C, k, none⟩ = false := frozen_of_row w6 _ _ _ _ hC6
      have l0 : w6.cell? ⟨wr.heap.size, 0, none⟩ = some (.int .i64 kd) := by rw [cell_of_row w6 _ _ _ _ _ hL6]; rfl
      clear hk6 hL6 hC6 hR6 M6 K6 hsk HC HR HM HK HCk d0 d1 d2
      by_cases hcd : codeM n S ⟨kd, wh, x⟩ = 0
      · have HD1 := hidMk (fun (w9 : World) (m9 : Mmov w9 mb n S h) => HDo.out w9 m9 hcd)
        have HE2 : Hid (msAt n ps (k + 1) = doM n S ⟨kd, wh, x⟩) := by
          show _ = _
          rw [HEK.out]; unfold stepM; rw [if_pos hcd]
        rw [hcd] at HC7 HR7 HL7 HM7 HK7 ⊢
        have HD2 := hidMk (HD1.out _ HM7.out)
        have q0 : (w6.setCell ⟨C, k, none⟩ (.int .i64 0)).cell? ⟨wr.heap.size, 0, none⟩ = some (.int .i64 kd) := by rw [cell_of_row _ _ _ _ _ _ HL7.out]; rfl
        have q1 : (w6.setCell ⟨C, k, none⟩ (.int .i64 0)).cell? ⟨wr.heap.size, 1, none⟩ = some (.int .i64 wh) := by rw [cell_of_row _ _ _ _ _ _ HL7.out]; rfl
        have q2 : (w6.setCell ⟨C, k, none⟩ (.int .i64 0)).cell? ⟨wr.heap.size, 2, none⟩ = some (.int .i64 x) := by rw [cell_of_row _ _ _ _ _ _ HL7.out]; rfl
        clear HDo HD1 l0
        go_wp2_with (fail)
        go_at_call 9
        refine (HD2.out).mono ?_
        rintro e w8 ⟨rfl, h8, m8, st8⟩
        have t1 := HT.out
        have hCl7 := (Array.getElem?_eq_some_iff.1 HC7.out).1
        have hRl7 := (Array.getElem?_eq_some_iff.1 HR7.out).1
        have nr : ¬ h.own mb r := fun e => by have := t1.2.2 r e; omega
        have HM8 : Hid (Mmov w8 mb n (msAt n ps (k + 1)) h8) := by rw [HE2.out]; exact m8
        have HC8 : Hid (w8.heap[C]? = some (.cells (mcRow n ps pl (k + 1)).toArray 27 (0, 0))) := st8.block t1.1 HC7.out
        have HR8 : Hid (w8.heap[r]? = some (.cells #[.slice none 0 0, .slice none 0 0, .slice none 0 0, .int .i64 0] 26 (0, 0))) := st8.block nr HR7.out
        have HK8 : Hid (Stil W w8) := HK7.out.trans st8.keep (fun _ _ e => e) (fun g hg e => by have := t1.2.2 g e; omega)
        have HT8 : Hid (¬ h8.own mb C ∧ h8.c ≤ 122 * (k + 1) ∧ ∀ g, h8.own mb g → r < g) := by
          refine ⟨fun e => t1.1 ((st8.own hCl7).1 e), by have := st8.count; have := t1.2.1; omega, fun g hg => ?_⟩
          by_cases hgw : r < g
          · exact hgw
          · exact t1.2.2 g ((st8.own (by omega)).1 hg)
        clear m8 st8 HC7 HR7 HL7 HM7 HK7 HD2 HT t1 q0 q1 q2
        go_wp2
        go_roundw
        case rel => exact ⟨k + 1, h8, by omega, by go_num, HM8, HC8, HR8, HT8, HK8⟩
        case measure => simp [intOf]; omega
      · have HE2 : Hid (msAt n ps (k + 1) = S) := by
          show _ = _
          rw [HEK.out]; unfold stepM; rw [if_neg hcd]
        have hcd' : (codeM n S ⟨kd, wh, x⟩ == 0) = false := by simpa using hcd
        have HM8 : Hid (Mmov (w6.setCell ⟨C, k, none⟩ (.int .i64 (codeM n S ⟨kd, wh, x⟩))) mb n (msAt n ps (k + 1)) h) := by rw [HE2.out]; exact HM7.out
        have HT8 : Hid (¬ h.own mb C ∧ h.c ≤ 122 * (k + 1) ∧ ∀ g, h.own mb g → r < g) := ⟨HT.out.1, by have := HT.out.2.1; omega, HT.out.2.2⟩
        clear HDo HM7 HT HEK HEC HE2
        generalize codeM n S ⟨kd, wh, x⟩ = cd at *
        go_wp2
        go_roundw
        case rel => exact ⟨k + 1, h, by omega, by go_num, HM8, HC7, HR7, HT8, HK7⟩
        case measure => simp [intOf]; omega
    · obtain rfl : k = pl := by omega
      have hseg := HM.out.ins
      obtain ⟨va, vc, ev⟩ := segForm hseg
      have HCl : Hid (∀ w', Stil wr w' → w'.cell? ⟨mb, 2, none⟩ = some (.slice va (msAt n ps k).ins.length vc) ∧ w'.cell? ⟨r, 0, none⟩ = some (.slice none 0 0) ∧ w'.cell? ⟨r, 1, none⟩ = some (.slice none 0 0) ∧ w'.cell? ⟨r, 2, none⟩ = some (.slice none 0 0) ∧ w'.cell? ⟨r, 3, none⟩ = some (.int .i64 0) ∧ ∀ q, w'.frozen? ⟨r, q, none⟩ = false) := fun w' h' => by
        have hr' := (h'.block r (Array.getElem?_eq_some_iff.1 HR.out).1 (fun e => e)).trans HR.out
        refine ⟨by rw [(HM.out.still h').cells.2.2.1, ev], ?_, ?_, ?_, ?_, fun q => frozen_of_row w' _ _ _ _ hr'⟩ <;> rw [cell_of_row w' _ _ _ _ _ hr'] <;> rfl
      have HIn := hidMk (fun (w' : World) (h' : Stil wr w') => inside_any (HM.out.still h') h6)
      have HAw := hidMk (fun (w' : World) (h' : Stil wr w') => away_any (HM.out.still h') h6 (k := 2) (by omega) (fun i j hi hj => len2_at (by omega) ps k hi hj))
      obtain ⟨y1, y2, y3, y4, y5, y6⟩ := HCl.out wr.drew (stilDrew wr)
      have f0 := y6 0
      have f1 := y6 1
      have f2 := y6 2
      have f3 := y6 3
      clear y6 hseg
      have HIv := hidMk ev
      clear ev
      go_upto_region 12 with fail
      go_cut [5] from 49 to 54 (fun s5 wx => s5 = .int .i64 0 ∧ Hid (∃ (ia : Option Addr) (ic : Nat), wx.heap[r]? = some (.cells #[.slice (some ⟨C, 0, none⟩) k k, .slice va (msAt n ps k).ins.length vc, .slice ia (insideM n (msAt n ps k)).length ic, .int .i64 (awayM n (msAt n ps k) : Int)] 26 (0, 0)) ∧
        RowI wx ia (insideM n (msAt n ps k)).length ic (natsI (insideM n (msAt n ps k))) ∧ Keep (fun g => g = r) wr wx))
      case first =>
        go_region_with (first
          | (go_at_call 10; refine (HIn.out _ ?hk).mono ?_; (case hk => first | exact stilDrew _ | assumption); rintro e w9 ⟨ia, ic, rfl, hrow, hlow, hk9⟩; have hS9 : Stil wr w9 := (by first | exact (stilDrew wr).tr hk9 | exact Stil.tr (by assumption) hk9); obtain ⟨z1, z2, z3, z4, z5, z6⟩ := HCl.out w9 hS9; have g0 := z6 0; have g1 := z6 1; have g2 := z6 2; have g3 := z6 3; have HRow := hidMk hrow; have HLow := hidMk hlow; clear z6 hk9 hrow hlow)
          | (go_at_call 11; refine (HAw.out _ ?hk).mono ?_; (case hk => first | exact stilDrew _ | assumption); rintro e w8 ⟨rfl, hk8⟩; have hS8 : Stil wr w8 := (by first | exact (stilDrew wr).tr hk8 | exact Stil.tr (by assumption) hk8); obtain ⟨x1, x2, x3, x4, x5, x6⟩ := HCl.out w8 hS8; have e0 := x6 0; have e1 := x6 1; have e2 := x6 2; have e3 := x6 3; have HK8 := hidMk hk8; clear x6 hk8))
        all_goals
          go_wp2_with fail
          go_meet
          case rel =>
            have b0 := (hS8.block r (Array.getElem?_eq_some_iff.1 HR.out).1 (fun e => e)).trans HR.out
            have b1 := heap_setCell_same w8 r 0 _ _ (.slice (some ⟨C, 0, none⟩) k k) b0
            have b2 := heap_setCell_same _ r 1 _ _ (.slice va (msAt n ps k).ins.length vc) b1
            have b3 := heap_setCell_same _ r 2 _ _ (.slice ia (insideM n (msAt n ps k)).length ic) b2
            have b4 := heap_setCell_same _ r 3 _ _ (.int .i64 (awayM n (msAt n ps k) : Int)) b3
            have hRl : r < wr.heap.size := (Array.getElem?_eq_some_iff.1 HR.out).1
            have kk := ((((Keep.refl (fun g => g = r) w8).setCell r 0 (.slice (some ⟨C, 0, none⟩) k k) (fun _ => rfl)).setCell r 1 (.slice va (msAt n ps k).ins.length vc) (fun _ => rfl)).setCell r 2 (.slice ia (insideM n (msAt n ps k)).length ic) (fun _ => rfl)).setCell r 3 (.int .i64 (awayM n (msAt n ps k) : Int)) (fun _ => rfl)
            refine ⟨rfl, ia, ic, by simpa using b4, ?_, (hS8.mono (fun _ _ e => e.elim)).trans kk (fun _ _ e => e) (fun _ _ e => e)⟩
            exact rowI_keep (HRow.out.still HK8.out) kk (fun x hx e => by have := HLow.out x hx; simp at this; omega)
      case rest =>
        obtain ⟨rfl, ia, ic, hb, hrow, hk9⟩ := hcut
        have HB := hidMk hb
        go_wp2
        refine bodyPost_ret (results_cell_tmp_rowC (P := Try.prog) rfl _ _ r 26 #[.slice (some ⟨C, 0, none⟩) k k, .slice va (msAt n ps k).ins.length vc, .slice ia (insideM n (msAt n ps k)).length ic, .int .i64 (awayM n (msAt n ps k) : Int)] (0, 0) _ rfl hb Try.underlying26 rfl (by kernel_rfl)) rfl ?_
        have hC7 := HC.out
        have hCr : ¬ C = r := by omega
        have m9 := HM.out.keep hk9 (fun g _ e he => by subst e; have := HT.out.2.2 _ he; omega)
        have s9 := m9.ins
        rw [HIv.out] at s9
        refine ⟨C, _, ia, ic, rfl, ⟨s9.mono (fun g _ e => ?_), hrow, by omega, (hk9.block _ (Array.getElem?_eq_some_iff.1 hC7).1 hCr).trans hC7, HK.out.trans hk9 (fun _ _ e => e) (fun g hg e => by omega)⟩⟩
        have := HT.out.2.2 g (.inl (by rw [e]; simp))
        omega
end Go.Proofs.Ytaojmbebkggafaa
