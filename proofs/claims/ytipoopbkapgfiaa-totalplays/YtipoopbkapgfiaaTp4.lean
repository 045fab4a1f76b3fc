/- The document's Total, walked. -/
import Derived.Test.YtipoopbkapgfiaaTq6
namespace Go.Proofs.Ytipoopbkapgfiaa
open Go.RowKit
set_option linter.unusedVariables false

theorem results_one_rowT {P : Program} {fn : Func} {p : Tmp} {ty : TypeId} (h : fn.results = #[.cell p ty]) (tmps : Array Value) (w : World) (g : Nat) (t : TypeId) (cs : Array Value) (fr : Nat × Nat) (d : TypeDesc)
    (hp : tmps.getD p undef = .pointer (some ⟨g, 0, none⟩)) (hg : w.heap[g]? = some (.cells cs t fr))
    (hu : P.underlying ty = some d) (hd : (match d with | .struct _ | .array _ _ => true | _ => false) = true) (hi : (P.info? ty).map (·.size) = some cs.size) :
    (results fn tmps).run P w = .ok (.agg cs) w := by
  have hp2 : tmps[p]?.getD undef = .pointer (some ⟨g, 0, none⟩) := by rw [← Array.getD_eq_getD_getElem?]; exact hp
  simp [results, h, hp2, asAddr, run_loadVar_row w g t ty cs fr d hg hu hd hi]
theorem seg_rowZ {W : World} {ok : Nat → Prop} {e : TypeId} {a : Option Addr} {n c : Nat} {l : List Int} (h : Seg W ok e 1 (.slice a n c) n (intsZ l)) : RowI W a n c l := by
  obtain ⟨h1, ⟨h2, h3⟩ | ⟨g, off, cap, cur, h2, h3, h4, h5, h6, h7, h8⟩⟩ := h
  · subst h3
    cases h2
    exact ⟨by simpa [intsZ] using h1, Nat.le_refl _, Nat.zero_le _, .inl rfl⟩
  · cases h2
    refine ⟨by simpa [intsZ] using h1, h5, by omega, .inr ⟨g, off, rfl, (Array.getElem?_eq_some_iff.1 h4).1, fun j x hx => ?_⟩⟩
    rw [cell_of_row W _ _ _ _ _ h4]
    exact h8 j _ (by simp [intsZ, hx])
theorem z_close {W wr wz : World} {ob r : Nat} {o : Obj} {h hz : ZSh} (S : ZStp ob wr h wz hz) (HT : ∀ g, h.own ob g → r < g) (HR : wr.heap[r]? = some o) (HK : Stil W wr) (hr : W.heap.size = r) :
    (∀ g, hz.own ob g → r < g) ∧ wz.heap[r]? = some o ∧ Stil W wz := by
  have hrl : r < wr.heap.size := (Array.getElem?_eq_some_iff.1 HR).1
  refine ⟨fun g hg => ?_, S.block (fun e => by have := HT r e; omega) HR, HK.trans S.keep (fun _ _ e => e) (fun g hg e => by have := HT g e; omega)⟩
  by_cases hgl : g < wr.heap.size
  · exact HT g ((S.own hgl).1 hg)
  · omega
theorem tcs_at (n : Nat) (ps : List Cst) (k : Nat) : (List.range (k + 1)).map (tcAt n ps) = (List.range k).map (tcAt n ps) ++ [tcAt n ps k] := by
  rw [List.range_succ, List.map_append]; rfl
theorem hearN_sent (who : Nat) : ∀ (F : Nat) (s : TS), (hearN s who F).sent = s.sent
  | 0, _ => rfl
  | F + 1, s => by
    show (match leastTo (s.ent who) s.sent with | none => s | some q => if q.2.told = true then hearN (hear1 s who q.1 q.2) who F else s).sent = _
    cases leastTo (s.ent who) s.sent with
    | none => rfl
    | some q =>
      simp only
      split
      · rw [hearN_sent who F]; rfl
      · rfl
theorem step_sent (n : Nat) (s : TS) (p : Cst) (h : p.kind ≠ 1) : (stepT n s p).sent = s.sent := by
  unfold stepT
  split
  · unfold doT
    rw [if_neg h]
    split
    · rfl
    · rw [hearN_sent]; rfl
  · rfl
/-- The document's answer, as the law sees it. -/
structure TotS (w : World) (lo n pl : Nat) (S : TS) (cds : List Int) (ca : Option Addr) (cc Lb : Nat) : Prop where
  codes : RowI w ca pl cc cds
  cL : ∀ x, ca = some x → lo ≤ x.block
  bL : lo ≤ Lb
  rows : ∀ i, i < n → ∃ a c, w.cell? ⟨Lb, i, none⟩ = some (.slice a (S.ls i).length c) ∧ RowI w a (S.ls i).length c (natsI (S.ls i)) ∧ ∀ x, a = some x → lo ≤ x.block
set_option maxRecDepth 1000000 in
set_option maxHeartbeats 16000000 in
theorem ref_total {W : World} {pa : Option Addr} {n pl pc : Nat} {ps : List Cst} (hp : CameC W pa pl pc ps) (h0 : 0 < n) (h6 : n ≤ 6) (hpl : pl ≤ 120) :
    Calls Try.prog 6 #[.int .i64 (n : Int), .slice pa pl pc] W fun e W2 => (∃ ca cc Lb, e = .returned (.agg #[.slice ca pl cc, .slice (some ⟨Lb, 0, none⟩) n n]) ∧ TotS W2 W.heap.size n pl (tsAt n ps pl) ((List.range pl).map (tcAt n ps)) ca cc Lb) ∧ Stil W W2 := by
  have HPs := hidMk hp
  have hlp := hp.1
  obtain ⟨i0, hit, hz0, hz1, hz2⟩ := info_parts cInfoInt
  obtain ⟨e0, eit, ez0, ez1, ez2⟩ := info_parts cInfoErr
  have hpl' : (pl : Int) ≤ 120 := by omega
  have hn6 : (n : Int) ≤ 6 := by omega
  have hnp : n * pl ≤ 720 := Nat.mul_le_mul h6 hpl
  have hnp' : (n : Int) * (pl : Int) ≤ 720 := by rw [← Int.natCast_mul]; omega
  have hnp0 : (0 : Int) ≤ (n : Int) * (pl : Int) := by rw [← Int.natCast_mul]; omega
  have hwnp : IntKind.i64.wrap ((n : Int) * (pl : Int)) = ((n * pl : Nat) : Int) := by
    rw [wrap_of ⟨by omega, by omega⟩]; simp
  have hmk0 := make_nils n (by omega)
  have hmk1 := make_zero n (by omega)
  have hmk2 := make_got (n * pl) (by omega)
  rw [made_got n pl] at hmk2
  simp only [Int.natCast_mul] at hmk2
  obtain ⟨h5, hcd5, M5, hov5, hl5⟩ := zmv_start W n pl h6 hpl (.cells #[.slice none 0 0, .slice none 0 0] 26)
  simp only [show W.heap.size + 2 = W.heap.size + 1 + 1 from rfl, show W.heap.size + 3 = W.heap.size + 1 + 1 + 1 from rfl, show W.heap.size + 4 = W.heap.size + 1 + 1 + 1 + 1 from rfl] at M5 hl5
  have HM5 := hidMk M5
  have HL5 := hidMk hl5
  have HO5 := hidMk hov5
  have HK5 : Hid (Stil W (((((W.alloc (.cells #[.slice none 0 0, .slice none 0 0] 26)).alloc (.cells ((List.range n).map noList).toArray 34)).alloc (.cells #[.slice none 0 0, .slice (some ⟨W.heap.size + 1, 0, none⟩) n n] 26)).alloc (.cells (numL n fun _ => 0).toArray 3)).alloc (.cells (gotL n pl fun _ _ => none).toArray 47))) := (((((Keep.refl _ W).alloc _).alloc _).alloc _).alloc _).alloc _
  have HR5 : Hid ((((((W.alloc (.cells #[.slice none 0 0, .slice none 0 0] 26)).alloc (.cells ((List.range n).map noList).toArray 34)).alloc (.cells #[.slice none 0 0, .slice (some ⟨W.heap.size + 1, 0, none⟩) n n] 26)).alloc (.cells (numL n fun _ => 0).toArray 3)).alloc (.cells (gotL n pl fun _ _ => none).toArray 47)).heap[W.heap.size]? = some (.cells #[.slice none 0 0, .slice none 0 0] 26 (0, 0))) := by
    show _ = _
    rw [al_old _ _ _ (by simp; omega), al_old _ _ _ (by simp; omega), al_old _ _ _ (by simp; omega), al_old _ _ _ (by simp), al_new]
  clear hp M5 hl5 hov5
  go_enter Try.func6, Try.ntmps6
  go_upto_region 6 with fail
  generalize (((((W.alloc (.cells #[.slice none 0 0, .slice none 0 0] 26)).alloc (.cells ((List.range n).map noList).toArray 34)).alloc (.cells #[.slice none 0 0, .slice (some ⟨W.heap.size + 1, 0, none⟩) n n] 26)).alloc (.cells (numL n fun _ => 0).toArray 3)).alloc (.cells (gotL n pl fun _ _ => none).toArray 47)) = w5 at *
  generalize hr : W.heap.size = r at *
  generalize r + 1 + 1 + 1 + 1 = Gb at *
  generalize r + 1 + 1 + 1 = Nb at *
  generalize r + 1 + 1 = ob at *
  generalize r + 1 = Lb at *
  clear hmk0 hmk1 hmk2 hwnp
  go_wp2_with (fail)
  go_loopw [9, 31] (fun v9 u wr => ∃ (k : Nat) (h : ZSh), k ≤ pl ∧ u = .int .i64 (k : Int) ∧ v9 = .int .i64 ((tsAt n ps k).sent : Int) ∧ Hid (∀ i, h.ov i = h.lv i) ∧ Hid (Zmv wr ob n pl Nb Gb Lb (tsAt n ps k) ((List.range k).map (tcAt n ps)) h) ∧ Hid (wr.heap[r]? = some (.cells #[.slice none 0 0, .slice none 0 0] 26 (0, 0))) ∧ Hid (∀ g, h.own ob g → r < g) ∧ Hid (Stil W wr)) (fun _ u _ => pl - (intOf u).toNat)
  case atStart => exact ⟨0, h5, Nat.zero_le _, rfl, rfl, HO5, HM5, HR5, HL5, HK5⟩
  case round =>
    obtain ⟨k, h, hk, rfl, rfl, HO, HM, HR, HT, HK⟩ := hrel
    clear HM5 HR5 HL5 HK5 HO5 hcd5
    by_cases hlt : k < pl
    · have hlt' : (k : Int) < (pl : Int) := by omega
      obtain ⟨hpl1, hpl2, hpl3, hpr⟩ := HPs.out
      rcases hpr with hpr | ⟨b, off, rfl, hbW, hpr⟩
      · omega
      have hpk : ps[k]? = some (ps[k]'(by omega)) := List.getElem?_eq_getElem (by omega)
      generalize ps[k]'(by omega) = p at hpk
      obtain ⟨d0, d1, d2⟩ := (hpr.keep hbW HK.out (fun e => e)) k p hpk
      have HI := hidMk ((tat_all (n := n) (by omega) ps k).inv)
      have hse : (tsAt n ps k).sent ≤ k := tat_sent (n := n) (by omega) ps k
      have HSt : Hid (tsAt n ps (k + 1) = stepT n (tsAt n ps k) p) := by show (match ps[k]? with | some p => _ | none => _) = _; rw [hpk]
      have HCt : Hid ((List.range (k + 1)).map (tcAt n ps) = (List.range k).map (tcAt n ps) ++ [codeT n (tsAt n ps k) p]) := by
        show _ = _
        rw [tcs_at]
        unfold tcAt
        rw [hpk]
      have hcl : ((List.range k).map (tcAt n ps)).length = k := by simp
      generalize (List.range k).map (tcAt n ps) = cds at *
      have HNu := hidMk (fun q => tat_num (n := n) (by omega) ps k q)
      generalize tsAt n ps k = st at *
      clear hpk hpr hpl3
      have HA1 : Hid (Stil wr (wr.alloc (.cells #[.int .i64 p.kind, .int .i64 p.who, .int .i64 p.msg] 39))) := Stil.new _ _
      have HA2 : Hid ((wr.alloc (.cells #[.int .i64 p.kind, .int .i64 p.who, .int .i64 p.msg] 39)).heap[wr.heap.size]? = some (.cells #[.int .i64 p.kind, .int .i64 p.who, .int .i64 p.msg] 39 (0, 0))) := al_new _ _
      have HFr : Hid (¬ h.own ob wr.heap.size) := HM.out.fresh (Nat.le_refl _)
      go_upto_region 9 with fail
      clear d0 d1 d2
      generalize wr.alloc (.cells #[.int .i64 p.kind, .int .i64 p.who, .int .i64 p.msg] 39) = w7 at *
      generalize hbk : wr.heap.size = bk at *
      have HM7 := hidMk (HM.out.still HA1.out)
      have HB7 : Hid (w7.cell? ⟨bk, 0, none⟩ = some (.int .i64 p.kind) ∧ w7.cell? ⟨bk, 1, none⟩ = some (.int .i64 p.who) ∧ w7.cell? ⟨bk, 2, none⟩ = some (.int .i64 p.msg)) := by
        refine ⟨?_, ?_, ?_⟩ <;> rw [cell_of_row _ _ _ _ _ _ HA2.out] <;> rfl
      have HK7 := hidMk (Stil.tr HK.out HA1.out)
      have HR7 := hidMk ((HA1.out.block r (Array.getElem?_eq_some_iff.1 HR.out).1 (fun e => e)).trans HR.out)
      clear HA1 HA2 HK HR HM
      go_upto_region 10 with fail
      obtain ⟨kd, wh, ms⟩ := p
      simp only at HB7 HSt HCt
      go_cut [47] from 35 to 47 (fun s47 wx => s47 = .bool (decide (kd ≠ 1 ∧ kd ≠ 2 ∧ kd ≠ 3)) ∧ wx = w7)
      case first =>
        obtain ⟨y0, y1, y2⟩ := HB7.out
        clear y1 y2
        by_cases e1 : kd = 1
        · have f1 : (kd != 1) = false := by simp [e1]
          have G1 : Hid (decide (kd ≠ 1 ∧ kd ≠ 2 ∧ kd ≠ 3) = false) := decide_eq_false (by omega)
          clear e1
          go_wp2
          go_meet
          case rel => exact ⟨by rw [G1.out], rfl⟩
        · have f1 : (kd != 1) = true := by simp [e1]
          by_cases e2 : kd = 2
          · have f2 : (kd != 2) = false := by simp [e2]
            have G1 : Hid (decide (kd ≠ 1 ∧ kd ≠ 2 ∧ kd ≠ 3) = false) := decide_eq_false (by omega)
            clear e2
            go_wp2
            go_meet
            case rel => exact ⟨by rw [G1.out], rfl⟩
          · have f2 : (kd != 2) = true := by simp [e2]
            by_cases e3 : kd = 3
            · have f3 : (kd != 3) = false := by simp [e3]
              have G1 : Hid (decide (kd ≠ 1 ∧ kd ≠ 2 ∧ kd ≠ 3) = false) := decide_eq_false (by omega)
              clear e3
              go_wp2
              go_meet
              case rel => exact ⟨by rw [G1.out], rfl⟩
            · have f3 : (kd != 3) = true := by simp [e3]
              have G1 : Hid (decide (kd ≠ 1 ∧ kd ≠ 2 ∧ kd ≠ 3) = true) := decide_eq_true (by omega)
              go_wp2
              go_meet
              case rel => exact ⟨by rw [G1.out], rfl⟩
      case rest =>
      obtain ⟨rfl, hwb⟩ := hcut
      obtain rfl := hwb.symm
      clear hwb
      go_upto_if 47 with fail
      generalize hb47 : decide (kd ≠ 1 ∧ kd ≠ 2 ∧ kd ≠ 3) = b47 at *
      go_cut [9, 12, 13, 14, 15, 16, 17] from 48 to 211 (fun s9 s12 s13 s14 s15 s16 s17 wx => ∃ h1 : ZSh, s9 = .int .i64 ((stepT n st ⟨kd, wh, ms⟩).sent : Int) ∧ s12 = .int .i64 (codeT n st ⟨kd, wh, ms⟩) ∧ Hid (∀ i, h1.ov i = h1.lv i) ∧ Hid (Zmv wx ob n pl Nb Gb Lb (stepT n st ⟨kd, wh, ms⟩) cds h1) ∧ Hid (ZStp ob w7 h wx h1))
      case first =>
        obtain ⟨y0, y1, y2⟩ := HB7.out
        by_cases hkd : kd ≠ 1 ∧ kd ≠ 2 ∧ kd ≠ 3
        · have g1 : b47 = true := by rw [← hb47]; exact decide_eq_true hkd
          subst g1
          have HEc : Hid (codeT n st ⟨kd, wh, ms⟩ = 4) := by show _ = _; unfold codeT; rw [if_pos hkd]
          have HEs : Hid (stepT n st ⟨kd, wh, ms⟩ = st) := by show _ = _; unfold stepT; rw [if_neg (by rw [HEc.out]; omega)]
          clear hkd hb47
          go_wp2
          go_meet
          case rel => exact ⟨h, by rw [HEs.out], by rw [HEc.out], HO, by show Zmv _ _ _ _ _ _ _ _ _ _; rw [HEs.out]; exact HM7.out, ZStp.refl _ _ _⟩
        have g1 : b47 = false := by rw [← hb47]; exact decide_eq_false hkd
        subst g1
        clear hb47
        by_cases hin : inP n wh = false
        · have HEc : Hid (codeT n st ⟨kd, wh, ms⟩ = 2) := by show _ = _; unfold codeT; rw [if_neg hkd, if_pos hin]
          have HEs : Hid (stepT n st ⟨kd, wh, ms⟩ = st) := by show _ = _; unfold stepT; rw [if_neg (by rw [HEc.out]; omega)]
          have w2 : wh < 0 ∨ ¬ wh < 0 ∧ (n : Int) ≤ wh := by simp [inP] at hin; omega
          clear hkd hin
          rcases w2 with w2 | ⟨w2, w3⟩
          · have w4 : decide (wh < 0) = true := decide_eq_true w2
            go_wp2
            go_meet
            case rel => exact ⟨h, by rw [HEs.out], by rw [HEc.out], HO, by show Zmv _ _ _ _ _ _ _ _ _ _; rw [HEs.out]; exact HM7.out, ZStp.refl _ _ _⟩
          · have w4 : decide (wh < 0) = false := decide_eq_false w2
            have w5 : decide ((n : Int) ≤ wh) = true := decide_eq_true w3
            go_wp2
            go_meet
            case rel => exact ⟨h, by rw [HEs.out], by rw [HEc.out], HO, by show Zmv _ _ _ _ _ _ _ _ _ _; rw [HEs.out]; exact HM7.out, ZStp.refl _ _ _⟩
        obtain ⟨w, hw, rfl⟩ := inP_nat hin
        have w4 : decide ((w : Int) < 0) = false := decide_eq_false (by omega)
        have w5 : decide ((n : Int) ≤ (w : Int)) = false := decide_eq_false (by omega)
        have hw' : (w : Int) < (n : Int) := by omega
        by_cases hk1 : kd = 1
        · subst hk1
          have HEc : Hid (codeT n st ⟨1, (w : Int), ms⟩ = 0) := by show _ = _; unfold codeT; rw [if_neg hkd, if_neg hin, if_pos rfl]
          have HEs : Hid (stepT n st ⟨1, (w : Int), ms⟩ = sendT st) := by show _ = _; unfold stepT; rw [if_pos HEc.out]; unfold doT; rw [if_pos rfl]
          have HMs : Hid (Zmv w7 ob n pl Nb Gb Lb (sendT st) cds h) := ⟨HM7.out.pool.congr (fun x q hx => by cases x <;> exact hx), HM7.out.tob, HM7.out.blk⟩
          have hs9 : (st.sent : Int) ≤ 120 := by omega
          clear hkd hin
          go_wp2
          go_meet
          case rel => exact ⟨h, by rw [HEs.out]; show _ = Value.int .i64 ((st.sent + 1 : Nat) : Int); go_num, by rw [HEc.out], HO, by show Zmv _ _ _ _ _ _ _ _ _ _; rw [HEs.out]; exact HMs.out, ZStp.refl _ _ _⟩
        have f1 : (kd != 1) = true := by simp [hk1]
        have f2 : (kd == 1) = false := by simp [hk1]
        by_cases hms : inP st.sent ms = false
        · have HEc : Hid (codeT n st ⟨kd, (w : Int), ms⟩ = 2) := by show _ = _; unfold codeT; rw [if_neg hkd, if_neg hin, if_neg hk1, if_pos hms]
          have HEs : Hid (stepT n st ⟨kd, (w : Int), ms⟩ = st) := by show _ = _; unfold stepT; rw [if_neg (by rw [HEc.out]; omega)]
          have w6 : ms < 0 ∨ ¬ ms < 0 ∧ (st.sent : Int) ≤ ms := by simp [inP] at hms; omega
          clear hkd hin hk1 hms
          rcases w6 with w6 | ⟨w6, w7⟩
          · have w8 : decide (ms < 0) = true := decide_eq_true w6
            go_wp2
            go_meet
            case rel => exact ⟨h, by rw [HEs.out], by rw [HEc.out], HO, by show Zmv _ _ _ _ _ _ _ _ _ _; rw [HEs.out]; exact HM7.out, ZStp.refl _ _ _⟩
          · have w8 : decide (ms < 0) = false := decide_eq_false w6
            have w9 : decide ((st.sent : Int) ≤ ms) = true := decide_eq_true w7
            go_wp2
            go_meet
            case rel => exact ⟨h, by rw [HEs.out], by rw [HEc.out], HO, by show Zmv _ _ _ _ _ _ _ _ _ _; rw [HEs.out]; exact HM7.out, ZStp.refl _ _ _⟩
        obtain ⟨m, hm, rfl⟩ := inP_nat hms
        have w8 : decide ((m : Int) < 0) = false := decide_eq_false (by omega)
        have w9 : decide ((st.sent : Int) ≤ (m : Int)) = false := decide_eq_false (by omega)
        have HFb : Hid (¬ h.own ob bk) := HFr.out
        have hk23 : kd = 2 ∨ kd = 3 := by omega
        clear hkd hin hms
        rcases hk23 with e23 | e23
        · subst e23
          have HY := hidMk HB7.out
          obtain ⟨g, hg⟩ := HI.out
          have HSe : Hid ((stepT n st ⟨2, (w : Int), (m : Int)⟩).sent = st.sent) := step_sent n st _ (by simp)
          go_upto_if 75 with fail
          clear y0 y1 y2
          refine wp_cond_false (by first | rfl | kernel_rfl | (simp [Act.eval]; done) | (show Value.bool _ = _; simp)) ?_
          refine good_take hw hm (by omega) h6 hpl (Nat.le_trans (HNu.out w) (by omega)) hg HM7 HO HFb HY.out.1 HY.out.2.1 HY.out.2.2 ?_
          intro z13 z14 z15 z16 z17 z78 z79 z80 z81 z82 z83 z84 z85 z86 z87 z88 z89 z90 z91 z92 z93 z94 z95 z96 z97 z98 z99 z100 z101 z102 z103 z104 z105 z106 z107 z108 z109 z110 z111 z112 z113 z114 z115 z116 z117 z118 z119 z120 z121 z122 z123 z124 z125 z126 z127 z128 z129 z130 z131 z132 z133 z134 z135 z136 z137 z138 z139 z140 z141 z142 z143 z144 z145 z146 z147 z148 z149 z150 z151 z152 z153 z154 z155 z156 z157 z158 z159 z160 z161 z162 z163 z164 z165 z166 z167 z168 z169 z170 z171 z172 z173 z174 z175 z176 z177 z178 z179 z180 z181 z182 z183 z184 z185 z186 z187 z188 z189 z190 z191 z192 z193 z194 z195 z196 z197 z198 z199 z200 z201 z202 z203 z204 z205 z206 z207 z208 z209 z210 z211 wx h1 m1 o1 s1
          have HR1 := hidMk m1
          have HR2 := hidMk o1
          have HR3 := hidMk s1
          clear m1 o1 s1
          go_wp2
          go_meet
          case rel => exact ⟨h1, by rw [HSe.out], rfl, HR2.out, HR1.out, HR3.out⟩
        · subst e23
          have HY := hidMk HB7.out
          obtain ⟨g, hg⟩ := HI.out
          have HSe : Hid ((stepT n st ⟨3, (w : Int), (m : Int)⟩).sent = st.sent) := step_sent n st _ (by simp)
          go_upto_if 75 with fail
          clear y0 y1 y2
          refine wp_cond_false (by first | rfl | kernel_rfl | (simp [Act.eval]; done) | (show Value.bool _ = _; simp)) ?_
          refine good_tell hw hm (by omega) h6 hpl (Nat.le_trans (HNu.out w) (by omega)) hg HM7 HO HFb HY.out.1 HY.out.2.1 HY.out.2.2 ?_
          intro z13 z14 z15 z16 z17 z78 z79 z80 z81 z82 z83 z84 z85 z86 z87 z88 z89 z90 z91 z92 z93 z94 z95 z96 z97 z98 z99 z100 z101 z102 z103 z104 z105 z106 z107 z108 z109 z110 z111 z112 z113 z114 z115 z116 z117 z118 z119 z120 z121 z122 z123 z124 z125 z126 z127 z128 z129 z130 z131 z132 z133 z134 z135 z136 z137 z138 z139 z140 z141 z142 z143 z144 z145 z146 z147 z148 z149 z150 z151 z152 z153 z154 z155 z156 z157 z158 z159 z160 z161 z162 z163 z164 z165 z166 z167 z168 z169 z170 z171 z172 z173 z174 z175 z176 z177 z178 z179 z180 z181 z182 z183 z184 z185 z186 z187 z188 z189 z190 z191 z192 z193 z194 z195 z196 z197 z198 z199 z200 z201 z202 z203 z204 z205 z206 z207 z208 z209 z210 z211 wx h1 m1 o1 s1
          have HR1 := hidMk m1
          have HR2 := hidMk o1
          have HR3 := hidMk s1
          clear m1 o1 s1
          go_wp2
          go_meet
          case rel => exact ⟨h1, by rw [HSe.out], rfl, HR2.out, HR1.out, HR3.out⟩
      case rest =>
      obtain ⟨h1, rfl, rfl, HO1, HM1, HS1⟩ := hcut
      clear hb47
      generalize stepT n st ⟨kd, wh, ms⟩ = s2 at *
      generalize codeT n st ⟨kd, wh, ms⟩ = cd at *
      have HC := hidMk (z_close HS1.out HT.out HR7.out HK7.out hr)
      obtain ⟨cdv1, lv1, ov1, t1⟩ := h1
      obtain ⟨o0, _, off⟩ := HM1.out.cells
      have sg := HM1.out.code
      obtain ⟨ca0, cc0, ev⟩ := segForm sg
      simp only at ev o0 sg
      subst ev
      rw [hcl] at sg o0
      have fo0 := off 0
      have HG4 := hidMk sg
      have hk120 : k ≤ 120 := by omega
      clear sg off HS1 HM7 HB7 HR7 HK7 HO HT
      go_wp2_with (at_builtin; refine wpList_append_seg _ rfl _ _ 23 rfl 27 e0 (.int .i64 0) 1 8 Try.underlying23 eit ez0 ez1 ez2 rfl (by decide) (.slice ca0 k cc0) k (intsZ cds) rfl (segAlloc HG4.out _) ⟨wc.heap.size, 0, none⟩ 1 1 [.int .i64 cd] rfl rfl (cCell1 wc (.int .i64 cd) 27 _ rfl) (cOne _) (by unfold maxLen; omega) (by omega) ?_)
      intro v5 w5' hs5 hg5
      obtain ⟨a5, c5, rfl⟩ := segForm hs5
      obtain ⟨g4, g5, t5, M5, S5⟩ := HM1.out.pushCd (x := cd) (wa := wc.alloc (.cells #[.int .i64 cd] 27)) (Stil.new wc _) (by rw [hcl]; exact hs5.mono (fun g _ e => by simpa using e)) (by rw [hcl]; exact hg5)
      have HM5 := hidMk M5
      have HD := hidMk (z_close S5 HC.out.1 HC.out.2.1 HC.out.2.2 hr)
      simp only [hcl] at g4
      clear hs5 hg5 M5 S5 HM1 HC o0 fo0 HG4
      go_wp2
      go_roundw
      case rel => exact ⟨k + 1, ⟨.slice a5 (k + 1) c5, lv1, ov1, t5⟩, by omega, by go_num, by rw [HSt.out], HO1, by show Zmv _ _ _ _ _ _ _ _ _ _; rw [HSt.out, HCt.out]; exact HM5.out, HD.out.2.1, HD.out.1, HD.out.2.2⟩
      case measure => simp [intOf]; omega
    · have hkp : pl = k := by omega
      subst hkp
      obtain ⟨cdv, lv, ov, t⟩ := h
      have hcl : ((List.range pl).map (tcAt n ps)).length = pl := by simp
      obtain ⟨o0, o1, off⟩ := HM.out.cells
      have s1 := HM.out.code
      obtain ⟨ca, cc, e1⟩ := segForm s1
      simp only at e1 s1 o0
      subst e1
      rw [hcl] at s1 o0
      have hbr := HR.out
      have hob : r < ob := HT.out ob (.inr rfl)
      have hlb : r < Lb := by
        have h9 := (HM.out.pool.cells (τ := .ol) (s := _) rfl rfl).1
        exact HT.out Lb (.inl (by rw [h9]; simp))
      have r0 : wr.cell? ⟨r, 0, none⟩ = some (.slice none 0 0) := by rw [cell_of_row wr _ _ _ _ _ hbr]; rfl
      have r1 : wr.cell? ⟨r, 1, none⟩ = some (.slice none 0 0) := by rw [cell_of_row wr _ _ _ _ _ hbr]; rfl
      have f0 : wr.frozen? ⟨r, 0, none⟩ = false := frozen_of_row wr _ _ _ _ hbr
      have f1 : wr.frozen? ⟨r, 1, none⟩ = false := frozen_of_row wr _ _ _ _ hbr
      have b1 := heap_setCell_same wr r 0 _ _ (.slice ca pl cc) hbr
      have b2 := heap_setCell_same _ r 1 _ _ (.slice (some ⟨Lb, 0, none⟩) n n) b1
      have kk := ((Keep.refl (fun g => g = r) wr).setCell r 0 (.slice ca pl cc) (fun _ => rfl)).setCell r 1 (.slice (some ⟨Lb, 0, none⟩) n n) (fun _ => rfl)
      have HB2 := hidMk b2
      have HKK := hidMk kk
      have HS1 := hidMk s1
      clear b1 b2 kk hbr hcl s1 off
      go_wp2
      refine bodyPost_ret (results_one_rowT (P := Try.prog) rfl _ _ r 26 #[.slice ca pl cc, .slice (some ⟨Lb, 0, none⟩) n n] (0, 0) _ rfl (by simpa using HB2.out) Try.underlying26 rfl (by kernel_rfl)) rfl ?_
      have hno : ∀ {x : ZT} {g : Nat}, t g = some x → r < g := fun {x g} e => HT.out g (.inl (by show t g ≠ none; rw [e]; simp))
      have q1 := HS1.out.keep HKK.out (fun g _ e e2 => by have := hno e; have e3 : g = r := e2; omega)
      refine ⟨⟨ca, cc, Lb, rfl, ⟨seg_rowZ q1, fun x hx => ?_, by omega, fun i hi => ?_⟩⟩, HK.out.trans HKK.out (fun _ _ e => e) (fun g hg e => by have e3 : g = r := e; omega)⟩
      · have h8 : t x.block = some .cd := (HS1.out.block (k := x.block) (by rw [hx]; rfl)).1
        have := hno h8
        omega
      · have hl := HM.out.li hi
        obtain ⟨a, c, e⟩ := segForm hl
        have hc := (HM.out.row hi).1
        simp only at e hl hc
        have ho : ov i = lv i := HO.out i
        rw [ho, e] at hc
        rw [e] at hl
        refine ⟨a, c, (World.cell?_of_block (HKK.out.block Lb (World.block_lt_of_cell? _ _ hc) (by show ¬ Lb = r; omega))).trans hc, seg_row (hl.keep HKK.out (fun g _ e1 e2 => by have := hno e1; have e3 : g = r := e2; omega)), fun x hx => ?_⟩
        have h8 : t x.block = some (.l i) := (hl.block (k := x.block) (by rw [hx]; rfl)).1
        have := hno h8
        omega
end Go.Proofs.Ytipoopbkapgfiaa
