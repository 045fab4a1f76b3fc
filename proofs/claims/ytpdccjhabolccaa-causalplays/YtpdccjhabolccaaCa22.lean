/- The document's Causal, walked. -/
import Derived.Test.YtpdccjhabolccaaCa21
import Derived.Deep.CutRange
import Derived.Deep.CutBlock
import Derived.Deep.LoopGhost
namespace Go.Proofs.Ytpdccjhabolccaa
open Go.RowKit
set_option linter.unusedVariables false

theorem cc_range (n : Nat) (ps : List Cst) (k : Nat) : (List.range (k + 1)).map (ccAt n ps) = (List.range k).map (ccAt n ps) ++ [ccAt n ps k] := by
  rw [List.range_succ, List.map_append, List.map_singleton]
/-- What the document's play leaves. -/
structure PlayedR (W W2 : World) (n pl : Nat) (ps : List Cst) (b5 L5 L8 : Nat) (t : Nat → Option RT) (v : RT → Value) (come : Nat → List Nat) : Prop where
  pool : Pool W2 t (RD n b5 L5 L8 (csAt n ps pl) come ((List.range pl).map (ccAt n ps)) v)
  keep : Stil W W2

set_option maxRecDepth 100000 in
set_option maxHeartbeats 16000000 in
theorem causal_ref {W : World} {pa : Option Addr} {n pl pc : Nat} {ps : List Cst} (hp : CameC W pa pl pc ps) (h0 : 0 < n) (h6 : n ≤ 6) (hpl : pl ≤ 120) :
    Calls Try.prog 14 #[.int .i64 (n : Int), .slice pa pl pc] W fun e W2 => ∃ b5 L5 L8 t v come, e = .returned (.agg #[v .cd, .slice (some ⟨L5, 0, none⟩) n n]) ∧ PlayedR W W2 n pl ps b5 L5 L8 t v come := by
  have HPs := hidMk hp
  obtain ⟨i0, hi, hz0, hz1, hz2⟩ := info_parts cInfoInt
  obtain ⟨i1, hj, hy0, hy1, hy2⟩ := info_parts cInfoErr
  obtain ⟨i2, hq, hx0, hx1, hx2⟩ := info_parts cInfoInts
  have hmr := cMakeRows n (by omega)
  rw [cMadeRows n] at hmr
  clear hp
  go_enter Try.func14, Try.ntmps14
  go_wp2
  have HSt := hidMk (rd_start (n := n) W h6 (.cells #[.slice none 0 0, .slice none 0 0] 36))
  have HKW : Hid (Stil W ((((W.alloc (.cells #[.slice none 0 0, .slice none 0 0] 36)).alloc (.cells ((List.range n).map noList).toArray 22)).alloc (.cells #[.slice none 0 0, .slice (some ⟨W.heap.size + 1, 0, none⟩) n n] 36)).alloc (.cells ((List.range n).map noList).toArray 22))) := (((((Keep.refl _ W).alloc _).alloc _).alloc _).alloc _)
  have HRW : Hid (((((W.alloc (.cells #[.slice none 0 0, .slice none 0 0] 36)).alloc (.cells ((List.range n).map noList).toArray 22)).alloc (.cells #[.slice none 0 0, .slice (some ⟨W.heap.size + 1, 0, none⟩) n n] 36)).alloc (.cells ((List.range n).map noList).toArray 22)).heap[W.heap.size]? = some (.cells #[.slice none 0 0, .slice none 0 0] 36 (0, 0))) := by
    show _ = _
    rw [al_old _ _ _ (by simp; omega), al_old _ _ _ (by simp; omega), al_old _ _ _ (by simp), al_new]
  clear hmr
  generalize ((((W.alloc (.cells #[.slice none 0 0, .slice none 0 0] 36)).alloc (.cells ((List.range n).map noList).toArray 22)).alloc (.cells #[.slice none 0 0, .slice (some ⟨W.heap.size + 1, 0, none⟩) n n] 36)).alloc (.cells ((List.range n).map noList).toArray 22)) = w4 at *
  obtain ⟨t4, HP4, HT4⟩ := HSt.out
  clear HSt
  have HP4' := hidMk HP4
  have HT4' := hidMk HT4
  clear HP4 HT4
  generalize hr4 : W.heap.size = r4 at HP4' HT4' HRW ⊢
  generalize r4 + 1 + 1 + 1 = L8 at *
  generalize r4 + 1 + 1 = b5 at *
  generalize r4 + 1 = L5 at *
  go_loopg [6, 7, 22] pl (fun gg x6 x7 u wr => ∃ (k : Nat) (t : Nat → Option RT) (v : RT → Value) (come : Nat → List Nat), k ≤ pl ∧ pl - k ≤ gg ∧ u = .int .i64 (k : Int) ∧ x6 = v .fr ∧ x7 = v .cs ∧ Hid (∀ i, (come i).length ≤ k) ∧ Hid (Pool wr t (RD n b5 L5 L8 (csAt n ps k) come ((List.range k).map (ccAt n ps)) v)) ∧
    Hid (∀ i, i < n → ComeOf (csAt n ps k) i (come i)) ∧ Hid (t r4 = none ∧ ∀ g, t g ≠ none → W.heap.size ≤ g) ∧ Hid (wr.heap[r4]? = some (.cells #[.slice none 0 0, .slice none 0 0] 36 (0, 0))) ∧ Hid (Stil W wr))
  case atStart => exact ⟨0, t4, nilV, fun _ => [], Nat.zero_le _, by omega, rfl, rfl, rfl, fun _ => Nat.le_refl _, HP4', fun i hi m => ⟨fun h => by simp at h, fun h => by simp [cs0, csAt] at h⟩, ⟨HT4'.out.1, by rw [hr4]; exact HT4'.out.2⟩, HRW, HKW⟩
  case round =>
    obtain ⟨k, t, v, come, hk, hgg, rfl, rfl, rfl, hcl, HP, HC, HT, HR, HK⟩ := hrel
    by_cases hlt : k < pl
    · have hlt' : (k : Int) < (pl : Int) := by omega
      obtain ⟨hpl1, hpl2, hpl3, hpr⟩ := HPs.out
      rcases hpr with hpr | ⟨b, off, rfl, hbW, hpr⟩
      · omega
      have hpk : ps[k]? = some (ps[k]'(by omega)) := List.getElem?_eq_getElem (by omega)
      generalize ps[k]'(by omega) = p at hpk
      obtain ⟨d0, d1, d2⟩ := (hpr.keep hbW HK.out (fun e => e)) k p hpk
      have hinv := hidMk (cat_inv (n := n) ps k)
      have hml : (csAt n ps k).msgs.length ≤ 120 := by have := cat_msgs_len (n := n) ps k; omega
      have ek : csAt n ps (k + 1) = stepC n (csAt n ps k) p := by show (match ps[k]? with | some p => _ | none => _) = _; rw [hpk]
      have ec : ccAt n ps k = codeC n (csAt n ps k) p := by unfold ccAt; rw [hpk]
      have HEK := hidMk ek
      have HEC := hidMk (cc_range n ps k)
      rw [ec] at HEC
      clear ek ec hpk hpr hpl3
      generalize csAt n ps k = S at *
      generalize hcdk : (List.range k).map (ccAt n ps) = cdk at *
      have hcdl : cdk.length = k := by rw [← hcdk]; simp
      clear hcdk
      obtain ⟨kd, wh, ms⟩ := p
      simp only at d0 d1 d2
      obtain ⟨fa, fc, hf6⟩ := segForm (HP.out.seg .fr _ rfl)
      obtain ⟨ka, kc, hf7⟩ := segForm (HP.out.seg .cs _ rfl)
      have hf6 : Hid (v .fr = .slice fa S.msgs.length fc) := hf6
      have hf7 : Hid (v .cs = .slice ka S.msgs.length kc) := hf7
      rw [hf6.out, hf7.out]
      have HPb := hidMk (HP.out.alloc (.cells #[.int .i64 kd, .int .i64 wh, .int .i64 ms] 47))
      have HSb := hidMk (PStep.of_still t (Stil.new wr (.cells #[.int .i64 kd, .int .i64 wh, .int .i64 ms] 47)))
      have b0 : (wr.alloc (.cells #[.int .i64 kd, .int .i64 wh, .int .i64 ms] 47)).cell? ⟨wr.heap.size, 0, none⟩ = some (.int .i64 kd) := by go_simp
      have b1 : (wr.alloc (.cells #[.int .i64 kd, .int .i64 wh, .int .i64 ms] 47)).cell? ⟨wr.heap.size, 1, none⟩ = some (.int .i64 wh) := by go_simp
      have b2 : (wr.alloc (.cells #[.int .i64 kd, .int .i64 wh, .int .i64 ms] 47)).cell? ⟨wr.heap.size, 2, none⟩ = some (.int .i64 ms) := by go_simp
      have htb := hidMk (HP.out.fresh wr.heap.size (Nat.le_refl _))
      go_upto_region 9 with fail
      generalize wr.alloc (.cells #[.int .i64 kd, .int .i64 wh, .int .i64 ms] 47) = wb at *
      generalize wr.heap.size = bb at *
      go_cut [33] from 26 to 33 (fun s33 wx => s33 = .bool (kd != 1 && kd != 2) ∧ wx = wb)
      case first =>
        by_cases e1 : (kd != 1) = true
        · go_wp2
          go_meet
          case rel => exact ⟨by simp [e1], rfl⟩
        · have e1 : (kd != 1) = false := by simpa using e1
          go_wp2
          go_meet
          case rel => exact ⟨by simp [e1], rfl⟩
      obtain ⟨rfl, hwb⟩ := hcut
      obtain rfl := hwb.symm
      clear hwb
      go_upto_if 33 with fail
      go_cut [6, 7, 11, 12, 14] from 23 to 158 (fun s6 s7 s11 s12 s14 wx => ∃ (tx : Nat → Option RT) (vx : RT → Value) (cx : Nat → List Nat), s6 = vx .fr ∧ s7 = vx .cs ∧ s11 = .int .i64 (codeC n S ⟨kd, wh, ms⟩) ∧ Hid (∀ i, (cx i).length ≤ k + 1) ∧ Hid (Pool wx tx (RD n b5 L5 L8 (stepC n S ⟨kd, wh, ms⟩) cx cdk vx)) ∧ Hid (PStep wr t wx tx) ∧ Hid (∀ i, i < n → ComeOf (stepC n S ⟨kd, wh, ms⟩) i (cx i)))
      case rest =>
        obtain ⟨tx, vx, cx, rfl, rfl, rfl, HLx, HPx, HSx, HCx⟩ := hcut
        have PT := HPx.out
        obtain ⟨ca0, cc0, hcv⟩ := segForm (PT.seg .cd _ rfl)
        have HSc := hidMk (PT.seg .cd _ rfl)
        obtain ⟨c0, _, _⟩ := rd_out PT
        simp only [hcdl] at hcv HSc
        rw [hcv] at c0 HSc
        clear PT
        generalize codeC n S ⟨kd, wh, ms⟩ = cde at *
        go_wp2_with (at_builtin; refine wpList_append_seg _ rfl _ _ 24 rfl 28 i1 (.int .i64 0) 1 8 Try.underlying24 hj hy0 hy1 hy2 rfl (by decide) _ _ _ rfl (segAlloc HSc.out _) ⟨wc.heap.size, 0, none⟩ 1 1 [.int .i64 cde] rfl rfl (cCell1 _ _ _ _ rfl) (cOne _) (by unfold maxLen; omega) (by omega) ?_)
        intro v3 w3 hs3 hg3
        have hz9 : (wc.alloc (.cells #[.int .i64 cde] 28)).heap.size = wc.heap.size + 1 := by simp
        obtain ⟨g1, g2, HM⟩ := code_mid HPx.out (e := cde) (Stil.new wc (.cells #[.int .i64 cde] 28)) (by rw [hcv, hcdl, hz9]; exact hs3) (by rw [hcv]; exact hg3)
        clear hz9
        rw [hcv] at g1
        obtain ⟨t5, P5, S5⟩ := HM.out
        obtain ⟨a3, c3, rfl⟩ := segForm hs3
        have HS6 := hidMk (HSx.out.trans S5)
        have HP6 : Hid (Pool (w3.setCell ⟨b5, 0, none⟩ (.slice a3 (k + 1) c3)) t5 (RD n b5 L5 L8 (csAt n ps (k + 1)) cx ((List.range (k + 1)).map (ccAt n ps)) (updV vx .cd (.slice a3 (k + 1) c3)))) := by
          show Pool _ _ _
          rw [HEK.out, HEC.out]
          exact P5
        have HT6 : Hid (t5 r4 = none ∧ ∀ g, t5 g ≠ none → W.heap.size ≤ g) := ⟨(HS6.out.tags r4 (Array.getElem?_eq_some_iff.1 HR.out).1).trans HT.out.1, HS6.out.low HT.out.2 HK.out.size⟩
        have HR6 : Hid ((w3.setCell ⟨b5, 0, none⟩ (.slice a3 (k + 1) c3)).heap[r4]? = some (.cells #[.slice none 0 0, .slice none 0 0] 36 (0, 0))) := HS6.out.block HT.out.1 HR.out
        have HK6 : Hid (Stil W (w3.setCell ⟨b5, 0, none⟩ (.slice a3 (k + 1) c3))) := HK.out.trans HS6.out.keep (fun _ _ e => e) (fun g hg e => by have := HT.out.2 g e; omega)
        have HC6 : Hid (∀ i, i < n → ComeOf (csAt n ps (k + 1)) i (cx i)) := by rw [HEK.out]; exact HCx
        clear hs3 hg3 HM P5 S5 HPx HSx HR HT HK HSc hcv c0 HCx
        go_wp2
        go_roundg (pl - (k + 1))
        case rel => exact ⟨k + 1, t5, updV vx .cd (.slice a3 (k + 1) c3), cx, by omega, Nat.le_refl _, by go_num, rfl, rfl, HLx, HP6, HC6, HT6, HR6, HK6⟩
        case measure => omega
      case first =>
        by_cases k1 : kd ≠ 1 ∧ kd ≠ 2
        · skip
          have q3 : (kd != 1 && kd != 2) = true := by simpa using k1
          rw [q3]
          have ecd : codeC n S ⟨kd, wh, ms⟩ = 4 := by unfold codeC; rw [if_pos k1]
          have e2 : stepC n S ⟨kd, wh, ms⟩ = S := by unfold stepC; rw [ecd]; rfl
          have HE1 := hidMk ecd
          have HE2 := hidMk e2
          clear k1 ecd e2
          go_wp2
          go_meet
          case rel => exact ⟨t, v, come, hf6.out.symm, hf7.out.symm, by rw [HE1.out], fun i => by have := hcl.out i; omega, by rw [HE2.out]; exact HPb, HSb, by rw [HE2.out]; exact HC⟩
        · skip
          have q3 : (kd != 1 && kd != 2) = false := by
            rw [Bool.eq_false_iff]
            intro h
            exact k1 (by simpa using h)
          rw [q3]
          clear q3
          by_cases w1 : inP n wh = false
          · have ecd : codeC n S ⟨kd, wh, ms⟩ = 2 := by unfold codeC; rw [if_neg k1, if_pos w1]
            have e2 : stepC n S ⟨kd, wh, ms⟩ = S := by unfold stepC; rw [ecd]; rfl
            have HE1 := hidMk ecd
            have HE2 := hidMk e2
            have w2 : wh < 0 ∨ ¬ wh < 0 ∧ (n : Int) ≤ wh := by simp [inP] at w1; omega
            clear ecd e2 w1
            rcases w2 with w2 | ⟨w2, w3⟩
            · have w4 : decide (wh < 0) = true := decide_eq_true w2
              go_wp2
              go_quiet (fail)
              go_wp2
              go_meet
              case rel => exact ⟨t, v, come, hf6.out.symm, hf7.out.symm, by rw [HE1.out], fun i => by have := hcl.out i; omega, by rw [HE2.out]; exact HPb.out.drewN _, HSb.out.trans (PStep.of_still t (Stil.drewN _ _)), by rw [HE2.out]; exact HC⟩
            · have w4 : decide (wh < 0) = false := decide_eq_false w2
              have w5 : decide ((n : Int) ≤ wh) = true := decide_eq_true w3
              go_wp2
              go_quiet (fail)
              go_wp2
              go_meet
              case rel => exact ⟨t, v, come, hf6.out.symm, hf7.out.symm, by rw [HE1.out], fun i => by have := hcl.out i; omega, by rw [HE2.out]; exact HPb.out.drewN _, HSb.out.trans (PStep.of_still t (Stil.drewN _ _)), by rw [HE2.out]; exact HC⟩
          · obtain ⟨w, hw, rfl⟩ : ∃ w : Nat, w < n ∧ wh = (w : Int) := ⟨wh.toNat, by simp [inP] at w1; omega, by simp [inP] at w1; omega⟩
            have w4 : decide ((w : Int) < 0) = false := decide_eq_false (by omega)
            have w5 : ¬ (n : Int) ≤ (w : Int) := by omega
            have w6 : decide ((n : Int) ≤ (w : Int)) = false := decide_eq_false (by omega)
            have w8 : decide (n ≤ w) = false := decide_eq_false (by omega)
            have w9 : ¬ n ≤ w := by omega
            have hw' : (w : Int) < (n : Int) := by omega
            by_cases e1 : kd = 1
            · subst e1
              have ecd : codeC n S ⟨1, (w : Int), ms⟩ = 0 := by unfold codeC; rw [if_neg k1, if_neg w1]; rfl
              have e2 : stepC n S ⟨1, (w : Int), ms⟩ = sendC S w := by unfold stepC; rw [if_pos ecd]; unfold doC; rw [if_pos rfl]; rfl
              have HE1 := hidMk ecd
              have HE2 := hidMk e2
              clear ecd e2 w1 k1
              go_wp2
              go_quiet (fail)
              have HPd := hidMk (HPb.out.drewN nq)
              have HSd := hidMk (HSb.out.trans (PStep.of_still t (Stil.drewN wb nq)))
              have b1' : (wb.drewN nq).cell? ⟨bb, 1, none⟩ = some (.int .i64 (w : Int)) := b1
              go_upto_region 15 with fail
              clear b0 b1 b2 d0 d1 d2 HPb HSb HP
              generalize wb.drewN nq = wd at *
              obtain ⟨la, lc, hla⟩ := segForm (rd_l HPd.out hw)
              have c5 := (rd_out HPd.out).2.1
              have c5w := (rd_ol HPd.out hw).1
              rw [hla] at c5w
              have HB1 := hidMk b1'
              have hll : (S.ls w).length ≤ 120 := by have := ls_len hinv.out w; omega
              have hform : (∃ g9 o9, la = some ⟨g9, o9, none⟩) ∨ (S.ls w).length = 0 := by
                rcases Nat.eq_zero_or_pos (S.ls w).length with h | h
                · exact .inr h
                · obtain ⟨g9, o9, cap9, e9, _⟩ := (rd_l HPd.out hw).at h
                  rw [hla] at e9
                  simp only [Value.slice.injEq] at e9
                  exact .inl ⟨g9, o9, e9.1⟩
              have HLa := hidMk hla
              clear hla
              generalize hlln : (S.ls w).length = ll at *
              have HLN := hidMk hlln
              clear hlln w4 w5 w6 w8 w9
              go_upto_block 2 with fail
              clear c5 c5w b1'
              go_cut [12, 14] from 80 to 88 (fun s12 s14 wx => ∃ tl : Nat → Option RT, Hid (Pool wx tl (updD (RD n b5 L5 L8 S come cdk v) (.ca S.msgs.length) ⟨3, 1, s12, ll, natsL (S.ls w)⟩)) ∧ Hid (PStep wd t wx tl))
              case first =>
                rcases hform with ⟨g9, o9, rfl⟩ | hz9
                · go_wp2
                  go_loopg [12, 80] ll (fun gg x12 u wl => ∃ (j : Nat) (tl : Nat → Option RT), j ≤ ll ∧ ll - j ≤ gg ∧ u = .int .i64 (j : Int) ∧ Hid (Pool wl tl (updD (RD n b5 L5 L8 S come cdk v) (.ca S.msgs.length) ⟨3, 1, x12, j, natsL ((S.ls w).take j)⟩)) ∧ Hid (PStep wd t wl tl))
                  case atStart => exact ⟨0, t, Nat.zero_le _, by omega, rfl, HPd.out.newNil _ _ _, PStep.refl _ _⟩
                  case round =>
                    obtain ⟨j, tl, hjl, hgj, rfl, HPl, HSl⟩ := hrel
                    obtain ⟨xa, xc, hx12⟩ := HPl.out.form (updD_same _ _ _)
                    simp only at hx12
                    subst hx12
                    have HGJ := hidMk hgj
                    clear hgj
                    by_cases hjlt : j < ll
                    · have hjlt' : (j : Int) < (ll : Int) := by omega
                      have hsl : updD (RD n b5 L5 L8 S come cdk v) (.ca S.msgs.length) ⟨3, 1, .slice xa j xc, j, natsL ((S.ls w).take j)⟩ (.l w) = some ⟨3, 1, v (.l w), (S.ls w).length, natsL (S.ls w)⟩ := (updD_other _ _ (by simp)).trans (rd_at_l hw)
                      have hxj : (S.ls w)[j]? = some ((S.ls w)[j]'(by rw [HLN.out]; exact hjlt)) := List.getElem?_eq_getElem _
                      generalize (S.ls w)[j]'(by rw [HLN.out]; exact hjlt) = x at hxj
                      obtain ⟨_, _, hcl9, _⟩ := HPl.out.cells hsl HLa.out
                      have dx : wr.cell? ⟨g9, o9 + j, none⟩ = some (.int .i64 (x : Int)) := hcl9 j _ (by simp [natsL, hxj])
                      have HXj := hidMk hxj
                      have HSx : Hid (Seg wr (fun g => tl g = some (.ca S.msgs.length)) 3 1 (.slice xa j xc) j (natsL ((S.ls w).take j))) := HPl.out.seg (.ca S.msgs.length) _ (updD_same _ _ _)
                      clear hcl9 hsl hxj
                      go_wp2_with (at_builtin; refine wpList_append_seg _ rfl _ _ 22 rfl 3 i0 (.int .i64 0) 1 8 Try.underlying22 hi hz0 hz1 hz2 rfl (by decide) _ _ _ rfl (segAlloc HSx.out _) ⟨wr.heap.size, 0, none⟩ 1 1 [.int .i64 (x : Int)] rfl rfl (cCell1 _ _ _ _ rfl) (cOne _) (by unfold maxLen; omega) (by omega) ?_)
                      intro v3 w3 hs3 hg3
                      have hz9 : (wr.alloc (.cells #[.int .i64 (x : Int)] 3)).heap.size = wr.heap.size + 1 := by simp
                      obtain ⟨t3, P3, S3⟩ := HPl.out.app (updD_same _ _ _) (Stil.new wr (.cells #[.int .i64 (x : Int)] 3)) (by rw [hz9]; exact hs3) hg3
                      obtain ⟨a3, c3, rfl⟩ := segForm hs3
                      have HP3 : Hid (Pool w3 t3 (updD (RD n b5 L5 L8 S come cdk v) (.ca S.msgs.length) ⟨3, 1, .slice a3 (j + 1) c3, j + 1, natsL ((S.ls w).take (j + 1))⟩)) := by
                        have h9 := updD_twice P3
                        have e7 : natsL ((S.ls w).take (j + 1)) = natsL ((S.ls w).take j) ++ [.int .i64 (x : Int)] := by
                          rw [List.take_add_one, HXj.out]; simp [natsL]
                        show Pool _ _ _
                        rw [e7]
                        exact h9
                      have HS3 := hidMk (HSl.out.trans S3)
                      clear hs3 hg3 P3 S3 HPl HSl dx hz9
                      go_wp2
                      go_roundg (ll - (j + 1))
                      case rel => exact ⟨j + 1, t3, by omega, Nat.le_refl _, by go_num, HP3, HS3⟩
                      case measure => have := HGJ.out; omega
                    · obtain rfl : j = ll := by omega
                      have htk : (S.ls w).take j = S.ls w := List.take_of_length_le (by rw [HLN.out]; exact Nat.le_refl _)
                      rw [htk] at HPl
                      clear htk
                      go_wp2
                      go_meet
                      case rel => exact ⟨tl, HPl, HSl⟩
                · go_wp2
                  go_loopg [12, 80] ll (fun gg x12 u wl => ∃ (j : Nat) (tl : Nat → Option RT), j ≤ ll ∧ ll - j ≤ gg ∧ u = .int .i64 (j : Int) ∧ Hid (Pool wl tl (updD (RD n b5 L5 L8 S come cdk v) (.ca S.msgs.length) ⟨3, 1, x12, j, natsL ((S.ls w).take j)⟩)) ∧ Hid (PStep wd t wl tl))
                  case atStart => exact ⟨0, t, Nat.zero_le _, by omega, rfl, HPd.out.newNil _ _ _, PStep.refl _ _⟩
                  case round =>
                    obtain ⟨j, tl, hjl, hgj, rfl, HPl, HSl⟩ := hrel
                    clear hgj
                    by_cases hjlt : j < ll
                    · omega
                    · obtain rfl : j = ll := by omega
                      have htk : (S.ls w).take j = S.ls w := List.take_of_length_le (by rw [HLN.out]; exact Nat.le_refl _)
                      rw [htk] at HPl
                      clear htk
                      go_wp2
                      go_meet
                      case rel => exact ⟨tl, HPl, HSl⟩
              case rest =>
                obtain ⟨tl, HPl, HSl⟩ := hcut
                obtain ⟨xa, xc, hx12⟩ := HPl.out.form (updD_same _ _ _)
                simp only at hx12
                subst hx12
                have b1l := HSl.out.cell htb.out HB1.out
                have hfr : updD (RD n b5 L5 L8 S come cdk v) (.ca S.msgs.length) ⟨3, 1, .slice xa ll xc, ll, natsL (S.ls w)⟩ .fr = some ⟨3, 1, v .fr, S.msgs.length, natsL (S.msgs.map fun q => q.1)⟩ := rfl
                have HSf : Hid (Seg wc (fun g => tl g = some .fr) 3 1 (.slice fa S.msgs.length fc) S.msgs.length (natsL (S.msgs.map fun q => q.1))) := by
                  have h9 := HPl.out.seg .fr _ hfr
                  simp only at h9
                  rw [hf6.out] at h9
                  exact h9
                go_wp2_with (at_builtin; refine wpList_append_seg _ rfl _ _ 22 rfl 3 i0 (.int .i64 0) 1 8 Try.underlying22 hi hz0 hz1 hz2 rfl (by decide) _ _ _ rfl (segAlloc HSf.out _) ⟨wc.heap.size, 0, none⟩ 1 1 [.int .i64 (w : Int)] rfl rfl (cCell1 _ _ _ _ rfl) (cOne _) (by unfold maxLen; omega) (by omega) ?_)
                intro v6 w6 hs6 hg6
                have hz9 : (wc.alloc (.cells #[.int .i64 (w : Int)] 3)).heap.size = wc.heap.size + 1 := by simp
                obtain ⟨t6, P6, S6⟩ := HPl.out.app hfr (Stil.new wc (.cells #[.int .i64 (w : Int)] 3)) (by simp only; rw [hz9, hf6.out]; exact hs6) (by simp only; rw [hf6.out]; exact hg6)
                obtain ⟨a6, c6, rfl⟩ := segForm hs6
                have HP6 := hidMk P6
                have HS6 := hidMk (HSl.out.trans S6)
                clear hs6 hg6 P6 S6 HPl HSl HSf hz9 b1l
                have b1m := HS6.out.cell htb.out HB1.out
                have HSk : Hid (Seg w6 (fun g => t6 g = some .cs) 22 1 (.slice ka S.msgs.length kc) S.msgs.length ((List.range S.msgs.length).map fun m => v (.ca m))) := by
                  have h9 := HP6.out.seg .cs _ rfl
                  simp only at h9
                  rw [hf7.out] at h9
                  exact h9
                go_wp2_with (at_builtin; refine wpList_append_seg _ rfl _ _ 25 rfl 22 i2 (.slice none 0 0) 1 24 Try.underlying25 hq hx0 hx1 hx2 rfl (by decide) _ _ _ rfl (segAlloc HSk.out _) ⟨w6.heap.size, 0, none⟩ 1 1 [.slice xa ll xc] rfl rfl (cCell1 _ _ _ _ rfl) (by intro u hu; simp at hu; subst hu; rfl) (by unfold maxLen; omega) (by omega) ?_)
                intro v7 w7 hs7 hg7
                have hz9 : (w6.alloc (.cells #[.slice xa ll xc] 22)).heap.size = w6.heap.size + 1 := by simp
                obtain ⟨t7, P7, S7⟩ := HP6.out.app (τ := .cs) rfl (Stil.new w6 (.cells #[.slice xa ll xc] 22)) (by simp only; rw [hz9, hf7.out]; exact hs7) (by simp only; rw [hf7.out]; exact hg7)
                obtain ⟨a7, c7, rfl⟩ := segForm hs7
                have HP7 : Hid (Pool w7 t7 (RD n b5 L5 L8 (msgC S w) come cdk (updV (updV (updV v (.ca S.msgs.length) (.slice xa ll xc)) .fr (.slice a6 (S.msgs.length + 1) c6)) .cs (.slice a7 (S.msgs.length + 1) c7)))) := by
                  have e9 := HLN.out
                  subst e9
                  exact rd_msg P7
                have HS7 := hidMk (HS6.out.trans S7)
                clear hs7 hg7 P7 S7 HP6 HS6 HSk hz9 b1m
                have b1n := HS7.out.cell htb.out HB1.out
                have hv1 : (updV (updV (updV v (.ca S.msgs.length) (.slice xa ll xc)) .fr (.slice a6 (S.msgs.length + 1) c6)) .cs (.slice a7 (S.msgs.length + 1) c7)) (.l w) = .slice la ll lc := by rw [updV_other _ _ (by simp), updV_other _ _ (by simp), updV_other _ _ (by simp)]; exact HLa.out
                have hv2 : (updV (updV (updV v (.ca S.msgs.length) (.slice xa ll xc)) .fr (.slice a6 (S.msgs.length + 1) c6)) .cs (.slice a7 (S.msgs.length + 1) c7)) .fr = .slice a6 (S.msgs.length + 1) c6 := by rw [updV_other _ _ (by simp), updV_same]
                have hv3 : (updV (updV (updV v (.ca S.msgs.length) (.slice xa ll xc)) .fr (.slice a6 (S.msgs.length + 1) c6)) .cs (.slice a7 (S.msgs.length + 1) c7)) .cs = .slice a7 (S.msgs.length + 1) c7 := updV_same _ _ _
                generalize updV (updV (updV v (.ca S.msgs.length) (.slice xa ll xc)) .fr (.slice a6 (S.msgs.length + 1) c6)) .cs (.slice a7 (S.msgs.length + 1) c7) = v7 at *
                have HV1 := hidMk hv1
                have HV2 := hidMk hv2
                have HV3 := hidMk hv3
                have c5n := (rd_out HP7.out).2.1
                have c5m := (rd_ol HP7.out hw).1
                rw [hv1] at c5m
                have HGl : Hid (Seg w7 (fun g => t7 g = some (.l w)) 3 1 (.slice la ll lc) ll (natsL (S.ls w))) := by
                  have h9 := rd_l HP7.out hw
                  rw [hv1] at h9
                  have e9 := HLN.out
                  subst e9
                  exact h9
                have HCs2 : Hid (∀ i, i < n → ComeOf (sendC S w) i (come i)) := fun i hi => come_send hinv.out (HC.out i hi)
                have HCau : Hid (∀ x, x < (msgC S w).msgs.length → causC (sendC S w) x = causC (msgC S w) x) := fun x hx => by
                  have e9 : (msgC S w).msgs.length = S.msgs.length + 1 := by simp [msgC]
                  by_cases e8 : x = S.msgs.length
                  · subst e8; rw [caus_new, caus_msg_new]
                  · rw [caus_send hinv.out w e8, caus_msg w (by omega)]
                clear hv1 hv2 hv3
                generalize hm0 : S.msgs.length = m0 at *
                have hm1 : m0 + 1 ≤ 121 := by omega
                have hw1 : IntKind.i64.wrap (((m0 + 1 : Nat) : Int) - 1) = (m0 : Int) := by
                  rw [show (((m0 + 1 : Nat) : Int) - 1) = (m0 : Int) from by omega]
                  exact wrap_of ⟨by omega, by omega⟩
                generalize hm1e : m0 + 1 = m1 at *
                clear hm1e
                go_upto_region 22 with fail
                refine wp_region_class (fun w' => w'.cell? ⟨bb, 1, none⟩ = some (.int .i64 (w : Int)) ∧ w'.cell? ⟨b5, 1, none⟩ = some (.slice (some ⟨L5, 0, none⟩) n n) ∧ w'.cell? ⟨L5, w, none⟩ = some (.slice la ll lc)) 16 (by kernel_rfl) ?_
                have HC2 : Hid (w7.drew.cell? ⟨bb, 1, none⟩ = some (.int .i64 (w : Int)) ∧ w7.drew.cell? ⟨b5, 1, none⟩ = some (.slice (some ⟨L5, 0, none⟩) n n) ∧ w7.drew.cell? ⟨L5, w, none⟩ = some (.slice la ll lc)) := ⟨b1n, c5n, c5m⟩
                refine wpAnyC_take (i := 0) (fuel := 16) (v := .pointer (some ⟨b5, 1, none⟩)) rfl (by kernel_rfl) (by kernel_rfl) (by kernel_rfl) (by kernel_rfl) (fun _ _ _ h => h) (.inl ⟨rfl, fun w' hC => by obtain ⟨y1, y2, y3⟩ := hC; go_simp⟩) HC2.out ?_
                go_frame
                refine wpAnyC_take (i := 1) (fuel := 15) (v := .slice (some ⟨L5, 0, none⟩) n n) rfl (by kernel_rfl) (by kernel_rfl) (by kernel_rfl) (by kernel_rfl) (fun _ _ _ h => h) (.inl ⟨rfl, fun w' hC => by obtain ⟨y1, y2, y3⟩ := hC; go_simp⟩) HC2.out ?_
                go_frame
                refine wpAnyC_take (i := 2) (fuel := 14) (v := .pointer (some ⟨bb, 1, none⟩)) rfl (by kernel_rfl) (by kernel_rfl) (by kernel_rfl) (by kernel_rfl) (fun _ _ _ h => h) (.inl ⟨rfl, fun w' hC => by obtain ⟨y1, y2, y3⟩ := hC; go_simp⟩) HC2.out ?_
                go_frame
                refine wpAnyC_take (i := 3) (fuel := 13) (v := .int .i64 (w : Int)) rfl (by kernel_rfl) (by kernel_rfl) (by kernel_rfl) (by kernel_rfl) (fun _ _ _ h => h) (.inl ⟨rfl, fun w' hC => by obtain ⟨y1, y2, y3⟩ := hC; go_simp⟩) HC2.out ?_
                go_frame
                refine wpAnyC_take (i := 4) (fuel := 12) (v := .pointer (some ⟨b5, 1, none⟩)) rfl (by kernel_rfl) (by kernel_rfl) (by kernel_rfl) (by kernel_rfl) (fun _ _ _ h => h) (.inl ⟨rfl, fun w' hC => by obtain ⟨y1, y2, y3⟩ := hC; go_simp⟩) HC2.out ?_
                go_frame
                refine wpAnyC_take (i := 5) (fuel := 11) (v := .slice (some ⟨L5, 0, none⟩) n n) rfl (by kernel_rfl) (by kernel_rfl) (by kernel_rfl) (by kernel_rfl) (fun _ _ _ h => h) (.inl ⟨rfl, fun w' hC => by obtain ⟨y1, y2, y3⟩ := hC; go_simp⟩) HC2.out ?_
                go_frame
                refine wpAnyC_take (i := 6) (fuel := 10) (v := .pointer (some ⟨bb, 1, none⟩)) rfl (by kernel_rfl) (by kernel_rfl) (by kernel_rfl) (by kernel_rfl) (fun _ _ _ h => h) (.inl ⟨rfl, fun w' hC => by obtain ⟨y1, y2, y3⟩ := hC; go_simp⟩) HC2.out ?_
                go_frame
                refine wpAnyC_take (i := 7) (fuel := 9) (v := .int .i64 (w : Int)) rfl (by kernel_rfl) (by kernel_rfl) (by kernel_rfl) (by kernel_rfl) (fun _ _ _ h => h) (.inl ⟨rfl, fun w' hC => by obtain ⟨y1, y2, y3⟩ := hC; go_simp⟩) HC2.out ?_
                go_frame
                refine wpAnyC_take (i := 8) (fuel := 8) (v := .pointer (some ⟨L5, w, none⟩)) rfl (by kernel_rfl) (by kernel_rfl) (by kernel_rfl) (by kernel_rfl) (fun _ _ _ h => h) (.inl ⟨rfl, fun w' hC => by obtain ⟨y1, y2, y3⟩ := hC; go_simp⟩) HC2.out ?_
                go_frame
                refine wpAnyC_take (i := 9) (fuel := 7) (v := .slice la ll lc) rfl (by kernel_rfl) (by kernel_rfl) (by kernel_rfl) (by kernel_rfl) (fun _ _ _ h => h) (.inl ⟨rfl, fun w' hC => by obtain ⟨y1, y2, y3⟩ := hC; go_simp⟩) HC2.out ?_
                go_frame
                refine wpAnyC_take (i := 10) (fuel := 6) (v := .slice a6 m1 c6) rfl (by kernel_rfl) (by kernel_rfl) (by kernel_rfl) (by kernel_rfl) (fun _ _ _ h => h) (.inl ⟨rfl, fun w' hC => by obtain ⟨y1, y2, y3⟩ := hC; go_simp⟩) HC2.out ?_
                go_frame
                refine wpAnyC_take (i := 11) (fuel := 5) (v := .int .i64 (m1 : Int)) rfl (by kernel_rfl) (by kernel_rfl) (by kernel_rfl) (by kernel_rfl) (fun _ _ _ h => h) (.inl ⟨rfl, fun w' hC => by obtain ⟨y1, y2, y3⟩ := hC; go_simp⟩) HC2.out ?_
                go_frame
                refine wpAnyC_take (i := 12) (fuel := 4) (v := .int .i64 (m0 : Int)) rfl (by kernel_rfl) (by kernel_rfl) (by kernel_rfl) (by kernel_rfl) (fun _ _ _ h => h) (.inl ⟨rfl, fun w' hC => by obtain ⟨y1, y2, y3⟩ := hC; go_simp⟩) HC2.out ?_
                go_frame
                refine wpAnyC_one 13 (fuel := 3) (by kernel_rfl) rfl rfl (fun K4 hK4 => ?_)
                go_wp2
                refine ⟨fun _ => ⟨(Stil.new w7.drew (.cells #[.int .i64 (m0 : Int)] 3)).cell b1n, (Stil.new w7.drew (.cells #[.int .i64 (m0 : Int)] 3)).cell c5n, (Stil.new w7.drew (.cells #[.int .i64 (m0 : Int)] 3)).cell c5m⟩, ?_⟩
                refine wpAnyC_one 14 (fuel := 2) (by kernel_rfl) rfl rfl (fun K5 hK5 => ?_)
                refine oper_append_seg (.tmp 107) (.tmp 111) 22 rfl 3 i0 (.int .i64 0) 1 8 Try.underlying22 hi hz0 hz1 hz2 rfl (by decide) (.slice la ll lc) ll (natsL (S.ls w)) rfl (segAlloc (segDrew HGl.out) _) ⟨w7.heap.size, 0, none⟩ 1 1 [.int .i64 (m0 : Int)] rfl rfl (fun j u hu => cCell1 w7.drew (.int .i64 (m0 : Int)) 3 _ rfl j u hu) (cOne _) (by unfold maxLen; omega) (by omega) ?_
                intro v8 w8 hs8 hg8
                obtain ⟨a8, c8, rfl⟩ := segForm hs8
                have hLn : (S.ls w ++ [m0]).length = ll + 1 := by rw [List.length_append, HLN.out]; rfl
                have hLv : natsL (S.ls w ++ [m0]) = natsL (S.ls w) ++ [.int .i64 (m0 : Int)] := by simp [natsL]
                obtain ⟨g1, g2, g3, g4, g5, HM⟩ := list_mid (s2 := sendC S w) (L := S.ls w ++ [m0]) (w3 := w8) (v3 := .slice a8 (ll + 1) c8) HP7.out hw rfl (by rw [← hm0]; rfl) HCau.out
                  ((((Keep.refl (fun g => t7 g = some (.l w)) w7).drew).alloc (.cells #[.int .i64 (m0 : Int)] 3)).grown hg8 (fun k e _ => (HGl.out.block e).1))
                  (by rw [hLn, hLv]; exact hs8.mono (fun g _ e => by rcases e with ⟨_, e⟩ | e; exact .inl e; exact .inr (by rw [e]; exact (((Keep.refl (fun _ => False) w7).drew).alloc _).size)))
                rw [HV1.out] at g2
                have g6 := g5 _ _ _ ((HS7.out.tags bb (World.block_lt_of_cell? _ _ HB1.out)).trans htb.out) b1n
                refine hK5 _ _ ⟨fun _ => ⟨g6, g1, g2⟩, ?_⟩
                clear hs8 hg8 g5
                go_frame
                refine wpAnyC_one 15 (fuel := 1) (by kernel_rfl) rfl rfl (fun K6 hK6 => ?_)
                go_wp2
                refine ⟨fun _ => ⟨g6, g1, g2⟩, ?_⟩
                refine wpAnyC_one 16 (fuel := 0) (by kernel_rfl) rfl rfl (fun K7 hK7 => ?_)
                go_wp2
                refine ⟨fun h => absurd rfl h, ?_⟩
                refine wpAnyC_done (by kernel_rfl) ?_
                show Exit.then _ _ Exit.normal _ _
                go_wp2_with fail
                go_meet
                obtain ⟨t8, P8, S8⟩ := HM.out
                exact ⟨t8, updV v7 (.l w) (.slice a8 (ll + 1) c8), come, by rw [updV_other _ _ (by simp)]; exact HV2.out.symm, by rw [updV_other _ _ (by simp)]; exact HV3.out.symm, by rw [HE1.out], fun i => by have := hcl.out i; omega, by rw [HE2.out]; exact P8, (HSd.out.trans HS7.out).trans S8, by rw [HE2.out]; exact HCs2⟩
            · obtain rfl : kd = 2 := by omega
              have hcode : codeC n S ⟨2, (w : Int), ms⟩ = if inP S.msgs.length ms = false ∨ (S.msgs.getD ms.toNat (0, 0)).1 = w then 2 else if S.came w ms.toNat ≠ 0 then 6 else 0 := by
                unfold codeC
                rw [if_neg k1, if_neg w1]
                rfl
              by_cases m1 : inP S.msgs.length ms = false
              · have ecd := hcode.trans (if_pos (.inl m1))
                have e2 : stepC n S ⟨2, (w : Int), ms⟩ = S := by unfold stepC; rw [ecd]; rfl
                have HE1 := hidMk ecd
                have HE2 := hidMk e2
                have m2 : ms < 0 ∨ ¬ ms < 0 ∧ (S.msgs.length : Int) ≤ ms := by simp [inP] at m1; omega
                clear ecd e2 hcode w1 k1 m1 e1
                rcases m2 with m2 | ⟨m2, m3⟩
                · have m4 : decide (ms < 0) = true := decide_eq_true m2
                  go_wp2
                  go_quiet (fail)
                  go_wp2
                  go_meet
                  case rel => exact ⟨t, v, come, hf6.out.symm, hf7.out.symm, by rw [HE1.out], fun i => by have := hcl.out i; omega, by rw [HE2.out]; exact HPb.out.drewN _, HSb.out.trans (PStep.of_still t (Stil.drewN _ _)), by rw [HE2.out]; exact HC⟩
                · have m4 : decide (ms < 0) = false := decide_eq_false m2
                  have m5 : decide ((S.msgs.length : Int) ≤ ms) = true := decide_eq_true m3
                  go_wp2
                  go_quiet (fail)
                  go_wp2
                  go_meet
                  case rel => exact ⟨t, v, come, hf6.out.symm, hf7.out.symm, by rw [HE1.out], fun i => by have := hcl.out i; omega, by rw [HE2.out]; exact HPb.out.drewN _, HSb.out.trans (PStep.of_still t (Stil.drewN _ _)), by rw [HE2.out]; exact HC⟩
              · obtain ⟨m, hm, rfl⟩ : ∃ m : Nat, m < S.msgs.length ∧ ms = (m : Int) := ⟨ms.toNat, by simp [inP] at m1; omega, by simp [inP] at m1; omega⟩
                have m4 : decide ((m : Int) < 0) = false := decide_eq_false (by omega)
                have m5 : decide ((S.msgs.length : Int) ≤ (m : Int)) = false := decide_eq_false (by omega)
                have m6 : ¬ (S.msgs.length : Int) ≤ (m : Int) := by omega
                have m8 : decide (S.msgs.length ≤ m) = false := decide_eq_false (by omega)
                have m9 : ¬ S.msgs.length ≤ m := by omega
                have m7 : (m : Int) < (S.msgs.length : Int) := by omega
                obtain ⟨q, hqm⟩ : ∃ q, S.msgs[m]? = some q := ⟨_, List.getElem?_eq_getElem hm⟩
                have hgd : S.msgs.getD m (0, 0) = q := by rw [List.getD_eq_getElem?_getD, hqm]; rfl
                simp only [Int.toNat_natCast] at hcode
                obtain ⟨gf, of, cf, ef, _, _, _, _, hcf, _⟩ := (HPb.out.seg .fr _ rfl).at (by show 0 < S.msgs.length; omega)
                have ef2 : Value.slice fa S.msgs.length fc = .slice (some ⟨gf, of, none⟩) S.msgs.length cf := hf6.out.symm.trans ef
                simp only [Value.slice.injEq, true_and] at ef2
                obtain ⟨rfl, rfl⟩ := ef2
                have d6 : wb.cell? ⟨gf, of + m, none⟩ = some (.int .i64 (q.1 : Int)) := hcf m _ (by simp [natsL, hqm])
                clear hcf ef
                by_cases s1 : q.1 = w
                · have ecd := hcode.trans (if_pos (.inr (by rw [hgd]; exact s1)))
                  have e2 : stepC n S ⟨2, (w : Int), (m : Int)⟩ = S := by unfold stepC; rw [ecd]; rfl
                  have HE1 := hidMk ecd
                  have HE2 := hidMk e2
                  have s2 : ((q.1 : Int) == (w : Int)) = true := by rw [beq_iff_eq, s1]
                  clear ecd e2 hcode w1 k1 m1 e1 hgd hqm s1
                  go_wp2
                  go_quiet (fail)
                  go_wp2
                  go_meet
                  case rel => exact ⟨t, v, come, hf6.out.symm, hf7.out.symm, by rw [HE1.out], fun i => by have := hcl.out i; omega, by rw [HE2.out]; exact HPb.out.drewN _, HSb.out.trans (PStep.of_still t (Stil.drewN _ _)), by rw [HE2.out]; exact HC⟩
                · have hsd : Hid ((S.msgs.getD m (0, 0)).1 ≠ w) := by rw [hgd]; exact s1
                  have s2 : ((q.1 : Int) == (w : Int)) = false := by rw [beq_eq_false_iff_ne]; omega
                  rw [if_neg (by rintro (e | e); exact m1 e; exact hsd.out e)] at hcode
                  have HCd := hidMk hcode
                  clear hcode w1 k1 m1 e1 hgd hqm s1
                  go_wp2
                  go_quiet (fail)
                  go_wp2
                  have HPd := hidMk (HPb.out.drewN nq)
                  have HSd := hidMk (HSb.out.trans (PStep.of_still t (Stil.drewN wb nq)))
                  have b1' : (wb.drewN nq).cell? ⟨bb, 1, none⟩ = some (.int .i64 (w : Int)) := b1
                  have b2' : (wb.drewN nq).cell? ⟨bb, 2, none⟩ = some (.int .i64 (m : Int)) := b2
                  clear b0 b1 b2 d6 d0 d1 d2 HPb HSb HP
                  generalize wb.drewN nq = wd at *
                  obtain ⟨xa, xc, hxc⟩ := segForm (rd_c HPd.out hw)
                  have HRc := rd_c HPd.out hw
                  have c8 := (rd_cm HPd.out hw).1
                  rw [hxc] at c8 HRc
                  have HGc := hidMk HRc
                  have HXc := hidMk hxc
                  clear HRc hxc
                  have hcl2 : (come w).length ≤ 120 := by have := hcl.out w; omega
                  have HHas : Hid (∀ q, Calls Try.prog 33 #[.slice xa (come w).length xc, .int .i64 (m : Int)] (wd.drewN q) fun e w5 => e = .returned (.bool ((come w).contains m)) ∧ ∃ k, w5 = wd.drewN k) := fun q => by
                    have := has_any ((seg_row HGc.out).still (Stil.drewN wd q)) (by omega) (m : Int)
                    rw [natsI_has] at this
                    refine this.mono ?_
                    rintro e w5 ⟨rfl, rfl⟩
                    exact ⟨rfl, q, rfl⟩
                  have hcon : (come w).contains m = decide (S.came w m ≠ 0) := by
                    rw [Bool.eq_iff_iff]
                    simp only [List.contains_iff_mem, decide_eq_true_eq]
                    rw [HC.out w hw m]
                    exact ⟨fun h => h.1, fun h => ⟨h, hsd.out, hm⟩⟩
                  generalize hcln : (come w).length = cln at *
                  by_cases hcm : S.came w m = 0
                  · rw [hcon, decide_eq_false (by simpa using hcm)] at HHas
                    have ecd : codeC n S ⟨2, (w : Int), (m : Int)⟩ = 0 := by rw [HCd.out, if_neg (by simpa using hcm)]
                    have e2 : stepC n S ⟨2, (w : Int), (m : Int)⟩ = takeC S w m := by unfold stepC; rw [if_pos ecd]; rfl
                    have HE1 := hidMk ecd
                    have HE2 := hidMk e2
                    clear ecd e2 hcon
                    go_quiet ((go_at_call 33; exact HHas.out _))
                    have HPe := hidMk (HPd.out.drewN nq)
                    have HSe := hidMk (HSd.out.trans (PStep.of_still t (Stil.drewN wd nq)))
                    have b1e : (wd.drewN nq).cell? ⟨bb, 1, none⟩ = some (.int .i64 (w : Int)) := b1'
                    have b2e : (wd.drewN nq).cell? ⟨bb, 2, none⟩ = some (.int .i64 (m : Int)) := b2'
                    have c8e : (wd.drewN nq).cell? ⟨L8, w, none⟩ = some (.slice xa cln xc) := c8
                    have HGe := hidMk (rd_c HPe.out hw)
                    rw [HXc.out, hcln] at HGe
                    clear HHas HGc c8 b1' b2' HPd HSd
                    go_upto_region 25 with fail
                    generalize wd.drewN nq = we at *
                    have b1f := (Stil.new we (.cells #[.int .i64 (m : Int)] 3)).cell b1e
                    have b2f := (Stil.new we (.cells #[.int .i64 (m : Int)] 3)).cell b2e
                    have c8f := (Stil.new we (.cells #[.int .i64 (m : Int)] 3)).cell c8e
                    have HB1 := hidMk b1e
                    go_cut [134] from 122 to 134 (fun s134 wx => ∃ (v3 : Value) (t5 : Nat → Option RT), Hid (Pool wx t5 (RD n b5 L5 L8 S (upd1 come w (come w ++ [m])) cdk (updV v (.c w) v3))) ∧ Hid (PStep we t wx t5))
                    case first =>
                      refine wp_region_class (fun w' => w'.cell? ⟨bb, 1, none⟩ = some (.int .i64 (w : Int)) ∧ w'.cell? ⟨bb, 2, none⟩ = some (.int .i64 (m : Int)) ∧ w'.cell? ⟨L8, w, none⟩ = some (.slice xa cln xc)) 13 (by kernel_rfl) ?_
                      have HC0 : Hid (we.drew.cell? ⟨bb, 1, none⟩ = some (.int .i64 (w : Int)) ∧ we.drew.cell? ⟨bb, 2, none⟩ = some (.int .i64 (m : Int)) ∧ we.drew.cell? ⟨L8, w, none⟩ = some (.slice xa cln xc)) := ⟨b1e, b2e, c8e⟩
                      refine wpAnyC_take (i := 0) (fuel := 13) (v := .slice (some ⟨L8, 0, none⟩) n n) rfl (by kernel_rfl) (by kernel_rfl) (by kernel_rfl) (by kernel_rfl) (fun _ _ _ h => h) (.inl ⟨rfl, fun w' hC => by obtain ⟨y1, y2, y3⟩ := hC; go_simp⟩) HC0.out ?_
                      go_frame
                      refine wpAnyC_take (i := 1) (fuel := 12) (v := .pointer (some ⟨bb, 1, none⟩)) rfl (by kernel_rfl) (by kernel_rfl) (by kernel_rfl) (by kernel_rfl) (fun _ _ _ h => h) (.inl ⟨rfl, fun w' hC => by obtain ⟨y1, y2, y3⟩ := hC; go_simp⟩) HC0.out ?_
                      go_frame
                      refine wpAnyC_take (i := 2) (fuel := 11) (v := .int .i64 (w : Int)) rfl (by kernel_rfl) (by kernel_rfl) (by kernel_rfl) (by kernel_rfl) (fun _ _ _ h => h) (.inl ⟨rfl, fun w' hC => by obtain ⟨y1, y2, y3⟩ := hC; go_simp⟩) HC0.out ?_
                      go_frame
                      refine wpAnyC_take (i := 3) (fuel := 10) (v := .slice (some ⟨L8, 0, none⟩) n n) rfl (by kernel_rfl) (by kernel_rfl) (by kernel_rfl) (by kernel_rfl) (fun _ _ _ h => h) (.inl ⟨rfl, fun w' hC => by obtain ⟨y1, y2, y3⟩ := hC; go_simp⟩) HC0.out ?_
                      go_frame
                      refine wpAnyC_take (i := 4) (fuel := 9) (v := .pointer (some ⟨bb, 1, none⟩)) rfl (by kernel_rfl) (by kernel_rfl) (by kernel_rfl) (by kernel_rfl) (fun _ _ _ h => h) (.inl ⟨rfl, fun w' hC => by obtain ⟨y1, y2, y3⟩ := hC; go_simp⟩) HC0.out ?_
                      go_frame
                      refine wpAnyC_take (i := 5) (fuel := 8) (v := .int .i64 (w : Int)) rfl (by kernel_rfl) (by kernel_rfl) (by kernel_rfl) (by kernel_rfl) (fun _ _ _ h => h) (.inl ⟨rfl, fun w' hC => by obtain ⟨y1, y2, y3⟩ := hC; go_simp⟩) HC0.out ?_
                      go_frame
                      refine wpAnyC_take (i := 6) (fuel := 7) (v := .pointer (some ⟨L8, w, none⟩)) rfl (by kernel_rfl) (by kernel_rfl) (by kernel_rfl) (by kernel_rfl) (fun _ _ _ h => h) (.inl ⟨rfl, fun w' hC => by obtain ⟨y1, y2, y3⟩ := hC; go_simp⟩) HC0.out ?_
                      go_frame
                      refine wpAnyC_take (i := 7) (fuel := 6) (v := .slice xa cln xc) rfl (by kernel_rfl) (by kernel_rfl) (by kernel_rfl) (by kernel_rfl) (fun _ _ _ h => h) (.inl ⟨rfl, fun w' hC => by obtain ⟨y1, y2, y3⟩ := hC; go_simp⟩) HC0.out ?_
                      go_frame
                      refine wpAnyC_take (i := 8) (fuel := 5) (v := .pointer (some ⟨bb, 2, none⟩)) rfl (by kernel_rfl) (by kernel_rfl) (by kernel_rfl) (by kernel_rfl) (fun _ _ _ h => h) (.inl ⟨rfl, fun w' hC => by obtain ⟨y1, y2, y3⟩ := hC; go_simp⟩) HC0.out ?_
                      go_frame
                      refine wpAnyC_take (i := 9) (fuel := 4) (v := .int .i64 (m : Int)) rfl (by kernel_rfl) (by kernel_rfl) (by kernel_rfl) (by kernel_rfl) (fun _ _ _ h => h) (.inl ⟨rfl, fun w' hC => by obtain ⟨y1, y2, y3⟩ := hC; go_simp⟩) HC0.out ?_
                      go_frame
                      refine wpAnyC_one 10 (fuel := 3) (by kernel_rfl) rfl rfl (fun K4 hK4 => ?_)
                      go_wp2
                      refine ⟨fun _ => ⟨(Stil.new we.drew (.cells #[.int .i64 (m : Int)] 3)).cell b1e, (Stil.new we.drew (.cells #[.int .i64 (m : Int)] 3)).cell b2e, (Stil.new we.drew (.cells #[.int .i64 (m : Int)] 3)).cell c8e⟩, ?_⟩
                      refine wpAnyC_one 11 (fuel := 2) (by kernel_rfl) rfl rfl (fun K5 hK5 => ?_)
                      refine oper_append_seg (.tmp 129) (.tmp 132) 22 rfl 3 i0 (.int .i64 0) 1 8 Try.underlying22 hi hz0 hz1 hz2 rfl (by decide) (.slice xa cln xc) cln (natsL (come w)) rfl (segAlloc (segDrew HGe.out) _) ⟨we.heap.size, 0, none⟩ 1 1 [.int .i64 (m : Int)] rfl rfl (fun j u hu => cCell1 we.drew (.int .i64 (m : Int)) 3 _ rfl j u hu) (cOne _) (by unfold maxLen; omega) (by omega) ?_
                      intro v3 w3 hs3 hg3
                      obtain ⟨a3, c3, rfl⟩ := segForm hs3
                      obtain ⟨g1, g2, g5, HM4⟩ := come_mid HPe.out hw (m := m) (wa := we.drew.alloc (.cells #[.int .i64 (m : Int)] 3)) (((Keep.refl _ we).drew).alloc _) (by rw [HXc.out, hcln]; exact hs3) (by rw [HXc.out]; exact hg3)
                      rw [HXc.out] at g1
                      have g6 := g5 _ _ _ htb.out b1e
                      have g7 := g5 _ _ _ htb.out b2e
                      refine hK5 _ _ ⟨fun _ => ⟨g6, g7, g1⟩, ?_⟩
                      clear hs3 hg3 g5
                      go_frame
                      refine wpAnyC_one 12 (fuel := 1) (by kernel_rfl) rfl rfl (fun K6 hK6 => ?_)
                      go_wp2
                      refine ⟨fun _ => ⟨g6, g7, g1⟩, ?_⟩
                      refine wpAnyC_one 13 (fuel := 0) (by kernel_rfl) rfl rfl (fun K7 hK7 => ?_)
                      go_wp2
                      refine ⟨fun h => absurd rfl h, ?_⟩
                      refine wpAnyC_done (by kernel_rfl) ?_
                      show Exit.then _ _ Exit.normal _ _
                      go_wp2_with fail
                      go_meet
                      obtain ⟨t5, P5, S5⟩ := HM4.out
                      exact ⟨_, t5, P5, S5⟩
                    case rest =>
                      obtain ⟨v3, t5, HP5, HS5⟩ := hcut
                      have b1g := HS5.out.cell htb.out HB1.out
                      have HSg := hidMk (HSe.out.trans HS5.out)
                      have hcsv : (updV v (.c w) v3) .cs = .slice ka S.msgs.length kc := by rw [updV_other _ _ (by simp)]; exact hf7.out
                      have hfrv : (updV v (.c w) v3) .fr = v .fr := updV_other _ _ (by simp)
                      have HCm' : Hid (∀ i, i < n → ComeOf (takeC S w m) i (upd1 come w (come w ++ [m]) i)) := fun i hi => come_take hinv.out hw hm hcm hsd.out (HC.out i hi)
                      have HTp := hidMk (take_parts hinv.out hw hm hcm)
                      have HHt := hidMk (hears_take (come := come) hinv.out hw hm hcm hsd.out (HC.out w hw))
                      have HLl : Hid (∀ i, (upd1 come w (come w ++ [m]) i).length ≤ k + 1) := fun i => by
                        rw [upd1_eq]
                        split
                        · rw [List.length_append, hcln]; have := hcl.out w; rw [hcln] at this; simp; omega
                        · have := hcl.out i; omega
                      have hcm2 : ∀ x, x ∈ upd1 come w (come w ++ [m]) w → x < S.msgs.length := fun x hx => by
                        rw [upd1_same, List.mem_append] at hx
                        rcases hx with hx | hx
                        · exact ((HC.out w hw x).1 hx).2.2
                        · simp at hx; omega
                      have hcme : upd1 come w (come w ++ [m]) w = come w ++ [m] := upd1_same _ _ _
                      generalize upd1 come w (come w ++ [m]) = come2 at *
                      generalize updV v (.c w) v3 = v5 at *
                      obtain ⟨la, lc, hla⟩ := segForm (rd_l HP5.out hw)
                      obtain ⟨ya, yc, hya⟩ := segForm (rd_c HP5.out hw)
                      have c5 := (rd_out HP5.out).2.1
                      have c5w := (rd_ol HP5.out hw).1
                      have c8w := (rd_cm HP5.out hw).1
                      rw [hla] at c5w
                      rw [hya] at c8w
                      have HLa := hidMk hla
                      have HYa := hidMk hya
                      have htg : Hid (t5 bb = none) := (HS5.out.tags bb (World.block_lt_of_cell? _ _ HB1.out)).trans htb.out
                      have hll : (S.ls w).length ≤ 120 := by have := ls_len hinv.out w; omega
                      have hyl : (come2 w).length ≤ 121 := by rw [hcme, List.length_append, hcln]; simp; omega
                      have HHe : Hid (∀ w1, Stil wc w1 → Calls Try.prog 34 #[.slice la (S.ls w).length lc, .slice ya (come2 w).length yc, .slice ka S.msgs.length kc] w1 fun e w2 => ∃ v2, e = .returned v2 ∧ Seg w2 (fun g => t5 g = some (.l w) ∨ w1.heap.size ≤ g) 3 1 v2 ((takeC S w m).ls w).length (natsL ((takeC S w m).ls w)) ∧ Keep (fun g => t5 g = some (.l w)) w1 w2) := fun w1 hs1 => by
                        have P1 := HP5.out.still hs1
                        have hv1 := rd_l P1 hw
                        rw [hla] at hv1
                        have h1 := hears_any (kc := kc) hv1 (fun w2 hk2 => hrows_of P1 hk2 hw hcm2 hya hcsv) (by omega) (by omega) (fun x hx => by
                          obtain ⟨q9, hq9⟩ : ∃ q9, S.msgs[x]? = some q9 := ⟨_, List.getElem?_eq_getElem (hcm2 x hx)⟩
                          have h9 := get_lt (hinv.out.i2 x q9 hq9)
                          rw [caus_len hq9 h9]
                          have := ls_len hinv.out q9.1
                          omega) (by omega)
                        rw [hcme] at h1 ⊢
                        rw [HHt.out] at h1
                        exact h1
                      have HV7 := hidMk hcsv
                      clear hya hla hcm2 hcsv
                      generalize (S.ls w).length = ll at *
                      generalize (come2 w).length = yl at *
                      go_upto_region 26 with fail
                      refine wp_region_class (fun w' => w'.cell? ⟨bb, 1, none⟩ = some (.int .i64 (w : Int)) ∧ w'.cell? ⟨b5, 1, none⟩ = some (.slice (some ⟨L5, 0, none⟩) n n) ∧ w'.cell? ⟨L5, w, none⟩ = some (.slice la ll lc) ∧ w'.cell? ⟨L8, w, none⟩ = some (.slice ya yl yc)) 18 (by kernel_rfl) ?_
                      have HC1 : Hid (wc.drew.cell? ⟨bb, 1, none⟩ = some (.int .i64 (w : Int)) ∧ wc.drew.cell? ⟨b5, 1, none⟩ = some (.slice (some ⟨L5, 0, none⟩) n n) ∧ wc.drew.cell? ⟨L5, w, none⟩ = some (.slice la ll lc) ∧ wc.drew.cell? ⟨L8, w, none⟩ = some (.slice ya yl yc)) := ⟨b1g, c5, c5w, c8w⟩
                      refine wpAnyC_take (i := 0) (fuel := 18) (v := .pointer (some ⟨b5, 1, none⟩)) rfl (by kernel_rfl) (by kernel_rfl) (by kernel_rfl) (by kernel_rfl) (fun _ _ _ h => h) (.inl ⟨rfl, fun w' hC => by obtain ⟨y1, y2, y3, y4⟩ := hC; go_simp⟩) HC1.out ?_
                      go_frame
                      refine wpAnyC_take (i := 1) (fuel := 17) (v := .slice (some ⟨L5, 0, none⟩) n n) rfl (by kernel_rfl) (by kernel_rfl) (by kernel_rfl) (by kernel_rfl) (fun _ _ _ h => h) (.inl ⟨rfl, fun w' hC => by obtain ⟨y1, y2, y3, y4⟩ := hC; go_simp⟩) HC1.out ?_
                      go_frame
                      refine wpAnyC_take (i := 2) (fuel := 16) (v := .pointer (some ⟨bb, 1, none⟩)) rfl (by kernel_rfl) (by kernel_rfl) (by kernel_rfl) (by kernel_rfl) (fun _ _ _ h => h) (.inl ⟨rfl, fun w' hC => by obtain ⟨y1, y2, y3, y4⟩ := hC; go_simp⟩) HC1.out ?_
                      go_frame
                      refine wpAnyC_take (i := 3) (fuel := 15) (v := .int .i64 (w : Int)) rfl (by kernel_rfl) (by kernel_rfl) (by kernel_rfl) (by kernel_rfl) (fun _ _ _ h => h) (.inl ⟨rfl, fun w' hC => by obtain ⟨y1, y2, y3, y4⟩ := hC; go_simp⟩) HC1.out ?_
                      go_frame
                      refine wpAnyC_take (i := 4) (fuel := 14) (v := .pointer (some ⟨b5, 1, none⟩)) rfl (by kernel_rfl) (by kernel_rfl) (by kernel_rfl) (by kernel_rfl) (fun _ _ _ h => h) (.inl ⟨rfl, fun w' hC => by obtain ⟨y1, y2, y3, y4⟩ := hC; go_simp⟩) HC1.out ?_
                      go_frame
                      refine wpAnyC_take (i := 5) (fuel := 13) (v := .slice (some ⟨L5, 0, none⟩) n n) rfl (by kernel_rfl) (by kernel_rfl) (by kernel_rfl) (by kernel_rfl) (fun _ _ _ h => h) (.inl ⟨rfl, fun w' hC => by obtain ⟨y1, y2, y3, y4⟩ := hC; go_simp⟩) HC1.out ?_
                      go_frame
                      refine wpAnyC_take (i := 6) (fuel := 12) (v := .pointer (some ⟨bb, 1, none⟩)) rfl (by kernel_rfl) (by kernel_rfl) (by kernel_rfl) (by kernel_rfl) (fun _ _ _ h => h) (.inl ⟨rfl, fun w' hC => by obtain ⟨y1, y2, y3, y4⟩ := hC; go_simp⟩) HC1.out ?_
                      go_frame
                      refine wpAnyC_take (i := 7) (fuel := 11) (v := .int .i64 (w : Int)) rfl (by kernel_rfl) (by kernel_rfl) (by kernel_rfl) (by kernel_rfl) (fun _ _ _ h => h) (.inl ⟨rfl, fun w' hC => by obtain ⟨y1, y2, y3, y4⟩ := hC; go_simp⟩) HC1.out ?_
                      go_frame
                      refine wpAnyC_take (i := 8) (fuel := 10) (v := .pointer (some ⟨L5, w, none⟩)) rfl (by kernel_rfl) (by kernel_rfl) (by kernel_rfl) (by kernel_rfl) (fun _ _ _ h => h) (.inl ⟨rfl, fun w' hC => by obtain ⟨y1, y2, y3, y4⟩ := hC; go_simp⟩) HC1.out ?_
                      go_frame
                      refine wpAnyC_take (i := 9) (fuel := 9) (v := .slice la ll lc) rfl (by kernel_rfl) (by kernel_rfl) (by kernel_rfl) (by kernel_rfl) (fun _ _ _ h => h) (.inl ⟨rfl, fun w' hC => by obtain ⟨y1, y2, y3, y4⟩ := hC; go_simp⟩) HC1.out ?_
                      go_frame
                      refine wpAnyC_take (i := 10) (fuel := 8) (v := .slice (some ⟨L8, 0, none⟩) n n) rfl (by kernel_rfl) (by kernel_rfl) (by kernel_rfl) (by kernel_rfl) (fun _ _ _ h => h) (.inl ⟨rfl, fun w' hC => by obtain ⟨y1, y2, y3, y4⟩ := hC; go_simp⟩) HC1.out ?_
                      go_frame
                      refine wpAnyC_take (i := 11) (fuel := 7) (v := .pointer (some ⟨bb, 1, none⟩)) rfl (by kernel_rfl) (by kernel_rfl) (by kernel_rfl) (by kernel_rfl) (fun _ _ _ h => h) (.inl ⟨rfl, fun w' hC => by obtain ⟨y1, y2, y3, y4⟩ := hC; go_simp⟩) HC1.out ?_
                      go_frame
                      refine wpAnyC_take (i := 12) (fuel := 6) (v := .int .i64 (w : Int)) rfl (by kernel_rfl) (by kernel_rfl) (by kernel_rfl) (by kernel_rfl) (fun _ _ _ h => h) (.inl ⟨rfl, fun w' hC => by obtain ⟨y1, y2, y3, y4⟩ := hC; go_simp⟩) HC1.out ?_
                      go_frame
                      refine wpAnyC_take (i := 13) (fuel := 5) (v := .pointer (some ⟨L8, w, none⟩)) rfl (by kernel_rfl) (by kernel_rfl) (by kernel_rfl) (by kernel_rfl) (fun _ _ _ h => h) (.inl ⟨rfl, fun w' hC => by obtain ⟨y1, y2, y3, y4⟩ := hC; go_simp⟩) HC1.out ?_
                      go_frame
                      refine wpAnyC_take (i := 14) (fuel := 4) (v := .slice ya yl yc) rfl (by kernel_rfl) (by kernel_rfl) (by kernel_rfl) (by kernel_rfl) (fun _ _ _ h => h) (.inl ⟨rfl, fun w' hC => by obtain ⟨y1, y2, y3, y4⟩ := hC; go_simp⟩) HC1.out ?_
                      go_frame
                      refine wpAnyC_take (i := 15) (fuel := 3) (v := .slice ka S.msgs.length kc) rfl (by kernel_rfl) (by kernel_rfl) (by kernel_rfl) (by kernel_rfl) (fun _ _ _ h => h) (.inl ⟨rfl, fun w' hC => by obtain ⟨y1, y2, y3, y4⟩ := hC; go_simp⟩) HC1.out ?_
                      go_frame
                      refine wpAnyC_one 16 (fuel := 2) (by kernel_rfl) rfl rfl (fun K4 hK4 => ?_)
                      go_wp2_with (go_at_call 34; refine (HHe.out _ ((Keep.refl _ _).drew)).mono ?_; rintro e w6 ⟨v2, rfl, hs6, hk6⟩)
                      obtain ⟨z2, zc, hz2v⟩ := segForm hs6
                      subst hz2v
                      obtain ⟨g1, g2, g3, g4, g5, HM⟩ := list_mid (s2 := takeC S w m) (HP5.out.still ((Keep.refl _ wc).drew)) hw HTp.out.1 HTp.out.2.1 (fun x _ => HTp.out.2.2 x) hk6 hs6
                      rw [HLa.out] at g2
                      rw [HYa.out] at g4
                      have g6 := g5 _ _ _ htg.out b1g
                      clear hs6 hk6 g5
                      refine ⟨fun _ => ⟨g6, g1, g2, g4⟩, ?_⟩
                      refine wpAnyC_one 17 (fuel := 1) (by kernel_rfl) rfl rfl (fun K6 hK6 => ?_)
                      go_wp2
                      refine ⟨fun _ => ⟨g6, g1, g2, g4⟩, ?_⟩
                      refine wpAnyC_one 18 (fuel := 0) (by kernel_rfl) rfl rfl (fun K7 hK7 => ?_)
                      go_wp2
                      refine ⟨fun h => absurd rfl h, ?_⟩
                      refine wpAnyC_done (by kernel_rfl) ?_
                      show Exit.then _ _ Exit.normal _ _
                      go_wp2_with fail
                      go_meet
                      obtain ⟨t6, P6, S6⟩ := HM.out
                      exact ⟨t6, updV v5 (.l w) (.slice z2 _ zc), come2, by rw [updV_other _ _ (by simp), hfrv]; exact hf6.out.symm, by rw [updV_other _ _ (by simp)]; exact HV7.out.symm, by rw [HE1.out], HLl, by rw [HE2.out]; exact P6, (HSg.out.trans (PStep.of_still t5 ((Keep.refl _ wc).drew))).trans S6, by rw [HE2.out]; exact HCm'⟩
                  · rw [hcon, decide_eq_true (by simpa using hcm)] at HHas
                    have ecd : codeC n S ⟨2, (w : Int), (m : Int)⟩ = 6 := by rw [HCd.out, if_pos (by simpa using hcm)]
                    have e2 : stepC n S ⟨2, (w : Int), (m : Int)⟩ = S := by unfold stepC; rw [if_neg (by rw [ecd]; decide)]
                    have HE1 := hidMk ecd
                    have HE2 := hidMk e2
                    clear ecd e2 hcon hcm
                    go_quiet ((go_at_call 33; exact HHas.out _))
                    go_wp2
                    go_meet
                    case rel => exact ⟨t, v, come, hf6.out.symm, hf7.out.symm, by rw [HE1.out], fun i => by have := hcl.out i; omega, by rw [HE2.out]; exact HPd.out.drewN _, HSd.out.trans (PStep.of_still t (Stil.drewN _ _)), by rw [HE2.out]; exact HC⟩
    · obtain rfl : k = pl := by omega
      obtain ⟨c0, c1, _⟩ := rd_out HP.out
      have r0 : wr.cell? ⟨r4, 0, none⟩ = some (.slice none 0 0) := (cell_of_row wr _ 0 _ _ _ HR.out).trans rfl
      have r1 : wr.cell? ⟨r4, 1, none⟩ = some (.slice none 0 0) := (cell_of_row wr _ 1 _ _ _ HR.out).trans rfl
      have f0 : wr.frozen? ⟨r4, 0, none⟩ = false := frozen_of_row wr _ _ _ _ HR.out
      have f1 : wr.frozen? ⟨r4, 1, none⟩ = false := frozen_of_row wr _ _ _ _ HR.out
      have hcv : ∃ ca0 cc0, v .cd = .slice ca0 k cc0 := by
        obtain ⟨ca0, cc0, h9⟩ := segForm (HP.out.seg .cd _ rfl)
        simp only [List.length_map, List.length_range] at h9
        exact ⟨ca0, cc0, h9⟩
      obtain ⟨ca0, cc0, hcv⟩ := hcv
      rw [hcv] at c0
      have HCv := hidMk hcv
      clear hcv
      go_wp2
      have a1 := (Keep.refl (fun g => g = r4) wr).setCell r4 0 (.slice ca0 k cc0) (fun _ => rfl)
      have a2 := a1.setCell r4 1 (.slice (some ⟨L5, 0, none⟩) n n) (fun _ => rfl)
      have q1 := heap_setCell_same wr r4 0 _ _ (.slice ca0 k cc0) HR.out
      have q2 := heap_setCell_same _ r4 1 _ _ (.slice (some ⟨L5, 0, none⟩) n n) q1
      refine bodyPost_ret (results_cell_row (P := Try.prog) rfl _ _ r4 36 #[.slice ca0 k cc0, .slice (some ⟨L5, 0, none⟩) n n] (0, 0) _ rfl (by simpa using q2) Try.underlying36 rfl (by kernel_rfl)) rfl ?_
      exact ⟨b5, L5, L8, t, v, come, by rw [HCv.out], ⟨HP.out.keep a2 (fun g _ e => by subst e; exact HT.out.1), HK.out.trans a2 (fun _ _ e => e) (fun g hg e => by omega)⟩⟩
end Go.Proofs.Ytpdccjhabolccaa
