/- The document's Mutex, walked. -/
import Derived.Test.YtaojmbebkggafaaMt2
import Derived.Test.YtaojmbebkggafaaMa9
import Derived.Test.YtaojmbebkggafaaMc0
namespace Go.Proofs.Ytaojmbebkggafaa
open Go.RowKit
set_option linter.unusedVariables false

theorem results_one_row {P : Program} {fn : Func} {p : Tmp} {ty : TypeId} (h : fn.results = #[.cell p ty]) (tmps : Array Value) (w : World) (g : Nat) (t : TypeId) (cs : Array Value) (fr : Nat × Nat) (d : TypeDesc)
    (hp : tmps.getD p undef = .pointer (some ⟨g, 0, none⟩)) (hg : w.heap[g]? = some (.cells cs t fr))
    (hu : P.underlying ty = some d) (hd : (match d with | .struct _ | .array _ _ => true | _ => false) = true) (hi : (P.info? ty).map (·.size) = some cs.size) :
    (results fn tmps).run P w = .ok (.agg cs) w := by
  have hp2 : tmps[p]?.getD undef = .pointer (some ⟨g, 0, none⟩) := by rw [← Array.getD_eq_getD_getElem?]; exact hp
  simp [results, h, hp2, asAddr, run_loadVar_row w g t ty cs fr d hg hu hd hi]
theorem left_take {L : List Lt} {k : Nat} {l : Lt} (h : L[k]? = some l) : leftL (L.take (k + 1)) = if l.c = true then leftL (L.take k) else leftL (L.take k) + 1 := by
  have hl := (List.getElem?_eq_some_iff.1 h).1
  have e : L.take (k + 1) = L.take k ++ [l] := by
    rw [List.take_add_one, h]
    rfl
  rw [e]
  unfold leftL
  rw [List.countP_append]
  cases hc : l.c <;> simp [hc]
theorem left_le (L : List Lt) : leftL L ≤ L.length := List.countP_le_length
theorem rtags {W W2 : World} {t t2 : Nat → Option RT} {r : Nat} (S : PStep W t W2 t2) (h : ∀ g, t g ≠ none → r < g) (hr : r < W.heap.size) : ∀ g, t2 g ≠ none → r < g := fun g hg => by
  by_cases e : g < W.heap.size
  · rw [S.tags g e] at hg; exact h g hg
  · omega
theorem rdone {W W2 W0 : World} {t t2 : Nat → Option RT} {r : Nat} {B : Obj} (S : PStep W t W2 t2) (h : ∀ g, t g ≠ none → r < g) (hR : W.heap[r]? = some B) (hK : Stil W0 W) (hr : W0.heap.size = r) : W2.heap[r]? = some B ∧ Stil W0 W2 ∧ ∀ g, t2 g ≠ none → r < g := by
  have hrl := (Array.getElem?_eq_some_iff.1 hR).1
  have tr : t r = none := Classical.byContradiction fun e => by have := h r e; omega
  exact ⟨S.block tr hR, hK.trans S.keep (fun _ _ e => e) (fun g hg e => by have := h g e; omega), rtags S h hrl⟩

set_option maxRecDepth 1000000 in
set_option maxHeartbeats 32000000 in
theorem ref_mutex {W : World} {pa : Option Addr} {n pl pc : Nat} {ps : List Cst} (hp : CameC W pa pl pc ps) (h0 : 0 < n) (h6 : n ≤ 6) (hpl : pl ≤ 120) :
    Calls Try.prog 6 #[.int .i64 (n : Int), .slice pa pl pc] W fun e W2 => (∃ ca cc va vc ia ic, e = .returned (.agg #[.slice ca pl cc, .slice va (msAt n ps pl).ins.length vc, .slice ia (insideM n (msAt n ps pl)).length ic, .int .i64 (awayM n (msAt n ps pl) : Int)]) ∧
      RowI W2 ca pl cc ((List.range pl).map (mcAt n ps)) ∧ RowI W2 va (msAt n ps pl).ins.length vc (natsI (msAt n ps pl).ins) ∧ RowI W2 ia (insideM n (msAt n ps pl)).length ic (natsI (insideM n (msAt n ps pl))) ∧ (∀ x, ca = some x → W.heap.size ≤ x.block) ∧ (∀ x, va = some x → W.heap.size ≤ x.block) ∧ (∀ x, ia = some x → W.heap.size ≤ x.block)) ∧ Stil W W2 := by
  have HP := hidMk hp
  have hpl' : (pl : Int) ≤ 120 := by omega
  have hn6 : (n : Int) ≤ 6 := by omega
  have hma := mMakeAsk n (by omega)
  rw [mMadeAsk n] at hma
  have HM0 := hidMk (rd_start W n h6)
  have HR0 : Hid ((((W.alloc (.cells #[.slice none 0 0, .slice none 0 0, .slice none 0 0, .int .i64 0] 26)).alloc (.cells #[.slice none 0 0, .slice none 0 0, .slice none 0 0, .int .i64 0] 26)).alloc (.cells (askS0 n) 48)).heap[W.heap.size]? = some (.cells #[.slice none 0 0, .slice none 0 0, .slice none 0 0, .int .i64 0] 26 (0, 0))) := by
    show _ = _
    rw [al_old _ _ _ (by simp; omega), al_old _ _ _ (by simp), al_new]
  have HK0 : Hid (Stil W (((W.alloc (.cells #[.slice none 0 0, .slice none 0 0, .slice none 0 0, .int .i64 0] 26)).alloc (.cells #[.slice none 0 0, .slice none 0 0, .slice none 0 0, .int .i64 0] 26)).alloc (.cells (askS0 n) 48))) := (((Keep.refl _ W).alloc _).alloc _).alloc _
  clear hp
  go_enter Try.func6, Try.ntmps6
  go_upto_region 3 with fail
  generalize (((W.alloc (.cells #[.slice none 0 0, .slice none 0 0, .slice none 0 0, .int .i64 0] 26)).alloc (.cells #[.slice none 0 0, .slice none 0 0, .slice none 0 0, .int .i64 0] 26)).alloc (.cells (askS0 n) 48)) = w5 at *
  generalize hr : W.heap.size = r at *
  obtain ⟨t0, P0, T0a, T0b⟩ := HM0.out
  have HP0 := hidMk P0
  have HT0 : Hid (∀ g, t0 g ≠ none → r < g) := fun g hg => by
    have := T0b g hg
    by_cases e : g = r
    · subst e; exact absurd T0a hg
    · omega
  clear P0 T0a T0b HM0 hma
  generalize r + 1 + 1 = P at *
  generalize r + 1 = b5 at *
  go_wp2
  go_loopw [7, 26] (fun v7 u wr => ∃ (k : Nat) (L : List Lt) (t : Nat → Option RT) (v : RT → Value), k ≤ pl ∧ u = .int .i64 (k : Int) ∧ v7 = v .post ∧ Hid (Pool wr t (RD n b5 P (msAt n ps k) L ((List.range k).map (mcAt n ps)) [] 0 v)) ∧ Hid (SimL n (msAt n ps k) L) ∧ Hid (L.length ≤ 6 * k) ∧ Hid (∀ g, t g ≠ none → r < g) ∧ Hid (wr.heap[r]? = some (.cells #[.slice none 0 0, .slice none 0 0, .slice none 0 0, .int .i64 0] 26 (0, 0))) ∧ Hid (Stil W wr)) (fun _ u _ => pl - (intOf u).toNat)
  case atStart => exact ⟨0, [], t0, nilR, Nat.zero_le _, rfl, rfl, HP0, ⟨fun i j _ _ => rfl, fun l hl => by simp at hl⟩, Nat.zero_le _, HT0, HR0, HK0⟩
  case round =>
    obtain ⟨k, L, t, v, hk, rfl, e7, HPl, HSim, HLn, HT, HR, HK⟩ := hrel
    obtain ⟨qa, qc, hv⟩ := segForm (HPl.out.seg .post _ rfl)
    have hv2 : v .post = .slice qa L.length qc := hv
    rw [hv2] at e7
    subst e7
    generalize hln : L.length = ln at *
    by_cases hlt : k < pl
    ·
        have hlt' : (k : Int) < (pl : Int) := by omega
        obtain ⟨hpl1, hpl2, hpl3, hpr⟩ := HP.out
        rcases hpr with hpr | ⟨b, off, rfl, hbW, hpr⟩
        · omega
        have hpk : ps[k]? = some (ps[k]'(by omega)) := List.getElem?_eq_getElem (by omega)
        generalize ps[k]'(by omega) = p at hpk
        obtain ⟨d0, d1, d2⟩ := (hpr.keep hbW HK.out (fun e => e)) k p hpk
        have hall := mb_at (n := n) (by omega) ps k
        have HEK : Hid (msAt n ps (k + 1) = stepM n (msAt n ps k) p) := by show (match ps[k]? with | some p => _ | none => _) = _; rw [hpk]
        have HEC : Hid ((List.range (k + 1)).map (mcAt n ps) = (List.range k).map (mcAt n ps) ++ [codeM n (msAt n ps k) p]) := by show _ = _; rw [mc_range]; unfold mcAt; rw [hpk]
        have hI := hidMk hall.inv
        have hnm : Hid (∀ i, ((msAt n ps k).pr i).num ≤ 900 ∧ ((msAt n ps k).pr i).yes ≤ 900) := fun i => ⟨by have := hall.num i; omega, by have := hall.yes i; omega⟩
        have hwl6 : Hid (∀ i, i < n → ((msAt n ps k).pr i).wait.length ≤ 6) := fun i hi => wait_len hall.inv h6 hi
        have hwy : Hid (∀ i j x, x ∈ (msAt n ps k).ways i j → x ≤ 900) := fun i j x hx => by have := hall.way i j x hx; omega
        have hin : (msAt n ps k).ins.length ≤ 1000 := by have := hall.ins; omega
        have hcl : ((List.range k).map (mcAt n ps)).length ≤ 1000 := by simp; omega
        have hln2 : ln ≤ 20000 := by have := HLn.out; omega
        clear hpk hpr hpl3 hall
        generalize hS : msAt n ps k = S at *
        generalize hCL : (List.range k).map (mcAt n ps) = CL at *
        obtain ⟨kd, wh, ms⟩ := p
        simp only at d0 d1 d2
        go_upto_block 1 with fail
        refine wp_block ?_
        refine round_walk (sb := b) (so := off) h0 h6 hI hnm hwl6 hwy hin HSim hln2 hln hv2 hcl HPl hlt (by omega) d0 d1 d2 ?_
        intro z7 z9 z10 z11 z12 z14 z15 z16 z17 z28 z29 z30 z31 z32 z33 z34 z35 z36 z37 z38 z39 z40 z41 z42 z43 z44 z45 z46 z47 z48 z49 z50 z51 z52 z53 z54 z55 z56 z57 z58 z59 z60 z61 z62 z63 z64 z65 z66 z67 z68 z69 z70 z71 z72 z73 z74 z75 z76 z77 z78 z79 z80 z81 z82 z83 z84 z85 z86 z87 z88 z89 z90 z91 z92 z93 z94 z95 z96 z97 z98 z99 z100 z101 z102 z103 z104 z105 z106 z107 z108 z109 z110 z111 z112 z113 z114 z115 z116 z117 z118 z119 z120 z121 z122 z123 z124 z125 z126 z127 z128 z129 z130 z131 z132 z133 z134 z135 z136 z137 z138 z139 z140 z141 z142 z143 z144 z145 z146 z147 z148 z149 z150 z151 z152 z153 z154 z155 z156 z157 z158 z159 z160 z161 z162 z163 z164 z165 z166 z167 z168 z169 z170 z171 z172 z173 z174 z175 z176 z177 z178 z179 z180 z181 z182 z183 z184 z185 z186 z187 z188 z189 z190 z191 z192 z193 z194 z195 z196 z197 z198 z199 z200 z201 z202 z203 z204 z205 z206 z207 z208 z209 z210 z211 z212 z213 z214 z215 z216 z217 z218 z219 z220 z221 z222 z223 z224 z225 z226 z227 z228 z229 z230 z231 z232 z233 z234 z235 z236 z237 z238 z239 z240 z241 z242 z243 z244 z245 z246 z247 z248 z249 z250 z251 z252 z253 z254 z255 z256 z257 z258 z259 z260 z261 z262 z263 z264 z265 z266 z267 z268 z269 z270 z271 z272 z273 z274 z275 z276 z277 z278 z279 z280 z281 z282 z283 z284 z285 z286 z287 z288 z289 z290 z291 z292 z293 z294 z295 z296 z297 z298 z299 z300 z301 z302 z303 z304 z305 z306 z307 z308 z309 z310 wx t2 v2 L2 P2 S2 e7 M2 l2
        obtain ⟨HR2, HK2, HT2⟩ := rdone S2 HT.out HR.out HK.out hr
        have HP2 : Hid (Pool wx t2 (RD n b5 P (msAt n ps (k + 1)) L2 ((List.range (k + 1)).map (mcAt n ps)) [] 0 v2)) := by rw [HEK.out, HEC.out]; exact P2
        have HM2 : Hid (SimL n (msAt n ps (k + 1)) L2) := by rw [HEK.out]; exact M2
        have HL2 : Hid (L2.length ≤ 6 * (k + 1)) := by have := HLn.out; show _ ≤ _; omega
        have HR2 := hidMk HR2
        have HK2 := hidMk HK2
        have HT2 := hidMk HT2
        clear P2 S2 M2 l2 HPl HSim HLn HT HR HK hI hnm hwl6 hwy HEK HEC d0 d1 d2 hS hCL
        go_wp2
        go_roundw
        case rel => exact ⟨k + 1, L2, t2, v2, by omega, by go_num, e7, HP2, HM2, HL2, HT2, HR2, HK2⟩
        case measure => simp [intOf]; omega
    · obtain rfl : pl = k := by omega
      have hins : (msAt n ps pl).ins.length ≤ 1000 := by have := (mb_at (n := n) (by omega) ps pl).ins; omega
      have hcl : ((List.range pl).map (mcAt n ps)).length = pl := by simp
      have hln2 : ln ≤ 20000 := by have := HLn.out; omega
      have HAw : Hid (awayM n (msAt n ps pl) = leftL L) := away_left HSim.out
      have HSe : Hid (∃ S, S = msAt n ps pl) := ⟨_, rfl⟩
      obtain ⟨S, hS⟩ := HSe.out
      have HCe : Hid (∃ CL, CL = (List.range pl).map (mcAt n ps)) := ⟨_, rfl⟩
      obtain ⟨CL, hCL⟩ := HCe.out
      rw [← hS, ← hCL] at HPl
      rw [← hS] at hins HAw
      rw [← hCL] at hcl
      have HS := hidMk hS
      have HCL := hidMk hCL
      have HHl := hidMk hln
      clear hS hCL HSe HCe HSim HLn hln
      have hln' : (ln : Int) ≤ 20000 := by omega
      go_wp2
      go_loopw [18] (fun u wx => ∃ (q : Nat) (t2 : Nat → Option RT) (v2 : RT → Value), q ≤ n ∧ u = .int .i64 (q : Int) ∧ Hid (v2 .post = .slice qa ln qc) ∧ Hid (Pool wx t2 (RD n b5 P S L CL (insTo S q) 0 v2)) ∧ Hid (∀ g, t2 g ≠ none → r < g) ∧ Hid (wx.heap[r]? = some (.cells #[.slice none 0 0, .slice none 0 0, .slice none 0 0, .int .i64 0] 26 (0, 0))) ∧ Hid (Stil W wx)) (fun u _ => n - (intOf u).toNat)
      case atStart => exact ⟨0, t, v, Nat.zero_le _, rfl, hv2, HPl, HT, HR, HK⟩
      case round =>
        clear HPl HT HR HK hv hv2
        obtain ⟨wx, rfl⟩ : ∃ w' : World, w' = wr := ⟨_, rfl⟩
        obtain ⟨q, t2, v2, hq, rfl, HV2, HP2, HT2, HR2, HK2⟩ := hrel
        by_cases hlt2 : q < n
        ·
            have hlt2' : (q : Int) < (n : Int) := by omega
            obtain ⟨p0, p1, p2, p3, p4, pf⟩ := rd_proc HP2.out hlt2
            have HE : Hid (insTo S (q + 1) = if (S.pr q).st = 2 then insTo S q ++ [q] else insTo S q) := insTo_succ S q
            have hle := insTo_len S q
            clear p0 p2 p3 p4 pf
            by_cases e1 : (S.pr q).st = 2
            · have HE2 : Hid (insTo S (q + 1) = insTo S q ++ [q]) := by show _ = _; rw [HE.out, if_pos e1]
              rw [e1] at p1
              obtain ⟨o0, o1, o2, o3, o4, of⟩ := rd_out HP2.out
              have hsi : Seg wx (fun g => t2 g = some .isd) 3 1 (v2 .isd) (insTo S q).length (natsL (insTo S q)) := HP2.out.seg .isd _ rfl
              obtain ⟨va, vc, hvi⟩ := segForm hsi
              rw [hvi] at o3 hsi
              have HSi := hidMk hsi
              have HVi := hidMk hvi
              obtain ⟨i0, hi, hz0, hz1, hz2⟩ := info_parts cInfoInt
              generalize hil : (insTo S q).length = il at *
              have HIl := hidMk hil
              clear hsi hvi o0 o1 o2 o4 of HE e1 hil
              go_wp2_with (at_builtin; refine wpList_append_seg _ rfl _ _ 24 rfl 3 i0 (.int .i64 0) 1 8 Try.underlying24 hi hz0 hz1 hz2 rfl (by decide) (.slice va il vc) il (natsL (insTo S q)) rfl (segAlloc HSi.out _) ⟨wx.heap.size, 0, none⟩ 1 1 [.int .i64 (q : Int)] rfl rfl (cCell1 _ _ _ _ rfl) (cOne _) (by unfold maxLen; omega) (by omega) ?_)
              intro v3 w3 hs3 hg3
              obtain ⟨g1, g2, HM⟩ := rd_isd HP2.out (w := q) (Stil.new _ (.cells #[.int .i64 (q : Int)] 3)) (by rw [HVi.out]; show Seg _ _ _ 1 _ ((insTo S q).length + 1) (natsL (insTo S q) ++ _); rw [HIl.out]; exact hs3.mono (fun g _ e => by simpa using e)) (by rw [HVi.out]; exact hg3)
              rw [HVi.out] at g1
              obtain ⟨a3, c3, rfl⟩ := segForm hs3
              obtain ⟨t3, P3, S3⟩ := HM
              obtain ⟨HR3, HK3, HT3⟩ := rdone S3 HT2.out HR2.out HK2.out hr
              rw [← HE2.out] at P3
              have HP3 := hidMk P3
              have HR3 := hidMk HR3
              have HK3 := hidMk HK3
              have HT3 := hidMk HT3
              have HV3 : Hid (updV v2 .isd (.slice a3 (il + 1) c3) .post = .slice qa ln qc) := by show _ = _; rw [updV_other _ _ (by simp)]; exact HV2.out
              clear hs3 hg3 P3 S3 HP2 HT2 HR2 HK2 HSi HVi p1 o3
              go_wp2
              go_roundw
              case rel => exact ⟨q + 1, t3, _, by omega, by go_num, HV3, HP3, HT3, HR3, HK3⟩
              case measure => simp [intOf]; omega
            · have HE2 : Hid (insTo S (q + 1) = insTo S q) := by show _ = _; rw [HE.out, if_neg e1]
              have q1 : (((S.pr q).st : Int) == 2) = false := by rw [beq_eq_false_iff_ne]; omega
              have HP3 : Hid (Pool wx t2 (RD n b5 P S L CL (insTo S (q + 1)) 0 v2)) := by rw [HE2.out]; exact HP2.out
              clear HE e1 HP2
              generalize (S.pr q).st = ss at *
              go_wp2
              go_roundw
              case rel => exact ⟨q + 1, t2, v2, by omega, by go_num, HV2, HP3, HT2, HR2, HK2⟩
              case measure => simp [intOf]; omega
        · obtain rfl : n = q := by omega
          go_wp2
          go_loopw [331] (fun u wy => ∃ (q : Nat) (t3 : Nat → Option RT), q ≤ ln ∧ u = .int .i64 (q : Int) ∧ Hid (Pool wy t3 (RD n b5 P S L CL (insTo S n) (leftL (L.take q)) v2)) ∧ Hid (∀ g, t3 g ≠ none → r < g) ∧ Hid (wy.heap[r]? = some (.cells #[.slice none 0 0, .slice none 0 0, .slice none 0 0, .int .i64 0] 26 (0, 0))) ∧ Hid (Stil W wy)) (fun u _ => ln - (intOf u).toNat)
          case atStart => exact ⟨0, t2, Nat.zero_le _, rfl, by rw [List.take_zero]; exact HP2, HT2, HR2, HK2⟩
          case round =>
            clear HP2 HT2 HR2 HK2
            obtain ⟨wy, rfl⟩ : ∃ w' : World, w' = wr := ⟨_, rfl⟩
            obtain ⟨q, t3, hq3, rfl, HP3, HT3, HR3, HK3⟩ := hrel
            by_cases hlt3 : q < ln
            ·
                have hlt3' : (q : Int) < (ln : Int) := by omega
                have hlq : L[q]? = some (L[q]'(by rw [HHl.out]; exact hlt3)) := List.getElem?_eq_getElem _
                generalize L[q]'(by rw [HHl.out]; exact hlt3) = l at hlq
                have HTk := hidMk (left_take hlq)
                obtain ⟨g, o, c, eg, _⟩ := (HP3.out.seg .post _ rfl).at (by show 0 < L.length; rw [HHl.out]; omega)
                have eg1 : v2 .post = .slice (some ⟨g, o, none⟩) L.length c := eg
                have eg2 : Value.slice qa ln qc = .slice (some ⟨g, o, none⟩) ln c := by rw [← HV2.out, eg1, HHl.out]
                obtain ⟨rfl, rfl⟩ : qa = some ⟨g, o, none⟩ ∧ qc = c := by simpa using eg2
                obtain ⟨y, yf, ty, _, _⟩ := rd_come HP3.out eg1 hlq
                have y0 : wy.cell? ⟨g, o + q * 4, none⟩ = some (.int .i64 (l.f : Int)) := by have := y 0 (by omega); rw [show o + (q * 4 + 0) = o + q * 4 from by omega] at this; exact this
                have y1 : wy.cell? ⟨g, o + q * 4 + 1, none⟩ = some (.int .i64 (l.t : Int)) := by have := y 1 (by omega); rw [show o + (q * 4 + 1) = o + q * 4 + 1 from by omega] at this; exact this
                have y2 : wy.cell? ⟨g, o + q * 4 + 2, none⟩ = some (.int .i64 (l.x : Int)) := by have := y 2 (by omega); rw [show o + (q * 4 + 2) = o + q * 4 + 2 from by omega] at this; exact this
                have y3 : wy.cell? ⟨g, o + q * 4 + 3, none⟩ = some (.bool l.c) := by have := y 3 (by omega); rw [show o + (q * 4 + 3) = o + q * 4 + 3 from by omega] at this; exact this
                clear y yf ty hlq eg eg1 eg2
                generalize l.f = lf at *
                generalize l.t = lt at *
                generalize l.x = lx at *
                by_cases hc : l.c = true
                · have HE : Hid (leftL (L.take (q + 1)) = leftL (L.take q)) := by show _ = _; rw [HTk.out, if_pos hc]
                  rw [hc] at y3
                  have HP4 : Hid (Pool (wy.alloc (.cells #[.int .i64 (lf : Int), .int .i64 (lt : Int), .int .i64 (lx : Int), .bool true] 50)) t3 (RD n b5 P S L CL (insTo S n) (leftL (L.take (q + 1))) v2)) := by rw [HE.out]; exact HP3.out.alloc _
                  obtain ⟨HR4, HK4, HT4⟩ := rdone (PStep.of_still t3 (Stil.new wy (.cells #[.int .i64 (lf : Int), .int .i64 (lt : Int), .int .i64 (lx : Int), .bool true] 50))) HT3.out HR3.out HK3.out hr
                  have HR4 := hidMk HR4
                  have HK4 := hidMk HK4
                  have HT4 := hidMk HT4
                  clear HE HTk HP3 HR3 HK3 HT3 hc
                  go_wp2
                  go_roundw
                  case rel => exact ⟨q + 1, t3, by omega, by go_num, HP4, HT4, HR4, HK4⟩
                  case measure => simp [intOf]; omega
                · have hc2 : l.c = false := by simpa using hc
                  have HE : Hid (leftL (L.take (q + 1)) = leftL (L.take q) + 1) := by show _ = _; rw [HTk.out, if_neg hc]
                  have hll : leftL (L.take q) ≤ 20000 := by have h1 := left_le (L.take q); rw [List.length_take] at h1; omega
                  rw [hc2] at y3
                  have P4 := HP3.out.alloc (.cells #[.int .i64 (lf : Int), .int .i64 (lt : Int), .int .i64 (lx : Int), .bool false] 50)
                  obtain ⟨o0, o1, o2, o3, o4, of⟩ := rd_out P4
                  obtain ⟨P5, S5⟩ := rd_away P4 (leftL (L.take q) + 1)
                  rw [show ((leftL (L.take q) + 1 : Nat) : Int) = (leftL (L.take q) : Int) + 1 from by omega] at P5 S5
                  have f3 := of 3
                  obtain ⟨HR4, HK4, HT4⟩ := rdone ((PStep.of_still t3 (Stil.new wy (.cells #[.int .i64 (lf : Int), .int .i64 (lt : Int), .int .i64 (lx : Int), .bool false] 50))).trans S5) HT3.out HR3.out HK3.out hr
                  rw [← HE.out] at P5
                  have HP5 := hidMk P5
                  have HR4 := hidMk HR4
                  have HK4 := hidMk HK4
                  have HT4 := hidMk HT4
                  have hwr : IntKind.i64.wrap ((leftL (L.take q) : Int) + 1) = ((leftL (L.take q) + 1 : Nat) : Int) := by rw [wrap_of ⟨by omega, by omega⟩]; omega
                  clear HE HTk HP3 HR3 HK3 HT3 hc hc2 P4 P5 S5 o0 o1 o2 o3 of
                  generalize leftL (L.take q) = aw at *
                  go_wp2
                  go_roundw
                  case rel => exact ⟨q + 1, t3, by omega, by go_num, HP5, HT4, HR4, HK4⟩
                  case measure => simp [intOf]; omega
            · obtain rfl : ln = q := by omega
              have hAll : L.take ln = L := by rw [← HHl.out]; exact List.take_length
              rw [hAll, ← HAw.out] at HP3
              obtain ⟨o0, o1, o2, o3, o4, of⟩ := rd_out HP3.out
              have s1 : Seg wy (fun g => t3 g = some .cd) 27 1 (v2 .cd) CL.length (intsV CL) := HP3.out.seg .cd _ rfl
              have s2 : Seg wy (fun g => t3 g = some .ins) 3 1 (v2 .ins) S.ins.length (natsL S.ins) := HP3.out.seg .ins _ rfl
              have s3 : Seg wy (fun g => t3 g = some .isd) 3 1 (v2 .isd) (insTo S n).length (natsL (insTo S n)) := HP3.out.seg .isd _ rfl
              rw [hcl] at s1
              obtain ⟨ca, cc, e1⟩ := segForm s1
              obtain ⟨va, vc, e2⟩ := segForm s2
              obtain ⟨ia, ic, e3⟩ := segForm s3
              rw [e1] at o1 s1
              rw [e2] at o2 s2
              rw [e3] at o3 s3
              have hb := HR3.out
              have r0 : wy.cell? ⟨r, 0, none⟩ = some (.slice none 0 0) := by rw [cell_of_row wy _ _ _ _ _ hb]; rfl
              have r1 : wy.cell? ⟨r, 1, none⟩ = some (.slice none 0 0) := by rw [cell_of_row wy _ _ _ _ _ hb]; rfl
              have r2 : wy.cell? ⟨r, 2, none⟩ = some (.slice none 0 0) := by rw [cell_of_row wy _ _ _ _ _ hb]; rfl
              have r3 : wy.cell? ⟨r, 3, none⟩ = some (.int .i64 0) := by rw [cell_of_row wy _ _ _ _ _ hb]; rfl
              have f0 : wy.frozen? ⟨r, 0, none⟩ = false := frozen_of_row wy _ _ _ _ hb
              have f1 : wy.frozen? ⟨r, 1, none⟩ = false := frozen_of_row wy _ _ _ _ hb
              have f2 : wy.frozen? ⟨r, 2, none⟩ = false := frozen_of_row wy _ _ _ _ hb
              have f3 : wy.frozen? ⟨r, 3, none⟩ = false := frozen_of_row wy _ _ _ _ hb
              have HS1 := hidMk s1
              have HS2 := hidMk s2
              have HS3 := hidMk s3
              clear s1 s2 s3 e1 e2 e3 o0 of hAll HP3 HV2
              generalize hil : S.ins.length = il at *
              generalize hjl : (insTo S n).length = jl at *
              generalize hal : awayM n S = aw at *
              have HIl := hidMk hil
              have HJl := hidMk hjl
              have HAl := hidMk hal
              clear hil hjl hal
              go_wp2
              have b1 := heap_setCell_same wy r 0 _ _ (.slice ca pl cc) hb
              have b2 := heap_setCell_same _ r 1 _ _ (.slice va il vc) b1
              have b3 := heap_setCell_same _ r 2 _ _ (.slice ia jl ic) b2
              have b4 := heap_setCell_same _ r 3 _ _ (.int .i64 (aw : Int)) b3
              have kk := ((((Keep.refl (fun g => g = r) wy).setCell r 0 (.slice ca pl cc) (fun _ => rfl)).setCell r 1 (.slice va il vc) (fun _ => rfl)).setCell r 2 (.slice ia jl ic) (fun _ => rfl)).setCell r 3 (.int .i64 (aw : Int)) (fun _ => rfl)
              refine bodyPost_ret (results_one_row (P := Try.prog) rfl _ _ r 26 #[.slice ca pl cc, .slice va il vc, .slice ia jl ic, .int .i64 (aw : Int)] (0, 0) _ rfl (by simpa using b4) Try.underlying26 rfl (by kernel_rfl)) rfl ?_
              have hno : ∀ {x : RT} {g : Nat}, t3 g = some x → ¬ g = r := fun {x g} e e2 => by have := HT3.out g (by rw [e]; simp); omega
              have e9 : S.ins.length = il := HIl.out
              subst e9
              have e8 : (insTo S n).length = jl := HJl.out
              subst e8
              have e7 : awayM n S = aw := HAl.out
              subst e7
              have e6 : S = msAt n ps pl := HS.out
              subst e6
              have e5 : CL = (List.range pl).map (mcAt n ps) := HCL.out
              subst e5
              exact ⟨⟨_, _, _, _, _, _, rfl, seg_rowI (HS1.out.keep kk (fun g _ e => hno e)), seg_row (HS2.out.keep kk (fun g _ e => hno e)), seg_row (HS3.out.keep kk (fun g _ e => hno e)), (fun x hx => by have := (HS1.out.block (k := x.block) (by rw [hx]; rfl)).1; have := HT3.out x.block (by rw [this]; simp); omega), (fun x hx => by have := (HS2.out.block (k := x.block) (by rw [hx]; rfl)).1; have := HT3.out x.block (by rw [this]; simp); omega), (fun x hx => by have := (HS3.out.block (k := x.block) (by rw [hx]; rfl)).1; have := HT3.out x.block (by rw [this]; simp); omega)⟩, HK3.out.trans kk (fun _ _ e => e) (fun g hg e => by omega)⟩
end Go.Proofs.Ytaojmbebkggafaa
