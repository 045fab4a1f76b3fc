/- The document's Mutex, in pieces: a leaving. -/
import Derived.Test.YtaojmbebkggafaaMr3
import Derived.Test.YtaojmbebkggafaaMa5
import Derived.Deep.Cut
namespace Go.Proofs.Ytaojmbebkggafaa
open Go.RowKit
set_option linter.unusedVariables false

theorem letCells (l : Lt) : ∀ u ∈ cellsL l, u.oneCell' = true := by
  intro u hu
  simp [cellsL] at hu
  rcases hu with rfl | rfl | rfl | rfl <;> rfl
theorem cells_let_at (w : World) (f t x : Nat) (c : Bool) (ty : TypeId) (g : Nat) (hg : w.heap.size = g) : ∀ j u, (cellsL ⟨f, t, x, c⟩)[j]? = some u → (w.alloc (.cells #[.int .i64 (f : Int), .int .i64 (t : Int), .int .i64 (x : Int), .bool c] ty)).cell? ((⟨g, 0, none⟩ : Addr).add j) = some u := by
  intro j u hu
  subst hg
  rw [addr_add, Nat.zero_add, cell_of_row _ _ _ _ _ _ (al_new _ _)]
  simpa [cellsL] using hu
theorem cells_let_at0 (w : World) (f t : Nat) (ty : TypeId) (g : Nat) (hg : w.heap.size = g) : ∀ j u, (cellsL ⟨f, t, 0, false⟩)[j]? = some u → (w.alloc (.cells #[.int .i64 (f : Int), .int .i64 (t : Int), .int .i64 0, .bool false] ty)).cell? ((⟨g, 0, none⟩ : Addr).add j) = some u := cells_let_at w f t 0 false ty g hg
theorem sim_yeses {n : Nat} {w : Nat} (hw : w < n) : ∀ (l : List Nat) (s : MS) (L : List Lt), (∀ x ∈ l, x < n) → SimL n s L → SimL n (yesesTo s w l) (L ++ l.map fun x => ⟨w, x, 0, false⟩)
  | [], s, L, _, h => by simpa [yesesTo] using h
  | j :: r, s, L, hl, h => by
    have h1 := sim_put h hw (hl j (by simp)) 0
    have h2 := sim_yeses hw r (putM s w j 0) (L ++ [⟨w, j, 0, false⟩]) (fun x hx => hl x (List.mem_cons_of_mem _ hx)) h1
    simpa [yesesTo] using h2
set_option maxRecDepth 1000000 in
set_option maxHeartbeats 16000000 in
theorem leave_walk {Q : Exit → Act → World → Prop} {wb : World} {n b5 P bb w ln qc : Nat} {qa : Option Addr} {S : MS} {L : List Lt} {cdk : List Int} {t : Nat → Option RT} {v : RT → Value} {x10 c1 c4 c21 c22 c23 c24 c25 c26 : Value} {u8 u12 u14 u15 u16 u17 u27 u28 u29 u30 u31 u32 u33 u34 u35 u36 u37 u38 u39 u40 u41 u42 u43 u44 u45 u46 u47 u48 u49 u50 u51 u52 u53 u54 u55 u56 u57 u58 u59 u60 u61 u62 u63 u64 u65 u66 u67 u68 u69 u70 u71 u72 u73 u74 u75 u76 u77 u78 u79 u80 u81 u82 u83 u84 u85 u86 u87 u88 u89 u90 u91 u92 u93 u94 u95 u96 u97 u98 u99 u100 u101 u102 u103 u104 u105 u106 u107 u108 u109 u110 u111 u112 u113 u114 u115 u116 u117 u118 u119 u120 u121 u122 u123 u124 u125 u126 u127 u128 u129 u130 u131 u132 u133 u134 u135 u136 u137 u138 u139 u140 u141 u142 u143 u144 u145 u146 u147 u148 u149 u150 u151 u152 u153 u154 u155 u156 u157 u158 u159 u160 u161 u162 u163 u164 u165 u166 u167 u168 u169 u170 u171 u172 u173 u174 u175 u176 u177 u178 u179 u180 u181 u182 u183 u184 u185 u186 u187 u188 u189 u190 u191 u192 u193 u194 u195 u196 u197 u198 u199 u200 u201 u202 u203 u204 u205 u206 u207 u208 u209 u210 u211 u212 u213 u214 u215 u216 u217 u218 u219 u220 u221 u222 u223 u224 u225 u226 u227 u228 u229 u230 u231 u232 u233 u234 u235 u236 u237 u238 u239 u240 u241 u242 u243 u244 u245 u246 u247 u248 u249 u250 u251 u252 u253 u254 u255 u256 u257 u258 u259 u260 u261 u262 u263 u264 u265 u266 u267 u268 u269 u270 u271 u272 u273 u274 u275 u276 u277 u278 u279 u280 u281 u282 u283 u284 u285 u286 u287 u288 u289 u290 u291 u292 u293 u294 u295 u296 u297 u298 u299 u300 u301 u302 u303 u304 u305 u306 u307 u308 u309 u310 u311 : Value}
    (h0 : 0 < n) (h6 : n ≤ 6) (hw : w < n) (hwl : (S.pr w).wait.length ≤ 200) (hwn : ∀ x ∈ (S.pr w).wait, x < n) (HSim : Hid (SimL n S L)) (hln : ln ≤ 20000) (hll : L.length = ln) (hfp : v .post = .slice qa ln qc) (HPb : Hid (Pool wb t (RD n b5 P S L cdk [] 0 v))) (b1 : wb.cell? ⟨bb, 1, none⟩ = some (.int .i64 (w : Int))) (htb : t bb = none)
    (hQ : ∀ (z7 z14 z148 z149 z150 z151 z152 z153 z154 z155 z156 z157 z158 z159 z160 z161 z162 z163 z164 z165 z166 z167 z168 z169 z170 : Value) (wx : World) (t2 : Nat → Option RT) (v2 : RT → Value) (L2 : List Lt), Pool wx t2 (RD n b5 P (leaveM S w) L2 cdk [] 0 v2) → PStep wb t wx t2 → z7 = v2 .post → SimL n (leaveM S w) L2 → L2.length = ln + (S.pr w).wait.length → Q .normal ⟨#[.int .i64 (n : Int), c1, undef, undef, c4, .pointer (some ⟨b5, 0, none⟩), .slice (some ⟨P, 0, none⟩) n n, z7, u8, .pointer (some ⟨bb, 0, none⟩), x10, .pointer (some ⟨P, w * 5, none⟩), u12, undef, z14, u15, u16, u17, undef, undef, undef, c21, c22, c23, c24, c25, c26, u27, u28, u29, u30, u31, u32, u33, u34, u35, u36, u37, u38, u39, u40, u41, u42, u43, u44, u45, u46, u47, u48, u49, u50, u51, u52, u53, u54, u55, u56, u57, u58, u59, u60, u61, u62, u63, u64, u65, u66, u67, u68, u69, u70, u71, u72, u73, u74, u75, u76, u77, u78, u79, u80, u81, u82, u83, u84, u85, u86, u87, u88, u89, u90, u91, u92, u93, u94, u95, u96, u97, u98, u99, u100, u101, u102, u103, u104, u105, u106, u107, u108, u109, u110, u111, u112, u113, u114, u115, u116, u117, u118, u119, u120, u121, u122, u123, u124, u125, u126, u127, u128, u129, u130, u131, u132, u133, u134, u135, u136, u137, u138, u139, u140, u141, u142, u143, u144, u145, u146, u147, z148, z149, z150, z151, z152, z153, z154, z155, z156, z157, z158, z159, z160, z161, z162, z163, z164, z165, z166, z167, z168, z169, z170, u171, u172, u173, u174, u175, u176, u177, u178, u179, u180, u181, u182, u183, u184, u185, u186, u187, u188, u189, u190, u191, u192, u193, u194, u195, u196, u197, u198, u199, u200, u201, u202, u203, u204, u205, u206, u207, u208, u209, u210, u211, u212, u213, u214, u215, u216, u217, u218, u219, u220, u221, u222, u223, u224, u225, u226, u227, u228, u229, u230, u231, u232, u233, u234, u235, u236, u237, u238, u239, u240, u241, u242, u243, u244, u245, u246, u247, u248, u249, u250, u251, u252, u253, u254, u255, u256, u257, u258, u259, u260, u261, u262, u263, u264, u265, u266, u267, u268, u269, u270, u271, u272, u273, u274, u275, u276, u277, u278, u279, u280, u281, u282, u283, u284, u285, u286, u287, u288, u289, u290, u291, u292, u293, u294, u295, u296, u297, u298, u299, u300, u301, u302, u303, u304, u305, u306, u307, u308, u309, u310, u311, undef, undef, undef, undef, undef, undef, undef, undef, undef, undef, undef, undef, undef, undef, undef, undef, undef, undef, undef, undef, undef, undef, undef, undef, undef, undef, undef, undef, undef, undef, undef, undef], []⟩ wx) :
    Code.wp Try.prog leaveCode Q ⟨#[.int .i64 (n : Int), c1, undef, undef, c4, .pointer (some ⟨b5, 0, none⟩), .slice (some ⟨P, 0, none⟩) n n, .slice qa ln qc, u8, .pointer (some ⟨bb, 0, none⟩), x10, .pointer (some ⟨P, w * 5, none⟩), u12, undef, u14, u15, u16, u17, undef, undef, undef, c21, c22, c23, c24, c25, c26, u27, u28, u29, u30, u31, u32, u33, u34, u35, u36, u37, u38, u39, u40, u41, u42, u43, u44, u45, u46, u47, u48, u49, u50, u51, u52, u53, u54, u55, u56, u57, u58, u59, u60, u61, u62, u63, u64, u65, u66, u67, u68, u69, u70, u71, u72, u73, u74, u75, u76, u77, u78, u79, u80, u81, u82, u83, u84, u85, u86, u87, u88, u89, u90, u91, u92, u93, u94, u95, u96, u97, u98, u99, u100, u101, u102, u103, u104, u105, u106, u107, u108, u109, u110, u111, u112, u113, u114, u115, u116, u117, u118, u119, u120, u121, u122, u123, u124, u125, u126, u127, u128, u129, u130, u131, u132, u133, u134, u135, u136, u137, u138, u139, u140, u141, u142, u143, u144, u145, u146, u147, u148, u149, u150, u151, u152, u153, u154, u155, u156, u157, u158, u159, u160, u161, u162, u163, u164, u165, u166, u167, u168, u169, u170, u171, u172, u173, u174, u175, u176, u177, u178, u179, u180, u181, u182, u183, u184, u185, u186, u187, u188, u189, u190, u191, u192, u193, u194, u195, u196, u197, u198, u199, u200, u201, u202, u203, u204, u205, u206, u207, u208, u209, u210, u211, u212, u213, u214, u215, u216, u217, u218, u219, u220, u221, u222, u223, u224, u225, u226, u227, u228, u229, u230, u231, u232, u233, u234, u235, u236, u237, u238, u239, u240, u241, u242, u243, u244, u245, u246, u247, u248, u249, u250, u251, u252, u253, u254, u255, u256, u257, u258, u259, u260, u261, u262, u263, u264, u265, u266, u267, u268, u269, u270, u271, u272, u273, u274, u275, u276, u277, u278, u279, u280, u281, u282, u283, u284, u285, u286, u287, u288, u289, u290, u291, u292, u293, u294, u295, u296, u297, u298, u299, u300, u301, u302, u303, u304, u305, u306, u307, u308, u309, u310, u311, undef, undef, undef, undef, undef, undef, undef, undef, undef, undef, undef, undef, undef, undef, undef, undef, undef, undef, undef, undef, undef, undef, undef, undef, undef, undef, undef, undef, undef, undef, undef, undef], []⟩ wb := by
  obtain ⟨i2, hq, hx0, hx1, hx2⟩ := info_parts mInfoLetter
  obtain ⟨p0, p1, p2, p3, p4, pf⟩ := rd_proc HPb.out hw
  have f1 := pf (w * 5 + 1)
  obtain ⟨P1, S1⟩ := rd_st HPb.out hw 0
  have P1 : Pool (wb.setCell ⟨P, w * 5 + 1, none⟩ (.int .i64 0)) t (RD n b5 P (outS S w) L cdk [] 0 v) := P1
  have S1 : PStep wb t (wb.setCell ⟨P, w * 5 + 1, none⟩ (.int .i64 0)) t := S1
  have HP1 := hidMk P1
  have HS1 := hidMk S1
  have c1' := S1.cell htb b1
  have ew : ((outS S w).pr w).wait = (S.pr w).wait := by unfold outS; rw [prM_prR]
  have hsw : Seg (wb.setCell ⟨P, w * 5 + 1, none⟩ (.int .i64 0)) (fun g => t g = some (.wt w)) 3 1 (v (.wt w)) (S.pr w).wait.length (natsL (S.pr w).wait) := by
    have := P1.seg (.wt w) ⟨3, 1, v (.wt w), ((outS S w).pr w).wait.length, natsL ((outS S w).pr w).wait⟩ (if_pos hw)
    rw [ew] at this
    exact this
  obtain ⟨ta, tc, hvw⟩ := segForm hsw
  obtain ⟨q0, q1, q2, q3, q4, qf⟩ := rd_proc P1 hw
  rw [hvw] at q4
  have HVw := hidMk hvw
  have HEw := hidMk ew
  have HWn := hidMk hwn
  have HQ := hidMk hQ
  have HFp := hidMk hfp
  have HLl := hidMk hll
  generalize hws : (S.pr w).wait = ws at *
  generalize hwlv : ws.length = wl at *
  have HWl := hidMk hwlv
  have HWs := hidMk hws
  clear P1 S1 p0 p2 p3 p4 hsw ew hvw hQ hfp hll hwlv hws q0 q1 q2 q3 hwn
  conv => arg 2; whnf
  go_upto_region 27 with fail
  clear f1 b1 pf p1
  have HLv : Hid (leaveM S w = noneS (yesesTo (outS S w) w ws) w) := by show _ = _; unfold leaveM; rw [HWs.out]
  have HSo : Hid (SimL n (outS S w) L) := sim_pr HSim.out _ _
  generalize wb.setCell ⟨P, w * 5 + 1, none⟩ (.int .i64 0) = w1 at *
  generalize outS S w = So at *
  go_wp2_with (fail)
  go_loopw [7, 156] (fun x7 u wr => ∃ (k : Nat) (tk : Nat → Option RT) (vk : RT → Value), k ≤ wl ∧ u = .int .i64 (k : Int) ∧ x7 = vk .post ∧ Hid (Pool wr tk (RD n b5 P (yesesTo So w (ws.take k)) (L ++ (ws.map fun x => (⟨w, x, 0, false⟩ : Lt)).take k) cdk [] 0 vk)) ∧ Hid (PStep w1 t wr tk) ∧ Hid (vk (.wt w) = .slice ta wl tc)) (fun _ u _ => wl - (intOf u).toNat)
  case atStart => exact ⟨0, t, v, Nat.zero_le _, rfl, HFp.out.symm, hidMk (by simpa [yesesTo] using HP1.out), PStep.refl _ _, HVw.out⟩
  case round =>
    obtain ⟨k, tk, vk, hk, rfl, rfl, HPk, HSk, HVk⟩ := hrel
    have hLk : (L ++ (ws.map fun x => (⟨w, x, 0, false⟩ : Lt)).take k).length = ln + k := by rw [List.length_append, List.length_take, List.length_map, HLl.out, HWl.out, Nat.min_eq_left hk]
    have hsp : Seg wr (fun g => tk g = some .post) 50 4 (vk .post) (L ++ (ws.map fun x => (⟨w, x, 0, false⟩ : Lt)).take k).length (flatL (L ++ (ws.map fun x => (⟨w, x, 0, false⟩ : Lt)).take k)) := HPk.out.seg .post _ rfl
    rw [hLk] at hsp
    obtain ⟨qa2, qc2, hvp⟩ := segForm hsp
    rw [hvp] at hsp ⊢
    have HSp := hidMk hsp
    have HVp := hidMk hvp
    have HLk := hidMk hLk
    clear hsp hvp hLk
    by_cases hlt : k < wl
    · have hlt' : (k : Int) < (wl : Int) := by omega
      have hxk : ws[k]? = some (ws[k]'(by rw [HWl.out]; exact hlt)) := List.getElem?_eq_getElem _
      generalize ws[k]'(by rw [HWl.out]; exact hlt) = x at hxk
      have htk : ws.take (k + 1) = ws.take k ++ [x] := by rw [List.take_add_one, hxk]; rfl
      have HTk := hidMk htk
      have hsw : Seg wr (fun g => tk g = some (.wt w)) 3 1 (vk (.wt w)) ((yesesTo So w (ws.take k)).pr w).wait.length (natsL ((yesesTo So w (ws.take k)).pr w).wait) := HPk.out.seg (.wt w) ⟨3, 1, vk (.wt w), ((yesesTo So w (ws.take k)).pr w).wait.length, natsL ((yesesTo So w (ws.take k)).pr w).wait⟩ (if_pos hw)
      rw [(yesesTo_pr w (ws.take k) So).1, HEw.out, HVk.out, HWl.out] at hsw
      obtain ⟨_, _, _, r1⟩ := seg_row hsw
      rcases r1 with r1 | ⟨g, o, rfl, _, k1⟩
      · omega
      have kx := k1 k (x : Int) (natsI_at hxk)
      have b1k := HSk.out.cell htb c1'
      clear htk hsw k1 hxk
      go_wp2_with (at_builtin; refine wpList_append_seg _ rfl _ _ 45 rfl 50 i2 (.agg #[.int .i64 0, .int .i64 0, .int .i64 0, .bool false]) 4 32 Try.underlying45 hq hx0 hx1 hx2 rfl (by decide) _ _ _ rfl (segAlloc HSp.out _) ⟨wr.heap.size, 0, none⟩ 1 1 (cellsL ⟨w, x, 0, false⟩) rfl rfl (cells_let_at0 _ _ _ _ _ rfl) (letCells _) (by unfold maxLen; omega) (by omega) ?_)
      intro v3 w3 hs3 hg3
      obtain ⟨t5, P5, S5⟩ := rd_post HPk.out (l := ⟨w, x, 0, false⟩) (Stil.new wr (.cells #[.int .i64 (w : Int), .int .i64 (x : Int), .int .i64 0, .bool false] 50)) (by rw [HVp.out, HLk.out]; exact hs3.mono (fun g _ e => by rcases e with e | e; exact .inl e; right; rw [e]; simp)) (by rw [HVp.out]; exact hg3)
      have HP5 : Hid (Pool w3 t5 (RD n b5 P (yesesTo So w (ws.take (k + 1))) (L ++ (ws.map fun x => (⟨w, x, 0, false⟩ : Lt)).take (k + 1)) cdk [] 0 (updV vk .post v3))) := by
        show Pool _ _ _
        rw [show (ws.map fun x => (⟨w, x, 0, false⟩ : Lt)).take (k + 1) = (ws.map fun x => (⟨w, x, 0, false⟩ : Lt)).take k ++ [⟨w, x, 0, false⟩] from by rw [← List.map_take, HTk.out, List.map_append, List.map_take]; rfl, HTk.out, yesesTo_snoc, ← List.append_assoc]
        exact rd_ways P5 rfl rfl
      have HS5 := hidMk (HSk.out.trans S5)
      obtain ⟨a3, c3, rfl⟩ := segForm hs3
      clear hs3 hg3 P5 S5 kx b1k
      go_wp2
      go_roundw
      case rel => exact ⟨k + 1, t5, updV vk .post (.slice a3 (ln + k + 1) c3), by omega, by go_num, by rw [updV_same], HP5, HS5, hidMk (by rw [updV_other _ _ (by simp)]; exact HVk.out)⟩
      case measure => simp [intOf]; omega
    · obtain rfl : k = wl := by omega
      have e1 : ws.take k = ws := List.take_of_length_le (by rw [HWl.out]; exact Nat.le_refl _)
      have e2 : (ws.map fun x => (⟨w, x, 0, false⟩ : Lt)).take k = ws.map fun x => (⟨w, x, 0, false⟩ : Lt) := by rw [← List.map_take, e1]
      rw [e1, e2] at HPk
      obtain ⟨g1, g2, g3, g4⟩ := rd_wait (l := []) HPk.out hw (HPk.out.newNil (.wt w) 3 1) (PStep.refl wr tk)
      have g5 := g1 4 (by omega)
      have g6 := g2 (w * 5 + 4)
      have HG3 := hidMk g3
      have HG4 := hidMk g4
      have g5' : wr.cell? ⟨P, w * 5 + 4, none⟩ = some (.slice ta k tc) := by rw [g5]; show some (vk (.wt w)) = _; rw [HVk.out]
      clear g1 g2 g3 g4 g5 e1 e2
      go_wp2
      refine HQ.out _ _ _ _ _ _ _ _ _ _ _ _ _ _ _ _ _ _ _ _ _ _ _ _ _ _ tk _ (L ++ ws.map fun x => ⟨w, x, 0, false⟩) (by rw [HLv.out]; exact HG3.out) ((HS1.out.trans HSk.out).trans HG4.out) (by rw [updV_other _ _ (by simp), HVp.out]) (by rw [HLv.out]; exact sim_pr (sim_yeses hw ws So L HWn.out HSo.out) _ _) (by rw [List.length_append, List.length_map, HLl.out, HWl.out])
end Go.Proofs.Ytaojmbebkggafaa
