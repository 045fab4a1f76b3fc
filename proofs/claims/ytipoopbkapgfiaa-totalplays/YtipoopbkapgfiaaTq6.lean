/- The document's Total, in pieces: a right taking or telling, whole. -/
import Derived.Test.YtipoopbkapgfiaaTq5
namespace Go.Proofs.Ytipoopbkapgfiaa
open Go.RowKit
set_option linter.unusedVariables false

theorem told_some {st : TS} {w m : Nat} {e : En} (h : st.ent w m = some e) : toldB st w m = e.told := by unfold toldB; rw [h]
theorem all_some {n : Nat} {st : TS} {w m : Nat} (h : allB n st m = true) (hw : w < n) : ∃ e, st.ent w m = some e := by
  unfold allB at h
  rw [List.all_eq_true] at h
  have := h w (List.mem_range.2 hw)
  exact Option.isSome_iff_exists.1 this
set_option maxRecDepth 1000000 in
set_option maxHeartbeats 16000000 in
theorem good_take {Q : Exit → Act → World → Prop} {wb : World} {n pl ob Nb Gb Lb bk w m : Nat} {st : TS} {g : Nat → Nat → Nat} {cds : List Int} {h : ZSh} {c1 c2 c3 c4 c9 c10 c13 c14 c15 c16 c17 c18 c19 c20 c21 c22 c23 c24 c25 c26 c27 c28 c29 c30 c31 c32 c33 c34 c35 c36 c37 c38 c39 c40 c41 c42 c43 c44 c45 c46 c47 c48 c49 c50 c51 c52 c53 c54 c55 c56 c57 c58 c59 c60 c61 c62 c63 c64 c65 c66 c67 c68 c69 c70 c71 c72 c73 c74 c75 c76 c77 c78 c79 c80 c81 c82 c83 c84 c85 c86 c87 c88 c89 c90 c91 c92 c93 c94 c95 c96 c97 c98 c99 c100 c101 c102 c103 c104 c105 c106 c107 c108 c109 c110 c111 c112 c113 c114 c115 c116 c117 c118 c119 c120 c121 c122 c123 c124 c125 c126 c127 c128 c129 c130 c131 c132 c133 c134 c135 c136 c137 c138 c139 c140 c141 c142 c143 c144 c145 c146 c147 c148 c149 c150 c151 c152 c153 c154 c155 c156 c157 c158 c159 c160 c161 c162 c163 c164 c165 c166 c167 c168 c169 c170 c171 c172 c173 c174 c175 c176 c177 c178 c179 c180 c181 c182 c183 c184 c185 c186 c187 c188 c189 c190 c191 c192 c193 c194 c195 c196 c197 c198 c199 c200 c201 c202 c203 c204 c205 c206 c207 c208 c209 c210 c211 c212 c213 c214 c215 c216 c217 c218 c219 : Value}
    (hw : w < n) (hms : m < st.sent) (hs : st.sent ≤ pl) (h6 : n ≤ 6) (h120 : pl ≤ 120) (hnum : st.num w ≤ 1000) (hi0 : TInv n st g) (HM : Hid (Zmv wb ob n pl Nb Gb Lb st cds h)) (HO : Hid (∀ i, h.ov i = h.lv i)) (HFr : Hid (¬ h.own ob bk))
    (y0 : wb.cell? ⟨bk, 0, none⟩ = some (.int .i64 2)) (y1 : wb.cell? ⟨bk, 1, none⟩ = some (.int .i64 (w : Int))) (y2 : wb.cell? ⟨bk, 2, none⟩ = some (.int .i64 (m : Int)))
    (hQ : ∀ (z13 z14 z15 z16 z17 z78 z79 z80 z81 z82 z83 z84 z85 z86 z87 z88 z89 z90 z91 z92 z93 z94 z95 z96 z97 z98 z99 z100 z101 z102 z103 z104 z105 z106 z107 z108 z109 z110 z111 z112 z113 z114 z115 z116 z117 z118 z119 z120 z121 z122 z123 z124 z125 z126 z127 z128 z129 z130 z131 z132 z133 z134 z135 z136 z137 z138 z139 z140 z141 z142 z143 z144 z145 z146 z147 z148 z149 z150 z151 z152 z153 z154 z155 z156 z157 z158 z159 z160 z161 z162 z163 z164 z165 z166 z167 z168 z169 z170 z171 z172 z173 z174 z175 z176 z177 z178 z179 z180 z181 z182 z183 z184 z185 z186 z187 z188 z189 z190 z191 z192 z193 z194 z195 z196 z197 z198 z199 z200 z201 z202 z203 z204 z205 z206 z207 z208 z209 z210 z211 : Value) (wx : World) (h1 : ZSh), Zmv wx ob n pl Nb Gb Lb (stepT n st ⟨2, (w : Int), (m : Int)⟩) cds h1 → (∀ i, h1.ov i = h1.lv i) → ZStp ob wb h wx h1 → Q .normal ⟨#[.int .i64 (n : Int), c1, c2, c3, c4, .pointer (some ⟨ob, 0, none⟩), .slice (some ⟨Nb, 0, none⟩) n n, .int .i64 (pl : Int), .slice (some ⟨Gb, 0, none⟩) (n * pl) (n * pl), c9, c10, .pointer (some ⟨bk, 0, none⟩), .int .i64 (codeT n st ⟨2, (w : Int), (m : Int)⟩), z13, z14, z15, z16, z17, c18, c19, c20, c21, c22, c23, c24, c25, c26, c27, c28, c29, c30, c31, c32, c33, c34, c35, c36, c37, c38, c39, c40, c41, c42, c43, c44, c45, c46, c47, c48, c49, c50, c51, c52, c53, c54, c55, c56, c57, c58, c59, c60, c61, c62, c63, c64, c65, c66, c67, c68, c69, c70, c71, c72, c73, c74, c75, c76, c77, z78, z79, z80, z81, z82, z83, z84, z85, z86, z87, z88, z89, z90, z91, z92, z93, z94, z95, z96, z97, z98, z99, z100, z101, z102, z103, z104, z105, z106, z107, z108, z109, z110, z111, z112, z113, z114, z115, z116, z117, z118, z119, z120, z121, z122, z123, z124, z125, z126, z127, z128, z129, z130, z131, z132, z133, z134, z135, z136, z137, z138, z139, z140, z141, z142, z143, z144, z145, z146, z147, z148, z149, z150, z151, z152, z153, z154, z155, z156, z157, z158, z159, z160, z161, z162, z163, z164, z165, z166, z167, z168, z169, z170, z171, z172, z173, z174, z175, z176, z177, z178, z179, z180, z181, z182, z183, z184, z185, z186, z187, z188, z189, z190, z191, z192, z193, z194, z195, z196, z197, z198, z199, z200, z201, z202, z203, z204, z205, z206, z207, z208, z209, z210, z211, c212, c213, c214, c215, c216, c217, c218, c219], []⟩ wx) :
    Code.wp Try.prog goodCode Q ⟨#[.int .i64 (n : Int), c1, c2, c3, c4, .pointer (some ⟨ob, 0, none⟩), .slice (some ⟨Nb, 0, none⟩) n n, .int .i64 (pl : Int), .slice (some ⟨Gb, 0, none⟩) (n * pl) (n * pl), c9, c10, .pointer (some ⟨bk, 0, none⟩), .int .i64 0, c13, c14, c15, c16, c17, c18, c19, c20, c21, c22, c23, c24, c25, c26, c27, c28, c29, c30, c31, c32, c33, c34, c35, c36, c37, c38, c39, c40, c41, c42, c43, c44, c45, c46, c47, c48, c49, c50, c51, c52, c53, c54, c55, c56, c57, c58, c59, c60, c61, c62, c63, c64, c65, c66, c67, c68, c69, c70, c71, c72, c73, c74, c75, c76, c77, c78, c79, c80, c81, c82, c83, c84, c85, c86, c87, c88, c89, c90, c91, c92, c93, c94, c95, c96, c97, c98, c99, c100, c101, c102, c103, c104, c105, c106, c107, c108, c109, c110, c111, c112, c113, c114, c115, c116, c117, c118, c119, c120, c121, c122, c123, c124, c125, c126, c127, c128, c129, c130, c131, c132, c133, c134, c135, c136, c137, c138, c139, c140, c141, c142, c143, c144, c145, c146, c147, c148, c149, c150, c151, c152, c153, c154, c155, c156, c157, c158, c159, c160, c161, c162, c163, c164, c165, c166, c167, c168, c169, c170, c171, c172, c173, c174, c175, c176, c177, c178, c179, c180, c181, c182, c183, c184, c185, c186, c187, c188, c189, c190, c191, c192, c193, c194, c195, c196, c197, c198, c199, c200, c201, c202, c203, c204, c205, c206, c207, c208, c209, c210, c211, c212, c213, c214, c215, c216, c217, c218, c219], []⟩ wb := by
  refine Code.wp_mono onlyN_imp ?_
  have HQ := hidMk hQ
  clear hQ
  have hm : m < pl := by omega
  have hnp : n * pl ≤ 720 := Nat.mul_le_mul h6 h120
  obtain ⟨i1, i2, i3, i4, i5, i6⟩ := idx_facts hw hm hnp
  have hm' : (m : Int) ≤ 120 := by omega
  have hl' : (pl : Int) ≤ 120 := by omega
  have hw6 : (w : Int) ≤ 6 := by omega
  have HY : Hid (wb.cell? ⟨bk, 0, none⟩ = some (.int .i64 2) ∧ wb.cell? ⟨bk, 1, none⟩ = some (.int .i64 (w : Int)) ∧ wb.cell? ⟨bk, 2, none⟩ = some (.int .i64 (m : Int))) := ⟨y0, y1, y2⟩
  have HBl : Hid (bk < wb.heap.size) := World.block_lt_of_cell? _ _ y0
  have HA : Hid (Stil wb (wb.alloc (.cells #[.int .i64 0, .int .i64 0] 45))) := Stil.new _ _
  have HB1 : Hid (keyAt (wb.alloc (.cells #[.int .i64 0, .int .i64 0] 45)) wb.heap.size 0 0) := al_new _ _
  have HQ0 : Hid (¬ h.own ob wb.heap.size) := HM.out.fresh (Nat.le_refl _)
  have HQ1 : Hid (wb.heap.size ≤ wb.heap.size) := Nat.le_refl _
  conv => arg 2; whnf
  refine wp_seq_k (fun K1 hK1 => ?_)
  have HK1 := hidMk hK1
  clear hK1
  go_wp2
  refine HK1.out _ _ ?_
  clear HK1 y0 y1
  refine wp_seq_k (fun K2 hK2 => ?_)
  have HK2 := hidMk hK2
  clear hK2
  go_wp2
  refine HK2.out _ _ ?_
  clear HK2 y2
  generalize wb.alloc (.cells #[.int .i64 0, .int .i64 0] 45) = w1 at *
  obtain ⟨q0, hq0⟩ : ∃ q0, wb.heap.size = q0 := ⟨_, rfl⟩
  rw [hq0] at HB1 HQ0
  have HQ2 : Hid (wb.heap.size = q0) := hq0
  try simp only [hq0]
  clear hq0 HQ1
  refine wp_seq_k (fun K3 hK3 => ?_)
  have HK3 := hidMk hK3
  clear hK3
  go_wp2
  refine HK3.out _ _ ?_
  clear HK3
  refine wp_seq_k (fun K4 hK4 => ?_)
  have HM1 := hidMk (HM.out.still HA.out)
  have HG1 : Hid (∀ p, p < n → ∀ f, f < 5 → w1.cell? ⟨Gb, (p * pl + m) * 5 + f, none⟩ = some (gv (st.ent p m) f)) := fun p hp f hf => (HM1.out.got hp hm hf).1
  have HGb : Hid (Gb ≠ q0) := fun e => HQ0.out (.inl (by rw [← e]; have h9 := (HM.out.pool.cells (τ := .gt) (s := _) rfl rfl).1; rw [h9]; simp))
  have HBq : Hid (bk ≠ q0) := fun e => by have := HBl.out; have := HQ2.out; omega
  refine search_walk hm hnp h6 h120 HG1 (HA.out.cell HY.out.2.2) HB1.out HGb HBq ?_
  intro z16 z17 z88 z89 z90 z91 z92 z93 z94 z95 z96 z97 z98 z99 z100 z101 z102 z103 z104 z105 z106 z107 z108 z109 z110 z111 z112 z113 z114 z115 z116 w2 hky hke
  refine hK4 _ _ ?_
  clear hK4
  have HKy := hidMk hky
  have HSt : Hid (Stil wb w2) := hidMk (HA.out.trans hke (fun _ _ e => e.elim) (fun g hg e => by have e2 : g = q0 := e; have := HQ2.out; omega))
  have HM2 := hidMk (HM.out.still HSt.out)
  have HS2 := hidMk (ZStp.of_still ob h HSt.out)
  have y0 := HSt.out.cell HY.out.1
  have y1 := HSt.out.cell HY.out.2.1
  obtain ⟨k2, _⟩ := HM2.out.got hw hm (f := 2) (by omega)
  obtain ⟨k3, _⟩ := HM2.out.got hw hm (f := 3) (by omega)
  clear HA HB1 HM1 HG1 HY hky hke i1 i2 i3 i4 i5 i6
  have hinw : inP n (w : Int) = true := by simp [inP]; omega
  have hinm : inP st.sent (m : Int) = true := by simp [inP]; omega
  cases hent : st.ent w m with
  | some e =>
    rw [hent] at k2 k3
    have hEc : codeT n st ⟨2, (w : Int), (m : Int)⟩ = 6 := by
      unfold codeT
      rw [if_neg (by simp), if_neg (by rw [hinw]; simp), if_neg (by simp), if_neg (by rw [hinm]; simp), if_pos rfl]
      rw [if_pos (by simp [hent])]
    have hEs : stepT n st ⟨2, (w : Int), (m : Int)⟩ = st := by unfold stepT; rw [if_neg (by rw [hEc]; simp)]
    obtain ⟨en, ep, et, eh⟩ := e
    replace k2 : w2.cell? ⟨Gb, (w * pl + m) * 5 + 2, none⟩ = some (.bool true) := k2
    replace k3 : w2.cell? ⟨Gb, (w * pl + m) * 5 + 3, none⟩ = some (.bool et) := k3
    rw [hEc, hEs] at HQ
    refine wp_seq_k (fun K5 hK5 => ?_)
    have HK5 := hidMk hK5
    clear hK5
    go_wp2
    refine HK5.out _ _ ?_
    refine wp_cond_true rfl ?_
    clear y0 y1 k2 k3 hEc hEs
    go_wp2
    exact HQ.out _ _ _ _ _ _ _ _ _ _ _ _ _ _ _ _ _ _ _ _ _ _ _ _ _ _ _ _ _ _ _ _ _ _ _ _ _ _ _ _ _ _ _ _ _ _ _ _ _ _ _ _ _ _ _ _ _ _ _ _ _ _ _ _ _ _ _ _ _ _ _ _ _ _ _ _ _ _ _ _ _ _ _ _ _ _ _ _ _ _ _ _ _ _ _ _ _ _ _ _ _ _ _ _ _ _ _ _ _ _ _ _ _ _ _ _ _ _ _ _ _ _ _ _ _ _ _ _ _ _ _ _ _ _ _ _ _ _ _ _ h HM2.out HO.out HS2.out
  | none =>
    rw [hent] at k2 k3
    have hEc : codeT n st ⟨2, (w : Int), (m : Int)⟩ = 0 := by
      unfold codeT
      rw [if_neg (by simp), if_neg (by rw [hinw]; simp), if_neg (by simp), if_neg (by rw [hinm]; simp), if_pos rfl]
      rw [if_neg (by simp [hent])]
    have hEs : stepT n st ⟨2, (w : Int), (m : Int)⟩ = takeT st w m := by
      unfold stepT
      rw [if_pos hEc]
      unfold doT
      rw [if_neg (by simp), if_pos rfl]
      simp
    rw [hEc, hEs] at HQ
    replace k2 : w2.cell? ⟨Gb, (w * pl + m) * 5 + 2, none⟩ = some (.bool false) := k2
    replace k3 : w2.cell? ⟨Gb, (w * pl + m) * 5 + 3, none⟩ = some (.bool false) := k3
    refine wp_seq_k (fun K5 hK5 => ?_)
    have HK5 := hidMk hK5
    clear hK5
    go_wp2
    refine HK5.out _ _ ?_
    refine wp_cond_false rfl ?_
    refine wp_seq_k (fun K6 hK6 => ?_)
    have HK6 := hidMk hK6
    clear hK6
    go_wp2
    refine HK6.out _ _ ?_
    refine wp_cond_true rfl ?_
    refine take_walk hw hm h6 h120 hnum HM2 y1 HFr hent ?_
    intro z144 z145 z146 z147 z148 z149 z150 z151 z152 z153 z154 z155 z156 z157 z158 z159 z160 z161 z162 z163 z164 z165 z166 z167 wx m1 s1
    exact HQ.out _ _ _ _ _ _ _ _ _ _ _ _ _ _ _ _ _ _ _ _ _ _ _ _ _ _ _ _ _ _ _ _ _ _ _ _ _ _ _ _ _ _ _ _ _ _ _ _ _ _ _ _ _ _ _ _ _ _ _ _ _ _ _ _ _ _ _ _ _ _ _ _ _ _ _ _ _ _ _ _ _ _ _ _ _ _ _ _ _ _ _ _ _ _ _ _ _ _ _ _ _ _ _ _ _ _ _ _ _ _ _ _ _ _ _ _ _ _ _ _ _ _ _ _ _ _ _ _ _ _ _ _ _ _ _ _ _ _ _ _ h m1 HO.out (HS2.out.trans s1)
set_option maxRecDepth 1000000 in
set_option maxHeartbeats 16000000 in
theorem good_tell {Q : Exit → Act → World → Prop} {wb : World} {n pl ob Nb Gb Lb bk w m : Nat} {st : TS} {g : Nat → Nat → Nat} {cds : List Int} {h : ZSh} {c1 c2 c3 c4 c9 c10 c13 c14 c15 c16 c17 c18 c19 c20 c21 c22 c23 c24 c25 c26 c27 c28 c29 c30 c31 c32 c33 c34 c35 c36 c37 c38 c39 c40 c41 c42 c43 c44 c45 c46 c47 c48 c49 c50 c51 c52 c53 c54 c55 c56 c57 c58 c59 c60 c61 c62 c63 c64 c65 c66 c67 c68 c69 c70 c71 c72 c73 c74 c75 c76 c77 c78 c79 c80 c81 c82 c83 c84 c85 c86 c87 c88 c89 c90 c91 c92 c93 c94 c95 c96 c97 c98 c99 c100 c101 c102 c103 c104 c105 c106 c107 c108 c109 c110 c111 c112 c113 c114 c115 c116 c117 c118 c119 c120 c121 c122 c123 c124 c125 c126 c127 c128 c129 c130 c131 c132 c133 c134 c135 c136 c137 c138 c139 c140 c141 c142 c143 c144 c145 c146 c147 c148 c149 c150 c151 c152 c153 c154 c155 c156 c157 c158 c159 c160 c161 c162 c163 c164 c165 c166 c167 c168 c169 c170 c171 c172 c173 c174 c175 c176 c177 c178 c179 c180 c181 c182 c183 c184 c185 c186 c187 c188 c189 c190 c191 c192 c193 c194 c195 c196 c197 c198 c199 c200 c201 c202 c203 c204 c205 c206 c207 c208 c209 c210 c211 c212 c213 c214 c215 c216 c217 c218 c219 : Value}
    (hw : w < n) (hms : m < st.sent) (hs : st.sent ≤ pl) (h6 : n ≤ 6) (h120 : pl ≤ 120) (hnum : st.num w ≤ 1000) (hi0 : TInv n st g) (HM : Hid (Zmv wb ob n pl Nb Gb Lb st cds h)) (HO : Hid (∀ i, h.ov i = h.lv i)) (HFr : Hid (¬ h.own ob bk))
    (y0 : wb.cell? ⟨bk, 0, none⟩ = some (.int .i64 3)) (y1 : wb.cell? ⟨bk, 1, none⟩ = some (.int .i64 (w : Int))) (y2 : wb.cell? ⟨bk, 2, none⟩ = some (.int .i64 (m : Int)))
    (hQ : ∀ (z13 z14 z15 z16 z17 z78 z79 z80 z81 z82 z83 z84 z85 z86 z87 z88 z89 z90 z91 z92 z93 z94 z95 z96 z97 z98 z99 z100 z101 z102 z103 z104 z105 z106 z107 z108 z109 z110 z111 z112 z113 z114 z115 z116 z117 z118 z119 z120 z121 z122 z123 z124 z125 z126 z127 z128 z129 z130 z131 z132 z133 z134 z135 z136 z137 z138 z139 z140 z141 z142 z143 z144 z145 z146 z147 z148 z149 z150 z151 z152 z153 z154 z155 z156 z157 z158 z159 z160 z161 z162 z163 z164 z165 z166 z167 z168 z169 z170 z171 z172 z173 z174 z175 z176 z177 z178 z179 z180 z181 z182 z183 z184 z185 z186 z187 z188 z189 z190 z191 z192 z193 z194 z195 z196 z197 z198 z199 z200 z201 z202 z203 z204 z205 z206 z207 z208 z209 z210 z211 : Value) (wx : World) (h1 : ZSh), Zmv wx ob n pl Nb Gb Lb (stepT n st ⟨3, (w : Int), (m : Int)⟩) cds h1 → (∀ i, h1.ov i = h1.lv i) → ZStp ob wb h wx h1 → Q .normal ⟨#[.int .i64 (n : Int), c1, c2, c3, c4, .pointer (some ⟨ob, 0, none⟩), .slice (some ⟨Nb, 0, none⟩) n n, .int .i64 (pl : Int), .slice (some ⟨Gb, 0, none⟩) (n * pl) (n * pl), c9, c10, .pointer (some ⟨bk, 0, none⟩), .int .i64 (codeT n st ⟨3, (w : Int), (m : Int)⟩), z13, z14, z15, z16, z17, c18, c19, c20, c21, c22, c23, c24, c25, c26, c27, c28, c29, c30, c31, c32, c33, c34, c35, c36, c37, c38, c39, c40, c41, c42, c43, c44, c45, c46, c47, c48, c49, c50, c51, c52, c53, c54, c55, c56, c57, c58, c59, c60, c61, c62, c63, c64, c65, c66, c67, c68, c69, c70, c71, c72, c73, c74, c75, c76, c77, z78, z79, z80, z81, z82, z83, z84, z85, z86, z87, z88, z89, z90, z91, z92, z93, z94, z95, z96, z97, z98, z99, z100, z101, z102, z103, z104, z105, z106, z107, z108, z109, z110, z111, z112, z113, z114, z115, z116, z117, z118, z119, z120, z121, z122, z123, z124, z125, z126, z127, z128, z129, z130, z131, z132, z133, z134, z135, z136, z137, z138, z139, z140, z141, z142, z143, z144, z145, z146, z147, z148, z149, z150, z151, z152, z153, z154, z155, z156, z157, z158, z159, z160, z161, z162, z163, z164, z165, z166, z167, z168, z169, z170, z171, z172, z173, z174, z175, z176, z177, z178, z179, z180, z181, z182, z183, z184, z185, z186, z187, z188, z189, z190, z191, z192, z193, z194, z195, z196, z197, z198, z199, z200, z201, z202, z203, z204, z205, z206, z207, z208, z209, z210, z211, c212, c213, c214, c215, c216, c217, c218, c219], []⟩ wx) :
    Code.wp Try.prog goodCode Q ⟨#[.int .i64 (n : Int), c1, c2, c3, c4, .pointer (some ⟨ob, 0, none⟩), .slice (some ⟨Nb, 0, none⟩) n n, .int .i64 (pl : Int), .slice (some ⟨Gb, 0, none⟩) (n * pl) (n * pl), c9, c10, .pointer (some ⟨bk, 0, none⟩), .int .i64 0, c13, c14, c15, c16, c17, c18, c19, c20, c21, c22, c23, c24, c25, c26, c27, c28, c29, c30, c31, c32, c33, c34, c35, c36, c37, c38, c39, c40, c41, c42, c43, c44, c45, c46, c47, c48, c49, c50, c51, c52, c53, c54, c55, c56, c57, c58, c59, c60, c61, c62, c63, c64, c65, c66, c67, c68, c69, c70, c71, c72, c73, c74, c75, c76, c77, c78, c79, c80, c81, c82, c83, c84, c85, c86, c87, c88, c89, c90, c91, c92, c93, c94, c95, c96, c97, c98, c99, c100, c101, c102, c103, c104, c105, c106, c107, c108, c109, c110, c111, c112, c113, c114, c115, c116, c117, c118, c119, c120, c121, c122, c123, c124, c125, c126, c127, c128, c129, c130, c131, c132, c133, c134, c135, c136, c137, c138, c139, c140, c141, c142, c143, c144, c145, c146, c147, c148, c149, c150, c151, c152, c153, c154, c155, c156, c157, c158, c159, c160, c161, c162, c163, c164, c165, c166, c167, c168, c169, c170, c171, c172, c173, c174, c175, c176, c177, c178, c179, c180, c181, c182, c183, c184, c185, c186, c187, c188, c189, c190, c191, c192, c193, c194, c195, c196, c197, c198, c199, c200, c201, c202, c203, c204, c205, c206, c207, c208, c209, c210, c211, c212, c213, c214, c215, c216, c217, c218, c219], []⟩ wb := by
  refine Code.wp_mono onlyN_imp ?_
  have HQ := hidMk hQ
  clear hQ
  have hm : m < pl := by omega
  have hnp : n * pl ≤ 720 := Nat.mul_le_mul h6 h120
  obtain ⟨i1, i2, i3, i4, i5, i6⟩ := idx_facts hw hm hnp
  have hm' : (m : Int) ≤ 120 := by omega
  have hl' : (pl : Int) ≤ 120 := by omega
  have hw6 : (w : Int) ≤ 6 := by omega
  have HY : Hid (wb.cell? ⟨bk, 0, none⟩ = some (.int .i64 3) ∧ wb.cell? ⟨bk, 1, none⟩ = some (.int .i64 (w : Int)) ∧ wb.cell? ⟨bk, 2, none⟩ = some (.int .i64 (m : Int))) := ⟨y0, y1, y2⟩
  have HBl : Hid (bk < wb.heap.size) := World.block_lt_of_cell? _ _ y0
  have HA : Hid (Stil wb (wb.alloc (.cells #[.int .i64 0, .int .i64 0] 45))) := Stil.new _ _
  have HB1 : Hid (keyAt (wb.alloc (.cells #[.int .i64 0, .int .i64 0] 45)) wb.heap.size 0 0) := al_new _ _
  have HQ0 : Hid (¬ h.own ob wb.heap.size) := HM.out.fresh (Nat.le_refl _)
  have HQ1 : Hid (wb.heap.size ≤ wb.heap.size) := Nat.le_refl _
  conv => arg 2; whnf
  refine wp_seq_k (fun K1 hK1 => ?_)
  have HK1 := hidMk hK1
  clear hK1
  go_wp2
  refine HK1.out _ _ ?_
  clear HK1 y0 y1
  refine wp_seq_k (fun K2 hK2 => ?_)
  have HK2 := hidMk hK2
  clear hK2
  go_wp2
  refine HK2.out _ _ ?_
  clear HK2 y2
  generalize wb.alloc (.cells #[.int .i64 0, .int .i64 0] 45) = w1 at *
  obtain ⟨q0, hq0⟩ : ∃ q0, wb.heap.size = q0 := ⟨_, rfl⟩
  rw [hq0] at HB1 HQ0
  have HQ2 : Hid (wb.heap.size = q0) := hq0
  try simp only [hq0]
  clear hq0 HQ1
  refine wp_seq_k (fun K3 hK3 => ?_)
  have HK3 := hidMk hK3
  clear hK3
  go_wp2
  refine HK3.out _ _ ?_
  clear HK3
  refine wp_seq_k (fun K4 hK4 => ?_)
  have HM1 := hidMk (HM.out.still HA.out)
  have HG1 : Hid (∀ p, p < n → ∀ f, f < 5 → w1.cell? ⟨Gb, (p * pl + m) * 5 + f, none⟩ = some (gv (st.ent p m) f)) := fun p hp f hf => (HM1.out.got hp hm hf).1
  have HGb : Hid (Gb ≠ q0) := fun e => HQ0.out (.inl (by rw [← e]; have h9 := (HM.out.pool.cells (τ := .gt) (s := _) rfl rfl).1; rw [h9]; simp))
  have HBq : Hid (bk ≠ q0) := fun e => by have := HBl.out; have := HQ2.out; omega
  refine search_walk hm hnp h6 h120 HG1 (HA.out.cell HY.out.2.2) HB1.out HGb HBq ?_
  intro z16 z17 z88 z89 z90 z91 z92 z93 z94 z95 z96 z97 z98 z99 z100 z101 z102 z103 z104 z105 z106 z107 z108 z109 z110 z111 z112 z113 z114 z115 z116 w2 hky hke
  refine hK4 _ _ ?_
  clear hK4
  have HKy := hidMk hky
  have HSt : Hid (Stil wb w2) := hidMk (HA.out.trans hke (fun _ _ e => e.elim) (fun g hg e => by have e2 : g = q0 := e; have := HQ2.out; omega))
  have HM2 := hidMk (HM.out.still HSt.out)
  have HS2 := hidMk (ZStp.of_still ob h HSt.out)
  have y0 := HSt.out.cell HY.out.1
  have y1 := HSt.out.cell HY.out.2.1
  obtain ⟨k2, _⟩ := HM2.out.got hw hm (f := 2) (by omega)
  obtain ⟨k3, _⟩ := HM2.out.got hw hm (f := 3) (by omega)
  clear HA HB1 HM1 HG1 HY hky hke i1 i2 i3 i4 i5 i6
  have hinw : inP n (w : Int) = true := by simp [inP]; omega
  have hinm : inP st.sent (m : Int) = true := by simp [inP]; omega
  cases hall : allB n st m with
  | false =>
    have hEc : codeT n st ⟨3, (w : Int), (m : Int)⟩ = 6 := by
      unfold codeT
      rw [if_neg (by simp), if_neg (by rw [hinw]; simp), if_neg (by simp), if_neg (by rw [hinm]; simp), if_neg (by simp)]
      rw [if_pos (.inr (by simpa using hall))]
    have hEs : stepT n st ⟨3, (w : Int), (m : Int)⟩ = st := by unfold stepT; rw [if_neg (by rw [hEc]; simp)]
    try rw [hall]
    rw [hEc, hEs] at HQ
    refine wp_seq_k (fun K5 hK5 => ?_)
    have HK5 := hidMk hK5
    clear hK5
    go_wp2
    refine HK5.out _ _ ?_
    refine wp_cond_true rfl ?_
    clear y0 y1 k2 k3 hEc hEs
    go_wp2
    exact HQ.out _ _ _ _ _ _ _ _ _ _ _ _ _ _ _ _ _ _ _ _ _ _ _ _ _ _ _ _ _ _ _ _ _ _ _ _ _ _ _ _ _ _ _ _ _ _ _ _ _ _ _ _ _ _ _ _ _ _ _ _ _ _ _ _ _ _ _ _ _ _ _ _ _ _ _ _ _ _ _ _ _ _ _ _ _ _ _ _ _ _ _ _ _ _ _ _ _ _ _ _ _ _ _ _ _ _ _ _ _ _ _ _ _ _ _ _ _ _ _ _ _ _ _ _ _ _ _ _ _ _ _ _ _ _ _ _ _ _ _ _ h HM2.out HO.out HS2.out
  | true =>
    obtain ⟨e, hent⟩ := all_some hall hw
    have htb := told_some hent
    obtain ⟨en, ep, et, eh⟩ := e
    rw [hent] at k2 k3
    replace k2 : w2.cell? ⟨Gb, (w * pl + m) * 5 + 2, none⟩ = some (.bool true) := k2
    replace k3 : w2.cell? ⟨Gb, (w * pl + m) * 5 + 3, none⟩ = some (.bool et) := k3
    simp only at htb
    cases et with
    | true =>
      have hEc : codeT n st ⟨3, (w : Int), (m : Int)⟩ = 6 := by
        unfold codeT
        rw [if_neg (by simp), if_neg (by rw [hinw]; simp), if_neg (by simp), if_neg (by rw [hinm]; simp), if_neg (by simp)]
        rw [if_pos (.inl (by simpa using htb))]
      have hEs : stepT n st ⟨3, (w : Int), (m : Int)⟩ = st := by unfold stepT; rw [if_neg (by rw [hEc]; simp)]
      rw [hEc, hEs] at HQ
      refine wp_seq_k (fun K5 hK5 => ?_)
      have HK5 := hidMk hK5
      clear hK5
      go_wp2
      refine HK5.out _ _ ?_
      refine wp_cond_true rfl ?_
      clear y0 y1 k2 k3 hEc hEs
      go_wp2
      exact HQ.out _ _ _ _ _ _ _ _ _ _ _ _ _ _ _ _ _ _ _ _ _ _ _ _ _ _ _ _ _ _ _ _ _ _ _ _ _ _ _ _ _ _ _ _ _ _ _ _ _ _ _ _ _ _ _ _ _ _ _ _ _ _ _ _ _ _ _ _ _ _ _ _ _ _ _ _ _ _ _ _ _ _ _ _ _ _ _ _ _ _ _ _ _ _ _ _ _ _ _ _ _ _ _ _ _ _ _ _ _ _ _ _ _ _ _ _ _ _ _ _ _ _ _ _ _ _ _ _ _ _ _ _ _ _ _ _ _ _ _ _ h HM2.out HO.out HS2.out
    | false =>
      have hEc : codeT n st ⟨3, (w : Int), (m : Int)⟩ = 0 := by
        unfold codeT
        rw [if_neg (by simp), if_neg (by rw [hinw]; simp), if_neg (by simp), if_neg (by rw [hinm]; simp), if_neg (by simp)]
        rw [if_neg (by simp [htb, hall])]
      have hEs : stepT n st ⟨3, (w : Int), (m : Int)⟩ = hearN (tellT n st w m) w st.sent := by
        unfold stepT
        rw [if_pos hEc]
        unfold doT
        rw [if_neg (by simp), if_neg (by simp)]
        simp
      rw [hEc, hEs] at HQ
      obtain rfl : eh = false := (hi0.un w m _ hent rfl).2.2
      refine wp_seq_k (fun K5 hK5 => ?_)
      have HK5 := hidMk hK5
      clear hK5
      go_wp2
      refine HK5.out _ _ ?_
      refine wp_cond_false rfl ?_
      refine wp_seq_k (fun K6 hK6 => ?_)
      have HK6 := hidMk hK6
      clear hK6
      go_wp2
      refine HK6.out _ _ ?_
      refine wp_cond_false rfl ?_
      refine tell_walk hw hm (by omega) h6 h120 hi0 hs HM2 HO y1 HFr hent hall htb HKy.out HQ0 ?_
      intro z168 z169 z170 z171 z172 z173 z174 z175 z176 z177 z178 z179 z180 z181 z182 z183 z184 z185 z186 z187 z188 z189 z190 z191 z192 z193 z194 z195 z196 z197 z198 z199 z200 z201 z202 z203 z204 z205 z206 z207 z208 z209 z210 z211 wx h1 m1 o1 s1
      exact HQ.out _ _ _ _ _ _ _ _ _ _ _ _ _ _ _ _ _ _ _ _ _ _ _ _ _ _ _ _ _ _ _ _ _ _ _ _ _ _ _ _ _ _ _ _ _ _ _ _ _ _ _ _ _ _ _ _ _ _ _ _ _ _ _ _ _ _ _ _ _ _ _ _ _ _ _ _ _ _ _ _ _ _ _ _ _ _ _ _ _ _ _ _ _ _ _ _ _ _ _ _ _ _ _ _ _ _ _ _ _ _ _ _ _ _ _ _ _ _ _ _ _ _ _ _ _ _ _ _ _ _ _ _ _ _ _ _ _ _ _ _ h1 m1 o1 (HS2.out.trans s1)
end Go.Proofs.Ytipoopbkapgfiaa
