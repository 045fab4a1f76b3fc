/- The document's Total, in pieces: a right telling. -/
import Derived.Test.YtipoopbkapgfiaaTq4
namespace Go.Proofs.Ytipoopbkapgfiaa
open Go.RowKit
set_option linter.unusedVariables false

set_option maxRecDepth 1000000 in
set_option maxHeartbeats 16000000 in
theorem tell_walk {Q : Exit → Act → World → Prop} {wb : World} {n pl ob Nb Gb Lb bk q0 w m en ep : Nat} {st : TS} {g : Nat → Nat → Nat} {cds : List Int} {h : ZSh} {c1 c2 c3 c4 c9 c10 c12 c15 c16 c17 c18 c19 c20 c21 c22 c23 c24 c25 c26 c27 c28 c29 c30 c31 c32 c33 c34 c35 c36 c37 c38 c39 c40 c41 c42 c43 c44 c45 c46 c47 c48 c49 c50 c51 c52 c53 c54 c55 c56 c57 c58 c59 c60 c61 c62 c63 c64 c65 c66 c67 c68 c69 c70 c71 c72 c73 c74 c75 c76 c77 c78 c79 c80 c81 c82 c83 c84 c85 c86 c87 c88 c89 c90 c91 c92 c93 c94 c95 c96 c97 c98 c99 c100 c101 c102 c103 c104 c105 c106 c107 c108 c109 c110 c111 c112 c113 c114 c115 c116 c117 c118 c119 c120 c121 c122 c123 c124 c125 c126 c127 c128 c129 c130 c131 c132 c133 c134 c135 c136 c137 c138 c139 c140 c141 c142 c143 c144 c145 c146 c147 c148 c149 c150 c151 c152 c153 c154 c155 c156 c157 c158 c159 c160 c161 c162 c163 c164 c165 c166 c167 c168 c169 c170 c171 c172 c173 c174 c175 c176 c177 c178 c179 c180 c181 c182 c183 c184 c185 c186 c187 c188 c189 c190 c191 c192 c193 c194 c195 c196 c197 c198 c199 c200 c201 c202 c203 c204 c205 c206 c207 c208 c209 c210 c211 c212 c213 c214 c215 c216 c217 c218 c219 : Value}
    (hw : w < n) (hm : m < pl) (h0 : 0 < pl) (h6 : n ≤ 6) (h120 : pl ≤ 120) (hi0 : TInv n st g) (hs : st.sent ≤ pl) (HM : Hid (Zmv wb ob n pl Nb Gb Lb st cds h)) (HO : Hid (∀ i, h.ov i = h.lv i)) (b1 : wb.cell? ⟨bk, 1, none⟩ = some (.int .i64 (w : Int))) (HFr : Hid (¬ h.own ob bk))
    (hent : st.ent w m = some ⟨en, ep, false, false⟩) (hall : allB n st m = true) (htold : toldB st w m = false) (hb : keyAt wb q0 (finTo st m n).1 (finTo st m n).2) (HFq : Hid (¬ h.own ob q0))
    (hQ : ∀ (z168 z169 z170 z171 z172 z173 z174 z175 z176 z177 z178 z179 z180 z181 z182 z183 z184 z185 z186 z187 z188 z189 z190 z191 z192 z193 z194 z195 z196 z197 z198 z199 z200 z201 z202 z203 z204 z205 z206 z207 z208 z209 z210 z211 : Value) (wx : World) (h1 : ZSh), Zmv wx ob n pl Nb Gb Lb (hearN (tellT n st w m) w st.sent) cds h1 → (∀ i, h1.ov i = h1.lv i) → ZStp ob wb h wx h1 → Q .normal ⟨#[.int .i64 (n : Int), c1, c2, c3, c4, .pointer (some ⟨ob, 0, none⟩), .slice (some ⟨Nb, 0, none⟩) n n, .int .i64 (pl : Int), .slice (some ⟨Gb, 0, none⟩) (n * pl) (n * pl), c9, c10, .pointer (some ⟨bk, 0, none⟩), c12, .pointer (some ⟨Gb, (w * pl + m) * 5, none⟩), .pointer (some ⟨q0, 0, none⟩), c15, c16, c17, c18, c19, c20, c21, c22, c23, c24, c25, c26, c27, c28, c29, c30, c31, c32, c33, c34, c35, c36, c37, c38, c39, c40, c41, c42, c43, c44, c45, c46, c47, c48, c49, c50, c51, c52, c53, c54, c55, c56, c57, c58, c59, c60, c61, c62, c63, c64, c65, c66, c67, c68, c69, c70, c71, c72, c73, c74, c75, c76, c77, c78, c79, c80, c81, c82, c83, c84, c85, c86, c87, c88, c89, c90, c91, c92, c93, c94, c95, c96, c97, c98, c99, c100, c101, c102, c103, c104, c105, c106, c107, c108, c109, c110, c111, c112, c113, c114, c115, c116, c117, c118, c119, c120, c121, c122, c123, c124, c125, c126, c127, c128, c129, c130, c131, c132, c133, c134, c135, c136, c137, c138, c139, c140, c141, c142, c143, c144, c145, c146, c147, c148, c149, c150, c151, c152, c153, c154, c155, c156, c157, c158, c159, c160, c161, c162, c163, c164, c165, c166, c167, z168, z169, z170, z171, z172, z173, z174, z175, z176, z177, z178, z179, z180, z181, z182, z183, z184, z185, z186, z187, z188, z189, z190, z191, z192, z193, z194, z195, z196, z197, z198, z199, z200, z201, z202, z203, z204, z205, z206, z207, z208, z209, z210, z211, c212, c213, c214, c215, c216, c217, c218, c219], []⟩ wx) :
    Code.wp Try.prog tellCode Q ⟨#[.int .i64 (n : Int), c1, c2, c3, c4, .pointer (some ⟨ob, 0, none⟩), .slice (some ⟨Nb, 0, none⟩) n n, .int .i64 (pl : Int), .slice (some ⟨Gb, 0, none⟩) (n * pl) (n * pl), c9, c10, .pointer (some ⟨bk, 0, none⟩), c12, .pointer (some ⟨Gb, (w * pl + m) * 5, none⟩), .pointer (some ⟨q0, 0, none⟩), c15, c16, c17, c18, c19, c20, c21, c22, c23, c24, c25, c26, c27, c28, c29, c30, c31, c32, c33, c34, c35, c36, c37, c38, c39, c40, c41, c42, c43, c44, c45, c46, c47, c48, c49, c50, c51, c52, c53, c54, c55, c56, c57, c58, c59, c60, c61, c62, c63, c64, c65, c66, c67, c68, c69, c70, c71, c72, c73, c74, c75, c76, c77, c78, c79, c80, c81, c82, c83, c84, c85, c86, c87, c88, c89, c90, c91, c92, c93, c94, c95, c96, c97, c98, c99, c100, c101, c102, c103, c104, c105, c106, c107, c108, c109, c110, c111, c112, c113, c114, c115, c116, c117, c118, c119, c120, c121, c122, c123, c124, c125, c126, c127, c128, c129, c130, c131, c132, c133, c134, c135, c136, c137, c138, c139, c140, c141, c142, c143, c144, c145, c146, c147, c148, c149, c150, c151, c152, c153, c154, c155, c156, c157, c158, c159, c160, c161, c162, c163, c164, c165, c166, c167, c168, c169, c170, c171, c172, c173, c174, c175, c176, c177, c178, c179, c180, c181, c182, c183, c184, c185, c186, c187, c188, c189, c190, c191, c192, c193, c194, c195, c196, c197, c198, c199, c200, c201, c202, c203, c204, c205, c206, c207, c208, c209, c210, c211, c212, c213, c214, c215, c216, c217, c218, c219], []⟩ wb := by
  refine Code.wp_mono onlyN_imp ?_
  have HQ := hidMk hQ
  clear hQ
  have hw' : (w : Int) < (n : Int) := by omega
  have hn6 : (n : Int) ≤ 6 := by omega
  have HB1 := hidMk b1
  have HBl : Hid (bk < wb.heap.size) := World.block_lt_of_cell? _ _ b1
  have HQB := hidMk hb
  have HE := hidMk hent
  have HT := hidMk (ent_tell n st w m)
  have HI2 := hidMk (inv_tell hi0 (by omega) hw hall htold)
  have HSn : Hid ((tellT n st w m).sent ≤ pl) := hs
  obtain ⟨fa, fb, hfi⟩ : ∃ fa fb, finTo st m n = (fa, fb) := ⟨_, _, rfl⟩
  have HTl : Hid (tellT n st w m = ⟨st.sent, upd1 st.num w (max (st.num w) fa), upd2 st.ent w m (some ⟨fa, fb, true, false⟩), st.ls⟩) := by
    show _ = _
    unfold tellT
    rw [hfi]
  have HFi := hidMk hfi
  rw [hfi] at hb
  simp only at hb
  have q1 := cell_isT (j := 0) hb rfl
  have q2 := cell_isT (j := 1) hb rfl
  obtain ⟨k0, f0⟩ := HM.out.got hw hm (f := 0) (by omega)
  obtain ⟨k1, f1⟩ := HM.out.got hw hm (f := 1) (by omega)
  rw [Nat.add_zero] at k0 f0
  rw [hent] at k0 k1
  have HS1 : Hid (Zmv ((wb.setCell ⟨Gb, (w * pl + m) * 5, none⟩ (.int .i64 (fa : Int))).setCell ⟨Gb, (w * pl + m) * 5 + 1, none⟩ (.int .i64 (fb : Int))) ob n pl Nb Gb Lb { st with ent := upd2 st.ent w m (some ⟨fa, fb, false, false⟩) } cds h ∧ ZStp ob wb h ((wb.setCell ⟨Gb, (w * pl + m) * 5, none⟩ (.int .i64 (fa : Int))).setCell ⟨Gb, (w * pl + m) * 5 + 1, none⟩ (.int .i64 (fb : Int))) h) := by
    have p1 := HM.out.setGot hw hm (f := 0) (by omega) ⟨fa, ep, false, false⟩ (.int .i64 (fa : Int)) rfl (fun f2 h5 hne => by
      show gv _ f2 = gv (st.ent w m) f2
      rw [HE.out]
      match f2, hne with
      | 1, _ => rfl
      | 2, _ => rfl
      | 3, _ => rfl
      | 4, _ => rfl
      | 0, h => exact absurd rfl h
      | f + 5, _ => omega)
    have p2 := p1.1.setGot hw hm (f := 1) (by omega) ⟨fa, fb, false, false⟩ (.int .i64 (fb : Int)) rfl (fun f2 h5 hne => by
      show gv _ f2 = gv (upd2 st.ent w m (some ⟨fa, ep, false, false⟩) w m) f2
      rw [upd2_same']
      match f2, hne with
      | 0, _ => rfl
      | 2, _ => rfl
      | 3, _ => rfl
      | 4, _ => rfl
      | 1, h => exact absurd rfl h
      | f + 5, _ => omega)
    simp only [Nat.add_zero] at p1 p2
    have h9 := p2.1
    simp only [upd2_upd] at h9
    exact ⟨h9, p1.2.trans p2.2⟩
  clear b1 hb hent hall htold hi0 hs hfi
  conv => arg 2; whnf
  refine wp_seq_k (fun K1 hK1 => ?_)
  have HK1 := hidMk hK1
  clear hK1
  go_wp2
  refine HK1.out _ _ ?_
  clear q1 q2 k0 f0 k1 f1 HK1
  have HM1 := hidMk HS1.out.1
  have HP1 := hidMk HS1.out.2
  clear HS1
  generalize (wb.setCell ⟨Gb, (w * pl + m) * 5, none⟩ (.int .i64 (fa : Int))).setCell ⟨Gb, (w * pl + m) * 5 + 1, none⟩ (.int .i64 (fb : Int)) = w1 at *
  obtain ⟨k3, f3⟩ := HM1.out.got hw hm (f := 3) (by omega)
  have HG := hidMk (HM1.out.setGot hw hm (f := 3) (by omega) ⟨fa, fb, true, false⟩ (.bool true) rfl (fun f2 h5 hne => by
    show gv _ f2 = gv (upd2 st.ent w m (some ⟨fa, fb, false, false⟩) w m) f2
    rw [upd2_same']
    match f2, hne with
    | 0, _ => rfl
    | 1, _ => rfl
    | 2, _ => rfl
    | 4, _ => rfl
    | 3, h => exact absurd rfl h
    | f + 5, _ => omega))
  refine wp_seq_k (fun K2 hK2 => ?_)
  have HK2 := hidMk hK2
  clear hK2
  go_wp2
  refine HK2.out _ _ ?_
  clear HK2 k3 f3
  have HM2 : Hid (Zmv (w1.setCell ⟨Gb, (w * pl + m) * 5 + 3, none⟩ (.bool true)) ob n pl Nb Gb Lb { st with ent := upd2 st.ent w m (some ⟨fa, fb, true, false⟩) } cds h) := by
    have h9 := HG.out.1
    simp only [upd2_upd] at h9
    exact h9
  have HP2 := hidMk (HP1.out.trans HG.out.2)
  clear HG HM1 HP1
  generalize w1.setCell ⟨Gb, (w * pl + m) * 5 + 3, none⟩ (.bool true) = w2 at *
  have b2 := HP2.out.free HFr.out HB1.out
  have hb2 := HP2.out.block HFq.out HQB.out
  have q1 := cell_isT (j := 0) hb2 rfl
  rw [HFi.out] at q1
  simp only at q1
  obtain ⟨a0, af⟩ := HM2.out.num hw
  obtain ⟨nv, hnv⟩ : ∃ nv, st.num w = nv := ⟨_, rfl⟩
  replace a0 : w2.cell? ⟨Nb, w, none⟩ = some (.int .i64 (nv : Int)) := by rw [a0, ← hnv]
  rw [hnv] at HTl
  have HNv := hidMk hnv
  clear hnv hb2
  by_cases hlt : nv < fa
  · have c1 : decide ((nv : Int) < (fa : Int)) = true := decide_eq_true (by omega)
    have c2 : decide (nv < fa) = true := decide_eq_true hlt
    have HSt : Hid (∀ q, Zmv ((w2.drewN q).setCell ⟨Nb, w, none⟩ (.int .i64 (fa : Int))) ob n pl Nb Gb Lb (tellT n st w m) cds h ∧ ZStp ob wb h ((w2.drewN q).setCell ⟨Nb, w, none⟩ (.int .i64 (fa : Int))) h) := hidMk (fun q => by
      have p1 := (HM2.out.still (Stil.drewN w2 q)).setNum hw fa
      refine ⟨?_, (HP2.out.trans (ZStp.of_still ob h (Stil.drewN w2 q))).trans p1.2⟩
      have h9 := p1.1
      rw [HTl.out, show max nv fa = fa by omega]
      exact h9)
    clear HM2 HP2
    refine wp_seq_k (fun K3 hK3 => ?_)
    have HK3 := hidMk hK3
    clear hK3
    go_wp2_with (fail)
    go_quiet (fail)
    go_wp2
    refine HK3.out _ _ ?_
    have HM4 := hidMk (HSt.out nq).1
    have HP4 := hidMk (HSt.out nq).2
    clear HSt HK3 b2 q1 a0 af
    generalize (w2.drewN nq).setCell ⟨Nb, w, none⟩ (.int .i64 (fa : Int)) = w4 at *
    have b4 := HP4.out.free HFr.out HB1.out
    refine hear_walk hw h0 h6 h120 HI2.out HSn.out HM4 HO b4 (fun e => HFr.out ((HP4.out.own HBl.out).1 e)) ?_
    intro z189 z190 z191 z192 z193 z194 z195 z196 z197 z198 z199 z200 z201 z202 z203 z204 z205 z206 z207 z208 z209 z210 z211 wx h1 m1 o1 s1
    exact HQ.out _ _ _ _ _ _ _ _ _ _ _ _ _ _ _ _ _ _ _ _ _ _ _ _ _ _ _ _ _ _ _ _ _ _ _ _ _ _ _ _ _ _ _ _ _ h1 m1 o1 (HP4.out.trans s1)
  · have c1 : decide ((nv : Int) < (fa : Int)) = false := decide_eq_false (by omega)
    have c2 : decide (nv < fa) = false := decide_eq_false hlt
    have HSt : Hid (∀ q, Zmv (w2.drewN q) ob n pl Nb Gb Lb (tellT n st w m) cds h ∧ ZStp ob wb h (w2.drewN q) h) := hidMk (fun q => by
      refine ⟨?_, HP2.out.trans (ZStp.of_still ob h (Stil.drewN w2 q))⟩
      have h9 := HM2.out.still (Stil.drewN w2 q)
      rw [HTl.out, show max nv fa = nv by omega, ← HNv.out, upd1_id]
      exact h9)
    clear HM2 HP2
    refine wp_seq_k (fun K3 hK3 => ?_)
    have HK3 := hidMk hK3
    clear hK3
    go_wp2_with (fail)
    go_quiet (fail)
    go_wp2
    refine HK3.out _ _ ?_
    have HM4 := hidMk (HSt.out nq).1
    have HP4 := hidMk (HSt.out nq).2
    clear HSt HK3 b2 q1 a0 af
    generalize w2.drewN nq = w4 at *
    have b4 := HP4.out.free HFr.out HB1.out
    refine hear_walk hw h0 h6 h120 HI2.out HSn.out HM4 HO b4 (fun e => HFr.out ((HP4.out.own HBl.out).1 e)) ?_
    intro z189 z190 z191 z192 z193 z194 z195 z196 z197 z198 z199 z200 z201 z202 z203 z204 z205 z206 z207 z208 z209 z210 z211 wx h1 m1 o1 s1
    exact HQ.out _ _ _ _ _ _ _ _ _ _ _ _ _ _ _ _ _ _ _ _ _ _ _ _ _ _ _ _ _ _ _ _ _ _ _ _ _ _ _ _ _ _ _ _ _ h1 m1 o1 (HP4.out.trans s1)
end Go.Proofs.Ytipoopbkapgfiaa
