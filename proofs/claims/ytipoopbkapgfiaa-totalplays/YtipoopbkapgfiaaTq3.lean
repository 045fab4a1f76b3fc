/- The document's Total, in pieces: a right taking. -/
import Derived.Test.YtipoopbkapgfiaaTq2
import Derived.Test.YtipoopbkapgfiaaR3
namespace Go.Proofs.Ytipoopbkapgfiaa
open Go.RowKit
set_option linter.unusedVariables false

theorem upd2_upd {α : Type} (f : Nat → Nat → α) (i j : Nat) (a b : α) : upd2 (upd2 f i j a) i j b = upd2 f i j b := by
  funext x y
  rw [ud2, ud2, ud2]
  split <;> rfl
theorem upd2_same' {α : Type} (f : Nat → Nat → α) (i j : Nat) (a : α) : upd2 f i j a i j = a := by rw [ud2, if_pos ⟨rfl, rfl⟩]
set_option maxRecDepth 1000000 in
set_option maxHeartbeats 16000000 in
theorem take_walk {Q : Exit → Act → World → Prop} {wb : World} {n pl ob Nb Gb Lb bk w m : Nat} {st : TS} {cds : List Int} {h : ZSh} {c1 c2 c3 c4 c9 c10 c12 c14 c15 c16 c17 c18 c19 c20 c21 c22 c23 c24 c25 c26 c27 c28 c29 c30 c31 c32 c33 c34 c35 c36 c37 c38 c39 c40 c41 c42 c43 c44 c45 c46 c47 c48 c49 c50 c51 c52 c53 c54 c55 c56 c57 c58 c59 c60 c61 c62 c63 c64 c65 c66 c67 c68 c69 c70 c71 c72 c73 c74 c75 c76 c77 c78 c79 c80 c81 c82 c83 c84 c85 c86 c87 c88 c89 c90 c91 c92 c93 c94 c95 c96 c97 c98 c99 c100 c101 c102 c103 c104 c105 c106 c107 c108 c109 c110 c111 c112 c113 c114 c115 c116 c117 c118 c119 c120 c121 c122 c123 c124 c125 c126 c127 c128 c129 c130 c131 c132 c133 c134 c135 c136 c137 c138 c139 c140 c141 c142 c143 c144 c145 c146 c147 c148 c149 c150 c151 c152 c153 c154 c155 c156 c157 c158 c159 c160 c161 c162 c163 c164 c165 c166 c167 c168 c169 c170 c171 c172 c173 c174 c175 c176 c177 c178 c179 c180 c181 c182 c183 c184 c185 c186 c187 c188 c189 c190 c191 c192 c193 c194 c195 c196 c197 c198 c199 c200 c201 c202 c203 c204 c205 c206 c207 c208 c209 c210 c211 c212 c213 c214 c215 c216 c217 c218 c219 : Value}
    (hw : w < n) (hm : m < pl) (h6 : n ≤ 6) (h120 : pl ≤ 120) (hnum : st.num w ≤ 1000) (HM : Hid (Zmv wb ob n pl Nb Gb Lb st cds h)) (b1 : wb.cell? ⟨bk, 1, none⟩ = some (.int .i64 (w : Int))) (HFr : Hid (¬ h.own ob bk)) (hent : st.ent w m = none)
    (hQ : ∀ (z144 z145 z146 z147 z148 z149 z150 z151 z152 z153 z154 z155 z156 z157 z158 z159 z160 z161 z162 z163 z164 z165 z166 z167 : Value) (wx : World), Zmv wx ob n pl Nb Gb Lb (takeT st w m) cds h → ZStp ob wb h wx h → Q .normal ⟨#[.int .i64 (n : Int), c1, c2, c3, c4, .pointer (some ⟨ob, 0, none⟩), .slice (some ⟨Nb, 0, none⟩) n n, .int .i64 (pl : Int), .slice (some ⟨Gb, 0, none⟩) (n * pl) (n * pl), c9, c10, .pointer (some ⟨bk, 0, none⟩), c12, .pointer (some ⟨Gb, (w * pl + m) * 5, none⟩), c14, c15, c16, c17, c18, c19, c20, c21, c22, c23, c24, c25, c26, c27, c28, c29, c30, c31, c32, c33, c34, c35, c36, c37, c38, c39, c40, c41, c42, c43, c44, c45, c46, c47, c48, c49, c50, c51, c52, c53, c54, c55, c56, c57, c58, c59, c60, c61, c62, c63, c64, c65, c66, c67, c68, c69, c70, c71, c72, c73, c74, c75, c76, c77, c78, c79, c80, c81, c82, c83, c84, c85, c86, c87, c88, c89, c90, c91, c92, c93, c94, c95, c96, c97, c98, c99, c100, c101, c102, c103, c104, c105, c106, c107, c108, c109, c110, c111, c112, c113, c114, c115, c116, c117, c118, c119, c120, c121, c122, c123, c124, c125, c126, c127, c128, c129, c130, c131, c132, c133, c134, c135, c136, c137, c138, c139, c140, c141, c142, c143, z144, z145, z146, z147, z148, z149, z150, z151, z152, z153, z154, z155, z156, z157, z158, z159, z160, z161, z162, z163, z164, z165, z166, z167, c168, c169, c170, c171, c172, c173, c174, c175, c176, c177, c178, c179, c180, c181, c182, c183, c184, c185, c186, c187, c188, c189, c190, c191, c192, c193, c194, c195, c196, c197, c198, c199, c200, c201, c202, c203, c204, c205, c206, c207, c208, c209, c210, c211, c212, c213, c214, c215, c216, c217, c218, c219], []⟩ wx) :
    Code.wp Try.prog takeCode Q ⟨#[.int .i64 (n : Int), c1, c2, c3, c4, .pointer (some ⟨ob, 0, none⟩), .slice (some ⟨Nb, 0, none⟩) n n, .int .i64 (pl : Int), .slice (some ⟨Gb, 0, none⟩) (n * pl) (n * pl), c9, c10, .pointer (some ⟨bk, 0, none⟩), c12, .pointer (some ⟨Gb, (w * pl + m) * 5, none⟩), c14, c15, c16, c17, c18, c19, c20, c21, c22, c23, c24, c25, c26, c27, c28, c29, c30, c31, c32, c33, c34, c35, c36, c37, c38, c39, c40, c41, c42, c43, c44, c45, c46, c47, c48, c49, c50, c51, c52, c53, c54, c55, c56, c57, c58, c59, c60, c61, c62, c63, c64, c65, c66, c67, c68, c69, c70, c71, c72, c73, c74, c75, c76, c77, c78, c79, c80, c81, c82, c83, c84, c85, c86, c87, c88, c89, c90, c91, c92, c93, c94, c95, c96, c97, c98, c99, c100, c101, c102, c103, c104, c105, c106, c107, c108, c109, c110, c111, c112, c113, c114, c115, c116, c117, c118, c119, c120, c121, c122, c123, c124, c125, c126, c127, c128, c129, c130, c131, c132, c133, c134, c135, c136, c137, c138, c139, c140, c141, c142, c143, c144, c145, c146, c147, c148, c149, c150, c151, c152, c153, c154, c155, c156, c157, c158, c159, c160, c161, c162, c163, c164, c165, c166, c167, c168, c169, c170, c171, c172, c173, c174, c175, c176, c177, c178, c179, c180, c181, c182, c183, c184, c185, c186, c187, c188, c189, c190, c191, c192, c193, c194, c195, c196, c197, c198, c199, c200, c201, c202, c203, c204, c205, c206, c207, c208, c209, c210, c211, c212, c213, c214, c215, c216, c217, c218, c219], []⟩ wb := by
  refine Code.wp_mono onlyN_imp ?_
  have HQ := hidMk hQ
  clear hQ
  have hw' : (w : Int) < (n : Int) := by omega
  have hn6 : (n : Int) ≤ 6 := by omega
  obtain ⟨v1, hv1⟩ : ∃ v1 : Nat, v1 = st.num w + 1 := ⟨_, rfl⟩
  have hwr : IntKind.i64.wrap ((st.num w : Int) + 1) = (v1 : Int) := by
    rw [show ((st.num w : Int) + 1) = (v1 : Int) from by omega]
    exact wrap_of ⟨by omega, by omega⟩
  have HV := hidMk hv1
  have HE := hidMk hent
  have HB1 := hidMk b1
  obtain ⟨a0, af⟩ := HM.out.num hw
  have HS1 : Hid (∀ q, Zmv ((wb.drewN q).setCell ⟨Nb, w, none⟩ (.int .i64 (v1 : Int))) ob n pl Nb Gb Lb { st with num := upd1 st.num w v1 } cds h ∧ ZStp ob wb h ((wb.drewN q).setCell ⟨Nb, w, none⟩ (.int .i64 (v1 : Int))) h) := hidMk (fun q => by
    have h9 := (HM.out.still (Stil.drewN wb q)).setNum hw v1
    exact ⟨h9.1, (ZStp.of_still ob h (Stil.drewN wb q)).trans h9.2⟩)
  clear hent b1
  obtain ⟨nv, hnv⟩ : ∃ nv, st.num w = nv := ⟨_, rfl⟩
  rw [hnv] at hwr a0 hnum
  have b1 := HB1.out
  clear hnv hv1
  conv => arg 2; whnf
  refine wp_seq_k (fun K1 hK1 => ?_)
  have HK1 := hidMk hK1
  clear hK1
  refine wp_region_tail rfl (by kernel_rfl) (by kernel_rfl) (by kernel_rfl) (by kernel_rfl) (by kernel_rfl) rfl ?_
  simp only [List.dropLast]
  repeat (go_big_quiet_step (fail))
  refine wpQuiet_nil ?_
  rintro _ ⟨q, rfl⟩
  go_wp2
  refine HK1.out _ _ ?_
  clear HK1 b1 a0 af
  have HM1 := hidMk (HS1.out q).1
  have HP1 := hidMk (HS1.out q).2
  clear HS1
  generalize (wb.drewN q).setCell ⟨Nb, w, none⟩ (.int .i64 (v1 : Int)) = w1 at *
  have HG := hidMk (HM1.out.setGot hw hm (f := 2) (by omega) ⟨0, 0, false, false⟩ (.bool true) rfl (fun f2 h5 hne => by
    show gv _ f2 = gv (st.ent w m) f2
    rw [HE.out]
    match f2, hne with
    | 0, _ => rfl
    | 1, _ => rfl
    | 3, _ => rfl
    | 4, _ => rfl
    | 2, h => exact absurd rfl h
    | f + 5, _ => omega))
  obtain ⟨g2, gf⟩ := HM1.out.got hw hm (f := 2) (by omega)
  rw [show (w * pl + m) * 5 + 2 = (w * pl + m) * 5 + 2 from rfl] at g2 gf
  refine wp_seq_k (fun K2 hK2 => ?_)
  have HK2 := hidMk hK2
  clear hK2
  go_wp2
  refine HK2.out _ _ ?_
  clear HK2 g2 gf
  have HM2 := hidMk HG.out.1
  have HP2 := hidMk (HP1.out.trans HG.out.2)
  clear HG HM1 HP1
  generalize w1.setCell ⟨Gb, (w * pl + m) * 5 + 2, none⟩ (.bool true) = w2 at *
  have b2 := HP2.out.free HFr.out HB1.out
  obtain ⟨a0, _⟩ := HM2.out.num hw
  replace a0 : w2.cell? ⟨Nb, w, none⟩ = some (.int .i64 (v1 : Int)) := by
    rw [a0]
    show some (Value.int .i64 ((upd1 st.num w v1 w : Nat) : Int)) = _
    rw [upd1_same]
  obtain ⟨k0, f0⟩ := HM2.out.got hw hm (f := 0) (by omega)
  obtain ⟨k1, f1⟩ := HM2.out.got hw hm (f := 1) (by omega)
  rw [Nat.add_zero] at k0 f0
  have HS3 : Hid (∀ q, Zmv (((w2.drewN q).setCell ⟨Gb, (w * pl + m) * 5, none⟩ (.int .i64 (v1 : Int))).setCell ⟨Gb, (w * pl + m) * 5 + 1, none⟩ (.int .i64 (w : Int))) ob n pl Nb Gb Lb (takeT st w m) cds h ∧ ZStp ob wb h (((w2.drewN q).setCell ⟨Gb, (w * pl + m) * 5, none⟩ (.int .i64 (v1 : Int))).setCell ⟨Gb, (w * pl + m) * 5 + 1, none⟩ (.int .i64 (w : Int))) h) := hidMk (fun q => by
    have p1 := (HM2.out.still (Stil.drewN w2 q)).setGot hw hm (f := 0) (by omega) ⟨v1, 0, false, false⟩ (.int .i64 (v1 : Int)) rfl (fun f2 h5 hne => by
      show gv _ f2 = gv (upd2 st.ent w m (some ⟨0, 0, false, false⟩) w m) f2
      rw [upd2_same']
      match f2, hne with
      | 1, _ => rfl
      | 2, _ => rfl
      | 3, _ => rfl
      | 4, _ => rfl
      | 0, h => exact absurd rfl h
      | f + 5, _ => omega)
    have p2 := p1.1.setGot hw hm (f := 1) (by omega) ⟨v1, w, false, false⟩ (.int .i64 (w : Int)) rfl (fun f2 h5 hne => by
      show gv _ f2 = gv (upd2 (upd2 st.ent w m (some ⟨0, 0, false, false⟩)) w m (some ⟨v1, 0, false, false⟩) w m) f2
      rw [upd2_same']
      match f2, hne with
      | 0, _ => rfl
      | 2, _ => rfl
      | 3, _ => rfl
      | 4, _ => rfl
      | 1, h => exact absurd rfl h
      | f + 5, _ => omega)
    simp only [Nat.add_zero] at p1 p2
    refine ⟨?_, ((HP2.out.trans (ZStp.of_still ob h (Stil.drewN w2 q))).trans p1.2).trans p2.2⟩
    have h9 := p2.1
    simp only [upd2_upd] at h9
    unfold takeT
    rw [← HV.out]
    exact h9)
  clear HM2 HP2
  refine wp_region_tail rfl (by kernel_rfl) (by kernel_rfl) (by kernel_rfl) (by kernel_rfl) (by kernel_rfl) rfl ?_
  simp only [List.dropLast]
  repeat (go_big_quiet_step (fail))
  refine wpQuiet_nil ?_
  rintro _ ⟨q, rfl⟩
  go_wp2
  exact HQ.out _ _ _ _ _ _ _ _ _ _ _ _ _ _ _ _ _ _ _ _ _ _ _ _ _ (HS3.out q).1 (HS3.out q).2
end Go.Proofs.Ytipoopbkapgfiaa
