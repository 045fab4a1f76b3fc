/- The document's Total, in pieces: the search, whole. -/
import Derived.Test.YtipoopbkapgfiaaTq1
namespace Go.Proofs.Ytipoopbkapgfiaa
open Go.RowKit
set_option linter.unusedVariables false

set_option maxRecDepth 1000000 in
set_option maxHeartbeats 16000000 in
theorem search_walk {Q : Exit → Act → World → Prop} {wb : World} {n pl ob Nb Gb bk q0 m : Nat} {st : TS} {c1 c2 c3 c4 c9 c10 c12 c13 c16 c17 c18 c19 c20 c21 c22 c23 c24 c25 c26 c27 c28 c29 c30 c31 c32 c33 c34 c35 c36 c37 c38 c39 c40 c41 c42 c43 c44 c45 c46 c47 c48 c49 c50 c51 c52 c53 c54 c55 c56 c57 c58 c59 c60 c61 c62 c63 c64 c65 c66 c67 c68 c69 c70 c71 c72 c73 c74 c75 c76 c77 c78 c79 c80 c81 c82 c83 c84 c85 c86 c87 c88 c89 c90 c91 c92 c93 c94 c95 c96 c97 c98 c99 c100 c101 c102 c103 c104 c105 c106 c107 c108 c109 c110 c111 c112 c113 c114 c115 c116 c117 c118 c119 c120 c121 c122 c123 c124 c125 c126 c127 c128 c129 c130 c131 c132 c133 c134 c135 c136 c137 c138 c139 c140 c141 c142 c143 c144 c145 c146 c147 c148 c149 c150 c151 c152 c153 c154 c155 c156 c157 c158 c159 c160 c161 c162 c163 c164 c165 c166 c167 c168 c169 c170 c171 c172 c173 c174 c175 c176 c177 c178 c179 c180 c181 c182 c183 c184 c185 c186 c187 c188 c189 c190 c191 c192 c193 c194 c195 c196 c197 c198 c199 c200 c201 c202 c203 c204 c205 c206 c207 c208 c209 c210 c211 c212 c213 c214 c215 c216 c217 c218 c219 : Value}
    (hm : m < pl) (hnp : n * pl ≤ 720) (h6 : n ≤ 6) (h120 : pl ≤ 120) (hk : Hid (∀ p, p < n → ∀ f, f < 5 → wb.cell? ⟨Gb, (p * pl + m) * 5 + f, none⟩ = some (gv (st.ent p m) f))) (z2 : wb.cell? ⟨bk, 2, none⟩ = some (.int .i64 (m : Int))) (hb : keyAt wb q0 0 0) (hg : Hid (Gb ≠ q0)) (hbk : Hid (bk ≠ q0))
    (hQ : ∀ (z16 z17 z88 z89 z90 z91 z92 z93 z94 z95 z96 z97 z98 z99 z100 z101 z102 z103 z104 z105 z106 z107 z108 z109 z110 z111 z112 z113 z114 z115 z116 : Value) (wx : World), keyAt wx q0 (finTo st m n).1 (finTo st m n).2 → Keep (fun g => g = q0) wb wx → Q .normal ⟨#[.int .i64 (n : Int), c1, c2, c3, c4, .pointer (some ⟨ob, 0, none⟩), .slice (some ⟨Nb, 0, none⟩) n n, .int .i64 (pl : Int), .slice (some ⟨Gb, 0, none⟩) (n * pl) (n * pl), c9, c10, .pointer (some ⟨bk, 0, none⟩), c12, c13, .pointer (some ⟨q0, 0, none⟩), .bool (allB n st m), z16, z17, c18, c19, c20, c21, c22, c23, c24, c25, c26, c27, c28, c29, c30, c31, c32, c33, c34, c35, c36, c37, c38, c39, c40, c41, c42, c43, c44, c45, c46, c47, c48, c49, c50, c51, c52, c53, c54, c55, c56, c57, c58, c59, c60, c61, c62, c63, c64, c65, c66, c67, c68, c69, c70, c71, c72, c73, c74, c75, c76, c77, c78, c79, c80, c81, c82, c83, c84, c85, c86, c87, z88, z89, z90, z91, z92, z93, z94, z95, z96, z97, z98, z99, z100, z101, z102, z103, z104, z105, z106, z107, z108, z109, z110, z111, z112, z113, z114, z115, z116, c117, c118, c119, c120, c121, c122, c123, c124, c125, c126, c127, c128, c129, c130, c131, c132, c133, c134, c135, c136, c137, c138, c139, c140, c141, c142, c143, c144, c145, c146, c147, c148, c149, c150, c151, c152, c153, c154, c155, c156, c157, c158, c159, c160, c161, c162, c163, c164, c165, c166, c167, c168, c169, c170, c171, c172, c173, c174, c175, c176, c177, c178, c179, c180, c181, c182, c183, c184, c185, c186, c187, c188, c189, c190, c191, c192, c193, c194, c195, c196, c197, c198, c199, c200, c201, c202, c203, c204, c205, c206, c207, c208, c209, c210, c211, c212, c213, c214, c215, c216, c217, c218, c219], []⟩ wx) :
    Code.wp Try.prog searchCode Q ⟨#[.int .i64 (n : Int), c1, c2, c3, c4, .pointer (some ⟨ob, 0, none⟩), .slice (some ⟨Nb, 0, none⟩) n n, .int .i64 (pl : Int), .slice (some ⟨Gb, 0, none⟩) (n * pl) (n * pl), c9, c10, .pointer (some ⟨bk, 0, none⟩), c12, c13, .pointer (some ⟨q0, 0, none⟩), .bool true, c16, c17, c18, c19, c20, c21, c22, c23, c24, c25, c26, c27, c28, c29, c30, c31, c32, c33, c34, c35, c36, c37, c38, c39, c40, c41, c42, c43, c44, c45, c46, c47, c48, c49, c50, c51, c52, c53, c54, c55, c56, c57, c58, c59, c60, c61, c62, c63, c64, c65, c66, c67, c68, c69, c70, c71, c72, c73, c74, c75, c76, c77, c78, c79, c80, c81, c82, c83, c84, c85, c86, c87, c88, c89, c90, c91, c92, c93, c94, c95, c96, c97, c98, c99, c100, c101, c102, c103, c104, c105, c106, c107, c108, c109, c110, c111, c112, c113, c114, c115, c116, c117, c118, c119, c120, c121, c122, c123, c124, c125, c126, c127, c128, c129, c130, c131, c132, c133, c134, c135, c136, c137, c138, c139, c140, c141, c142, c143, c144, c145, c146, c147, c148, c149, c150, c151, c152, c153, c154, c155, c156, c157, c158, c159, c160, c161, c162, c163, c164, c165, c166, c167, c168, c169, c170, c171, c172, c173, c174, c175, c176, c177, c178, c179, c180, c181, c182, c183, c184, c185, c186, c187, c188, c189, c190, c191, c192, c193, c194, c195, c196, c197, c198, c199, c200, c201, c202, c203, c204, c205, c206, c207, c208, c209, c210, c211, c212, c213, c214, c215, c216, c217, c218, c219], []⟩ wb := by
  refine Code.wp_mono onlyN_imp ?_
  have HQ := hidMk hQ
  have HB := hidMk hb
  have Z2 := hidMk z2
  clear hQ hb z2
  have hn6 : (n : Int) ≤ 6 := by omega
  conv => arg 2; whnf
  go_wp2_with (fail)
  go_loopw [15, 16] (fun v15 u wl => ∃ p : Nat, p ≤ n ∧ u = .int .i64 (p : Int) ∧ v15 = .bool ((List.range p).all fun q => (st.ent q m).isSome) ∧ Hid (keyAt wl q0 (finTo st m p).1 (finTo st m p).2) ∧ Hid (Keep (fun g => g = q0) wb wl)) (fun _ u _ => n - (intOf u).toNat)
  case atStart => exact ⟨0, Nat.zero_le _, rfl, rfl, HB, Keep.refl _ _⟩
  case round =>
    obtain ⟨p, hp, rfl, rfl, HBl, HKl⟩ := hrel
    by_cases hlt : p < n
    · have hlt' : (p : Int) < (n : Int) := by omega
      have HK5 : Hid (∀ f, f < 5 → wr.cell? ⟨Gb, (p * pl + m) * 5 + f, none⟩ = some (gv (st.ent p m) f)) := fun f hf => (World.cell?_of_block (HKl.out.block Gb (World.block_lt_of_cell? _ _ (hk.out p hlt f hf)) hg.out)).trans (hk.out p hlt f hf)
      have HZ : Hid (wr.cell? ⟨bk, 2, none⟩ = some (.int .i64 (m : Int))) := (World.cell?_of_block (HKl.out.block bk (World.block_lt_of_cell? _ _ Z2.out) hbk.out)).trans Z2.out
      have HAll : Hid (((List.range (p + 1)).all fun q => (st.ent q m).isSome) = (((List.range p).all fun q => (st.ent q m).isSome) && (st.ent p m).isSome)) := by show _ = _; rw [List.range_succ, List.all_append]; simp
      have HFin : Hid (finTo st m (p + 1) = keyS (finTo st m p).1 (finTo st m p).2 (st.ent p m)) := finTo_keyS st m p
      generalize ((List.range p).all fun q => (st.ent q m).isSome) = al at *
      generalize finTo st m p = fp at *
      obtain ⟨fa, fb⟩ := fp
      simp only at HBl HFin
      go_upto_block 3 with fail
      refine wp_block ?_
      refine round_walk hlt hm hnp h6 h120 HK5.out HZ.out HBl.out ?_
      intro z17 z93 z94 z95 z96 z97 z98 z99 z100 z101 z102 z103 z104 z105 z106 z107 z108 z109 z110 z111 z112 z113 z114 z115 z116 wx h1 h2
      have HX1 := hidMk h1
      have HX2 := hidMk (HKl.out.trans h2 (fun _ _ e => e) (fun _ _ e => e))
      clear h1 h2
      go_wp2
      go_roundw
      case rel => exact ⟨p + 1, by omega, by go_num, by rw [HAll.out], by show keyAt _ _ _ _; rw [HFin.out]; exact HX1.out, HX2⟩
      case measure => simp [intOf]; omega
    · obtain rfl : p = n := by omega
      go_wp2
      exact HQ.out _ _ _ _ _ _ _ _ _ _ _ _ _ _ _ _ _ _ _ _ _ _ _ _ _ _ _ _ _ _ _ _ HBl.out HKl.out
end Go.Proofs.Ytipoopbkapgfiaa
