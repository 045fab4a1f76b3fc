/- The document's Total, in pieces: the search for the last key. -/
import Derived.Test.YtipoopbkapgfiaaTq0
namespace Go.Proofs.Ytipoopbkapgfiaa
open Go.RowKit
set_option linter.unusedVariables false

set_option maxRecDepth 1000000 in
set_option maxHeartbeats 16000000 in
theorem round_walk {Q : Exit → Act → World → Prop} {wb : World} {n pl ob Nb Gb bk q0 fa fb p m : Nat} {al : Bool} {o : Option En} {c1 c2 c3 c4 c9 c10 c12 c13 c17 c18 c19 c20 c21 c22 c23 c24 c25 c26 c27 c28 c29 c30 c31 c32 c33 c34 c35 c36 c37 c38 c39 c40 c41 c42 c43 c44 c45 c46 c47 c48 c49 c50 c51 c52 c53 c54 c55 c56 c57 c58 c59 c60 c61 c62 c63 c64 c65 c66 c67 c68 c69 c70 c71 c72 c73 c74 c75 c76 c77 c78 c79 c80 c81 c82 c83 c84 c85 c86 c87 c88 c89 c90 c91 c92 c93 c94 c95 c96 c97 c98 c99 c100 c101 c102 c103 c104 c105 c106 c107 c108 c109 c110 c111 c112 c113 c114 c115 c116 c117 c118 c119 c120 c121 c122 c123 c124 c125 c126 c127 c128 c129 c130 c131 c132 c133 c134 c135 c136 c137 c138 c139 c140 c141 c142 c143 c144 c145 c146 c147 c148 c149 c150 c151 c152 c153 c154 c155 c156 c157 c158 c159 c160 c161 c162 c163 c164 c165 c166 c167 c168 c169 c170 c171 c172 c173 c174 c175 c176 c177 c178 c179 c180 c181 c182 c183 c184 c185 c186 c187 c188 c189 c190 c191 c192 c193 c194 c195 c196 c197 c198 c199 c200 c201 c202 c203 c204 c205 c206 c207 c208 c209 c210 c211 c212 c213 c214 c215 c216 c217 c218 c219 : Value}
    (hp : p < n) (hm : m < pl) (hnp : n * pl ≤ 720) (h6 : n ≤ 6) (h120 : pl ≤ 120) (hk : ∀ f, f < 5 → wb.cell? ⟨Gb, (p * pl + m) * 5 + f, none⟩ = some (gv o f)) (z2 : wb.cell? ⟨bk, 2, none⟩ = some (.int .i64 (m : Int))) (hb : keyAt wb q0 fa fb)
    (hQ : ∀ (z17 z93 z94 z95 z96 z97 z98 z99 z100 z101 z102 z103 z104 z105 z106 z107 z108 z109 z110 z111 z112 z113 z114 z115 z116 : Value) (wx : World), keyAt wx q0 (keyS fa fb o).1 (keyS fa fb o).2 → Keep (fun g => g = q0) wb wx → Q .normal ⟨#[.int .i64 (n : Int), c1, c2, c3, c4, .pointer (some ⟨ob, 0, none⟩), .slice (some ⟨Nb, 0, none⟩) n n, .int .i64 (pl : Int), .slice (some ⟨Gb, 0, none⟩) (n * pl) (n * pl), c9, c10, .pointer (some ⟨bk, 0, none⟩), c12, c13, .pointer (some ⟨q0, 0, none⟩), .bool (al && o.isSome), .int .i64 (p : Int), z17, c18, c19, c20, c21, c22, c23, c24, c25, c26, c27, c28, c29, c30, c31, c32, c33, c34, c35, c36, c37, c38, c39, c40, c41, c42, c43, c44, c45, c46, c47, c48, c49, c50, c51, c52, c53, c54, c55, c56, c57, c58, c59, c60, c61, c62, c63, c64, c65, c66, c67, c68, c69, c70, c71, c72, c73, c74, c75, c76, c77, c78, c79, c80, c81, c82, c83, c84, c85, c86, c87, c88, c89, c90, c91, c92, z93, z94, z95, z96, z97, z98, z99, z100, z101, z102, z103, z104, z105, z106, z107, z108, z109, z110, z111, z112, z113, z114, z115, z116, c117, c118, c119, c120, c121, c122, c123, c124, c125, c126, c127, c128, c129, c130, c131, c132, c133, c134, c135, c136, c137, c138, c139, c140, c141, c142, c143, c144, c145, c146, c147, c148, c149, c150, c151, c152, c153, c154, c155, c156, c157, c158, c159, c160, c161, c162, c163, c164, c165, c166, c167, c168, c169, c170, c171, c172, c173, c174, c175, c176, c177, c178, c179, c180, c181, c182, c183, c184, c185, c186, c187, c188, c189, c190, c191, c192, c193, c194, c195, c196, c197, c198, c199, c200, c201, c202, c203, c204, c205, c206, c207, c208, c209, c210, c211, c212, c213, c214, c215, c216, c217, c218, c219], []⟩ wx) :
    Code.wp Try.prog roundCode Q ⟨#[.int .i64 (n : Int), c1, c2, c3, c4, .pointer (some ⟨ob, 0, none⟩), .slice (some ⟨Nb, 0, none⟩) n n, .int .i64 (pl : Int), .slice (some ⟨Gb, 0, none⟩) (n * pl) (n * pl), c9, c10, .pointer (some ⟨bk, 0, none⟩), c12, c13, .pointer (some ⟨q0, 0, none⟩), .bool al, .int .i64 (p : Int), c17, c18, c19, c20, c21, c22, c23, c24, c25, c26, c27, c28, c29, c30, c31, c32, c33, c34, c35, c36, c37, c38, c39, c40, c41, c42, c43, c44, c45, c46, c47, c48, c49, c50, c51, c52, c53, c54, c55, c56, c57, c58, c59, c60, c61, c62, c63, c64, c65, c66, c67, c68, c69, c70, c71, c72, c73, c74, c75, c76, c77, c78, c79, c80, c81, c82, c83, c84, c85, c86, c87, c88, c89, c90, c91, c92, c93, c94, c95, c96, c97, c98, c99, c100, c101, c102, c103, c104, c105, c106, c107, c108, c109, c110, c111, c112, c113, c114, c115, c116, c117, c118, c119, c120, c121, c122, c123, c124, c125, c126, c127, c128, c129, c130, c131, c132, c133, c134, c135, c136, c137, c138, c139, c140, c141, c142, c143, c144, c145, c146, c147, c148, c149, c150, c151, c152, c153, c154, c155, c156, c157, c158, c159, c160, c161, c162, c163, c164, c165, c166, c167, c168, c169, c170, c171, c172, c173, c174, c175, c176, c177, c178, c179, c180, c181, c182, c183, c184, c185, c186, c187, c188, c189, c190, c191, c192, c193, c194, c195, c196, c197, c198, c199, c200, c201, c202, c203, c204, c205, c206, c207, c208, c209, c210, c211, c212, c213, c214, c215, c216, c217, c218, c219], []⟩ wb := by
  refine Code.wp_mono onlyN_imp ?_
  have HQ := hidMk hQ
  clear hQ
  obtain ⟨j1, j2, j3, j4, j5, j6⟩ := idx_facts hp hm hnp
  have hp' : (p : Int) ≤ 6 := by omega
  have hm' : (m : Int) ≤ 120 := by omega
  have hl' : (pl : Int) ≤ 120 := by omega
  clear h6 h120
  cases o with
  | none =>
    have k0 : wb.cell? ⟨Gb, (p * pl + m) * 5, none⟩ = some (.int .i64 0) := hk 0 (by omega)
    have k1 : wb.cell? ⟨Gb, (p * pl + m) * 5 + 1, none⟩ = some (.int .i64 0) := hk 1 (by omega)
    have k2 : wb.cell? ⟨Gb, (p * pl + m) * 5 + 2, none⟩ = some (.bool false) := hk 2 (by omega)
    have k3 : wb.cell? ⟨Gb, (p * pl + m) * 5 + 3, none⟩ = some (.bool false) := hk 3 (by omega)
    have k4 : wb.cell? ⟨Gb, (p * pl + m) * 5 + 4, none⟩ = some (.bool false) := hk 4 (by omega)
    have HA : Hid (Stil wb (wb.alloc (.cells #[.int .i64 0, .int .i64 0, .bool false, .bool false, .bool false] 47))) := Stil.new _ _
    have HY : Hid ((wb.alloc (.cells #[.int .i64 0, .int .i64 0, .bool false, .bool false, .bool false] 47)).heap[wb.heap.size]? = some (.cells #[.int .i64 0, .int .i64 0, .bool false, .bool false, .bool false] 47 (0, 0))) := al_new _ _
    have HB1 : Hid (keyAt (wb.alloc (.cells #[.int .i64 0, .int .i64 0, .bool false, .bool false, .bool false] 47)) q0 fa fb) := (al_old wb _ q0 (Array.getElem?_eq_some_iff.1 hb).1).trans hb
    have nb := cell_isT (j := 2) HY.out rfl
    clear hk
    conv => arg 2; whnf
    refine wp_seq_k (fun K1 hK1 => ?_)
    have HK1 := hidMk hK1
    clear hK1
    go_wp2
    refine HK1.out _ _ ?_
    clear k0 k1 k2 k3 k4 z2 hb
    generalize wb.alloc (.cells #[.int .i64 0, .int .i64 0, .bool false, .bool false, .bool false] 47) = w1 at *
    generalize wb.heap.size = yb at *
    cases al with
    | true =>
      refine wp_seq_k (fun K2 hK2 => ?_)
      have HK2 := hidMk hK2
      clear hK2
      go_wp2
      refine HK2.out _ _ ?_
      refine less_none HY.out HB1.out ?_
      intro z107 z108 z109 z110 z111 z112 z113 z114 z115 z116 wx h1 h2
      exact HQ.out _ _ _ _ _ _ _ _ _ _ _ _ _ _ _ _ _ _ _ _ _ _ _ _ _ _ h1 ((HA.out.mono (q := fun g => g = q0) (fun _ _ e => e.elim)).trans h2 (fun _ _ e => e) (fun _ _ e => e))
    | false =>
      refine wp_seq_k (fun K2 hK2 => ?_)
      have HK2 := hidMk hK2
      clear hK2
      go_wp2
      refine HK2.out _ _ ?_
      refine less_none HY.out HB1.out ?_
      intro z107 z108 z109 z110 z111 z112 z113 z114 z115 z116 wx h1 h2
      exact HQ.out _ _ _ _ _ _ _ _ _ _ _ _ _ _ _ _ _ _ _ _ _ _ _ _ _ _ h1 ((HA.out.mono (q := fun g => g = q0) (fun _ _ e => e.elim)).trans h2 (fun _ _ e => e) (fun _ _ e => e))
  | some e =>
    obtain ⟨en, ep, et, eh⟩ := e
    have HKs : Hid (keyS fa fb (some ⟨en, ep, et, eh⟩) = if klt fa fb en ep = true then (en, ep) else (fa, fb)) := rfl
    have k0 : wb.cell? ⟨Gb, (p * pl + m) * 5, none⟩ = some (.int .i64 (en : Int)) := hk 0 (by omega)
    have k1 : wb.cell? ⟨Gb, (p * pl + m) * 5 + 1, none⟩ = some (.int .i64 (ep : Int)) := hk 1 (by omega)
    have k2 : wb.cell? ⟨Gb, (p * pl + m) * 5 + 2, none⟩ = some (.bool true) := hk 2 (by omega)
    have k3 : wb.cell? ⟨Gb, (p * pl + m) * 5 + 3, none⟩ = some (.bool et) := hk 3 (by omega)
    have k4 : wb.cell? ⟨Gb, (p * pl + m) * 5 + 4, none⟩ = some (.bool eh) := hk 4 (by omega)
    have HA : Hid (Stil wb (wb.alloc (.cells #[.int .i64 (en : Int), .int .i64 (ep : Int), .bool true, .bool et, .bool eh] 47))) := Stil.new _ _
    have HY : Hid ((wb.alloc (.cells #[.int .i64 (en : Int), .int .i64 (ep : Int), .bool true, .bool et, .bool eh] 47)).heap[wb.heap.size]? = some (.cells #[.int .i64 (en : Int), .int .i64 (ep : Int), .bool true, .bool et, .bool eh] 47 (0, 0))) := al_new _ _
    have HB1 : Hid (keyAt (wb.alloc (.cells #[.int .i64 (en : Int), .int .i64 (ep : Int), .bool true, .bool et, .bool eh] 47)) q0 fa fb) := (al_old wb _ q0 (Array.getElem?_eq_some_iff.1 hb).1).trans hb
    have nb := cell_isT (j := 2) HY.out rfl
    clear hk
    conv => arg 2; whnf
    refine wp_seq_k (fun K1 hK1 => ?_)
    have HK1 := hidMk hK1
    clear hK1
    go_wp2
    refine HK1.out _ _ ?_
    clear k0 k1 k2 k3 k4 z2 hb
    generalize wb.alloc (.cells #[.int .i64 (en : Int), .int .i64 (ep : Int), .bool true, .bool et, .bool eh] 47) = w1 at *
    generalize wb.heap.size = yb at *
    cases al with
    | true =>
      refine wp_seq_k (fun K2 hK2 => ?_)
      have HK2 := hidMk hK2
      clear hK2
      go_wp2
      refine HK2.out _ _ ?_
      cases hkl : klt fa fb en ep with
      | true =>
        rw [if_pos hkl] at HKs
        refine less_new HY.out HB1.out hkl ?_
        intro z107 z108 z109 z110 z111 z112 z113 z114 z115 z116 wx h1 h2
        exact HQ.out _ _ _ _ _ _ _ _ _ _ _ _ _ _ _ _ _ _ _ _ _ _ _ _ _ _ (by rw [HKs.out]; exact h1) ((HA.out.mono (q := fun g => g = q0) (fun _ _ e => e.elim)).trans h2 (fun _ _ e => e) (fun _ _ e => e))
      | false =>
        rw [if_neg (by rw [hkl]; simp)] at HKs
        refine less_old HY.out HB1.out hkl ?_
        intro z107 z108 z109 z110 z111 z112 z113 z114 z115 z116 wx h1 h2
        exact HQ.out _ _ _ _ _ _ _ _ _ _ _ _ _ _ _ _ _ _ _ _ _ _ _ _ _ _ (by rw [HKs.out]; exact h1) ((HA.out.mono (q := fun g => g = q0) (fun _ _ e => e.elim)).trans h2 (fun _ _ e => e) (fun _ _ e => e))
    | false =>
      refine wp_seq_k (fun K2 hK2 => ?_)
      have HK2 := hidMk hK2
      clear hK2
      go_wp2
      refine HK2.out _ _ ?_
      cases hkl : klt fa fb en ep with
      | true =>
        rw [if_pos hkl] at HKs
        refine less_new HY.out HB1.out hkl ?_
        intro z107 z108 z109 z110 z111 z112 z113 z114 z115 z116 wx h1 h2
        exact HQ.out _ _ _ _ _ _ _ _ _ _ _ _ _ _ _ _ _ _ _ _ _ _ _ _ _ _ (by rw [HKs.out]; exact h1) ((HA.out.mono (q := fun g => g = q0) (fun _ _ e => e.elim)).trans h2 (fun _ _ e => e) (fun _ _ e => e))
      | false =>
        rw [if_neg (by rw [hkl]; simp)] at HKs
        refine less_old HY.out HB1.out hkl ?_
        intro z107 z108 z109 z110 z111 z112 z113 z114 z115 z116 wx h1 h2
        exact HQ.out _ _ _ _ _ _ _ _ _ _ _ _ _ _ _ _ _ _ _ _ _ _ _ _ _ _ (by rw [HKs.out]; exact h1) ((HA.out.mono (q := fun g => g = q0) (fun _ _ e => e.elim)).trans h2 (fun _ _ e => e) (fun _ _ e => e))
end Go.Proofs.Ytipoopbkapgfiaa
