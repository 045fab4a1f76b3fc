/- The document's Total, in pieces: the code; a look at one key. -/
import Derived.Test.YtipoopbkapgfiaaTp3
import Derived.Test.YtipoopbkapgfiaaTb1
namespace Go.Proofs.Ytipoopbkapgfiaa
open Go.RowKit
set_option linter.unusedVariables false

def orC (a b : Option Code) : Option Code := match a with
  | some c => some c
  | none => b
/-- The branch of the condition that reads a slot. -/
def branchOf (k : Nat) (th : Bool) : Code → Option Code
  | .cond (.tmp t) a b => if t = k then some (if th then a else b) else orC (branchOf k th a) (branchOf k th b)
  | .cond _ a b => orC (branchOf k th a) (branchOf k th b)
  | .seq a b => orC (branchOf k th a) (branchOf k th b)
  | .block _ c => branchOf k th c
  | .loop c => branchOf k th c
  | .scope c => branchOf k th c
  | _ => none
/-- What begins with a region. -/
def seqOf (k : Nat) : Code → Option Code
  | .seq (.region i o d) r => if i = k then some (.seq (.region i o d) r) else seqOf k r
  | .seq a b => orC (seqOf k a) (seqOf k b)
  | .cond _ a b => orC (seqOf k a) (seqOf k b)
  | .block _ c => seqOf k c
  | .loop c => seqOf k c
  | .scope c => seqOf k c
  | _ => none
/-- Only that a walk comes to its end: no fault. -/
def onlyN (Q : Exit → Act → World → Prop) : Exit → Act → World → Prop := fun e a w => match e with
  | .normal => Q .normal a w
  | _ => False
theorem onlyN_imp {Q : Exit → Act → World → Prop} : ∀ e a w, onlyN Q e a w → Q e a w := fun e _ _ h => match e, h with
  | .normal, h => h
noncomputable def body9 : Code := (Try.f6).body.getD .skip
noncomputable def goodCode : Code := (branchOf 75 false body9).getD .skip
noncomputable def searchCode : Code := (seqOf 19 body9).getD .skip
noncomputable def roundCode : Code := (seqOf 22 body9).getD .skip
noncomputable def lessCode : Code := (seqOf 24 body9).getD .skip
noncomputable def takeCode : Code := (branchOf 143 true body9).getD .skip
noncomputable def tellCode : Code := (branchOf 143 false body9).getD .skip

theorem cell_isT {w : World} {g j : Nat} {cs : Array Value} {t : TypeId} {fr : Nat × Nat} {v : Value} (h : w.heap[g]? = some (.cells cs t fr)) (hv : cs[j]? = some v) : w.cell? ⟨g, j, none⟩ = some v := (cell_of_row w g j cs t fr h).trans hv
theorem idx_facts {a n pl m : Nat} (ha : a < n) (hm : m < pl) (hnp : n * pl ≤ 720) : (a : Int) * (pl : Int) ≤ 720 ∧ (0 : Int) ≤ (a : Int) * (pl : Int) ∧ ¬ ((a : Int) * (pl : Int) + (m : Int) < 0) ∧ (a : Int) * (pl : Int) + (m : Int) < (n : Int) * (pl : Int) ∧ ((a : Int) * (pl : Int) + (m : Int)).toNat = a * pl + m ∧ a * pl + m < n * pl := by
  have h1 : (a + 1) * pl ≤ n * pl := Nat.mul_le_mul_right _ ha
  rw [Nat.succ_mul] at h1
  simp only [← Int.natCast_mul]
  refine ⟨by omega, by omega, by omega, by omega, by omega, by omega⟩
/-- The greatest key, with one more. -/
def keyS (a b : Nat) (o : Option En) : Nat × Nat := match o with
  | none => (a, b)
  | some e => if klt a b e.n e.p = true then (e.n, e.p) else (a, b)
theorem finTo_keyS (s : TS) (m p : Nat) : finTo s m (p + 1) = keyS (finTo s m p).1 (finTo s m p).2 (s.ent p m) := by
  show (match s.ent p m with | none => finTo s m p | some e => if klt (finTo s m p).1 (finTo s m p).2 e.n e.p = true then (e.n, e.p) else finTo s m p) = _
  unfold keyS
  cases s.ent p m with
  | none => rfl
  | some e => rfl
abbrev keyAt (w : World) (q0 : Nat) (a b : Nat) : Prop := w.heap[q0]? = some (.cells #[.int .i64 (a : Int), .int .i64 (b : Int)] 45 (0, 0))
set_option maxRecDepth 1000000 in
set_option maxHeartbeats 16000000 in
theorem less_none {Q : Exit → Act → World → Prop} {wb : World} {yb q0 fa fb : Nat} {c0 c1 c2 c3 c4 c5 c6 c7 c8 c9 c10 c11 c12 c13 c15 c16 c18 c19 c20 c21 c22 c23 c24 c25 c26 c27 c28 c29 c30 c31 c32 c33 c34 c35 c36 c37 c38 c39 c40 c41 c42 c43 c44 c45 c46 c47 c48 c49 c50 c51 c52 c53 c54 c55 c56 c57 c58 c59 c60 c61 c62 c63 c64 c65 c66 c67 c68 c69 c70 c71 c72 c73 c74 c75 c76 c77 c78 c79 c80 c81 c82 c83 c84 c85 c86 c87 c88 c89 c90 c91 c92 c93 c94 c95 c96 c97 c98 c99 c100 c101 c102 c103 c104 c105 c106 c107 c108 c109 c110 c111 c112 c113 c114 c115 c116 c117 c118 c119 c120 c121 c122 c123 c124 c125 c126 c127 c128 c129 c130 c131 c132 c133 c134 c135 c136 c137 c138 c139 c140 c141 c142 c143 c144 c145 c146 c147 c148 c149 c150 c151 c152 c153 c154 c155 c156 c157 c158 c159 c160 c161 c162 c163 c164 c165 c166 c167 c168 c169 c170 c171 c172 c173 c174 c175 c176 c177 c178 c179 c180 c181 c182 c183 c184 c185 c186 c187 c188 c189 c190 c191 c192 c193 c194 c195 c196 c197 c198 c199 c200 c201 c202 c203 c204 c205 c206 c207 c208 c209 c210 c211 c212 c213 c214 c215 c216 c217 c218 c219 : Value}
    (hy : wb.heap[yb]? = some (.cells #[.int .i64 0, .int .i64 0, .bool false, .bool false, .bool false] 47 (0, 0))) (hb : keyAt wb q0 fa fb) 
    (hQ : ∀ (z107 z108 z109 z110 z111 z112 z113 z114 z115 z116 : Value) (wx : World), keyAt wx q0 fa fb → Keep (fun g => g = q0) wb wx → Q .normal ⟨#[c0, c1, c2, c3, c4, c5, c6, c7, c8, c9, c10, c11, c12, c13, .pointer (some ⟨q0, 0, none⟩), c15, c16, .pointer (some ⟨yb, 0, none⟩), c18, c19, c20, c21, c22, c23, c24, c25, c26, c27, c28, c29, c30, c31, c32, c33, c34, c35, c36, c37, c38, c39, c40, c41, c42, c43, c44, c45, c46, c47, c48, c49, c50, c51, c52, c53, c54, c55, c56, c57, c58, c59, c60, c61, c62, c63, c64, c65, c66, c67, c68, c69, c70, c71, c72, c73, c74, c75, c76, c77, c78, c79, c80, c81, c82, c83, c84, c85, c86, c87, c88, c89, c90, c91, c92, c93, c94, c95, c96, c97, c98, c99, c100, c101, c102, c103, c104, c105, c106, z107, z108, z109, z110, z111, z112, z113, z114, z115, z116, c117, c118, c119, c120, c121, c122, c123, c124, c125, c126, c127, c128, c129, c130, c131, c132, c133, c134, c135, c136, c137, c138, c139, c140, c141, c142, c143, c144, c145, c146, c147, c148, c149, c150, c151, c152, c153, c154, c155, c156, c157, c158, c159, c160, c161, c162, c163, c164, c165, c166, c167, c168, c169, c170, c171, c172, c173, c174, c175, c176, c177, c178, c179, c180, c181, c182, c183, c184, c185, c186, c187, c188, c189, c190, c191, c192, c193, c194, c195, c196, c197, c198, c199, c200, c201, c202, c203, c204, c205, c206, c207, c208, c209, c210, c211, c212, c213, c214, c215, c216, c217, c218, c219], []⟩ wx) :
    Code.wp Try.prog lessCode Q ⟨#[c0, c1, c2, c3, c4, c5, c6, c7, c8, c9, c10, c11, c12, c13, .pointer (some ⟨q0, 0, none⟩), c15, c16, .pointer (some ⟨yb, 0, none⟩), c18, c19, c20, c21, c22, c23, c24, c25, c26, c27, c28, c29, c30, c31, c32, c33, c34, c35, c36, c37, c38, c39, c40, c41, c42, c43, c44, c45, c46, c47, c48, c49, c50, c51, c52, c53, c54, c55, c56, c57, c58, c59, c60, c61, c62, c63, c64, c65, c66, c67, c68, c69, c70, c71, c72, c73, c74, c75, c76, c77, c78, c79, c80, c81, c82, c83, c84, c85, c86, c87, c88, c89, c90, c91, c92, c93, c94, c95, c96, c97, c98, c99, c100, c101, c102, c103, c104, c105, c106, c107, c108, c109, c110, c111, c112, c113, c114, c115, c116, c117, c118, c119, c120, c121, c122, c123, c124, c125, c126, c127, c128, c129, c130, c131, c132, c133, c134, c135, c136, c137, c138, c139, c140, c141, c142, c143, c144, c145, c146, c147, c148, c149, c150, c151, c152, c153, c154, c155, c156, c157, c158, c159, c160, c161, c162, c163, c164, c165, c166, c167, c168, c169, c170, c171, c172, c173, c174, c175, c176, c177, c178, c179, c180, c181, c182, c183, c184, c185, c186, c187, c188, c189, c190, c191, c192, c193, c194, c195, c196, c197, c198, c199, c200, c201, c202, c203, c204, c205, c206, c207, c208, c209, c210, c211, c212, c213, c214, c215, c216, c217, c218, c219], []⟩ wb := by
  refine Code.wp_mono onlyN_imp ?_
  have HQ := hidMk hQ
  have HB := hidMk hb
  have n0 := cell_isT (j := 0) hy rfl
  have n1 := cell_isT (j := 1) hy rfl
  have n2 := cell_isT (j := 2) hy rfl
  have q1 := cell_isT (j := 0) hb rfl
  have q2 := cell_isT (j := 1) hb rfl
  clear hQ hb hy
  conv => arg 2; whnf
  go_wp2
  exact HQ.out _ _ _ _ _ _ _ _ _ _ _ HB.out (Keep.refl _ _)
set_option maxRecDepth 1000000 in
set_option maxHeartbeats 16000000 in
theorem less_old {Q : Exit → Act → World → Prop} {wb : World} {yb q0 fa fb en ep : Nat} {et eh : Bool} {c0 c1 c2 c3 c4 c5 c6 c7 c8 c9 c10 c11 c12 c13 c15 c16 c18 c19 c20 c21 c22 c23 c24 c25 c26 c27 c28 c29 c30 c31 c32 c33 c34 c35 c36 c37 c38 c39 c40 c41 c42 c43 c44 c45 c46 c47 c48 c49 c50 c51 c52 c53 c54 c55 c56 c57 c58 c59 c60 c61 c62 c63 c64 c65 c66 c67 c68 c69 c70 c71 c72 c73 c74 c75 c76 c77 c78 c79 c80 c81 c82 c83 c84 c85 c86 c87 c88 c89 c90 c91 c92 c93 c94 c95 c96 c97 c98 c99 c100 c101 c102 c103 c104 c105 c106 c107 c108 c109 c110 c111 c112 c113 c114 c115 c116 c117 c118 c119 c120 c121 c122 c123 c124 c125 c126 c127 c128 c129 c130 c131 c132 c133 c134 c135 c136 c137 c138 c139 c140 c141 c142 c143 c144 c145 c146 c147 c148 c149 c150 c151 c152 c153 c154 c155 c156 c157 c158 c159 c160 c161 c162 c163 c164 c165 c166 c167 c168 c169 c170 c171 c172 c173 c174 c175 c176 c177 c178 c179 c180 c181 c182 c183 c184 c185 c186 c187 c188 c189 c190 c191 c192 c193 c194 c195 c196 c197 c198 c199 c200 c201 c202 c203 c204 c205 c206 c207 c208 c209 c210 c211 c212 c213 c214 c215 c216 c217 c218 c219 : Value}
    (hy : wb.heap[yb]? = some (.cells #[.int .i64 (en : Int), .int .i64 (ep : Int), .bool true, .bool et, .bool eh] 47 (0, 0))) (hb : keyAt wb q0 fa fb) (hkl : klt fa fb en ep = false)
    (hQ : ∀ (z107 z108 z109 z110 z111 z112 z113 z114 z115 z116 : Value) (wx : World), keyAt wx q0 fa fb → Keep (fun g => g = q0) wb wx → Q .normal ⟨#[c0, c1, c2, c3, c4, c5, c6, c7, c8, c9, c10, c11, c12, c13, .pointer (some ⟨q0, 0, none⟩), c15, c16, .pointer (some ⟨yb, 0, none⟩), c18, c19, c20, c21, c22, c23, c24, c25, c26, c27, c28, c29, c30, c31, c32, c33, c34, c35, c36, c37, c38, c39, c40, c41, c42, c43, c44, c45, c46, c47, c48, c49, c50, c51, c52, c53, c54, c55, c56, c57, c58, c59, c60, c61, c62, c63, c64, c65, c66, c67, c68, c69, c70, c71, c72, c73, c74, c75, c76, c77, c78, c79, c80, c81, c82, c83, c84, c85, c86, c87, c88, c89, c90, c91, c92, c93, c94, c95, c96, c97, c98, c99, c100, c101, c102, c103, c104, c105, c106, z107, z108, z109, z110, z111, z112, z113, z114, z115, z116, c117, c118, c119, c120, c121, c122, c123, c124, c125, c126, c127, c128, c129, c130, c131, c132, c133, c134, c135, c136, c137, c138, c139, c140, c141, c142, c143, c144, c145, c146, c147, c148, c149, c150, c151, c152, c153, c154, c155, c156, c157, c158, c159, c160, c161, c162, c163, c164, c165, c166, c167, c168, c169, c170, c171, c172, c173, c174, c175, c176, c177, c178, c179, c180, c181, c182, c183, c184, c185, c186, c187, c188, c189, c190, c191, c192, c193, c194, c195, c196, c197, c198, c199, c200, c201, c202, c203, c204, c205, c206, c207, c208, c209, c210, c211, c212, c213, c214, c215, c216, c217, c218, c219], []⟩ wx) :
    Code.wp Try.prog lessCode Q ⟨#[c0, c1, c2, c3, c4, c5, c6, c7, c8, c9, c10, c11, c12, c13, .pointer (some ⟨q0, 0, none⟩), c15, c16, .pointer (some ⟨yb, 0, none⟩), c18, c19, c20, c21, c22, c23, c24, c25, c26, c27, c28, c29, c30, c31, c32, c33, c34, c35, c36, c37, c38, c39, c40, c41, c42, c43, c44, c45, c46, c47, c48, c49, c50, c51, c52, c53, c54, c55, c56, c57, c58, c59, c60, c61, c62, c63, c64, c65, c66, c67, c68, c69, c70, c71, c72, c73, c74, c75, c76, c77, c78, c79, c80, c81, c82, c83, c84, c85, c86, c87, c88, c89, c90, c91, c92, c93, c94, c95, c96, c97, c98, c99, c100, c101, c102, c103, c104, c105, c106, c107, c108, c109, c110, c111, c112, c113, c114, c115, c116, c117, c118, c119, c120, c121, c122, c123, c124, c125, c126, c127, c128, c129, c130, c131, c132, c133, c134, c135, c136, c137, c138, c139, c140, c141, c142, c143, c144, c145, c146, c147, c148, c149, c150, c151, c152, c153, c154, c155, c156, c157, c158, c159, c160, c161, c162, c163, c164, c165, c166, c167, c168, c169, c170, c171, c172, c173, c174, c175, c176, c177, c178, c179, c180, c181, c182, c183, c184, c185, c186, c187, c188, c189, c190, c191, c192, c193, c194, c195, c196, c197, c198, c199, c200, c201, c202, c203, c204, c205, c206, c207, c208, c209, c210, c211, c212, c213, c214, c215, c216, c217, c218, c219], []⟩ wb := by
  refine Code.wp_mono onlyN_imp ?_
  have HQ := hidMk hQ
  have HB := hidMk hb
  have n0 := cell_isT (j := 0) hy rfl
  have n1 := cell_isT (j := 1) hy rfl
  have n2 := cell_isT (j := 2) hy rfl
  have q1 := cell_isT (j := 0) hb rfl
  have q2 := cell_isT (j := 1) hb rfl
  clear hQ hb hy
  have HLs : Hid (∀ wx, Calls Try.prog 10 #[.agg #[.int .i64 (fa : Int), .int .i64 (fb : Int)], .agg #[.int .i64 (en : Int), .int .i64 (ep : Int)]] wx fun e W2 => e = .returned (.bool false) ∧ Stil wx W2) := hidMk (fun wx => by have h9 := less_ref wx fa fb en ep; rw [hkl] at h9; exact h9)
  clear hkl
  conv => arg 2; whnf
  go_wp2_with (fail)
  go_at_call 10
  refine (HLs.out _).mono ?_
  rintro e9 w9 ⟨rfl, hk9⟩
  have HK9 := hidMk hk9
  clear hk9 n0 n1 n2 q1 q2
  go_wp2
  exact HQ.out _ _ _ _ _ _ _ _ _ _ _ ((HK9.out.block q0 (Array.getElem?_eq_some_iff.1 HB.out).1 (fun e => e)).trans HB.out) (HK9.out.mono (fun _ _ e => e.elim))
set_option maxRecDepth 1000000 in
set_option maxHeartbeats 16000000 in
theorem less_new {Q : Exit → Act → World → Prop} {wb : World} {yb q0 fa fb en ep : Nat} {et eh : Bool} {c0 c1 c2 c3 c4 c5 c6 c7 c8 c9 c10 c11 c12 c13 c15 c16 c18 c19 c20 c21 c22 c23 c24 c25 c26 c27 c28 c29 c30 c31 c32 c33 c34 c35 c36 c37 c38 c39 c40 c41 c42 c43 c44 c45 c46 c47 c48 c49 c50 c51 c52 c53 c54 c55 c56 c57 c58 c59 c60 c61 c62 c63 c64 c65 c66 c67 c68 c69 c70 c71 c72 c73 c74 c75 c76 c77 c78 c79 c80 c81 c82 c83 c84 c85 c86 c87 c88 c89 c90 c91 c92 c93 c94 c95 c96 c97 c98 c99 c100 c101 c102 c103 c104 c105 c106 c107 c108 c109 c110 c111 c112 c113 c114 c115 c116 c117 c118 c119 c120 c121 c122 c123 c124 c125 c126 c127 c128 c129 c130 c131 c132 c133 c134 c135 c136 c137 c138 c139 c140 c141 c142 c143 c144 c145 c146 c147 c148 c149 c150 c151 c152 c153 c154 c155 c156 c157 c158 c159 c160 c161 c162 c163 c164 c165 c166 c167 c168 c169 c170 c171 c172 c173 c174 c175 c176 c177 c178 c179 c180 c181 c182 c183 c184 c185 c186 c187 c188 c189 c190 c191 c192 c193 c194 c195 c196 c197 c198 c199 c200 c201 c202 c203 c204 c205 c206 c207 c208 c209 c210 c211 c212 c213 c214 c215 c216 c217 c218 c219 : Value}
    (hy : wb.heap[yb]? = some (.cells #[.int .i64 (en : Int), .int .i64 (ep : Int), .bool true, .bool et, .bool eh] 47 (0, 0))) (hb : keyAt wb q0 fa fb) (hkl : klt fa fb en ep = true)
    (hQ : ∀ (z107 z108 z109 z110 z111 z112 z113 z114 z115 z116 : Value) (wx : World), keyAt wx q0 en ep → Keep (fun g => g = q0) wb wx → Q .normal ⟨#[c0, c1, c2, c3, c4, c5, c6, c7, c8, c9, c10, c11, c12, c13, .pointer (some ⟨q0, 0, none⟩), c15, c16, .pointer (some ⟨yb, 0, none⟩), c18, c19, c20, c21, c22, c23, c24, c25, c26, c27, c28, c29, c30, c31, c32, c33, c34, c35, c36, c37, c38, c39, c40, c41, c42, c43, c44, c45, c46, c47, c48, c49, c50, c51, c52, c53, c54, c55, c56, c57, c58, c59, c60, c61, c62, c63, c64, c65, c66, c67, c68, c69, c70, c71, c72, c73, c74, c75, c76, c77, c78, c79, c80, c81, c82, c83, c84, c85, c86, c87, c88, c89, c90, c91, c92, c93, c94, c95, c96, c97, c98, c99, c100, c101, c102, c103, c104, c105, c106, z107, z108, z109, z110, z111, z112, z113, z114, z115, z116, c117, c118, c119, c120, c121, c122, c123, c124, c125, c126, c127, c128, c129, c130, c131, c132, c133, c134, c135, c136, c137, c138, c139, c140, c141, c142, c143, c144, c145, c146, c147, c148, c149, c150, c151, c152, c153, c154, c155, c156, c157, c158, c159, c160, c161, c162, c163, c164, c165, c166, c167, c168, c169, c170, c171, c172, c173, c174, c175, c176, c177, c178, c179, c180, c181, c182, c183, c184, c185, c186, c187, c188, c189, c190, c191, c192, c193, c194, c195, c196, c197, c198, c199, c200, c201, c202, c203, c204, c205, c206, c207, c208, c209, c210, c211, c212, c213, c214, c215, c216, c217, c218, c219], []⟩ wx) :
    Code.wp Try.prog lessCode Q ⟨#[c0, c1, c2, c3, c4, c5, c6, c7, c8, c9, c10, c11, c12, c13, .pointer (some ⟨q0, 0, none⟩), c15, c16, .pointer (some ⟨yb, 0, none⟩), c18, c19, c20, c21, c22, c23, c24, c25, c26, c27, c28, c29, c30, c31, c32, c33, c34, c35, c36, c37, c38, c39, c40, c41, c42, c43, c44, c45, c46, c47, c48, c49, c50, c51, c52, c53, c54, c55, c56, c57, c58, c59, c60, c61, c62, c63, c64, c65, c66, c67, c68, c69, c70, c71, c72, c73, c74, c75, c76, c77, c78, c79, c80, c81, c82, c83, c84, c85, c86, c87, c88, c89, c90, c91, c92, c93, c94, c95, c96, c97, c98, c99, c100, c101, c102, c103, c104, c105, c106, c107, c108, c109, c110, c111, c112, c113, c114, c115, c116, c117, c118, c119, c120, c121, c122, c123, c124, c125, c126, c127, c128, c129, c130, c131, c132, c133, c134, c135, c136, c137, c138, c139, c140, c141, c142, c143, c144, c145, c146, c147, c148, c149, c150, c151, c152, c153, c154, c155, c156, c157, c158, c159, c160, c161, c162, c163, c164, c165, c166, c167, c168, c169, c170, c171, c172, c173, c174, c175, c176, c177, c178, c179, c180, c181, c182, c183, c184, c185, c186, c187, c188, c189, c190, c191, c192, c193, c194, c195, c196, c197, c198, c199, c200, c201, c202, c203, c204, c205, c206, c207, c208, c209, c210, c211, c212, c213, c214, c215, c216, c217, c218, c219], []⟩ wb := by
  refine Code.wp_mono onlyN_imp ?_
  have HQ := hidMk hQ
  have HB := hidMk hb
  have n0 := cell_isT (j := 0) hy rfl
  have n1 := cell_isT (j := 1) hy rfl
  have n2 := cell_isT (j := 2) hy rfl
  have q1 := cell_isT (j := 0) hb rfl
  have q2 := cell_isT (j := 1) hb rfl
  clear hQ hb hy
  have HLs : Hid (∀ wx, Calls Try.prog 10 #[.agg #[.int .i64 (fa : Int), .int .i64 (fb : Int)], .agg #[.int .i64 (en : Int), .int .i64 (ep : Int)]] wx fun e W2 => e = .returned (.bool true) ∧ Stil wx W2) := hidMk (fun wx => by have h9 := less_ref wx fa fb en ep; rw [hkl] at h9; exact h9)
  clear hkl
  conv => arg 2; whnf
  go_wp2_with (fail)
  go_at_call 10
  refine (HLs.out _).mono ?_
  rintro e9 w9 ⟨rfl, hk9⟩
  have t1 := hk9.cell n0
  have t2 := hk9.cell n1
  have t3 := hk9.cell q1
  have t4 := hk9.cell q2
  have hb9 := (hk9.block q0 (Array.getElem?_eq_some_iff.1 HB.out).1 (fun e => e)).trans HB.out
  have t5 : w9.frozen? ⟨q0, 0, none⟩ = false := frozen_of_row _ _ _ _ _ hb9
  have t6 : w9.frozen? ⟨q0, 1, none⟩ = false := frozen_of_row _ _ _ _ _ hb9
  have b1 := heap_setCell_same w9 q0 0 _ _ (.int .i64 (en : Int)) hb9
  have b2 := heap_setCell_same _ q0 1 _ _ (.int .i64 (ep : Int)) b1
  have HB2 : Hid (keyAt ((w9.setCell ⟨q0, 0, none⟩ (.int .i64 (en : Int))).setCell ⟨q0, 1, none⟩ (.int .i64 (ep : Int))) q0 en ep) := hidMk (by simpa using b2)
  have HK2 : Hid (Keep (fun g => g = q0) wb ((w9.setCell ⟨q0, 0, none⟩ (.int .i64 (en : Int))).setCell ⟨q0, 1, none⟩ (.int .i64 (ep : Int)))) := hidMk (((hk9.mono (q := fun g => g = q0) (fun _ _ e => e.elim)).setCell q0 0 _ (fun _ => rfl)).setCell q0 1 _ (fun _ => rfl))
  clear hk9 hb9 b1 b2 n0 n1 n2 q1 q2
  go_wp2
  exact HQ.out _ _ _ _ _ _ _ _ _ _ _ HB2.out HK2.out
end Go.Proofs.Ytipoopbkapgfiaa
