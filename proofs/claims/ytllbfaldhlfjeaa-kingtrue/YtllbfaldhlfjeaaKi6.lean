/- The document's King, in pieces: a phase. -/
import Derived.Test.YtllbfaldhlfjeaaKi5
namespace Go.Proofs.Ytllbfaldhlfjeaa
open Go.RowKit
set_option linter.unusedVariables false

set_option maxRecDepth 1000000 in
set_option maxHeartbeats 16000000 in
theorem nexts_walk {Q : Exit → Act → World → Prop} {wb : World} {n t T k ll lc mc cc : Nat} {la ma ca : Option Addr} {ls : List Nat} {s : Nat → Bool} {c3 c5 c6 c7 c8 c9 c10 c11 c12 c16 c17 c18 c20 c21 c22 c23 c24 c25 c26 c27 c28 c29 c30 c31 c32 c33 c34 c35 c36 c37 c38 c39 c40 c41 c42 c43 c44 c45 c46 c47 c48 c49 c50 c51 c52 c53 c54 c55 c56 c57 c58 c59 c60 c61 c62 c63 c64 c65 c66 c67 c68 c69 c70 c71 c72 c73 c74 c75 c76 c77 c78 c79 c80 c81 c82 c83 c84 c85 c86 c87 c88 c89 c90 c91 c92 c93 c94 c95 c96 c97 c98 c99 c100 c101 c102 c103 c104 c105 c106 c107 c108 c109 c110 c111 c112 c113 c114 c115 c116 c117 c118 c119 c120 : Value}
    (hT : T < 4294967296) (hn : n ≤ 9) (hkn : k < n) (ht : t ≤ 9) (hq : RowQ wb la ll lc ls) (hmj : RowO wb ma n mc (rowV n (majK T.testBit (lieK ls) n s k))) (hct : RowI wb ca n cc (natsI (cntL T.testBit (lieK ls) n s k n)))
    (hQ : ∀ (z20 z21 z83 z84 z85 z86 z87 z88 z89 z90 z91 z92 z93 z94 z95 z96 z97 z98 z99 z100 z101 z102 z103 z104 z105 z106 z107 z108 z109 z110 z111 z112 z113 z114 z115 z116 z117 z118 : Value) (wx : World) (na : Option Addr) (nc : Nat), Seg wx (fun g => wb.heap.size ≤ g) 4 1 (.slice na n nc) n (boolsL (rowV n (nextK T.testBit (lieK ls) n t s k))) → Stil wb wx → Q .normal ⟨#[.int .i64 (n : Int), .int .i64 (t : Int), .int .u32 (T : Int), c3, .slice la ll lc, c5, c6, c7, c8, c9, c10, c11, c12, .int .i64 (k : Int), .slice ma n mc, .slice ca n cc, c16, c17, c18, .slice na n nc, z20, z21, c22, c23, c24, c25, c26, c27, c28, c29, c30, c31, c32, c33, c34, c35, c36, c37, c38, c39, c40, c41, c42, c43, c44, c45, c46, c47, c48, c49, c50, c51, c52, c53, c54, c55, c56, c57, c58, c59, c60, c61, c62, c63, c64, c65, c66, c67, c68, c69, c70, c71, c72, c73, c74, c75, c76, c77, c78, c79, c80, c81, c82, z83, z84, z85, z86, z87, z88, z89, z90, z91, z92, z93, z94, z95, z96, z97, z98, z99, z100, z101, z102, z103, z104, z105, z106, z107, z108, z109, z110, z111, z112, z113, z114, z115, z116, z117, z118, c119, c120], []⟩ wx) :
    Code.wp Try.prog nextsCode Q ⟨#[.int .i64 (n : Int), .int .i64 (t : Int), .int .u32 (T : Int), c3, .slice la ll lc, c5, c6, c7, c8, c9, c10, c11, c12, .int .i64 (k : Int), .slice ma n mc, .slice ca n cc, c16, c17, c18, .slice none 0 0, c20, c21, c22, c23, c24, c25, c26, c27, c28, c29, c30, c31, c32, c33, c34, c35, c36, c37, c38, c39, c40, c41, c42, c43, c44, c45, c46, c47, c48, c49, c50, c51, c52, c53, c54, c55, c56, c57, c58, c59, c60, c61, c62, c63, c64, c65, c66, c67, c68, c69, c70, c71, c72, c73, c74, c75, c76, c77, c78, c79, c80, c81, c82, c83, c84, c85, c86, c87, c88, c89, c90, c91, c92, c93, c94, c95, c96, c97, c98, c99, c100, c101, c102, c103, c104, c105, c106, c107, c108, c109, c110, c111, c112, c113, c114, c115, c116, c117, c118, c119, c120], []⟩ wb := by
  refine Code.wp_mono onlyN_imp ?_
  have HQ := hidMk hQ
  clear hQ
  have hn9 : (n : Int) ≤ 9 := by omega
  have Hq := hidMk hq
  have Hm := hidMk hmj
  have Hc := hidMk hct
  clear hq hmj hct
  conv => arg 2; whnf
  go_wp2_with (fail)
  go_loopw [19, 20] (fun v u wr => ∃ (j : Nat) (na : Option Addr) (nc : Nat), j ≤ n ∧ u = .int .i64 (j : Int) ∧ v = .slice na j nc ∧ Hid (Seg wr (fun g => wb.heap.size ≤ g) 4 1 (.slice na j nc) j (boolsL (rowV j (nextK T.testBit (lieK ls) n t s k)))) ∧ Hid (Stil wb wr)) (fun _ u _ => n - (intOf u).toNat)
  case atStart => exact ⟨0, none, 0, Nat.zero_le _, rfl, rfl, Seg.nil _ _ _ _, Keep.refl _ _⟩
  case round =>
    obtain ⟨j, na, nc, hj, rfl, rfl, HGn, HS⟩ := hrel
    by_cases hlt : j < n
    · have hlt' : (j : Int) < (n : Int) := by omega
      have hqx : Hid (RowQ wr la ll lc ls) := Hq.out.still HS.out
      have hmx : Hid (RowO wr ma n mc (rowV n (majK T.testBit (lieK ls) n s k))) := Hm.out.still HS.out
      have hcx : Hid (RowI wr ca n cc (natsI (cntL T.testBit (lieK ls) n s k n))) := Hc.out.still HS.out
      go_upto_block 9 with fail
      refine wp_block ?_
      refine step_walk (w0 := wb) hT hn hlt hkn ht hqx.out hmx.out hcx.out HGn HS ?_
      intro z21 z88 z89 z90 z91 z92 z93 z94 z95 z96 z97 z98 z99 z100 z101 z102 z103 z104 z105 z106 z107 z108 z109 z110 z111 z112 z113 z114 z115 z116 z117 z118 wx na2 nc2 h1 h2
      have H1 := hidMk h1
      have H2 := hidMk h2
      clear h1 h2
      go_wp2
      go_roundw
      case rel => exact ⟨j + 1, na2, nc2, by omega, by go_num, rfl, H1, H2⟩
      case measure => simp [intOf]; omega
    · obtain rfl : j = n := by omega
      go_wp2
      exact HQ.out _ _ _ _ _ _ _ _ _ _ _ _ _ _ _ _ _ _ _ _ _ _ _ _ _ _ _ _ _ _ _ _ _ _ _ _ _ _ _ na nc HGn.out HS.out
set_option maxRecDepth 1000000 in
set_option maxHeartbeats 16000000 in
theorem phase_walk {Q : Exit → Act → World → Prop} {wb : World} {n t T k ll lc vc : Nat} {la va : Option Addr} {ls : List Nat} {s : Nat → Bool} {c3 c5 c6 c7 c8 c9 c10 c12 c14 c15 c16 c17 c18 c19 c20 c21 c22 c23 c24 c25 c26 c27 c28 c29 c30 c31 c32 c33 c34 c35 c36 c37 c38 c39 c40 c41 c42 c43 c44 c45 c46 c47 c48 c49 c50 c51 c52 c53 c54 c55 c56 c57 c58 c59 c60 c61 c62 c63 c64 c65 c66 c67 c68 c69 c70 c71 c72 c73 c74 c75 c76 c77 c78 c79 c80 c81 c82 c83 c84 c85 c86 c87 c88 c89 c90 c91 c92 c93 c94 c95 c96 c97 c98 c99 c100 c101 c102 c103 c104 c105 c106 c107 c108 c109 c110 c111 c112 c113 c114 c115 c116 c117 c118 c119 c120 : Value}
    (hT : T < 4294967296) (hn : n ≤ 9) (hkn : k < n) (ht : t ≤ 9) (hq : RowQ wb la ll lc ls) (hv : RowO wb va n vc (rowV n s))
    (hQ : ∀ (z14 z15 z16 z17 z18 z19 z20 z21 z38 z39 z40 z41 z42 z43 z44 z45 z46 z47 z48 z49 z50 z51 z52 z53 z54 z55 z56 z57 z58 z59 z60 z61 z62 z63 z64 z65 z66 z67 z68 z69 z70 z71 z72 z73 z74 z75 z76 z77 z78 z79 z80 z81 z82 z83 z84 z85 z86 z87 z88 z89 z90 z91 z92 z93 z94 z95 z96 z97 z98 z99 z100 z101 z102 z103 z104 z105 z106 z107 z108 z109 z110 z111 z112 z113 z114 z115 z116 z117 z118 z119 : Value) (wx : World) (na : Option Addr) (nc : Nat), RowO wx na n nc (rowV n (nextK T.testBit (lieK ls) n t s k)) → Stil wb wx → Q .normal ⟨#[.int .i64 (n : Int), .int .i64 (t : Int), .int .u32 (T : Int), c3, .slice la ll lc, c5, c6, c7, c8, c9, c10, .slice na n nc, c12, .int .i64 (k : Int), z14, z15, z16, z17, z18, z19, z20, z21, c22, c23, c24, c25, c26, c27, c28, c29, c30, c31, c32, c33, c34, c35, c36, c37, z38, z39, z40, z41, z42, z43, z44, z45, z46, z47, z48, z49, z50, z51, z52, z53, z54, z55, z56, z57, z58, z59, z60, z61, z62, z63, z64, z65, z66, z67, z68, z69, z70, z71, z72, z73, z74, z75, z76, z77, z78, z79, z80, z81, z82, z83, z84, z85, z86, z87, z88, z89, z90, z91, z92, z93, z94, z95, z96, z97, z98, z99, z100, z101, z102, z103, z104, z105, z106, z107, z108, z109, z110, z111, z112, z113, z114, z115, z116, z117, z118, z119, c120], []⟩ wx) :
    Code.wp Try.prog phaseCode Q ⟨#[.int .i64 (n : Int), .int .i64 (t : Int), .int .u32 (T : Int), c3, .slice la ll lc, c5, c6, c7, c8, c9, c10, .slice va n vc, c12, .int .i64 (k : Int), c14, c15, c16, c17, c18, c19, c20, c21, c22, c23, c24, c25, c26, c27, c28, c29, c30, c31, c32, c33, c34, c35, c36, c37, c38, c39, c40, c41, c42, c43, c44, c45, c46, c47, c48, c49, c50, c51, c52, c53, c54, c55, c56, c57, c58, c59, c60, c61, c62, c63, c64, c65, c66, c67, c68, c69, c70, c71, c72, c73, c74, c75, c76, c77, c78, c79, c80, c81, c82, c83, c84, c85, c86, c87, c88, c89, c90, c91, c92, c93, c94, c95, c96, c97, c98, c99, c100, c101, c102, c103, c104, c105, c106, c107, c108, c109, c110, c111, c112, c113, c114, c115, c116, c117, c118, c119, c120], []⟩ wb := by
  refine Code.wp_mono onlyN_imp ?_
  have HQ := hidMk hQ
  clear hQ
  have Hq := hidMk hq
  have Hv := hidMk hv
  clear hq hv
  conv => arg 2; whnf
  refine wp_seq_k (fun K1 hK1 => ?_)
  have HK1 := hidMk hK1
  clear hK1
  go_wp2
  refine HK1.out _ _ ?_
  clear HK1
  refine wp_seq_k (fun K2 hK2 => ?_)
  have HK2 := hidMk hK2
  clear hK2
  go_wp2
  refine HK2.out _ _ ?_
  clear HK2
  refine wp_seq_k (fun K3 hK3 => ?_)
  refine majors_walk hT hn (by omega) Hq.out Hv.out ?_
  intro z16 z17 z18 z38 z39 z40 z41 z42 z43 z44 z45 z46 z47 z48 z49 z50 z51 z52 z53 z54 z55 z56 z57 z58 z59 z60 z61 z62 z63 z64 z65 z66 z67 z68 z69 z70 z71 z72 z73 z74 z75 z76 z77 z78 z79 z80 z81 z82 w2 ma ca mc cc h1 h2 h3
  refine hK3 _ _ ?_
  clear hK3
  have Hm : Hid (RowO w2 ma n mc (rowV n (majK T.testBit (lieK ls) n s k))) := seg_rowO h1
  have Hc := hidMk (seg_row h2)
  have H3 := hidMk h3
  clear h1 h2 h3
  refine wp_seq_k (fun K4 hK4 => ?_)
  have HK4 := hidMk hK4
  clear hK4
  go_wp2
  refine HK4.out _ _ ?_
  clear HK4
  refine wp_seq_k (fun K5 hK5 => ?_)
  refine nexts_walk hT hn hkn ht (Hq.out.still H3.out) Hm.out Hc.out ?_
  intro z20 z21 z83 z84 z85 z86 z87 z88 z89 z90 z91 z92 z93 z94 z95 z96 z97 z98 z99 z100 z101 z102 z103 z104 z105 z106 z107 z108 z109 z110 z111 z112 z113 z114 z115 z116 z117 z118 w3 na nc h1 h2
  refine hK5 _ _ ?_
  clear hK5
  have H1 := hidMk (seg_rowO h1)
  have H2 := hidMk (H3.out.tr h2)
  clear h1 h2
  go_wp2
  exact HQ.out _ _ _ _ _ _ _ _ _ _ _ _ _ _ _ _ _ _ _ _ _ _ _ _ _ _ _ _ _ _ _ _ _ _ _ _ _ _ _ _ _ _ _ _ _ _ _ _ _ _ _ _ _ _ _ _ _ _ _ _ _ _ _ _ _ _ _ _ _ _ _ _ _ _ _ _ _ _ _ _ _ _ _ _ _ _ _ _ _ _ _ na nc H1.out H2.out
end Go.Proofs.Ytllbfaldhlfjeaa
