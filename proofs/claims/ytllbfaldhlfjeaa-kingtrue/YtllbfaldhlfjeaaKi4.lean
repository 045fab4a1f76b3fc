/- The document's King, in pieces: what all are told. -/
import Derived.Test.YtllbfaldhlfjeaaKi3
namespace Go.Proofs.Ytllbfaldhlfjeaa
open Go.RowKit
set_option linter.unusedVariables false

set_option maxRecDepth 1000000 in
set_option maxHeartbeats 16000000 in
theorem majors_walk {Q : Exit → Act → World → Prop} {wb : World} {n t T k ll lc vc : Nat} {la va : Option Addr} {ls : List Nat} {s : Nat → Bool} {c3 c5 c6 c7 c8 c9 c10 c12 c16 c17 c18 c19 c20 c21 c22 c23 c24 c25 c26 c27 c28 c29 c30 c31 c32 c33 c34 c35 c36 c37 c38 c39 c40 c41 c42 c43 c44 c45 c46 c47 c48 c49 c50 c51 c52 c53 c54 c55 c56 c57 c58 c59 c60 c61 c62 c63 c64 c65 c66 c67 c68 c69 c70 c71 c72 c73 c74 c75 c76 c77 c78 c79 c80 c81 c82 c83 c84 c85 c86 c87 c88 c89 c90 c91 c92 c93 c94 c95 c96 c97 c98 c99 c100 c101 c102 c103 c104 c105 c106 c107 c108 c109 c110 c111 c112 c113 c114 c115 c116 c117 c118 c119 c120 : Value}
    (hT : T < 4294967296) (hn : n ≤ 9) (hk : k ≤ 9) (hq : RowQ wb la ll lc ls) (hv : RowO wb va n vc (rowV n s))
    (hQ : ∀ (z16 z17 z18 z38 z39 z40 z41 z42 z43 z44 z45 z46 z47 z48 z49 z50 z51 z52 z53 z54 z55 z56 z57 z58 z59 z60 z61 z62 z63 z64 z65 z66 z67 z68 z69 z70 z71 z72 z73 z74 z75 z76 z77 z78 z79 z80 z81 z82 : Value) (wx : World) (ma ca : Option Addr) (mc cc : Nat), Seg wx (fun g => wb.heap.size ≤ g) 4 1 (.slice ma n mc) n (boolsL (majL T.testBit (lieK ls) n s k n)) → Seg wx (fun g => wb.heap.size ≤ g) 3 1 (.slice ca n cc) n (natsL (cntL T.testBit (lieK ls) n s k n)) → Stil wb wx → Q .normal ⟨#[.int .i64 (n : Int), .int .i64 (t : Int), .int .u32 (T : Int), c3, .slice la ll lc, c5, c6, c7, c8, c9, c10, .slice va n vc, c12, .int .i64 (k : Int), .slice ma n mc, .slice ca n cc, z16, z17, z18, c19, c20, c21, c22, c23, c24, c25, c26, c27, c28, c29, c30, c31, c32, c33, c34, c35, c36, c37, z38, z39, z40, z41, z42, z43, z44, z45, z46, z47, z48, z49, z50, z51, z52, z53, z54, z55, z56, z57, z58, z59, z60, z61, z62, z63, z64, z65, z66, z67, z68, z69, z70, z71, z72, z73, z74, z75, z76, z77, z78, z79, z80, z81, z82, c83, c84, c85, c86, c87, c88, c89, c90, c91, c92, c93, c94, c95, c96, c97, c98, c99, c100, c101, c102, c103, c104, c105, c106, c107, c108, c109, c110, c111, c112, c113, c114, c115, c116, c117, c118, c119, c120], []⟩ wx) :
    Code.wp Try.prog majorsCode Q ⟨#[.int .i64 (n : Int), .int .i64 (t : Int), .int .u32 (T : Int), c3, .slice la ll lc, c5, c6, c7, c8, c9, c10, .slice va n vc, c12, .int .i64 (k : Int), .slice none 0 0, .slice none 0 0, c16, c17, c18, c19, c20, c21, c22, c23, c24, c25, c26, c27, c28, c29, c30, c31, c32, c33, c34, c35, c36, c37, c38, c39, c40, c41, c42, c43, c44, c45, c46, c47, c48, c49, c50, c51, c52, c53, c54, c55, c56, c57, c58, c59, c60, c61, c62, c63, c64, c65, c66, c67, c68, c69, c70, c71, c72, c73, c74, c75, c76, c77, c78, c79, c80, c81, c82, c83, c84, c85, c86, c87, c88, c89, c90, c91, c92, c93, c94, c95, c96, c97, c98, c99, c100, c101, c102, c103, c104, c105, c106, c107, c108, c109, c110, c111, c112, c113, c114, c115, c116, c117, c118, c119, c120], []⟩ wb := by
  refine Code.wp_mono onlyN_imp ?_
  have HQ := hidMk hQ
  clear hQ
  have hn9 : (n : Int) ≤ 9 := by omega
  have Hq := hidMk hq
  have Hv := hidMk hv
  clear hq hv
  conv => arg 2; whnf
  go_wp2_with (fail)
  go_loopw [14, 15, 16] (fun v14 v15 u wr => ∃ (j : Nat) (ma ca : Option Addr) (mc cc : Nat), j ≤ n ∧ u = .int .i64 (j : Int) ∧ v14 = .slice ma j mc ∧ v15 = .slice ca j cc ∧ Hid (Seg wr (fun g => wb.heap.size ≤ g) 4 1 (.slice ma j mc) j (boolsL (majL T.testBit (lieK ls) n s k j))) ∧ Hid (Seg wr (fun g => wb.heap.size ≤ g) 3 1 (.slice ca j cc) j (natsL (cntL T.testBit (lieK ls) n s k j))) ∧ Hid (Stil wb wr)) (fun _ _ u _ => n - (intOf u).toNat)
  case atStart => exact ⟨0, none, none, 0, 0, Nat.zero_le _, rfl, rfl, rfl, Seg.nil _ _ _ _, Seg.nil _ _ _ _, Keep.refl _ _⟩
  case round =>
    obtain ⟨j, ma, ca, mc, cc, hj, rfl, rfl, rfl, HGm, HGc, HS⟩ := hrel
    by_cases hlt : j < n
    · have hlt' : (j : Int) < (n : Int) := by omega
      have hvx : Hid (RowO wr va n vc (rowV n s)) := Hv.out.still HS.out
      have hqx : Hid (RowQ wr la ll lc ls) := Hq.out.still HS.out
      go_upto_block 5 with fail
      refine wp_block ?_
      refine row_walk (w0 := wb) hT hn hlt hk hqx.out hvx.out HGm HGc HS ?_
      intro z17 z18 z43 z44 z45 z46 z47 z48 z49 z50 z51 z52 z53 z54 z55 z56 z57 z58 z59 z60 z61 z62 z63 z64 z65 z66 z67 z68 z69 z70 z71 z72 z73 z74 z75 z76 z77 z78 z79 z80 z81 z82 wx ma2 ca2 mc2 cc2 h1 h2 h3
      have H1 := hidMk h1
      have H2 := hidMk h2
      have H3 := hidMk h3
      clear h1 h2 h3
      go_wp2
      go_roundw
      case rel => exact ⟨j + 1, ma2, ca2, mc2, cc2, by omega, by go_num, rfl, rfl, H1, H2, H3⟩
      case measure => simp [intOf]; omega
    · obtain rfl : j = n := by omega
      go_wp2
      exact HQ.out _ _ _ _ _ _ _ _ _ _ _ _ _ _ _ _ _ _ _ _ _ _ _ _ _ _ _ _ _ _ _ _ _ _ _ _ _ _ _ _ _ _ _ _ _ _ _ _ _ ma ca mc cc HGm.out HGc.out HS.out
end Go.Proofs.Ytllbfaldhlfjeaa
