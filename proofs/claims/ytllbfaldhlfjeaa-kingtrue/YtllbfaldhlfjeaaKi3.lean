/- The document's King, in pieces: what one is told. -/
import Derived.Test.YtllbfaldhlfjeaaKi2
namespace Go.Proofs.Ytllbfaldhlfjeaa
open Go.RowKit
set_option linter.unusedVariables false

/-- An append to a slice of another type leaves a slice as it was. -/
theorem seg_past {wr w9 : World} {ok ok1 : Nat → Prop} {e1 e2 : TypeId} {s1 s2 n m : Nat} {v u : Value} {xs ys : List Value} {o : Obj} (h : Seg wr ok e2 s2 u m ys) (hv : Seg wr ok1 e1 s1 v n xs) (he : e1 ≠ e2) (hg : (wr.alloc o).grownBy w9 v.ownBlock) : Seg w9 ok e2 s2 u m ys := by
  obtain ⟨h1, h2 | ⟨g, off, cap, cur, h2, h3, h4, h5⟩⟩ := h
  · exact ⟨h1, .inl h2⟩
  · have hgl := (Array.getElem?_eq_some_iff.1 h4).1
    refine ⟨h1, .inr ⟨g, off, cap, cur, h2, h3, ?_, h5⟩⟩
    rw [hg.block g (by simp; omega) (fun e => ?_), al_old _ _ _ hgl]
    · exact h4
    · obtain ⟨_, ⟨rfl, _⟩ | ⟨g1, off1, cap1, cur1, rfl, _, k4, _⟩⟩ := hv
      · simp [Value.ownBlock] at e
      · simp [Value.ownBlock] at e
        subst e
        rw [h4] at k4
        simp only [Option.some.injEq, Obj.cells.injEq] at k4
        exact he k4.2.1.symm
def majL (tr : Nat → Bool) (lie : Nat → Nat → Bool) (n : Nat) (s : Nat → Bool) (k m : Nat) : List Bool := (List.range m).map (majK tr lie n s k)
def cntL (tr : Nat → Bool) (lie : Nat → Nat → Bool) (n : Nat) (s : Nat → Bool) (k m : Nat) : List Nat := (List.range m).map (cntK tr lie n s k)
theorem majL_succ (tr : Nat → Bool) (lie : Nat → Nat → Bool) (n : Nat) (s : Nat → Bool) (k m : Nat) : boolsL (majL tr lie n s k (m + 1)) = boolsL (majL tr lie n s k m) ++ [.bool (majK tr lie n s k m)] := by simp [majL, boolsL, List.range_succ]
theorem cntL_succ (tr : Nat → Bool) (lie : Nat → Nat → Bool) (n : Nat) (s : Nat → Bool) (k m : Nat) : natsL (cntL tr lie n s k (m + 1)) = natsL (cntL tr lie n s k m) ++ [.int .i64 ((cntK tr lie n s k m : Nat) : Int)] := by simp [cntL, natsL, List.range_succ]
set_option maxRecDepth 1000000 in
set_option maxHeartbeats 16000000 in
theorem row_walk {Q : Exit → Act → World → Prop} {w0 wb : World} {n t T k j ll lc vc mc cc : Nat} {la va ma ca : Option Addr} {ls : List Nat} {s : Nat → Bool} {c3 c5 c6 c7 c8 c9 c10 c12 c17 c18 c19 c20 c21 c22 c23 c24 c25 c26 c27 c28 c29 c30 c31 c32 c33 c34 c35 c36 c37 c38 c39 c40 c41 c42 c43 c44 c45 c46 c47 c48 c49 c50 c51 c52 c53 c54 c55 c56 c57 c58 c59 c60 c61 c62 c63 c64 c65 c66 c67 c68 c69 c70 c71 c72 c73 c74 c75 c76 c77 c78 c79 c80 c81 c82 c83 c84 c85 c86 c87 c88 c89 c90 c91 c92 c93 c94 c95 c96 c97 c98 c99 c100 c101 c102 c103 c104 c105 c106 c107 c108 c109 c110 c111 c112 c113 c114 c115 c116 c117 c118 c119 c120 : Value}
    (hT : T < 4294967296) (hn : n ≤ 9) (hj : j < n) (hk : k ≤ 9) (hq : RowQ wb la ll lc ls) (hv : RowO wb va n vc (rowV n s)) (HGm : Hid (Seg wb (fun g => w0.heap.size ≤ g) 4 1 (.slice ma j mc) j (boolsL (majL T.testBit (lieK ls) n s k j)))) (HGc : Hid (Seg wb (fun g => w0.heap.size ≤ g) 3 1 (.slice ca j cc) j (natsL (cntL T.testBit (lieK ls) n s k j)))) (HS0 : Hid (Stil w0 wb))
    (hQ : ∀ (z17 z18 z43 z44 z45 z46 z47 z48 z49 z50 z51 z52 z53 z54 z55 z56 z57 z58 z59 z60 z61 z62 z63 z64 z65 z66 z67 z68 z69 z70 z71 z72 z73 z74 z75 z76 z77 z78 z79 z80 z81 z82 : Value) (wx : World) (ma2 ca2 : Option Addr) (mc2 cc2 : Nat), Seg wx (fun g => w0.heap.size ≤ g) 4 1 (.slice ma2 (j + 1) mc2) (j + 1) (boolsL (majL T.testBit (lieK ls) n s k (j + 1))) → Seg wx (fun g => w0.heap.size ≤ g) 3 1 (.slice ca2 (j + 1) cc2) (j + 1) (natsL (cntL T.testBit (lieK ls) n s k (j + 1))) → Stil w0 wx → Q .normal ⟨#[.int .i64 (n : Int), .int .i64 (t : Int), .int .u32 (T : Int), c3, .slice la ll lc, c5, c6, c7, c8, c9, c10, .slice va n vc, c12, .int .i64 (k : Int), .slice ma2 (j + 1) mc2, .slice ca2 (j + 1) cc2, .int .i64 (j : Int), z17, z18, c19, c20, c21, c22, c23, c24, c25, c26, c27, c28, c29, c30, c31, c32, c33, c34, c35, c36, c37, c38, c39, c40, c41, c42, z43, z44, z45, z46, z47, z48, z49, z50, z51, z52, z53, z54, z55, z56, z57, z58, z59, z60, z61, z62, z63, z64, z65, z66, z67, z68, z69, z70, z71, z72, z73, z74, z75, z76, z77, z78, z79, z80, z81, z82, c83, c84, c85, c86, c87, c88, c89, c90, c91, c92, c93, c94, c95, c96, c97, c98, c99, c100, c101, c102, c103, c104, c105, c106, c107, c108, c109, c110, c111, c112, c113, c114, c115, c116, c117, c118, c119, c120], []⟩ wx) :
    Code.wp Try.prog rowCode Q ⟨#[.int .i64 (n : Int), .int .i64 (t : Int), .int .u32 (T : Int), c3, .slice la ll lc, c5, c6, c7, c8, c9, c10, .slice va n vc, c12, .int .i64 (k : Int), .slice ma j mc, .slice ca j cc, .int .i64 (j : Int), c17, c18, c19, c20, c21, c22, c23, c24, c25, c26, c27, c28, c29, c30, c31, c32, c33, c34, c35, c36, c37, c38, c39, c40, c41, c42, c43, c44, c45, c46, c47, c48, c49, c50, c51, c52, c53, c54, c55, c56, c57, c58, c59, c60, c61, c62, c63, c64, c65, c66, c67, c68, c69, c70, c71, c72, c73, c74, c75, c76, c77, c78, c79, c80, c81, c82, c83, c84, c85, c86, c87, c88, c89, c90, c91, c92, c93, c94, c95, c96, c97, c98, c99, c100, c101, c102, c103, c104, c105, c106, c107, c108, c109, c110, c111, c112, c113, c114, c115, c116, c117, c118, c119, c120], []⟩ wb := by
  refine Code.wp_mono onlyN_imp ?_
  have HQ := hidMk hQ
  clear hQ
  obtain ⟨i0, iit, iz0, iz1, iz2⟩ := info_parts cInfoInt
  obtain ⟨b0, bit, bz0, bz1, bz2⟩ := info_parts bInfo
  have hn9 : (n : Int) ≤ 9 := by omega
  have hy := yes_le (tr := T.testBit) (lie := lieK ls) (n := n) (s := s) k j
  have HMj0 : Hid (majK T.testBit (lieK ls) n s k j = decide (n - yesK T.testBit (lieK ls) n s k j < yesK T.testBit (lieK ls) n s k j)) := rfl
  have HCt0 : Hid (cntK T.testBit (lieK ls) n s k j = if majK T.testBit (lieK ls) n s k j = true then yesK T.testBit (lieK ls) n s k j else n - yesK T.testBit (lieK ls) n s k j) := rfl
  conv => arg 2; whnf
  refine wp_seq_k (fun K1 hK1 => ?_)
  have HK1 := hidMk hK1
  clear hK1
  go_wp2
  refine HK1.out _ _ ?_
  refine wp_seq_k (fun K2 hK2 => ?_)
  refine count_walk hT hn hj hk hq hv ?_
  intro z18 z43 z44 z45 z46 z47 z48 z49 z50 z51 z52 z53 z54 z55 z56 z57 z58 z59 z60 z61
  refine hK2 _ _ ?_
  clear hK2
  generalize yesK T.testBit (lieK ls) n s k j = y at *
  obtain ⟨no, hno⟩ : ∃ no, no = n - y := ⟨_, rfl⟩
  have hw3 : IntKind.i64.wrap ((n : Int) - (y : Int)) = (no : Int) := by rw [show (n : Int) - (y : Int) = (no : Int) by omega]; exact wrapG ⟨by omega, by omega⟩
  rw [← hno] at HMj0 HCt0
  have hn9' : no ≤ 9 := by omega
  clear hno
  refine wp_seq_k (fun K4 hK4 => ?_)
  have HK4 := hidMk hK4
  clear hK4
  cases hm : decide (no < y)
  · have c1 : decide ((no : Int) < (y : Int)) = false := decide_eq_false (by have := of_decide_eq_false hm; omega)
    have HMj : Hid (majK T.testBit (lieK ls) n s k j = false) := by show _ = _; rw [HMj0.out, hm]
    have HCt : Hid (cntK T.testBit (lieK ls) n s k j = no) := by show _ = _; rw [HCt0.out, HMj.out]; simp
    go_wp2
    refine HK4.out _ _ ?_
    clear HK4 c1 HMj0 HCt0
    refine wp_cond_false rfl ?_
    clear hm
    refine wp_seq_k (fun K3 hK3 => ?_)
    have HK3 := hidMk hK3
    clear hK3
    go_wp2_with (at_builtin; refine wpList_append_seg _ rfl _ _ 24 rfl 4 b0 (.bool false) 1 1 Try.underlying24 bit bz0 bz1 bz2 rfl (by decide) _ _ _ rfl (segAlloc HGm.out _) ⟨_, 0, none⟩ 1 1 [.bool false] rfl rfl (cCell1 _ _ _ _ (by simp)) (bOne _) (by unfold maxLen; omega) (by omega) ?_)
    intro v5 w5 hs5 hg5
    have HGc5 := hidMk (seg_past HGc.out HGm.out (by decide) hg5)
    obtain ⟨q1, q2⟩ := app_bool (w := w0) (ys := boolsL (majL T.testBit (lieK ls) n s k (j + 1))) (y := false) (by rw [majL_succ, HMj.out]) HS0.out (Stil.new wb _) HGm.out (hs5.mono (fun g _ h => by rcases h with h | h; exact .inl h; exact .inr (by rw [h]; simp))) hg5
    have HGm5 := hidMk q1
    have HS5 := hidMk q2
    obtain ⟨a5, c5, hv5⟩ := segForm hs5
    subst hv5
    clear hs5 hg5 q1 q2
    go_wp2
    refine HK3.out _ _ ?_
    clear HK3
    go_wp2_with (at_builtin; refine wpList_append_seg _ rfl _ _ 39 rfl 3 i0 (.int .i64 0) 1 8 Try.underlying39 iit iz0 iz1 iz2 rfl (by decide) _ _ _ rfl (segAlloc HGc5.out _) ⟨_, 0, none⟩ 1 1 [.int .i64 (no : Int)] rfl rfl (cCell1 _ _ _ _ (by simp)) (cOne _) (by unfold maxLen; omega) (by omega) ?_)
    intro v6 w6 hs6 hg6
    have HGm6 := hidMk (seg_past HGm5.out HGc5.out (by decide) hg6)
    obtain ⟨q1, q2⟩ := app_nat HS5.out HGc5.out hs6 hg6
    have HGc6 : Hid (Seg w6 (fun g => w0.heap.size ≤ g) 3 1 v6 (j + 1) (natsL (cntL T.testBit (lieK ls) n s k (j + 1)))) := by
      show Seg _ _ _ _ _ _ _
      rw [cntL_succ, HCt.out]
      have e : natsL (cntL T.testBit (lieK ls) n s k j) ++ [.int .i64 (no : Int)] = natsL (cntL T.testBit (lieK ls) n s k j ++ [no]) := by simp [natsL]
      rw [e]
      exact q1
    have HS6 := hidMk q2
    obtain ⟨a6, c6, hv6⟩ := segForm hs6
    subst hv6
    clear hs6 hg6 q1 q2
    go_wp2
    exact HQ.out _ _ _ _ _ _ _ _ _ _ _ _ _ _ _ _ _ _ _ _ _ _ _ _ _ _ _ _ _ _ _ _ _ _ _ _ _ _ _ _ _ _ _ _ _ _ _ HGm6.out HGc6.out HS6.out
  · have c1 : decide ((no : Int) < (y : Int)) = true := decide_eq_true (by have := of_decide_eq_true hm; omega)
    have HMj : Hid (majK T.testBit (lieK ls) n s k j = true) := by show _ = _; rw [HMj0.out, hm]
    have HCt : Hid (cntK T.testBit (lieK ls) n s k j = y) := by show _ = _; rw [HCt0.out, HMj.out]; simp
    go_wp2
    refine HK4.out _ _ ?_
    clear HK4 c1 HMj0 HCt0
    refine wp_cond_true rfl ?_
    clear hm
    refine wp_seq_k (fun K3 hK3 => ?_)
    have HK3 := hidMk hK3
    clear hK3
    go_wp2_with (at_builtin; refine wpList_append_seg _ rfl _ _ 24 rfl 4 b0 (.bool false) 1 1 Try.underlying24 bit bz0 bz1 bz2 rfl (by decide) _ _ _ rfl (segAlloc HGm.out _) ⟨_, 0, none⟩ 1 1 [.bool true] rfl rfl (cCell1 _ _ _ _ (by simp)) (bOne _) (by unfold maxLen; omega) (by omega) ?_)
    intro v5 w5 hs5 hg5
    have HGc5 := hidMk (seg_past HGc.out HGm.out (by decide) hg5)
    obtain ⟨q1, q2⟩ := app_bool (w := w0) (ys := boolsL (majL T.testBit (lieK ls) n s k (j + 1))) (y := true) (by rw [majL_succ, HMj.out]) HS0.out (Stil.new wb _) HGm.out (hs5.mono (fun g _ h => by rcases h with h | h; exact .inl h; exact .inr (by rw [h]; simp))) hg5
    have HGm5 := hidMk q1
    have HS5 := hidMk q2
    obtain ⟨a5, c5, hv5⟩ := segForm hs5
    subst hv5
    clear hs5 hg5 q1 q2
    go_wp2
    refine HK3.out _ _ ?_
    clear HK3
    go_wp2_with (at_builtin; refine wpList_append_seg _ rfl _ _ 39 rfl 3 i0 (.int .i64 0) 1 8 Try.underlying39 iit iz0 iz1 iz2 rfl (by decide) _ _ _ rfl (segAlloc HGc5.out _) ⟨_, 0, none⟩ 1 1 [.int .i64 (y : Int)] rfl rfl (cCell1 _ _ _ _ (by simp)) (cOne _) (by unfold maxLen; omega) (by omega) ?_)
    intro v6 w6 hs6 hg6
    have HGm6 := hidMk (seg_past HGm5.out HGc5.out (by decide) hg6)
    obtain ⟨q1, q2⟩ := app_nat HS5.out HGc5.out hs6 hg6
    have HGc6 : Hid (Seg w6 (fun g => w0.heap.size ≤ g) 3 1 v6 (j + 1) (natsL (cntL T.testBit (lieK ls) n s k (j + 1)))) := by
      show Seg _ _ _ _ _ _ _
      rw [cntL_succ, HCt.out]
      have e : natsL (cntL T.testBit (lieK ls) n s k j) ++ [.int .i64 (y : Int)] = natsL (cntL T.testBit (lieK ls) n s k j ++ [y]) := by simp [natsL]
      rw [e]
      exact q1
    have HS6 := hidMk q2
    obtain ⟨a6, c6, hv6⟩ := segForm hs6
    subst hv6
    clear hs6 hg6 q1 q2
    go_wp2
    exact HQ.out _ _ _ _ _ _ _ _ _ _ _ _ _ _ _ _ _ _ _ _ _ _ _ _ _ _ _ _ _ _ _ _ _ _ _ _ _ _ _ _ _ _ _ _ _ _ _ HGm6.out HGc6.out HS6.out
end Go.Proofs.Ytllbfaldhlfjeaa
