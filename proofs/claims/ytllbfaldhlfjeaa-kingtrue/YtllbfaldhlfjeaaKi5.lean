/- The document's King, in pieces: a vote. -/
import Derived.Test.YtllbfaldhlfjeaaKi4
namespace Go.Proofs.Ytllbfaldhlfjeaa
open Go.RowKit
set_option linter.unusedVariables false

theorem rowV_succ (m : Nat) (s : Nat → Bool) : boolsL (rowV (m + 1) s) = boolsL (rowV m s) ++ [.bool (s m)] := by simp [rowV, boolsL, List.range_succ]
set_option maxRecDepth 1000000 in
set_option maxHeartbeats 16000000 in
theorem step_walk {Q : Exit → Act → World → Prop} {w0 wb : World} {n t T k j ll lc mc cc nc : Nat} {la ma ca na : Option Addr} {ls : List Nat} {s : Nat → Bool} {c3 c5 c6 c7 c8 c9 c10 c11 c12 c16 c17 c18 c21 c22 c23 c24 c25 c26 c27 c28 c29 c30 c31 c32 c33 c34 c35 c36 c37 c38 c39 c40 c41 c42 c43 c44 c45 c46 c47 c48 c49 c50 c51 c52 c53 c54 c55 c56 c57 c58 c59 c60 c61 c62 c63 c64 c65 c66 c67 c68 c69 c70 c71 c72 c73 c74 c75 c76 c77 c78 c79 c80 c81 c82 c83 c84 c85 c86 c87 c88 c89 c90 c91 c92 c93 c94 c95 c96 c97 c98 c99 c100 c101 c102 c103 c104 c105 c106 c107 c108 c109 c110 c111 c112 c113 c114 c115 c116 c117 c118 c119 c120 : Value}
    (hT : T < 4294967296) (hn : n ≤ 9) (hj : j < n) (hkn : k < n) (ht : t ≤ 9) (hq : RowQ wb la ll lc ls) (hmj : RowO wb ma n mc (rowV n (majK T.testBit (lieK ls) n s k))) (hct : RowI wb ca n cc (natsI (cntL T.testBit (lieK ls) n s k n))) (HGn : Hid (Seg wb (fun g => w0.heap.size ≤ g) 4 1 (.slice na j nc) j (boolsL (rowV j (nextK T.testBit (lieK ls) n t s k))))) (HS0 : Hid (Stil w0 wb))
    (hQ : ∀ (z21 z88 z89 z90 z91 z92 z93 z94 z95 z96 z97 z98 z99 z100 z101 z102 z103 z104 z105 z106 z107 z108 z109 z110 z111 z112 z113 z114 z115 z116 z117 z118 : Value) (wx : World) (na2 : Option Addr) (nc2 : Nat), Seg wx (fun g => w0.heap.size ≤ g) 4 1 (.slice na2 (j + 1) nc2) (j + 1) (boolsL (rowV (j + 1) (nextK T.testBit (lieK ls) n t s k))) → Stil w0 wx → Q .normal ⟨#[.int .i64 (n : Int), .int .i64 (t : Int), .int .u32 (T : Int), c3, .slice la ll lc, c5, c6, c7, c8, c9, c10, c11, c12, .int .i64 (k : Int), .slice ma n mc, .slice ca n cc, c16, c17, c18, .slice na2 (j + 1) nc2, .int .i64 (j : Int), z21, c22, c23, c24, c25, c26, c27, c28, c29, c30, c31, c32, c33, c34, c35, c36, c37, c38, c39, c40, c41, c42, c43, c44, c45, c46, c47, c48, c49, c50, c51, c52, c53, c54, c55, c56, c57, c58, c59, c60, c61, c62, c63, c64, c65, c66, c67, c68, c69, c70, c71, c72, c73, c74, c75, c76, c77, c78, c79, c80, c81, c82, c83, c84, c85, c86, c87, z88, z89, z90, z91, z92, z93, z94, z95, z96, z97, z98, z99, z100, z101, z102, z103, z104, z105, z106, z107, z108, z109, z110, z111, z112, z113, z114, z115, z116, z117, z118, c119, c120], []⟩ wx) :
    Code.wp Try.prog stepCode Q ⟨#[.int .i64 (n : Int), .int .i64 (t : Int), .int .u32 (T : Int), c3, .slice la ll lc, c5, c6, c7, c8, c9, c10, c11, c12, .int .i64 (k : Int), .slice ma n mc, .slice ca n cc, c16, c17, c18, .slice na j nc, .int .i64 (j : Int), c21, c22, c23, c24, c25, c26, c27, c28, c29, c30, c31, c32, c33, c34, c35, c36, c37, c38, c39, c40, c41, c42, c43, c44, c45, c46, c47, c48, c49, c50, c51, c52, c53, c54, c55, c56, c57, c58, c59, c60, c61, c62, c63, c64, c65, c66, c67, c68, c69, c70, c71, c72, c73, c74, c75, c76, c77, c78, c79, c80, c81, c82, c83, c84, c85, c86, c87, c88, c89, c90, c91, c92, c93, c94, c95, c96, c97, c98, c99, c100, c101, c102, c103, c104, c105, c106, c107, c108, c109, c110, c111, c112, c113, c114, c115, c116, c117, c118, c119, c120], []⟩ wb := by
  refine Code.wp_mono onlyN_imp ?_
  have HQ := hidMk hQ
  clear hQ
  obtain ⟨b0, bit, bz0, bz1, bz2⟩ := info_parts bInfo
  have hn9 : (n : Int) ≤ 9 := by omega
  have hk9 : (k : Int) ≤ 9 := by omega
  have ht9 : (t : Int) ≤ 9 := by omega
  obtain ⟨v1, v2, _, v4⟩ := hmj
  rcases v4 with v4 | ⟨bb, off, rfl, hbb, hcb⟩
  · omega
  obtain ⟨u1, u2, _, u4⟩ := hct
  rcases u4 with u4 | ⟨b2, off2, rfl, hb2, hc2⟩
  · omega
  have d0 := hcb j _ (rowV_at hj)
  have dk := hcb k _ (rowV_at hkn)
  have d1 := hc2 j _ (natsI_at (show (cntL T.testBit (lieK ls) n s k n)[j]? = some (cntK T.testBit (lieK ls) n s k j) by simp [cntL, hj]))
  have HNx0 : Hid (nextK T.testBit (lieK ls) n t s k j = if 2 * cntK T.testBit (lieK ls) n s k j ≤ n + 2 * t then saysK T.testBit (lieK ls) n k j (2 * k + 1) (majK T.testBit (lieK ls) n s k k) else majK T.testBit (lieK ls) n s k j) := rfl
  have hcn : cntK T.testBit (lieK ls) n s k j ≤ n := by
    unfold cntK
    have := yes_le (tr := T.testBit) (lie := lieK ls) (n := n) (s := s) k j
    split <;> omega
  obtain ⟨p2, hp2⟩ : ∃ p2, p2 = 2 * k + 1 := ⟨_, rfl⟩
  have hw2 : IntKind.i64.wrap (2 * (k : Int)) = 2 * (k : Int) := wrapG ⟨by omega, by omega⟩
  have hw3 : IntKind.i64.wrap (2 * (k : Int) + 1) = (p2 : Int) := by rw [show 2 * (k : Int) + 1 = (p2 : Int) by omega]; exact wrapG ⟨by omega, by omega⟩
  have HSy := hidMk (says_any (pl := p2) (majK T.testBit (lieK ls) n s k k) hq hT hn hkn hj (by omega))
  rw [← hp2] at HNx0
  have hjn : (j : Int) < (n : Int) := by omega
  have hkn' : (k : Int) < (n : Int) := by omega
  generalize majK T.testBit (lieK ls) n s k k = mk at *
  generalize majK T.testBit (lieK ls) n s k j = mj at *
  generalize saysK T.testBit (lieK ls) n k j p2 mk = y at *
  generalize cntK T.testBit (lieK ls) n s k j = cj at *
  have hcj : (cj : Int) ≤ 9 := by omega
  clear hcb hc2 v1 u1 hbb hb2 hp2
  conv => arg 2; whnf
  by_cases hle : 2 * cj ≤ n + 2 * t
  · have c1 : 2 * (cj : Int) ≤ (n : Int) + 2 * (t : Int) := by omega
    have HNx : Hid (nextK T.testBit (lieK ls) n t s k j = y) := by show _ = _; rw [HNx0.out, if_pos hle]
    clear HNx0 hle
    refine wp_seq_k (fun K1 hK1 => ?_)
    have HK1 := hidMk hK1
    clear hK1
    go_wp2
    refine HK1.out _ _ ?_
    clear HK1
    refine wp_seq_k (fun K2 hK2 => ?_)
    have HK2 := hidMk hK2
    clear hK2
    go_wp2_with (go_at_call 17; refine (HSy.out).mono ?_; rintro e w2 ⟨rfl, hw⟩; obtain rfl := hw.symm)
    refine HK2.out _ _ ?_
    clear HK2 d0 d1 dk
    go_wp2_with (at_builtin; refine wpList_append_seg _ rfl _ _ 24 rfl 4 b0 (.bool false) 1 1 Try.underlying24 bit bz0 bz1 bz2 rfl (by decide) _ _ _ rfl (segAlloc HGn.out _) ⟨_, 0, none⟩ 1 1 [.bool y] rfl rfl (cCell1 _ _ _ _ (by simp)) (bOne _) (by unfold maxLen; omega) (by omega) ?_)
    intro v5 w5 hs5 hg5
    obtain ⟨q1, q2⟩ := app_bool (w := w0) (ys := boolsL (rowV (j + 1) (nextK T.testBit (lieK ls) n t s k))) (y := y) (by rw [rowV_succ, HNx.out]) HS0.out (Stil.new wb _) HGn.out (hs5.mono (fun g _ h => by rcases h with h | h; exact .inl h; exact .inr (by rw [h]; simp))) hg5
    have HGn5 := hidMk q1
    have HS5 := hidMk q2
    obtain ⟨a5, c5, hv5⟩ := segForm hs5
    subst hv5
    clear hs5 hg5 q1 q2
    go_wp2
    exact HQ.out _ _ _ _ _ _ _ _ _ _ _ _ _ _ _ _ _ _ _ _ _ _ _ _ _ _ _ _ _ _ _ _ _ _ _ HGn5.out HS5.out
  · have c1 : (n : Int) + 2 * (t : Int) < 2 * (cj : Int) := by omega
    have HNx : Hid (nextK T.testBit (lieK ls) n t s k j = mj) := by show _ = _; rw [HNx0.out, if_neg hle]
    clear HNx0 hle HSy
    refine wp_seq_k (fun K1 hK1 => ?_)
    have HK1 := hidMk hK1
    clear hK1
    go_wp2
    refine HK1.out _ _ ?_
    clear HK1
    refine wp_seq_k (fun K2 hK2 => ?_)
    have HK2 := hidMk hK2
    clear hK2
    go_wp2
    refine HK2.out _ _ ?_
    clear HK2 d0 d1 dk
    go_wp2_with (at_builtin; refine wpList_append_seg _ rfl _ _ 24 rfl 4 b0 (.bool false) 1 1 Try.underlying24 bit bz0 bz1 bz2 rfl (by decide) _ _ _ rfl (segAlloc HGn.out _) ⟨_, 0, none⟩ 1 1 [.bool mj] rfl rfl (cCell1 _ _ _ _ (by simp)) (bOne _) (by unfold maxLen; omega) (by omega) ?_)
    intro v5 w5 hs5 hg5
    obtain ⟨q1, q2⟩ := app_bool (w := w0) (ys := boolsL (rowV (j + 1) (nextK T.testBit (lieK ls) n t s k))) (y := mj) (by rw [rowV_succ, HNx.out]) HS0.out (Stil.new wb _) HGn.out (hs5.mono (fun g _ h => by rcases h with h | h; exact .inl h; exact .inr (by rw [h]; simp))) hg5
    have HGn5 := hidMk q1
    have HS5 := hidMk q2
    obtain ⟨a5, c5, hv5⟩ := segForm hs5
    subst hv5
    clear hs5 hg5 q1 q2
    go_wp2
    exact HQ.out _ _ _ _ _ _ _ _ _ _ _ _ _ _ _ _ _ _ _ _ _ _ _ _ _ _ _ _ _ _ _ _ _ _ _ HGn5.out HS5.out
end Go.Proofs.Ytllbfaldhlfjeaa
