/- The document's King, in pieces: the code; who says true to one. -/
import Derived.Test.YtllbfaldhlfjeaaKi1
import Derived.Test.YtllbfaldhlfjeaaGe5
namespace Go.Proofs.Ytllbfaldhlfjeaa
open Go.RowKit
set_option linter.unusedVariables false

def orC (a b : Option Code) : Option Code := match a with
  | some c => some c
  | none => b
/-- The branch of the condition that reads a slot. -/
def branchOf (k : Nat) (th : Bool) : Code → Option Code
  | .cond (.tmp t) a b => if t = k then some (if th then a else b) else orC (branchOf k th a) (branchOf k th b)
  | .cond _ a b => orC (branchOf k th a) (branchOf k th b)
  | .seq a b => orC (branchOf k th a) (branchOf k th b)
  | .block _ c => branchOf k th c
  | .loop c => branchOf k th c
  | .scope c => branchOf k th c
  | _ => none
/-- What begins with a region. -/
def seqOf (k : Nat) : Code → Option Code
  | .seq (.region i o d) r => if i = k then some (.seq (.region i o d) r) else seqOf k r
  | .seq a b => orC (seqOf k a) (seqOf k b)
  | .cond _ a b => orC (seqOf k a) (seqOf k b)
  | .block _ c => seqOf k c
  | .loop c => seqOf k c
  | .scope c => seqOf k c
  | _ => none
/-- Only that a walk comes to its end: no fault. -/
def onlyN (Q : Exit → Act → World → Prop) : Exit → Act → World → Prop := fun e a w => match e with
  | .normal => Q .normal a w
  | _ => False
theorem onlyN_imp {Q : Exit → Act → World → Prop} : ∀ e a w, onlyN Q e a w → Q e a w := fun e _ _ h => match e, h with
  | .normal, h => h
noncomputable def body9 : Code := (Try.f9).body.getD .skip
noncomputable def phaseCode : Code := (seqOf 9 body9).getD .skip
noncomputable def majorsCode : Code := (seqOf 11 body9).getD .skip
noncomputable def rowCode : Code := (seqOf 14 body9).getD .skip
noncomputable def countCode : Code := (seqOf 15 body9).getD .skip
noncomputable def nextsCode : Code := (seqOf 26 body9).getD .skip
noncomputable def stepCode : Code := (seqOf 29 body9).getD .skip
/-- Votes as a slice. -/
def rowV (n : Nat) (s : Nat → Bool) : List Bool := (List.range n).map s
theorem rowV_at {n i : Nat} {s : Nat → Bool} (h : i < n) : (rowV n s)[i]? = some (s i) := by simp [rowV, h]
theorem countR (f : Nat → Bool) (m : Nat) : (List.range (m + 1)).countP f = (List.range m).countP f + if f m = true then 1 else 0 := by
  rw [List.range_succ, List.countP_append]
  simp [List.countP_cons]
theorem countR_le (f : Nat → Bool) (m : Nat) : (List.range m).countP f ≤ m := Nat.le_trans List.countP_le_length (by simp)
set_option maxRecDepth 1000000 in
set_option maxHeartbeats 16000000 in
theorem count_walk {Q : Exit → Act → World → Prop} {wb : World} {n t T k j ll lc vc : Nat} {la va : Option Addr} {ls : List Nat} {s : Nat → Bool} {c3 c5 c6 c7 c8 c9 c10 c12 c14 c15 c18 c19 c20 c21 c22 c23 c24 c25 c26 c27 c28 c29 c30 c31 c32 c33 c34 c35 c36 c37 c38 c39 c40 c41 c42 c43 c44 c45 c46 c47 c48 c49 c50 c51 c52 c53 c54 c55 c56 c57 c58 c59 c60 c61 c62 c63 c64 c65 c66 c67 c68 c69 c70 c71 c72 c73 c74 c75 c76 c77 c78 c79 c80 c81 c82 c83 c84 c85 c86 c87 c88 c89 c90 c91 c92 c93 c94 c95 c96 c97 c98 c99 c100 c101 c102 c103 c104 c105 c106 c107 c108 c109 c110 c111 c112 c113 c114 c115 c116 c117 c118 c119 c120 : Value}
    (hT : T < 4294967296) (hn : n ≤ 9) (hj : j < n) (hk : k ≤ 9) (hq : RowQ wb la ll lc ls) (hv : RowO wb va n vc (rowV n s))
    (hQ : ∀ (z18 z43 z44 z45 z46 z47 z48 z49 z50 z51 z52 z53 z54 z55 z56 z57 z58 z59 z60 z61 : Value), Q .normal ⟨#[.int .i64 (n : Int), .int .i64 (t : Int), .int .u32 (T : Int), c3, .slice la ll lc, c5, c6, c7, c8, c9, c10, .slice va n vc, c12, .int .i64 (k : Int), c14, c15, .int .i64 (j : Int), .int .i64 (yesK T.testBit (lieK ls) n s k j : Int), z18, c19, c20, c21, c22, c23, c24, c25, c26, c27, c28, c29, c30, c31, c32, c33, c34, c35, c36, c37, c38, c39, c40, c41, c42, z43, z44, z45, z46, z47, z48, z49, z50, z51, z52, z53, z54, z55, z56, z57, z58, z59, z60, z61, c62, c63, c64, c65, c66, c67, c68, c69, c70, c71, c72, c73, c74, c75, c76, c77, c78, c79, c80, c81, c82, c83, c84, c85, c86, c87, c88, c89, c90, c91, c92, c93, c94, c95, c96, c97, c98, c99, c100, c101, c102, c103, c104, c105, c106, c107, c108, c109, c110, c111, c112, c113, c114, c115, c116, c117, c118, c119, c120], []⟩ wb) :
    Code.wp Try.prog countCode Q ⟨#[.int .i64 (n : Int), .int .i64 (t : Int), .int .u32 (T : Int), c3, .slice la ll lc, c5, c6, c7, c8, c9, c10, .slice va n vc, c12, .int .i64 (k : Int), c14, c15, .int .i64 (j : Int), .int .i64 0, c18, c19, c20, c21, c22, c23, c24, c25, c26, c27, c28, c29, c30, c31, c32, c33, c34, c35, c36, c37, c38, c39, c40, c41, c42, c43, c44, c45, c46, c47, c48, c49, c50, c51, c52, c53, c54, c55, c56, c57, c58, c59, c60, c61, c62, c63, c64, c65, c66, c67, c68, c69, c70, c71, c72, c73, c74, c75, c76, c77, c78, c79, c80, c81, c82, c83, c84, c85, c86, c87, c88, c89, c90, c91, c92, c93, c94, c95, c96, c97, c98, c99, c100, c101, c102, c103, c104, c105, c106, c107, c108, c109, c110, c111, c112, c113, c114, c115, c116, c117, c118, c119, c120], []⟩ wb := by
  refine Code.wp_mono onlyN_imp ?_
  have HQ := hidMk hQ
  clear hQ
  have hn9 : (n : Int) ≤ 9 := by omega
  have hk9 : (k : Int) ≤ 9 := by omega
  obtain ⟨v1, v2, _, v4⟩ := hv
  rcases v4 with v4 | ⟨bb, off, rfl, hbb, hcb⟩
  · omega
  have HC : Hid (∀ i, i < n → wb.cell? ⟨bb, off + i, none⟩ = some (.bool (s i))) := fun i hi => hcb i _ (rowV_at hi)
  obtain ⟨F, hF⟩ : ∃ F : Nat → Bool, F = fun i => saysK T.testBit (lieK ls) n i j (2 * k) (s i) := ⟨_, rfl⟩
  have HY : Hid (yesK T.testBit (lieK ls) n s k j = (List.range n).countP F) := by show _ = _; rw [hF]; rfl
  obtain ⟨p2, hp2⟩ : ∃ p2, p2 = 2 * k := ⟨_, rfl⟩
  have hw2 : IntKind.i64.wrap (2 * (k : Int)) = (p2 : Int) := by rw [show 2 * (k : Int) = (p2 : Int) by omega]; exact wrapG ⟨by omega, by omega⟩
  have HSy : Hid (∀ i, i < n → Calls Try.prog 17 #[.int .i64 (n : Int), .int .u32 (T : Int), .slice la ll lc, .int .i64 (i : Int), .int .i64 (j : Int), .int .i64 (p2 : Int), .bool (s i)] wb fun e w2 => e = .returned (.bool (F i)) ∧ w2 = wb) := fun i hi => by
    have := says_any (x := s i) hq hT hn hi hj (show p2 ≤ 100 by omega)
    rw [hF, ← hp2]
    exact this
  clear hF hp2 hcb v1 hbb hq
  conv => arg 2; whnf
  go_wp2_with (fail)
  go_loopw [17, 18] (fun y u wr => ∃ i : Nat, i ≤ n ∧ u = .int .i64 (i : Int) ∧ y = .int .i64 ((List.range i).countP F : Int) ∧ wr = wb) (fun _ u _ => n - (intOf u).toNat)
  case atStart => exact ⟨0, Nat.zero_le _, rfl, rfl, rfl⟩
  case round =>
    obtain ⟨i, hi, rfl, rfl, hwr⟩ := hrel
    subst hwr
    have hle := countR_le F i
    have HR := hidMk (countR F i)
    generalize hcc : (List.range i).countP F = c at *
    have HCc := hidMk hcc
    clear hcc
    by_cases hlt : i < n
    · have hlt' : (i : Int) < (n : Int) := by omega
      have d0 := HC.out i hlt
      have HS1 := hidMk (HSy.out i hlt)
      generalize s i = x at *
      cases hf : F i
      · rw [hf] at HS1 HR
        clear hf
        go_wp2_with (go_at_call 17; refine (HS1.out).mono ?_; rintro e w2 ⟨rfl, hw⟩; obtain rfl := hw.symm)
        go_roundw
        case rel => exact ⟨i + 1, by omega, by go_num, by rw [HR.out]; simp, by trivial⟩
        case measure => simp [intOf]; omega
      · rw [hf] at HS1 HR
        clear hf
        go_wp2_with (go_at_call 17; refine (HS1.out).mono ?_; rintro e w2 ⟨rfl, hw⟩; obtain rfl := hw.symm)
        go_roundw
        case rel => exact ⟨i + 1, by omega, by go_num, by rw [HR.out]; simp, by trivial⟩
        case measure => simp [intOf]; omega
    · have HN : Hid (i = n) := by show i = n; omega
      go_wp2
      have h9 : (c : Int) = (yesK T.testBit (lieK ls) n s k j : Int) := by rw [HY.out, ← HCc.out, HN.out]
      have HQ2 := HQ.out
      rw [← h9] at HQ2
      exact HQ2 _ _ _ _ _ _ _ _ _ _ _ _ _ _ _ _ _ _ _ _ 
end Go.Proofs.Ytllbfaldhlfjeaa
