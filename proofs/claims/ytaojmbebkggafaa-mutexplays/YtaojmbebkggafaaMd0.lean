/- A play, as laws see it. -/
import Derived.Test.YtaojmbebkggafaaMc1
import Derived.Test.YtaojmbebkggafaaMb3
import Derived.Test.YtaojmbebkggafaaMb2
namespace Go.Proofs.Ytaojmbebkggafaa
open Go.RowKit
set_option linter.unusedVariables false

structure SeenM (w : World) (C n pl : Nat) (s : MS) (cd : Nat → Int) (va : Option Addr) (vc : Nat) (ia : Option Addr) (ic : Nat) : Prop where
  codes : RowI w (some ⟨C, 0, none⟩) pl pl ((List.range pl).map cd)
  ins : RowI w va s.ins.length vc (natsI s.ins)
  inside : RowI w ia (insideM n s).length ic (natsI (insideM n s))
theorem SeenM.still {w w' : World} {C n pl : Nat} {s : MS} {cd : Nat → Int} {va ia : Option Addr} {vc ic : Nat} (h : SeenM w C n pl s cd va vc ia ic) (hs : Stil w w') : SeenM w' C n pl s cd va vc ia ic :=
  ⟨h.codes.still hs, h.ins.still hs, h.inside.still hs⟩
def entV (C pl : Nat) (n : Nat) (s : MS) (va : Option Addr) (vc : Nat) (ia : Option Addr) (ic : Nat) : Array Value := #[.slice (some ⟨C, 0, none⟩) pl pl, .slice va s.ins.length vc, .slice ia (insideM n s).length ic, .int .i64 (awayM n s : Int)]
theorem play_seenM {W : World} {pa : Option Addr} {n pl pc : Nat} {ps : List Cst} (hp : CameC W pa pl pc ps) (h0 : 0 < n) (h6 : n ≤ 6) (hpl : pl ≤ 120) :
    Calls Try.prog 4 #[.int .i64 (n : Int), .slice pa pl pc] W fun e W2 => (∃ C va vc ia ic, e = .returned (.tuple #[.agg #[.slice (some ⟨C, 0, none⟩) pl pl, .slice va (msAt n ps pl).ins.length vc, .slice ia (insideM n (msAt n ps pl)).length ic, .int .i64 (awayM n (msAt n ps pl) : Int)], .int .i64 0]) ∧ SeenM W2 C n pl (msAt n ps pl) (mcAt n ps) va vc ia ic) ∧ Stil W W2 := by
  refine (play_okM hp h0 h6 hpl).mono ?_
  rintro e W2 ⟨C, iv, ia, ic, rfl, P⟩
  have hs := P.ins
  obtain ⟨va, vc, rfl⟩ := segForm hs
  refine ⟨⟨C, va, vc, ia, ic, rfl, ⟨⟨by simp, Nat.le_refl _, by unfold maxLen; omega, .inr ⟨C, 0, rfl, (Array.getElem?_eq_some_iff.1 P.codes).1, fun j x hx => ?_⟩⟩, seg_row hs, P.inside⟩⟩, P.keep⟩
  rw [cell_of_row W2 _ _ _ _ _ P.codes]
  simp only [List.getElem?_toArray, Nat.zero_add]
  have hj := (List.getElem?_eq_some_iff.1 hx).1
  simp at hj
  rw [mcRow_at hj, if_pos hj]
  simp [hj] at hx
  rw [hx]
/-- What a play tells, whatever it tells. -/
theorem play_anyM {W : World} {pa : Option Addr} {z : Int} {pl pc : Nat} {ps : List Cst} (hp : CameC W pa pl pc ps) :
    Calls Try.prog 4 #[.int .i64 z, .slice pa pl pc] W fun e W2 => (∃ a b c d f g a2 b2 c2 y x, e = .returned (.tuple #[.agg #[.slice a b c, .slice d f g, .slice a2 b2 c2, .int .i64 y], .int .i64 x])) ∧ Stil W W2 := by
  by_cases hz : castCode z pl = 0
  · obtain ⟨n, rfl, h0, h6, h120⟩ := castCode_zero hz
    refine (play_seenM hp h0 h6 h120).mono ?_
    rintro e W2 ⟨⟨C, va, vc, ia, ic, rfl, _⟩, hk⟩
    exact ⟨⟨_, _, _, _, _, _, _, _, _, _, _, rfl⟩, hk⟩
  · refine (play_badM hz hp.2.2.1).mono ?_
    rintro e W2 ⟨rfl, hk⟩
    exact ⟨⟨_, _, _, _, _, _, _, _, _, _, _, rfl⟩, hk⟩
theorem u8_in {z : Int} (hz : (Lit.int .u8 z).wf = true) : 0 ≤ z ∧ z ≤ 255 := by
  have h2 : IntKind.u8.min ≤ z ∧ z ≤ IntKind.u8.max := by simpa [Lit.wf] using hz
  have e1 : IntKind.u8.min = 0 := by decide
  have e2 : IntKind.u8.max = 255 := by decide
  omega
end Go.Proofs.Ytaojmbebkggafaa
