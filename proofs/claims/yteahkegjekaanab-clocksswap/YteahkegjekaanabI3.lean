/- folkmootkeep.ClocksLamport, walked. -/
import Derived.Test.YteahkegjekaanabI2
namespace Go.Proofs.Yteahkegjekaanab
open Go.RowKit Go.Shelf
set_option linter.unusedVariables false

theorem grown_of_below {A B : World} (h : Below A.heap.size A B) : A.grownBy B none := ⟨h.os, h.tape, h.output, h.size, fun k hk _ => h.block k hk⟩
theorem owns_below {A B : World} {base : Nat} {e : TypeId} {size : Nat} {v : Value} {n : Nat} {xs : List Value} (h : A.ownsRow base e size v n xs) (hb : Below A.heap.size A B) : B.ownsRow base e size v n xs :=
  h.kept (grown_of_below hb) (by cases hv : v.ownBlock <;> simp)

theorem before_rel (N i j : Int) (a : Option Addr) (len cap : Nat) (es : List Ev) (w w1 : World) (h : CameEv w a len cap es) (hb : Below w.heap.size w w1) :
    Calls Try.prog 10 #[.int .i64 N, .slice a len cap, .int .i64 i, .int .i64 j] w1 fun e w2 => e = .returned (.tuple #[.bool (befA N es i j), .int .i64 (befE N es i j)]) ∧ Below w1.heap.size w1 w2 :=
  before_from N i j a len cap es w1 w1 (h.below hb) (Below.refl _ _)
theorem scalars_rel (N : Int) (a : Option Addr) (len cap : Nat) (es : List Ev) (w w1 : World) (h : CameEv w a len cap es) (hz : evsCode N es = 0) (hb : Below w.heap.size w w1) :
    Calls Try.prog 14 #[.int .i64 N, .slice a len cap] w1 fun e w2 => (∃ O, e = .returned (.tuple #[.slice (some ⟨O, 0, none⟩) len len, .int .i64 0]) ∧ RowI w2 w.heap.size O len (sc es)) ∧ Below w1.heap.size w1 w2 :=
  (scalars_ok N a len cap es w1 (h.below hb) hz).mono fun e w2 ⟨⟨O, h1, h2⟩, h3⟩ => ⟨⟨O, h1, owns_le h2 hb.size⟩, h3⟩

end Go.Proofs.Yteahkegjekaanab
