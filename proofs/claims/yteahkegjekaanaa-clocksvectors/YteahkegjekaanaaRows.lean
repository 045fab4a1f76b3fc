/-
  No cell of these rows narrows 'for every input' (looked for: loops, veiled, ifaces, maps, wideKeys, modest, calm, conditions, laid).
  DERIVED. THE GIVEN ROWS OF THIS SEAT. 6 by the template 'for every input the law returns true; each argument reads behind the call as it read before'; 0 by the template 'total and deterministic' (their statements: YteahkegjekaanaaTotals.lean).
  GIVEN WITH THE SEED: the statements are not yours to turn. If you find one false, say at which input.
  Laid BY PROGRAM, IN A SANDBOX (cutbox-rows.mjs): the forced cells as the released guide's own fill.sh prints them over the translation 81f422542fa2ad56… (all of the seat's roots in one cut). By AI agents, Wed Nov 11 2026. No macro, syntax, notation, axiom, sorry.
-/
import Derived.Test.YteahkegjekaanaaChecked
import GoSem.Claim
import GoSem.ClaimJoined
import GoSem.ClaimMapViews
import Derived.JoinedTies
import Derived.KernelRfl
namespace Go.Proofs.Yteahkegjekaanaa
/- THE CELL 'sum', in the pinned program and in every row, IS THE sha256 OF THE DUMP (.gsa) THAT YteahkegjekaanaaProg.lean LOADS. Nothing in Lean hashes anything: it is a label: what it is worth is what the hold of that sum in a sandbox is worth. -/
noncomputable def Try.pinned : Pinned := { name := "yteahkegjekaanaa", sum := "81f422542fa2ad566db2a645cc85a0de792329f56e27e6a7aa3b47a960ef2b7a", checked := Try.checked }
namespace Rows
def none {H : Type} : Left H := { results := [], args := [] }

/-- 'folkmootlaw.ClocksChecks': WHATEVER THE INPUT: true; the input reads as it did. -/
def clocksChecksSpec : ChangeSpec := { name := "clocksChecks", fn := fun _ => fun
  | [d1, d2] => { results := [.lit (.bool true)], args := [d1, d2] }
  | _ => none }
def clocksChecksRow : OpenClaim := { program := "yteahkegjekaanaa", sum := "81f422542fa2ad566db2a645cc85a0de792329f56e27e6a7aa3b47a960ef2b7a", func := "folkmoot/folkmootlaw.ClocksChecks", spec := "clocksChecks", apart := false }
def ClocksChecksSaid : Prop := clocksChecksRow.holds Try.pinned (OpenSpec.ofChange clocksChecksSpec)

/-- ITS FALSE NEIGHBOUR: 'it returns false'. Refute it at one input. -/
def clocksChecksWrong : ChangeSpec := { name := "clocksChecks", fn := fun _ => fun
  | [d1, d2] => { results := [.lit (.bool false)], args := [d1, d2] }
  | _ => none }
def ClocksChecksWrongFalsely : Prop := clocksChecksRow.holds Try.pinned (OpenSpec.ofChange clocksChecksWrong)

/-- 'folkmootlaw.ClocksBefores': WHATEVER THE INPUT: true; the input reads as it did. -/
def clocksBeforesSpec : ChangeSpec := { name := "clocksBefores", fn := fun _ => fun
  | [d1, d2, d3, d4] => { results := [.lit (.bool true)], args := [d1, d2, d3, d4] }
  | _ => none }
def clocksBeforesRow : OpenClaim := { program := "yteahkegjekaanaa", sum := "81f422542fa2ad566db2a645cc85a0de792329f56e27e6a7aa3b47a960ef2b7a", func := "folkmoot/folkmootlaw.ClocksBefores", spec := "clocksBefores", unfollowed := true, recurses := true, apart := false }
def ClocksBeforesSaid : Prop := clocksBeforesRow.holds Try.pinned (OpenSpec.ofChange clocksBeforesSpec)

/-- ITS FALSE NEIGHBOUR: 'it returns false'. Refute it at one input. -/
def clocksBeforesWrong : ChangeSpec := { name := "clocksBefores", fn := fun _ => fun
  | [d1, d2, d3, d4] => { results := [.lit (.bool false)], args := [d1, d2, d3, d4] }
  | _ => none }
def ClocksBeforesWrongFalsely : Prop := clocksBeforesRow.holds Try.pinned (OpenSpec.ofChange clocksBeforesWrong)

/-- 'folkmootlaw.ClocksScalars': WHATEVER THE INPUT: true; the input reads as it did. -/
def clocksScalarsSpec : ChangeSpec := { name := "clocksScalars", fn := fun _ => fun
  | [d1, d2] => { results := [.lit (.bool true)], args := [d1, d2] }
  | _ => none }
def clocksScalarsRow : OpenClaim := { program := "yteahkegjekaanaa", sum := "81f422542fa2ad566db2a645cc85a0de792329f56e27e6a7aa3b47a960ef2b7a", func := "folkmoot/folkmootlaw.ClocksScalars", spec := "clocksScalars", unfollowed := true, recurses := true, apart := false }
def ClocksScalarsSaid : Prop := clocksScalarsRow.holds Try.pinned (OpenSpec.ofChange clocksScalarsSpec)

/-- ITS FALSE NEIGHBOUR: 'it returns false'. Refute it at one input. -/
def clocksScalarsWrong : ChangeSpec := { name := "clocksScalars", fn := fun _ => fun
  | [d1, d2] => { results := [.lit (.bool false)], args := [d1, d2] }
  | _ => none }
def ClocksScalarsWrongFalsely : Prop := clocksScalarsRow.holds Try.pinned (OpenSpec.ofChange clocksScalarsWrong)

/-- 'folkmootlaw.ClocksVectors': WHATEVER THE INPUT: true; the input reads as it did. -/
def clocksVectorsSpec : ChangeSpec := { name := "clocksVectors", fn := fun _ => fun
  | [d1, d2] => { results := [.lit (.bool true)], args := [d1, d2] }
  | _ => none }
def clocksVectorsRow : OpenClaim := { program := "yteahkegjekaanaa", sum := "81f422542fa2ad566db2a645cc85a0de792329f56e27e6a7aa3b47a960ef2b7a", func := "folkmoot/folkmootlaw.ClocksVectors", spec := "clocksVectors", unfollowed := true, recurses := true, apart := false }
def ClocksVectorsSaid : Prop := clocksVectorsRow.holds Try.pinned (OpenSpec.ofChange clocksVectorsSpec)

/-- ITS FALSE NEIGHBOUR: 'it returns false'. Refute it at one input. -/
def clocksVectorsWrong : ChangeSpec := { name := "clocksVectors", fn := fun _ => fun
  | [d1, d2] => { results := [.lit (.bool false)], args := [d1, d2] }
  | _ => none }
def ClocksVectorsWrongFalsely : Prop := clocksVectorsRow.holds Try.pinned (OpenSpec.ofChange clocksVectorsWrong)

/-- 'folkmootkeep.ClocksOrder': WHATEVER THE INPUT: true; the input reads as it did. -/
def clocksOrderSpec : ChangeSpec := { name := "clocksOrder", fn := fun _ => fun
  | [d1, d2, d3, d4, d5] => { results := [.lit (.bool true)], args := [d1, d2, d3, d4, d5] }
  | _ => none }
def clocksOrderRow : OpenClaim := { program := "yteahkegjekaanaa", sum := "81f422542fa2ad566db2a645cc85a0de792329f56e27e6a7aa3b47a960ef2b7a", func := "folkmoot/folkmootkeep.ClocksOrder", spec := "clocksOrder", unfollowed := true, recurses := true, apart := false }
def ClocksOrderSaid : Prop := clocksOrderRow.holds Try.pinned (OpenSpec.ofChange clocksOrderSpec)

/-- ITS FALSE NEIGHBOUR: 'it returns false'. Refute it at one input. -/
def clocksOrderWrong : ChangeSpec := { name := "clocksOrder", fn := fun _ => fun
  | [d1, d2, d3, d4, d5] => { results := [.lit (.bool false)], args := [d1, d2, d3, d4, d5] }
  | _ => none }
def ClocksOrderWrongFalsely : Prop := clocksOrderRow.holds Try.pinned (OpenSpec.ofChange clocksOrderWrong)

/-- 'folkmootkeep.ClocksLamport': WHATEVER THE INPUT: true; the input reads as it did. -/
def clocksLamportSpec : ChangeSpec := { name := "clocksLamport", fn := fun _ => fun
  | [d1, d2, d3, d4] => { results := [.lit (.bool true)], args := [d1, d2, d3, d4] }
  | _ => none }
def clocksLamportRow : OpenClaim := { program := "yteahkegjekaanaa", sum := "81f422542fa2ad566db2a645cc85a0de792329f56e27e6a7aa3b47a960ef2b7a", func := "folkmoot/folkmootkeep.ClocksLamport", spec := "clocksLamport", unfollowed := true, recurses := true, apart := false }
def ClocksLamportSaid : Prop := clocksLamportRow.holds Try.pinned (OpenSpec.ofChange clocksLamportSpec)

/-- ITS FALSE NEIGHBOUR: 'it returns false'. Refute it at one input. -/
def clocksLamportWrong : ChangeSpec := { name := "clocksLamport", fn := fun _ => fun
  | [d1, d2, d3, d4] => { results := [.lit (.bool false)], args := [d1, d2, d3, d4] }
  | _ => none }
def ClocksLamportWrongFalsely : Prop := clocksLamportRow.holds Try.pinned (OpenSpec.ofChange clocksLamportWrong)

/- THE SECOND FORM. 'bulk': how many values and letters a reading holds, each counted each time it is reached (what is shared counts as often as it is met; a slice's spare places count too). A statement '..UptoSaid' is the law's where the arguments, and the package variables that the reading takes, are together of bulk at most 1048576: NARROWER than '..Said'. Prove '..Said' where nothing that the law and all that it calls make is longer than what came in: it says more and counts as full. Else prove '..UptoSaid'. A law counts once. -/
mutual
def uptoBulk {H : Type} : DataW H → Nat
  | .lit (.string bytes) => bytes.length + 1
  | .lit _ => 1
  | .nil => 1
  | .ptr d => uptoBulk d + 1
  | .slice elems spare => uptoBulkAll elems + uptoBulkAll spare + 1
  | .agg parts => uptoBulkAll parts + 1
  | .iface _ d => uptoBulk d + 1
  | .map entries => uptoBulkEntries entries + 1
  | .held _ => 1
def uptoBulkAll {H : Type} : List (DataW H) → Nat
  | [] => 0
  | d :: r => uptoBulk d + uptoBulkAll r
def uptoBulkEntries {H : Type} : List (Lit × DataW H) → Nat
  | [] => 0
  | x :: r => uptoBulkEntry x + uptoBulkEntries r
def uptoBulkEntry {H : Type} : Lit × DataW H → Nat
  | (.string bytes, d) => bytes.length + uptoBulk d + 1
  | (_, d) => uptoBulk d + 1
 end
def uptoSmall : (H : Type) → List (DataW H) → Bool := fun _ ds => decide (uptoBulkAll ds ≤ 1048576)
def OpenSpec.upto (s : _root_.Go.ChangeSpec) : _root_.Go.OpenSpec := { _root_.Go.OpenSpec.ofChange s with cond := some uptoSmall }

/-- 'folkmootlaw.ClocksChecks', WHERE WHAT IT READS IS OF BULK AT MOST 1048576: true; the input reads as it did. -/
def clocksChecksUptoRow : OpenClaim := { program := "yteahkegjekaanaa", sum := "81f422542fa2ad566db2a645cc85a0de792329f56e27e6a7aa3b47a960ef2b7a", func := "folkmoot/folkmootlaw.ClocksChecks", spec := "clocksChecks", apart := false, narrowed := true }
def ClocksChecksUptoSaid : Prop := clocksChecksUptoRow.holds Try.pinned (OpenSpec.upto clocksChecksSpec)

/-- 'folkmootlaw.ClocksBefores', WHERE WHAT IT READS IS OF BULK AT MOST 1048576: true; the input reads as it did. -/
def clocksBeforesUptoRow : OpenClaim := { program := "yteahkegjekaanaa", sum := "81f422542fa2ad566db2a645cc85a0de792329f56e27e6a7aa3b47a960ef2b7a", func := "folkmoot/folkmootlaw.ClocksBefores", spec := "clocksBefores", unfollowed := true, recurses := true, apart := false, narrowed := true }
def ClocksBeforesUptoSaid : Prop := clocksBeforesUptoRow.holds Try.pinned (OpenSpec.upto clocksBeforesSpec)

/-- 'folkmootlaw.ClocksScalars', WHERE WHAT IT READS IS OF BULK AT MOST 1048576: true; the input reads as it did. -/
def clocksScalarsUptoRow : OpenClaim := { program := "yteahkegjekaanaa", sum := "81f422542fa2ad566db2a645cc85a0de792329f56e27e6a7aa3b47a960ef2b7a", func := "folkmoot/folkmootlaw.ClocksScalars", spec := "clocksScalars", unfollowed := true, recurses := true, apart := false, narrowed := true }
def ClocksScalarsUptoSaid : Prop := clocksScalarsUptoRow.holds Try.pinned (OpenSpec.upto clocksScalarsSpec)

/-- 'folkmootlaw.ClocksVectors', WHERE WHAT IT READS IS OF BULK AT MOST 1048576: true; the input reads as it did. -/
def clocksVectorsUptoRow : OpenClaim := { program := "yteahkegjekaanaa", sum := "81f422542fa2ad566db2a645cc85a0de792329f56e27e6a7aa3b47a960ef2b7a", func := "folkmoot/folkmootlaw.ClocksVectors", spec := "clocksVectors", unfollowed := true, recurses := true, apart := false, narrowed := true }
def ClocksVectorsUptoSaid : Prop := clocksVectorsUptoRow.holds Try.pinned (OpenSpec.upto clocksVectorsSpec)

/-- 'folkmootkeep.ClocksOrder', WHERE WHAT IT READS IS OF BULK AT MOST 1048576: true; the input reads as it did. -/
def clocksOrderUptoRow : OpenClaim := { program := "yteahkegjekaanaa", sum := "81f422542fa2ad566db2a645cc85a0de792329f56e27e6a7aa3b47a960ef2b7a", func := "folkmoot/folkmootkeep.ClocksOrder", spec := "clocksOrder", unfollowed := true, recurses := true, apart := false, narrowed := true }
def ClocksOrderUptoSaid : Prop := clocksOrderUptoRow.holds Try.pinned (OpenSpec.upto clocksOrderSpec)

/-- 'folkmootkeep.ClocksLamport', WHERE WHAT IT READS IS OF BULK AT MOST 1048576: true; the input reads as it did. -/
def clocksLamportUptoRow : OpenClaim := { program := "yteahkegjekaanaa", sum := "81f422542fa2ad566db2a645cc85a0de792329f56e27e6a7aa3b47a960ef2b7a", func := "folkmoot/folkmootkeep.ClocksLamport", spec := "clocksLamport", unfollowed := true, recurses := true, apart := false, narrowed := true }
def ClocksLamportUptoSaid : Prop := clocksLamportUptoRow.holds Try.pinned (OpenSpec.upto clocksLamportSpec)

end Rows
end Go.Proofs.Yteahkegjekaanaa
