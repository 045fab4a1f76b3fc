/-
  No cell of these rows narrows 'for every input' (looked for: loops, veiled, ifaces, maps, wideKeys, modest, calm, conditions, laid).
  DERIVED. THE GIVEN ROWS OF THIS SEAT. 3 by the template 'for every input the law returns true; each argument reads behind the call as it read before'; 0 by the template 'total and deterministic' (their statements: YtekbglmoibglnaaTotals.lean).
  GIVEN WITH THE SEED: the statements are not yours to turn. If you find one false, say at which input.
  Laid BY PROGRAM, IN A SANDBOX (cutbox-rows.mjs): the forced cells as the released guide's own fill.sh prints them over the translation 8951993d85b942fe… (all of the seat's roots in one cut). By AI agents, Wed Nov 11 2026. No macro, syntax, notation, axiom, sorry.
-/
import Derived.Test.YtekbglmoibglnaaChecked
import GoSem.Claim
import GoSem.ClaimJoined
import GoSem.ClaimMapViews
import Derived.JoinedTies
import Derived.KernelRfl
namespace Go.Proofs.Ytekbglmoibglnaa
/- THE CELL 'sum', in the pinned program and in every row, IS THE sha256 OF THE DUMP (.gsa) THAT YtekbglmoibglnaaProg.lean LOADS. Nothing in Lean hashes anything: it is a label: what it is worth is what the hold of that sum in a sandbox is worth. -/
noncomputable def Try.pinned : Pinned := { name := "ytekbglmoibglnaa", sum := "8951993d85b942fe9956516d304dfcae366c018c3a3b7f9729fd5046476758ef", checked := Try.checked }
namespace Rows
def none {H : Type} : Left H := { results := [], args := [] }

/-- 'folkmootlaw.GeneralsPlays': WHATEVER THE INPUT: true; the input reads as it did. -/
def generalsPlaysSpec : ChangeSpec := { name := "generalsPlays", fn := fun _ => fun
  | [d1, d2, d3, d4, d5] => { results := [.lit (.bool true)], args := [d1, d2, d3, d4, d5] }
  | _ => none }
def generalsPlaysRow : OpenClaim := { program := "ytekbglmoibglnaa", sum := "8951993d85b942fe9956516d304dfcae366c018c3a3b7f9729fd5046476758ef", func := "folkmoot/folkmootlaw.GeneralsPlays", spec := "generalsPlays", unfollowed := true, recurses := true, apart := false }
def GeneralsPlaysSaid : Prop := generalsPlaysRow.holds Try.pinned (OpenSpec.ofChange generalsPlaysSpec)

/-- ITS FALSE NEIGHBOUR: 'it returns false'. Refute it at one input. -/
def generalsPlaysWrong : ChangeSpec := { name := "generalsPlays", fn := fun _ => fun
  | [d1, d2, d3, d4, d5] => { results := [.lit (.bool false)], args := [d1, d2, d3, d4, d5] }
  | _ => none }
def GeneralsPlaysWrongFalsely : Prop := generalsPlaysRow.holds Try.pinned (OpenSpec.ofChange generalsPlaysWrong)

/-- 'folkmootkeep.GeneralsAgree': WHATEVER THE INPUT: true; the input reads as it did. -/
def generalsAgreeSpec : ChangeSpec := { name := "generalsAgree", fn := fun _ => fun
  | [d1, d2, d3, d4, d5] => { results := [.lit (.bool true)], args := [d1, d2, d3, d4, d5] }
  | _ => none }
def generalsAgreeRow : OpenClaim := { program := "ytekbglmoibglnaa", sum := "8951993d85b942fe9956516d304dfcae366c018c3a3b7f9729fd5046476758ef", func := "folkmoot/folkmootkeep.GeneralsAgree", spec := "generalsAgree", unfollowed := true, recurses := true, apart := false }
def GeneralsAgreeSaid : Prop := generalsAgreeRow.holds Try.pinned (OpenSpec.ofChange generalsAgreeSpec)

/-- ITS FALSE NEIGHBOUR: 'it returns false'. Refute it at one input. -/
def generalsAgreeWrong : ChangeSpec := { name := "generalsAgree", fn := fun _ => fun
  | [d1, d2, d3, d4, d5] => { results := [.lit (.bool false)], args := [d1, d2, d3, d4, d5] }
  | _ => none }
def GeneralsAgreeWrongFalsely : Prop := generalsAgreeRow.holds Try.pinned (OpenSpec.ofChange generalsAgreeWrong)

/-- 'folkmootkeep.GeneralsTrue': WHATEVER THE INPUT: true; the input reads as it did. -/
def generalsTrueSpec : ChangeSpec := { name := "generalsTrue", fn := fun _ => fun
  | [d1, d2, d3, d4] => { results := [.lit (.bool true)], args := [d1, d2, d3, d4] }
  | _ => none }
def generalsTrueRow : OpenClaim := { program := "ytekbglmoibglnaa", sum := "8951993d85b942fe9956516d304dfcae366c018c3a3b7f9729fd5046476758ef", func := "folkmoot/folkmootkeep.GeneralsTrue", spec := "generalsTrue", unfollowed := true, recurses := true, apart := false }
def GeneralsTrueSaid : Prop := generalsTrueRow.holds Try.pinned (OpenSpec.ofChange generalsTrueSpec)

/-- ITS FALSE NEIGHBOUR: 'it returns false'. Refute it at one input. -/
def generalsTrueWrong : ChangeSpec := { name := "generalsTrue", fn := fun _ => fun
  | [d1, d2, d3, d4] => { results := [.lit (.bool false)], args := [d1, d2, d3, d4] }
  | _ => none }
def GeneralsTrueWrongFalsely : Prop := generalsTrueRow.holds Try.pinned (OpenSpec.ofChange generalsTrueWrong)

/- THE SECOND FORM. 'bulk': how many values and letters a reading holds, each counted each time it is reached (what is shared counts as often as it is met; a slice's spare places count too). A statement '..UptoSaid' is the law's where the arguments, and the package variables that the reading takes, are together of bulk at most 1048576: NARROWER than '..Said'. Prove '..Said' where nothing that the law and all that it calls make is longer than what came in: it says more and counts as full. Else prove '..UptoSaid'. A law counts once. -/
mutual
def uptoBulk {H : Type} : DataW H → Nat
  | .lit (.string bytes) => bytes.length + 1
  | .lit _ => 1
  | .nil => 1
  | .ptr d => uptoBulk d + 1
  | .slice elems spare => uptoBulkAll elems + uptoBulkAll spare + 1
  | .agg parts => uptoBulkAll parts + 1
  | .iface _ d => uptoBulk d + 1
  | .map entries => uptoBulkEntries entries + 1
  | .held _ => 1
def uptoBulkAll {H : Type} : List (DataW H) → Nat
  | [] => 0
  | d :: r => uptoBulk d + uptoBulkAll r
def uptoBulkEntries {H : Type} : List (Lit × DataW H) → Nat
  | [] => 0
  | x :: r => uptoBulkEntry x + uptoBulkEntries r
def uptoBulkEntry {H : Type} : Lit × DataW H → Nat
  | (.string bytes, d) => bytes.length + uptoBulk d + 1
  | (_, d) => uptoBulk d + 1
 end
def uptoSmall : (H : Type) → List (DataW H) → Bool := fun _ ds => decide (uptoBulkAll ds ≤ 1048576)
def OpenSpec.upto (s : _root_.Go.ChangeSpec) : _root_.Go.OpenSpec := { _root_.Go.OpenSpec.ofChange s with cond := some uptoSmall }

/-- 'folkmootlaw.GeneralsPlays', WHERE WHAT IT READS IS OF BULK AT MOST 1048576: true; the input reads as it did. -/
def generalsPlaysUptoRow : OpenClaim := { program := "ytekbglmoibglnaa", sum := "8951993d85b942fe9956516d304dfcae366c018c3a3b7f9729fd5046476758ef", func := "folkmoot/folkmootlaw.GeneralsPlays", spec := "generalsPlays", unfollowed := true, recurses := true, apart := false, narrowed := true }
def GeneralsPlaysUptoSaid : Prop := generalsPlaysUptoRow.holds Try.pinned (OpenSpec.upto generalsPlaysSpec)

/-- 'folkmootkeep.GeneralsAgree', WHERE WHAT IT READS IS OF BULK AT MOST 1048576: true; the input reads as it did. -/
def generalsAgreeUptoRow : OpenClaim := { program := "ytekbglmoibglnaa", sum := "8951993d85b942fe9956516d304dfcae366c018c3a3b7f9729fd5046476758ef", func := "folkmoot/folkmootkeep.GeneralsAgree", spec := "generalsAgree", unfollowed := true, recurses := true, apart := false, narrowed := true }
def GeneralsAgreeUptoSaid : Prop := generalsAgreeUptoRow.holds Try.pinned (OpenSpec.upto generalsAgreeSpec)

/-- 'folkmootkeep.GeneralsTrue', WHERE WHAT IT READS IS OF BULK AT MOST 1048576: true; the input reads as it did. -/
def generalsTrueUptoRow : OpenClaim := { program := "ytekbglmoibglnaa", sum := "8951993d85b942fe9956516d304dfcae366c018c3a3b7f9729fd5046476758ef", func := "folkmoot/folkmootkeep.GeneralsTrue", spec := "generalsTrue", unfollowed := true, recurses := true, apart := false, narrowed := true }
def GeneralsTrueUptoSaid : Prop := generalsTrueUptoRow.holds Try.pinned (OpenSpec.upto generalsTrueSpec)

end Rows
end Go.Proofs.Ytekbglmoibglnaa
