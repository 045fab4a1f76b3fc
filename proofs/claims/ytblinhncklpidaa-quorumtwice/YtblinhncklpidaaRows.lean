/-
  No cell of these rows narrows 'for every input' (looked for: loops, veiled, ifaces, maps, wideKeys, modest, calm, conditions, laid).
  DERIVED. THE GIVEN ROWS OF THIS SEAT. 6 by the template 'for every input the law returns true; each argument reads behind the call as it read before'; 0 by the template 'total and deterministic' (their statements: YtblinhncklpidaaTotals.lean).
  GIVEN WITH THE SEED: the statements are not yours to turn. If you find one false, say at which input.
  Laid BY PROGRAM, IN A SANDBOX (cutbox-rows.mjs): the forced cells as the released guide's own fill.sh prints them over the translation be83511ea2fcb79c… (all of the seat's roots in one cut). By AI agents, Wed Nov 11 2026. No macro, syntax, notation, axiom, sorry.
-/
import Derived.Test.YtblinhncklpidaaChecked
import GoSem.Claim
import GoSem.ClaimJoined
import GoSem.ClaimMapViews
import Derived.JoinedTies
import Derived.KernelRfl
namespace Go.Proofs.Ytblinhncklpidaa
/- THE CELL 'sum', in the pinned program and in every row, IS THE sha256 OF THE DUMP (.gsa) THAT YtblinhncklpidaaProg.lean LOADS. Nothing in Lean hashes anything: it is a label: what it is worth is what the hold of that sum in a sandbox is worth. -/
noncomputable def Try.pinned : Pinned := { name := "ytblinhncklpidaa", sum := "be83511ea2fcb79c7b355596afb1167441f1aff785b5d301eff24040002973f2", checked := Try.checked }
namespace Rows
def none {H : Type} : Left H := { results := [], args := [] }

/-- 'folkmootlaw.QuorumChecks': WHATEVER THE INPUT: true; the input reads as it did. -/
def quorumChecksSpec : ChangeSpec := { name := "quorumChecks", fn := fun _ => fun
  | [d1, d2] => { results := [.lit (.bool true)], args := [d1, d2] }
  | _ => none }
def quorumChecksRow : OpenClaim := { program := "ytblinhncklpidaa", sum := "be83511ea2fcb79c7b355596afb1167441f1aff785b5d301eff24040002973f2", func := "folkmoot/folkmootlaw.QuorumChecks", spec := "quorumChecks", unfollowed := true, recurses := true, apart := false }
def QuorumChecksSaid : Prop := quorumChecksRow.holds Try.pinned (OpenSpec.ofChange quorumChecksSpec)

/-- ITS FALSE NEIGHBOUR: 'it returns false'. Refute it at one input. -/
def quorumChecksWrong : ChangeSpec := { name := "quorumChecks", fn := fun _ => fun
  | [d1, d2] => { results := [.lit (.bool false)], args := [d1, d2] }
  | _ => none }
def QuorumChecksWrongFalsely : Prop := quorumChecksRow.holds Try.pinned (OpenSpec.ofChange quorumChecksWrong)

/-- 'folkmootlaw.QuorumFulls': WHATEVER THE INPUT: true; the input reads as it did. -/
def quorumFullsSpec : ChangeSpec := { name := "quorumFulls", fn := fun _ => fun
  | [d1, d2] => { results := [.lit (.bool true)], args := [d1, d2] }
  | _ => none }
def quorumFullsRow : OpenClaim := { program := "ytblinhncklpidaa", sum := "be83511ea2fcb79c7b355596afb1167441f1aff785b5d301eff24040002973f2", func := "folkmoot/folkmootlaw.QuorumFulls", spec := "quorumFulls", unfollowed := true, recurses := true, apart := false }
def QuorumFullsSaid : Prop := quorumFullsRow.holds Try.pinned (OpenSpec.ofChange quorumFullsSpec)

/-- ITS FALSE NEIGHBOUR: 'it returns false'. Refute it at one input. -/
def quorumFullsWrong : ChangeSpec := { name := "quorumFulls", fn := fun _ => fun
  | [d1, d2] => { results := [.lit (.bool false)], args := [d1, d2] }
  | _ => none }
def QuorumFullsWrongFalsely : Prop := quorumFullsRow.holds Try.pinned (OpenSpec.ofChange quorumFullsWrong)

/-- 'folkmootlaw.QuorumMasked': WHATEVER THE INPUT: true; the input reads as it did. -/
def quorumMaskedSpec : ChangeSpec := { name := "quorumMasked", fn := fun _ => fun
  | [d1, d2, d3] => { results := [.lit (.bool true)], args := [d1, d2, d3] }
  | _ => none }
def quorumMaskedRow : OpenClaim := { program := "ytblinhncklpidaa", sum := "be83511ea2fcb79c7b355596afb1167441f1aff785b5d301eff24040002973f2", func := "folkmoot/folkmootlaw.QuorumMasked", spec := "quorumMasked", unfollowed := true, recurses := true, apart := false }
def QuorumMaskedSaid : Prop := quorumMaskedRow.holds Try.pinned (OpenSpec.ofChange quorumMaskedSpec)

/-- ITS FALSE NEIGHBOUR: 'it returns false'. Refute it at one input. -/
def quorumMaskedWrong : ChangeSpec := { name := "quorumMasked", fn := fun _ => fun
  | [d1, d2, d3] => { results := [.lit (.bool false)], args := [d1, d2, d3] }
  | _ => none }
def QuorumMaskedWrongFalsely : Prop := quorumMaskedRow.holds Try.pinned (OpenSpec.ofChange quorumMaskedWrong)

/-- 'folkmootlaw.QuorumLeasts': WHATEVER THE INPUT: true; the input reads as it did. -/
def quorumLeastsSpec : ChangeSpec := { name := "quorumLeasts", fn := fun _ => fun
  | [d1, d2] => { results := [.lit (.bool true)], args := [d1, d2] }
  | _ => none }
def quorumLeastsRow : OpenClaim := { program := "ytblinhncklpidaa", sum := "be83511ea2fcb79c7b355596afb1167441f1aff785b5d301eff24040002973f2", func := "folkmoot/folkmootlaw.QuorumLeasts", spec := "quorumLeasts", unfollowed := true, recurses := true, apart := false }
def QuorumLeastsSaid : Prop := quorumLeastsRow.holds Try.pinned (OpenSpec.ofChange quorumLeastsSpec)

/-- ITS FALSE NEIGHBOUR: 'it returns false'. Refute it at one input. -/
def quorumLeastsWrong : ChangeSpec := { name := "quorumLeasts", fn := fun _ => fun
  | [d1, d2] => { results := [.lit (.bool false)], args := [d1, d2] }
  | _ => none }
def QuorumLeastsWrongFalsely : Prop := quorumLeastsRow.holds Try.pinned (OpenSpec.ofChange quorumLeastsWrong)

/-- 'folkmootlaw.QuorumBlocks': WHATEVER THE INPUT: true; the input reads as it did. -/
def quorumBlocksSpec : ChangeSpec := { name := "quorumBlocks", fn := fun _ => fun
  | [d1, d2] => { results := [.lit (.bool true)], args := [d1, d2] }
  | _ => none }
def quorumBlocksRow : OpenClaim := { program := "ytblinhncklpidaa", sum := "be83511ea2fcb79c7b355596afb1167441f1aff785b5d301eff24040002973f2", func := "folkmoot/folkmootlaw.QuorumBlocks", spec := "quorumBlocks", unfollowed := true, recurses := true, apart := false }
def QuorumBlocksSaid : Prop := quorumBlocksRow.holds Try.pinned (OpenSpec.ofChange quorumBlocksSpec)

/-- ITS FALSE NEIGHBOUR: 'it returns false'. Refute it at one input. -/
def quorumBlocksWrong : ChangeSpec := { name := "quorumBlocks", fn := fun _ => fun
  | [d1, d2] => { results := [.lit (.bool false)], args := [d1, d2] }
  | _ => none }
def QuorumBlocksWrongFalsely : Prop := quorumBlocksRow.holds Try.pinned (OpenSpec.ofChange quorumBlocksWrong)

/-- 'folkmootkeep.QuorumTwice': WHATEVER THE INPUT: true; the input reads as it did. -/
def quorumTwiceSpec : ChangeSpec := { name := "quorumTwice", fn := fun _ => fun
  | [d1, d2] => { results := [.lit (.bool true)], args := [d1, d2] }
  | _ => none }
def quorumTwiceRow : OpenClaim := { program := "ytblinhncklpidaa", sum := "be83511ea2fcb79c7b355596afb1167441f1aff785b5d301eff24040002973f2", func := "folkmoot/folkmootkeep.QuorumTwice", spec := "quorumTwice", unfollowed := true, recurses := true, apart := false }
def QuorumTwiceSaid : Prop := quorumTwiceRow.holds Try.pinned (OpenSpec.ofChange quorumTwiceSpec)

/-- ITS FALSE NEIGHBOUR: 'it returns false'. Refute it at one input. -/
def quorumTwiceWrong : ChangeSpec := { name := "quorumTwice", fn := fun _ => fun
  | [d1, d2] => { results := [.lit (.bool false)], args := [d1, d2] }
  | _ => none }
def QuorumTwiceWrongFalsely : Prop := quorumTwiceRow.holds Try.pinned (OpenSpec.ofChange quorumTwiceWrong)

/- THE SECOND FORM. 'bulk': how many values and letters a reading holds, each counted each time it is reached (what is shared counts as often as it is met; a slice's spare places count too). A statement '..UptoSaid' is the law's where the arguments, and the package variables that the reading takes, are together of bulk at most 1048576: NARROWER than '..Said'. Prove '..Said' where nothing that the law and all that it calls make is longer than what came in: it says more and counts as full. Else prove '..UptoSaid'. A law counts once. -/
mutual
def uptoBulk {H : Type} : DataW H → Nat
  | .lit (.string bytes) => bytes.length + 1
  | .lit _ => 1
  | .nil => 1
  | .ptr d => uptoBulk d + 1
  | .slice elems spare => uptoBulkAll elems + uptoBulkAll spare + 1
  | .agg parts => uptoBulkAll parts + 1
  | .iface _ d => uptoBulk d + 1
  | .map entries => uptoBulkEntries entries + 1
  | .held _ => 1
def uptoBulkAll {H : Type} : List (DataW H) → Nat
  | [] => 0
  | d :: r => uptoBulk d + uptoBulkAll r
def uptoBulkEntries {H : Type} : List (Lit × DataW H) → Nat
  | [] => 0
  | x :: r => uptoBulkEntry x + uptoBulkEntries r
def uptoBulkEntry {H : Type} : Lit × DataW H → Nat
  | (.string bytes, d) => bytes.length + uptoBulk d + 1
  | (_, d) => uptoBulk d + 1
 end
def uptoSmall : (H : Type) → List (DataW H) → Bool := fun _ ds => decide (uptoBulkAll ds ≤ 1048576)
def OpenSpec.upto (s : _root_.Go.ChangeSpec) : _root_.Go.OpenSpec := { _root_.Go.OpenSpec.ofChange s with cond := some uptoSmall }

/-- 'folkmootlaw.QuorumChecks', WHERE WHAT IT READS IS OF BULK AT MOST 1048576: true; the input reads as it did. -/
def quorumChecksUptoRow : OpenClaim := { program := "ytblinhncklpidaa", sum := "be83511ea2fcb79c7b355596afb1167441f1aff785b5d301eff24040002973f2", func := "folkmoot/folkmootlaw.QuorumChecks", spec := "quorumChecks", unfollowed := true, recurses := true, apart := false, narrowed := true }
def QuorumChecksUptoSaid : Prop := quorumChecksUptoRow.holds Try.pinned (OpenSpec.upto quorumChecksSpec)

/-- 'folkmootlaw.QuorumFulls', WHERE WHAT IT READS IS OF BULK AT MOST 1048576: true; the input reads as it did. -/
def quorumFullsUptoRow : OpenClaim := { program := "ytblinhncklpidaa", sum := "be83511ea2fcb79c7b355596afb1167441f1aff785b5d301eff24040002973f2", func := "folkmoot/folkmootlaw.QuorumFulls", spec := "quorumFulls", unfollowed := true, recurses := true, apart := false, narrowed := true }
def QuorumFullsUptoSaid : Prop := quorumFullsUptoRow.holds Try.pinned (OpenSpec.upto quorumFullsSpec)

/-- 'folkmootlaw.QuorumMasked', WHERE WHAT IT READS IS OF BULK AT MOST 1048576: true; the input reads as it did. -/
def quorumMaskedUptoRow : OpenClaim := { program := "ytblinhncklpidaa", sum := "be83511ea2fcb79c7b355596afb1167441f1aff785b5d301eff24040002973f2", func := "folkmoot/folkmootlaw.QuorumMasked", spec := "quorumMasked", unfollowed := true, recurses := true, apart := false, narrowed := true }
def QuorumMaskedUptoSaid : Prop := quorumMaskedUptoRow.holds Try.pinned (OpenSpec.upto quorumMaskedSpec)

/-- 'folkmootlaw.QuorumLeasts', WHERE WHAT IT READS IS OF BULK AT MOST 1048576: true; the input reads as it did. -/
def quorumLeastsUptoRow : OpenClaim := { program := "ytblinhncklpidaa", sum := "be83511ea2fcb79c7b355596afb1167441f1aff785b5d301eff24040002973f2", func := "folkmoot/folkmootlaw.QuorumLeasts", spec := "quorumLeasts", unfollowed := true, recurses := true, apart := false, narrowed := true }
def QuorumLeastsUptoSaid : Prop := quorumLeastsUptoRow.holds Try.pinned (OpenSpec.upto quorumLeastsSpec)

/-- 'folkmootlaw.QuorumBlocks', WHERE WHAT IT READS IS OF BULK AT MOST 1048576: true; the input reads as it did. -/
def quorumBlocksUptoRow : OpenClaim := { program := "ytblinhncklpidaa", sum := "be83511ea2fcb79c7b355596afb1167441f1aff785b5d301eff24040002973f2", func := "folkmoot/folkmootlaw.QuorumBlocks", spec := "quorumBlocks", unfollowed := true, recurses := true, apart := false, narrowed := true }
def QuorumBlocksUptoSaid : Prop := quorumBlocksUptoRow.holds Try.pinned (OpenSpec.upto quorumBlocksSpec)

/-- 'folkmootkeep.QuorumTwice', WHERE WHAT IT READS IS OF BULK AT MOST 1048576: true; the input reads as it did. -/
def quorumTwiceUptoRow : OpenClaim := { program := "ytblinhncklpidaa", sum := "be83511ea2fcb79c7b355596afb1167441f1aff785b5d301eff24040002973f2", func := "folkmoot/folkmootkeep.QuorumTwice", spec := "quorumTwice", unfollowed := true, recurses := true, apart := false, narrowed := true }
def QuorumTwiceUptoSaid : Prop := quorumTwiceUptoRow.holds Try.pinned (OpenSpec.upto quorumTwiceSpec)

end Rows
end Go.Proofs.Ytblinhncklpidaa
