/- The walk, in parts: FIRST. -/
import Derived.Test.YtgnigjfgddhgiaaBc1
namespace Go.Proofs.Ytgnigjfgddhgiaa
open Go.RowKit
set_option linter.unusedVariables false

set_option maxRecDepth 100000 in
set_option maxHeartbeats 16000000 in
theorem bak_FIRST : bakP.FIRST := by
  conv => whnf
  intro W pa n pl pc zs h0 h4 hpl HP hpl' hn4 hmi hmb i0 hit hz0 hz1 hz2 q0 qit qz0 qz1 qz2 _ _ _ w0 HK0 r hr HR0 HZ0 _ _ _ _
  go_region
  all_goals (
    go_wp2
    go_meet
    case rel =>
      apply firstB_ex
      case hK => exact Stil.tr ((((Keep.refl _ w0).alloc _).alloc _).alloc _ |>.alloc _) (stilDrew _)
      case ho => first | exact blk0 _ _ _ _ _ _ | exact blk1 _ _ _ _ _ _ | exact blk2 _ _ _ _ _ _ | exact blk3 _ _ _ _ _ _
      case hA => first | exact blk0 _ _ _ _ _ _ | exact blk1 _ _ _ _ _ _ | exact blk2 _ _ _ _ _ _ | exact blk3 _ _ _ _ _ _
      case hT => first | exact blk0 _ _ _ _ _ _ | exact blk1 _ _ _ _ _ _ | exact blk2 _ _ _ _ _ _ | exact blk3 _ _ _ _ _ _
      case hC => first | exact blk0 _ _ _ _ _ _ | exact blk1 _ _ _ _ _ _ | exact blk2 _ _ _ _ _ _ | exact blk3 _ _ _ _ _ _
      all_goals (have := HZ0.out; omega))
end Go.Proofs.Ytgnigjfgddhgiaa
