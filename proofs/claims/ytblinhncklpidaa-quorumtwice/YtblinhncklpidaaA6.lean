/- Contract of math/bits.OnesCount32: how many bits are set. -/
import Derived.Test.YtblinhncklpidaaA5
import Derived.Test.YtblinhncklpidaaSize
import Derived.Deep.QuietTactic
import Derived.BigQuiet
namespace Go.Proofs.Ytblinhncklpidaa
open Go.RowKit

set_option maxHeartbeats 1000000 in
set_option maxRecDepth 100000 in
theorem ones_any (x : Nat) (hx : x < 4294967296) (w : World) :
    Calls Try.prog 37 #[.int .u32 x] w fun e w' => e = .returned (.int .i64 (sz x)) ∧ ∃ nq, w' = w.drewN nq := by
  have a0 : (0 : Int) ≤ (x : Int) / 16777216 := by omega
  have a1 : (x : Int) / 16777216 ≤ 255 := by omega
  have b0 := and255 (x / 65536) (by omega)
  have c0 := and255 (x / 256) (by omega)
  have d0 := and255 x hx
  have eb : ((x / 65536 : Nat) : Int) = (x : Int) / 65536 := by omega
  have ec : ((x / 256 : Nat) : Int) = (x : Int) / 256 := by omega
  rw [eb] at b0
  rw [ec] at c0
  clear eb ec
  go_enter Try.func37, Try.ntmps37
  go_wp2
  go_quiet (fail)
  go_wp2
  go_ret
  exact ⟨ret_int (sz_parts x hx), _, rfl⟩

theorem ones_int (z : Int) (h0 : 0 ≤ z) (h1 : z < 4294967296) (w : World) :
    Calls Try.prog 37 #[.int .u32 z] w fun e w' => e = .returned (.int .i64 (sz z.toNat)) ∧ ∃ nq, w' = w.drewN nq := by
  obtain ⟨x, rfl⟩ := Int.eq_ofNat_of_zero_le h0
  exact ones_any x (by omega) w
end Go.Proofs.Ytblinhncklpidaa
