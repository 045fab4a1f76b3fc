/- Contracts in one form: clocks.Before, Check, folkmootkeep.events, inside. -/
import Derived.Test.YtjglbjiekndpeabH11
import Derived.Test.YtjglbjiekndpeabH12
namespace Go.Proofs.Ytjglbjiekndpeab
open Go.RowKit Go.Shelf
set_option linter.unusedVariables false

theorem below_from {w w1 w2 : World} (h : Below w.heap.size w w1) (k : Below w1.heap.size w1 w2) : Below w.heap.size w w2 := h.trans (k.mono h.size)

theorem check_from (N : Int) (a : Option Addr) (len cap : Nat) (es : List Ev) (w w1 : World) (h : CameEv w a len cap es) (hb : Below w.heap.size w w1) :
    Calls Try.prog 21 #[.int .i64 N, .slice a len cap] w1 fun e w2 => e = .returned (.int .i64 (evsCode N es)) ∧ Below w.heap.size w w2 :=
  (check_any N a len cap es w1 (h.below hb)).mono fun e w2 ⟨h1, h2⟩ => ⟨h1, below_from hb h2⟩
theorem refEvents_from (N : Int) (a : Option Addr) (len cap : Nat) (es : List Ev) (w w1 : World) (h : CameEv w a len cap es) (hb : Below w.heap.size w w1) :
    Calls Try.prog 13 #[.int .i64 N, .slice a len cap] w1 fun e w2 => e = .returned (.int .i64 (evsCode N es)) ∧ Below w.heap.size w w2 :=
  (refEvents_any N a len cap es w1 (h.below hb)).mono fun e w2 ⟨h1, h2⟩ => ⟨h1, below_from hb h2⟩


set_option maxHeartbeats 1000000 in
theorem events_from (N : Int) (a : Option Addr) (len cap : Nat) (es : List Ev) (w w1 : World) (h : CameEv w a len cap es) (hb : Below w.heap.size w w1) :
    Calls Try.prog 5 #[.int .i64 N, .slice a len cap] w1 fun e w2 => e = .returned (.bool (evsCode N es == 0)) ∧ Below w.heap.size w w2 := by
  have HC := hidMk (refEvents_from N a len cap es w w1 h hb)
  generalize evsCode N es = c at HC ⊢
  clear h hb
  go_enter Try.func5, Try.ntmps5
  go_wp2_with (go_at_call 13; refine (HC.out).mono ?_; rintro e w2 ⟨rfl, hB⟩)
  go_ret
  exact ⟨rfl, hB⟩

end Go.Proofs.Ytjglbjiekndpeab
