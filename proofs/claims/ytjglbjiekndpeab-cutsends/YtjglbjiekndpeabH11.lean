/- Contracts of clocks.Scalars, Vectors, Before where the events are wrong; of Vectors and Before where they may be. -/
import Derived.Test.YtjglbjiekndpeabH10
namespace Go.Proofs.Ytjglbjiekndpeab
open Go.RowKit Go.Shelf
set_option linter.unusedVariables false


set_option maxHeartbeats 1000000 in
theorem Vectors_err (N : Int) (a : Option Addr) (len cap : Nat) (es : List Ev) (w : World) (h : CameEv w a len cap es) (hz : evsCode N es ≠ 0) :
    Calls Try.prog 19 #[.int .i64 N, .slice a len cap] w fun e W2 => e = .returned (.tuple #[.slice none 0 0, .int .i64 (evsCode N es)]) ∧ Below w.heap.size w W2 := by
  have HC := hidMk (check_any N a len cap es w h)
  have hne : (evsCode N es != 0) = true := by simpa using hz
  clear h hz
  generalize evsCode N es = c at HC hne
  go_enter Try.func19, Try.ntmps19
  go_wp2_with (go_at_call 21; refine (HC.out).mono ?_; rintro e w1 ⟨rfl, hB1⟩)
  go_ret2
  exact ⟨rfl, hB1⟩

/-- The rows of the numbers of all events. -/
def Rows2 (es : List Ev) (base len n : Nat) (W : World) (O : Nat) (R : Nat → Nat) : Prop := RowV W base O len n R len ∧ ∀ j, j < len → RowI W base (R j) n (fun p => vc es p j)

set_option maxHeartbeats 1000000 in
theorem Vectors_ok (n : Nat) (a : Option Addr) (len cap : Nat) (es : List Ev) (w : World) (h : CameEv w a len cap es) (hz : evsCode (n : Int) es = 0) :
    Calls Try.prog 19 #[.int .i64 (n : Int), .slice a len cap] w fun e W2 => (∃ O R, e = .returned (.tuple #[.slice (some ⟨O, 0, none⟩) len len, .int .i64 0]) ∧ Rows2 es w.heap.size len n W2 O R) ∧ Below w.heap.size w W2 := by
  have HC := hidMk (check_any (n : Int) a len cap es w h)
  rw [hz] at HC
  have HVV : Hid (∀ w1, Below w.heap.size w w1 → Calls Try.prog 22 #[.int .i64 (n : Int), .slice a len cap] w1 fun e W2 => (∃ O R, e = .returned (.slice (some ⟨O, 0, none⟩) len len) ∧ RowV W2 w1.heap.size O len n R len ∧ ∀ j, j < len → RowI W2 w1.heap.size (R j) n (fun p => vc es p j)) ∧ Below w1.heap.size w1 W2) :=
    fun w1 hb => vectors_ok n a len cap es w1 (h.below hb) (valid_of hz)
  clear h hz
  go_enter Try.func19, Try.ntmps19
  go_wp2_with (first | (go_at_call 22; refine (HVV.out _ hB1).mono ?_; rintro e w2 ⟨⟨O, R, rfl, hO, hR⟩, hB2⟩) | (go_at_call 21; refine (HC.out).mono ?_; rintro e w1 ⟨rfl, hB1⟩))
  go_ret2
  exact ⟨⟨O, R, rfl, owns_le hO hB1.size, fun j hj => owns_le (hR j hj) hB1.size⟩, hB1.trans (hB2.mono hB1.size)⟩

end Go.Proofs.Ytjglbjiekndpeab
