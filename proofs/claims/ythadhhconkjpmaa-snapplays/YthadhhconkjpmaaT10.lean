/- checkStep. -/
import Derived.Test.YthadhhconkjpmaaT9
namespace Go.Proofs.Ythadhhconkjpmaa
open Go.RowKit Go.WideMaps
set_option linter.unusedVariables false

variable {W W2 : World} {mb n : Nat} {s : St} {h h2 : Sh}

set_option maxRecDepth 100000 in
set_option maxHeartbeats 4000000 in
theorem isProcess_any {L cm : Nat} {a : Option Addr} (z : Int) (hL : W.cell? ⟨L, 0, none⟩ = some (.pointer (some ⟨mb, 0, none⟩))) (c0 : W.cell? ⟨mb, 0, none⟩ = some (.slice a n cm)) :
    Calls Try.prog 18 #[.int .i64 z, .pointer (some ⟨L, 0, none⟩)] W fun e w2 => e = .returned (.bool (inP n z)) ∧ w2 = W := by
  by_cases h0 : 0 ≤ z
  · go_enter Try.func18, Try.ntmps18
    go_wp2
    go_ret
    exact ⟨by simp [inP, h0], rfl⟩
  · have h0' : z < 0 := by omega
    go_enter Try.func18, Try.ntmps18
    go_wp2
    go_ret
    exact ⟨by rw [show inP n z = false from by simp [inP]; omega]; rfl, rfl⟩

set_option maxRecDepth 100000 in
set_option maxHeartbeats 4000000 in
theorem chk_a (W : World) (kind who other x : Int) (mb n : Nat) (hk : kind = 1 ∨ kind = 2)
    (HC : Hid (∀ z o, Calls Try.prog 18 #[.int .i64 z, .pointer (some ⟨W.heap.size, 0, none⟩)] ((W.alloc (.cells #[.pointer (some ⟨mb, 0, none⟩)] 56)).alloc o) fun e w2 => e = .returned (.bool (inP n z)) ∧ w2 = (W.alloc (.cells #[.pointer (some ⟨mb, 0, none⟩)] 56)).alloc o))
    (hb : inP n who = false ∨ inP n other = false ∨ who = other) :
    Calls Try.prog 10 #[.pointer (some ⟨mb, 0, none⟩), .agg #[.int .i64 kind, .int .i64 who, .int .i64 other, .int .i64 x]] W fun e W2 => e = .returned (.int .i64 2) ∧ Keep (fun _ => False) W W2 := by
  rcases hk with rfl | rfl
  all_goals
    cases e1 : inP n who with
    | false =>
      go_enter Try.func10, Try.ntmps10
      go_wp2_with (go_at_call 18; refine (HC.out _ _).mono ?_; rintro e w3 ⟨rfl, hw3⟩; obtain rfl := hw3.symm)
      go_ret
      exact ⟨rfl, ((Keep.refl _ W).alloc _).alloc _⟩
    | true =>
      cases e2 : inP n other with
      | false =>
        go_enter Try.func10, Try.ntmps10
        go_wp2_with (go_at_call 18; refine (HC.out _ _).mono ?_; rintro e w3 ⟨rfl, hw3⟩; obtain rfl := hw3.symm)
        go_ret
        exact ⟨rfl, ((Keep.refl _ W).alloc _).alloc _⟩
      | true =>
        obtain rfl : who = other := by
          rw [e1, e2] at hb
          simpa using hb
        clear e2
        go_enter Try.func10, Try.ntmps10
        go_wp2_with (go_at_call 18; refine (HC.out _ _).mono ?_; rintro e w3 ⟨rfl, hw3⟩; obtain rfl := hw3.symm)
        go_ret
        exact ⟨rfl, ((Keep.refl _ W).alloc _).alloc _⟩
end Go.Proofs.Ythadhhconkjpmaa
