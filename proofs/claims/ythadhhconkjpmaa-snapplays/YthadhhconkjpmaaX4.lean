/- folkmootref.pass: what is refused. -/
import Derived.Test.YthadhhconkjpmaaX3
namespace Go.Proofs.Ythadhhconkjpmaa
open Go.RowKit Go.WideMaps
set_option linter.unusedVariables false

variable {W W2 : World} {ob lb n : Nat} {r : Rf} {h h2 : RSh}

set_option maxRecDepth 100000 in
set_option maxHeartbeats 4000000 in
theorem rpass_kind (k w o x : Int) (v1 v2 : Value) (h1 : k ≠ 1) (h2 : k ≠ 2) (h3 : k ≠ 3) :
    Calls Try.prog 13 #[.agg #[.int .i64 k, .int .i64 w, .int .i64 o, .int .i64 x], .int .i64 (n : Int), v1, v2] W fun e W2 => e = .returned (.int .i64 4) ∧ Keep (fun _ => False) W W2 := by
  have d1 : (k != 1) = true := by simp [h1]
  have d2 : (k != 2) = true := by simp [h2]
  have d3 : (k != 3) = true := by simp [h3]
  go_enter Try.func13, Try.ntmps13
  go_wp2
  go_ret
  exact ⟨rfl, (Keep.refl _ W).alloc _⟩

set_option maxRecDepth 100000 in
set_option maxHeartbeats 4000000 in
theorem rpass_who (k w o x : Int) (v1 v2 : Value) (h1 : k = 1 ∨ k = 2 ∨ k = 3) (hw : inP n w = false) :
    Calls Try.prog 13 #[.agg #[.int .i64 k, .int .i64 w, .int .i64 o, .int .i64 x], .int .i64 (n : Int), v1, v2] W fun e W2 => e = .returned (.int .i64 2) ∧ Keep (fun _ => False) W W2 := by
  have hw' : w < 0 ∨ (0 ≤ w ∧ (n : Int) ≤ w) := by
    simp [inP] at hw
    omega
  rcases h1 with rfl | rfl | rfl <;> rcases hw' with h2 | ⟨h3, h2⟩
  all_goals
    go_enter Try.func13, Try.ntmps13
    go_wp2
    go_ret
    exact ⟨rfl, (Keep.refl _ W).alloc _⟩

set_option maxRecDepth 100000 in
set_option maxHeartbeats 4000000 in
theorem rpass_other (k o x : Int) {w : Nat} (hw : w < n) (v1 v2 : Value) (h1 : k = 1 ∨ k = 2) (ho : inP n o = false ∨ o = (w : Int)) :
    Calls Try.prog 13 #[.agg #[.int .i64 k, .int .i64 (w : Int), .int .i64 o, .int .i64 x], .int .i64 (n : Int), v1, v2] W fun e W2 => e = .returned (.int .i64 2) ∧ Keep (fun _ => False) W W2 := by
  have hw' : (w : Int) < (n : Int) := by omega
  have ho' : o < 0 ∨ (0 ≤ o ∧ (n : Int) ≤ o) ∨ o = (w : Int) := by
    rcases ho with ho | ho
    · simp [inP] at ho
      omega
    · exact .inr (.inr ho)
  rcases h1 with rfl | rfl <;> rcases ho' with h2 | ⟨h3, h2⟩ | rfl
  all_goals
    go_enter Try.func13, Try.ntmps13
    go_wp2
    go_ret
    exact ⟨rfl, (Keep.refl _ W).alloc _⟩

set_option maxRecDepth 100000 in
set_option maxHeartbeats 4000000 in
theorem rpass_held (m : RMov W ob lb n r h) (o x : Int) {w : Nat} (hw : w < n) (v2 : Value) (hown : 0 ≤ r.own w) :
    Calls Try.prog 13 #[.agg #[.int .i64 3, .int .i64 (w : Int), .int .i64 o, .int .i64 x], .int .i64 (n : Int), .pointer (some ⟨ob, 0, none⟩), v2] W fun e W2 => e = .returned (.int .i64 6) ∧ Keep (fun _ => False) W W2 := by
  have hw' : (w : Int) < (n : Int) := by omega
  have m2 := m.alloc (.cells #[.int .i64 3, .int .i64 (w : Int), .int .i64 o, .int .i64 x] 41)
  obtain ⟨g, off, cap, e, hcap, ht, hcl, hfr, hset⟩ := m2.own_at (by omega)
  have c2 := m2.cells.2.2
  rw [e] at c2
  have hco := hcl w hw
  have HK := hidMk ((Keep.refl (fun _ => False) W).alloc (.cells #[.int .i64 3, .int .i64 (w : Int), .int .i64 o, .int .i64 x] 41))
  have b1 : (W.alloc (.cells #[.int .i64 3, .int .i64 (w : Int), .int .i64 o, .int .i64 x] 41)).cell? ⟨W.heap.size, 1, none⟩ = some (.int .i64 (w : Int)) := by go_simp
  clear hcl hfr hset m m2
  go_enter Try.func13, Try.ntmps13
  go_wp2
  generalize W.alloc (.cells #[.int .i64 3, .int .i64 (w : Int), .int .i64 o, .int .i64 x] 41) = w0 at *
  go_quiet (fail)
  go_wp2
  go_ret
  exact ⟨rfl, HK.out.drewN _⟩

set_option maxRecDepth 100000 in
set_option maxHeartbeats 4000000 in
theorem rpass_begin (m : RMov W ob lb n r h) (o x : Int) {w : Nat} (hw : w < n) (hn : n ≤ 6) (hlen : ∀ a b, a < n → b < n → (r.lines a b).sent.length ≤ 900) (hown : r.own w < 0) :
    Calls Try.prog 13 #[.agg #[.int .i64 3, .int .i64 (w : Int), .int .i64 o, .int .i64 x], .int .i64 (n : Int), .pointer (some ⟨ob, 0, none⟩), .slice (some ⟨lb, 0, none⟩) (n * n) (n * n)] W fun e W2 => e = .returned (.int .i64 0) ∧ ∃ h2, RMov W2 ob lb n (noteR r w) h2 ∧ RStep W h W2 h2 := by
  have hw' : (w : Int) < (n : Int) := by omega
  have m2 := m.alloc (.cells #[.int .i64 3, .int .i64 (w : Int), .int .i64 o, .int .i64 x] 41)
  obtain ⟨g, off, cap, e, hcap, ht, hcl, hfr, hset⟩ := m2.own_at (by omega)
  have c2 := m2.cells.2.2
  rw [e] at c2
  have hco := hcl w hw
  have HC := hidMk (fun q => rnote_any (m2.drewN q) hw hn hlen)
  have HS : Hid (∀ q, RStep W h ((W.alloc (.cells #[.int .i64 3, .int .i64 (w : Int), .int .i64 o, .int .i64 x] 41)).drewN q) h) := fun q => ⟨((Keep.refl _ W).alloc _).drewN q, fun _ _ => rfl, rfl, rfl, rfl⟩
  have b1 : (W.alloc (.cells #[.int .i64 3, .int .i64 (w : Int), .int .i64 o, .int .i64 x] 41)).cell? ⟨W.heap.size, 1, none⟩ = some (.int .i64 (w : Int)) := by go_simp
  clear hcl hfr hset m m2 hlen
  go_enter Try.func13, Try.ntmps13
  go_wp2
  generalize W.alloc (.cells #[.int .i64 3, .int .i64 (w : Int), .int .i64 o, .int .i64 x] 41) = w0 at *
  go_quiet (fail)
  go_wp2_with (go_at_call 24; refine (HC.out _).mono ?_; rintro e w3 ⟨rfl, h3, m3, st3⟩)
  go_ret
  exact ⟨rfl, h3, m3, (HS.out _).trans st3⟩
end Go.Proofs.Ythadhhconkjpmaa
