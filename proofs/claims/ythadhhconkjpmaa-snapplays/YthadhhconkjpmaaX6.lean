/- folkmootref.pass: nothing to take. -/
import Derived.Test.YthadhhconkjpmaaX5
namespace Go.Proofs.Ythadhhconkjpmaa
open Go.RowKit Go.WideMaps
set_option linter.unusedVariables false

variable {W W2 : World} {ob lb n : Nat} {r : Rf} {h h2 : RSh}
set_option maxRecDepth 100000 in
set_option maxHeartbeats 4000000 in
theorem rpass_none (m : RMov W ob lb n r h) (x : Int) {w o : Nat} (hw : w < n) (ho : o < n) (hwo : o ≠ w) (hn : n ≤ 6) (hx : (r.lines o w).come = (r.lines o w).sent.length) :
    Calls Try.prog 13 #[.agg #[.int .i64 2, .int .i64 (w : Int), .int .i64 (o : Int), .int .i64 x], .int .i64 (n : Int), .pointer (some ⟨ob, 0, none⟩), .slice (some ⟨lb, 0, none⟩) (n * n) (n * n)] W fun e W2 => e = .returned (.int .i64 5) ∧ Keep (fun _ => False) W W2 := by
  have hw' : (w : Int) < (n : Int) := by omega
  have ho' : (o : Int) < (n : Int) := by omega
  have hwo' : ((o : Int) == (w : Int)) = false := by simp; omega
  obtain ⟨y1, y2, y3, y4, y5⟩ := idx_facts hn ho hw
  have enn : ((n * n : Nat) : Int) = (n : Int) * (n : Int) := Int.natCast_mul n n
  have m2 := m.alloc (.cells #[.int .i64 2, .int .i64 (w : Int), .int .i64 (o : Int), .int .i64 x] 41)
  obtain ⟨f1, f2, _, f4⟩ := m2.line ho hw
  obtain ⟨sa, sc, es⟩ := (m2.st o w ho hw).form
  rw [es] at f1
  rw [hx] at f2
  generalize (r.lines o w).sent.length = ln at *
  have HK := hidMk ((Keep.refl (fun _ => False) W).alloc (.cells #[.int .i64 2, .int .i64 (w : Int), .int .i64 (o : Int), .int .i64 x] 41))
  have b1 : (W.alloc (.cells #[.int .i64 2, .int .i64 (w : Int), .int .i64 (o : Int), .int .i64 x] 41)).cell? ⟨W.heap.size, 1, none⟩ = some (.int .i64 (w : Int)) := by go_simp
  have b2 : (W.alloc (.cells #[.int .i64 2, .int .i64 (w : Int), .int .i64 (o : Int), .int .i64 x] 41)).cell? ⟨W.heap.size, 2, none⟩ = some (.int .i64 (o : Int)) := by go_simp
  clear m m2 f4 hx
  go_enter Try.func13, Try.ntmps13
  go_wp2
  generalize W.alloc (.cells #[.int .i64 2, .int .i64 (w : Int), .int .i64 (o : Int), .int .i64 x] 41) = w0 at *
  go_quiet (fail)
  go_wp2
  go_ret
  exact ⟨rfl, HK.out.drewN _⟩
end Go.Proofs.Ythadhhconkjpmaa
