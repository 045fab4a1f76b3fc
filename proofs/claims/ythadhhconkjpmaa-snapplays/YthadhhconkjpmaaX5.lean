/- folkmootref.pass: a sending refused; nothing to take. -/
import Derived.Test.YthadhhconkjpmaaX4
namespace Go.Proofs.Ythadhhconkjpmaa
open Go.RowKit Go.WideMaps
set_option linter.unusedVariables false

variable {W W2 : World} {ob lb n : Nat} {r : Rf} {h h2 : RSh}
set_option maxRecDepth 100000 in
set_option maxHeartbeats 4000000 in
theorem rpass_poor (m : RMov W ob lb n r h) (x : Int) {w o : Nat} (hw : w < n) (ho : o < n) (hwo : o ≠ w) (v2 : Value) (hx : x < 1 ∨ r.money w < x) :
    Calls Try.prog 13 #[.agg #[.int .i64 1, .int .i64 (w : Int), .int .i64 (o : Int), .int .i64 x], .int .i64 (n : Int), .pointer (some ⟨ob, 0, none⟩), v2] W fun e W2 => e = .returned (.int .i64 2) ∧ Keep (fun _ => False) W W2 := by
  have hw' : (w : Int) < (n : Int) := by omega
  have ho' : (o : Int) < (n : Int) := by omega
  have hwo' : ((o : Int) == (w : Int)) = false := by simp; omega
  have m2 := m.alloc (.cells #[.int .i64 1, .int .i64 (w : Int), .int .i64 (o : Int), .int .i64 x] 41)
  obtain ⟨g, off, cap, e, hcap, ht, hcl, hfr, hset⟩ := m2.mon_at (by omega)
  have c2 := m2.cells.2.1
  rw [e] at c2
  have hco := hcl w hw
  have HK := hidMk ((Keep.refl (fun _ => False) W).alloc (.cells #[.int .i64 1, .int .i64 (w : Int), .int .i64 (o : Int), .int .i64 x] 41))
  have b1 : (W.alloc (.cells #[.int .i64 1, .int .i64 (w : Int), .int .i64 (o : Int), .int .i64 x] 41)).cell? ⟨W.heap.size, 1, none⟩ = some (.int .i64 (w : Int)) := by go_simp
  have b3 : (W.alloc (.cells #[.int .i64 1, .int .i64 (w : Int), .int .i64 (o : Int), .int .i64 x] 41)).cell? ⟨W.heap.size, 3, none⟩ = some (.int .i64 x) := by go_simp
  clear hcl hfr hset m m2
  by_cases hx1 : x < 1
  · have hxd : decide (x < 1) = true := by simp [hx1]
    clear hx
    go_enter Try.func13, Try.ntmps13
    go_wp2
    generalize W.alloc (.cells #[.int .i64 1, .int .i64 (w : Int), .int .i64 (o : Int), .int .i64 x] 41) = w0 at *
    go_quiet (fail)
    go_wp2
    go_ret
    exact ⟨rfl, HK.out.drewN _⟩
  · have hxd : decide (x < 1) = false := by simp [hx1]
    have hx2 : r.money w < x := by omega
    clear hx
    go_enter Try.func13, Try.ntmps13
    go_wp2
    generalize W.alloc (.cells #[.int .i64 1, .int .i64 (w : Int), .int .i64 (o : Int), .int .i64 x] 41) = w0 at *
    go_quiet (fail)
    go_wp2
    go_ret
    exact ⟨rfl, HK.out.drewN _⟩

end Go.Proofs.Ythadhhconkjpmaa
