/- folkmootref.pass: a payment taken. -/
import Derived.Test.YthadhhconkjpmaaX8
namespace Go.Proofs.Ythadhhconkjpmaa
open Go.RowKit Go.WideMaps
set_option linter.unusedVariables false

variable {W W2 : World} {ob lb n : Nat} {r : Rf} {h h2 : RSh}
set_option maxRecDepth 100000 in
set_option maxHeartbeats 1000000 in
theorem rpass_pay (m : RMov W ob lb n r h) (x y : Int) {w o : Nat} (hw : w < n) (ho : o < n) (hwo : o ≠ w) (hn : n ≤ 6) (hlen : ∀ a b, a < n → b < n → (r.lines a b).sent.length ≤ 900) (hx : (r.lines o w).sent[(r.lines o w).come]? = some y) (hy : 0 ≤ y) (hI : I64 (r.money w + y)) :
    Calls Try.prog 13 #[.agg #[.int .i64 2, .int .i64 (w : Int), .int .i64 (o : Int), .int .i64 x], .int .i64 (n : Int), .pointer (some ⟨ob, 0, none⟩), .slice (some ⟨lb, 0, none⟩) (n * n) (n * n)] W fun e W2 => e = .returned (.int .i64 0) ∧ ∃ h2, RMov W2 ob lb n ⟨upd1 r.money w (r.money w + y), r.own, (comeR r o w).lines⟩ h2 ∧ RStep W h W2 h2 := by
  have hw' : (w : Int) < (n : Int) := by omega
  have ho' : (o : Int) < (n : Int) := by omega
  have hwo' : ((o : Int) == (w : Int)) = false := by simp; omega
  obtain ⟨y1, y2, y3, y4, y5⟩ := idx_facts hn ho hw
  have enn : ((n * n : Nat) : Int) = (n : Int) * (n : Int) := Int.natCast_mul n n
  have m2 := m.alloc (.cells #[.int .i64 2, .int .i64 (w : Int), .int .i64 (o : Int), .int .i64 x] 41)
  obtain ⟨f1, f2, _, f4⟩ := m2.line ho hw
  have hcl := (List.getElem?_eq_some_iff.1 hx).1
  obtain ⟨g, off, cap, es, _, _, hcap, _, hcell, _, _⟩ := (m2.st o w ho hw).at (by omega)
  have hce := hcell (r.lines o w).come (.int .i64 y) (by simp [intsL, hx])
  have hll := hlen o w ho hw
  have d4 := f4 ((o * n + w) * 3 + 1)
  rw [es] at f1
  obtain ⟨gm, om, cm', em, hcm', htm, hclm, hfrm, _⟩ := m2.mon_at (by omega)
  have c1 := m2.cells.2.1
  rw [em] at c1
  have hmo := hclm w hw
  have hfm := hfrm (om + w)
  have hwr : IntKind.i64.wrap (r.money w + y) = r.money w + y := wrap_of hI
  have hn1 : ¬ (ob = lb) := fun e => by have h1 := m2.tob; rw [e, m2.tl] at h1; cases h1
  have hn2 : ¬ (gm = lb) := fun e => by rw [e, m2.tl] at htm; cases htm
  have hn3 : ¬ (lb = ob) := fun e => hn1 e.symm
  have hn4 : ¬ (lb = gm) := fun e => hn2 e.symm
  have HC := hidMk (fun q q2 => by
    obtain ⟨M3, S3⟩ := (m2.drewN q).setLine ho hw (c := 1) (.inl rfl) ((r.lines o w).come + 1) _ rfl
    rw [if_pos rfl] at M3
    obtain ⟨gm', om', _, em', _, _, _, _, hset⟩ := (M3.drewN q2).mon_at (by omega)
    rw [em] at em'
    simp only [Value.slice.injEq, Option.some.injEq, Addr.mk.injEq] at em'
    obtain ⟨⟨rfl, rfl, _⟩, _, _⟩ := em'
    exact And.intro (hset w (r.money w + y) hw) S3)
  clear hclm hfrm
  have HS : Hid (∀ q, RStep W h ((W.alloc (.cells #[.int .i64 2, .int .i64 (w : Int), .int .i64 (o : Int), .int .i64 x] 41)).drewN q) h) := fun q => ⟨((Keep.refl _ W).alloc _).drewN q, fun _ _ => rfl, rfl, rfl, rfl⟩
  have b1 : (W.alloc (.cells #[.int .i64 2, .int .i64 (w : Int), .int .i64 (o : Int), .int .i64 x] 41)).cell? ⟨W.heap.size, 1, none⟩ = some (.int .i64 (w : Int)) := by go_simp
  have b2 : (W.alloc (.cells #[.int .i64 2, .int .i64 (w : Int), .int .i64 (o : Int), .int .i64 x] 41)).cell? ⟨W.heap.size, 2, none⟩ = some (.int .i64 (o : Int)) := by go_simp
  have hlb := (Array.getElem?_eq_some_iff.1 m.lin).1
  have hne1 : ¬ (W.heap.size = lb) := by omega
  have hne2 : ¬ (lb = W.heap.size) := by omega
  clear m m2 f4 hx hcell hlen hlb
  generalize (r.lines o w).sent.length = ln at *
  generalize hcm : (r.lines o w).come = cm at *
  simp only [Int.natCast_succ] at HC
  have hcn : ((cm : Int) == (ln : Int)) = false := by simp; omega
  go_enter Try.func13, Try.ntmps13
  go_wp2
  generalize W.alloc (.cells #[.int .i64 2, .int .i64 (w : Int), .int .i64 (o : Int), .int .i64 x] 41) = w0 at *
  go_quiet (fail)
  go_wp2
  go_quiet (fail)
  go_wp2
  refine wp_region_tail rfl (by kernel_rfl) (by kernel_rfl) (by kernel_rfl) (by kernel_rfl) (by kernel_rfl) rfl ?_
  simp only [List.dropLast]
  repeat (go_big_quiet_step (fail))
  refine wpQuiet_nil ?_
  rintro _ ⟨q, rfl⟩
  have HC2 := hidMk (fun q1 => HC.out q1 q)
  go_wp2
  go_ret
  unfold comeR
  rw [hcm]
  refine ⟨rfl, h, (HC2.out _).1, ((HS.out _).trans (HC2.out _).2).trans ⟨((Keep.refl _ _).drewN q).setCell gm _ _ (fun _ => by rw [htm]; simp), fun _ _ => rfl, rfl, rfl, rfl⟩⟩
end Go.Proofs.Ythadhhconkjpmaa
