/- folkmootref.pass: a mark taken. -/
import Derived.Test.YthadhhconkjpmaaX6
namespace Go.Proofs.Ythadhhconkjpmaa
open Go.RowKit Go.WideMaps
set_option linter.unusedVariables false

variable {W W2 : World} {ob lb n : Nat} {r : Rf} {h h2 : RSh}
set_option maxRecDepth 100000 in
set_option maxHeartbeats 1000000 in
theorem rpass_mark (m : RMov W ob lb n r h) (x y : Int) {w o : Nat} (hw : w < n) (ho : o < n) (hwo : o ≠ w) (hn : n ≤ 6) (hlen : ∀ a b, a < n → b < n → (r.lines a b).sent.length ≤ 900) (hx : (r.lines o w).sent[(r.lines o w).come]? = some y) (hy : y < 0) :
    Calls Try.prog 13 #[.agg #[.int .i64 2, .int .i64 (w : Int), .int .i64 (o : Int), .int .i64 x], .int .i64 (n : Int), .pointer (some ⟨ob, 0, none⟩), .slice (some ⟨lb, 0, none⟩) (n * n) (n * n)] W fun e W2 => e = .returned (.int .i64 0) ∧ ∃ h2, RMov W2 ob lb n (noteR (comeR r o w) w) h2 ∧ RStep W h W2 h2 := by
  have hw' : (w : Int) < (n : Int) := by omega
  have ho' : (o : Int) < (n : Int) := by omega
  have hwo' : ((o : Int) == (w : Int)) = false := by simp; omega
  obtain ⟨y1, y2, y3, y4, y5⟩ := idx_facts hn ho hw
  have enn : ((n * n : Nat) : Int) = (n : Int) * (n : Int) := Int.natCast_mul n n
  have m2 := m.alloc (.cells #[.int .i64 2, .int .i64 (w : Int), .int .i64 (o : Int), .int .i64 x] 41)
  obtain ⟨f1, f2, _, f4⟩ := m2.line ho hw
  have hcl := (List.getElem?_eq_some_iff.1 hx).1
  obtain ⟨g, off, cap, es, _, _, hcap, _, hcell, _, _⟩ := (m2.st o w ho hw).at (by omega)
  have hce := hcell (r.lines o w).come (.int .i64 y) (by simp [intsL, hx])
  have hll := hlen o w ho hw
  have d4 := f4 ((o * n + w) * 3 + 1)
  rw [es] at f1
  have HC := hidMk (fun q => by
    obtain ⟨M3, S3⟩ := (m2.drewN q).setLine ho hw (c := 1) (.inl rfl) ((r.lines o w).come + 1) _ rfl
    rw [if_pos rfl] at M3
    exact And.intro (rnote_any M3 hw hn (fun a b ha hb => by
      by_cases e : a = o ∧ b = w
      · obtain ⟨rfl, rfl⟩ := e
        show (upd2 r.lines a b _ a b).sent.length ≤ 900
        rw [upd2_same]; exact hll
      · show (upd2 r.lines o w _ a b).sent.length ≤ 900
        rw [upd2_other _ _ e]; exact hlen a b ha hb)) S3)
  have HS : Hid (∀ q, RStep W h ((W.alloc (.cells #[.int .i64 2, .int .i64 (w : Int), .int .i64 (o : Int), .int .i64 x] 41)).drewN q) h) := fun q => ⟨((Keep.refl _ W).alloc _).drewN q, fun _ _ => rfl, rfl, rfl, rfl⟩
  have b1 : (W.alloc (.cells #[.int .i64 2, .int .i64 (w : Int), .int .i64 (o : Int), .int .i64 x] 41)).cell? ⟨W.heap.size, 1, none⟩ = some (.int .i64 (w : Int)) := by go_simp
  have b2 : (W.alloc (.cells #[.int .i64 2, .int .i64 (w : Int), .int .i64 (o : Int), .int .i64 x] 41)).cell? ⟨W.heap.size, 2, none⟩ = some (.int .i64 (o : Int)) := by go_simp
  have hlb := (Array.getElem?_eq_some_iff.1 m.lin).1
  have hne1 : ¬ (W.heap.size = lb) := by omega
  have hne2 : ¬ (lb = W.heap.size) := by omega
  clear m m2 f4 hx hcell hlen hlb
  generalize (r.lines o w).sent.length = ln at *
  generalize hcm : (r.lines o w).come = cm at *
  simp only [Int.natCast_succ] at HC
  have hcn : ((cm : Int) == (ln : Int)) = false := by simp; omega
  go_enter Try.func13, Try.ntmps13
  go_wp2
  generalize W.alloc (.cells #[.int .i64 2, .int .i64 (w : Int), .int .i64 (o : Int), .int .i64 x] 41) = w0 at *
  go_quiet (fail)
  go_wp2
  go_quiet (fail)
  go_wp2_with (go_at_call 24; refine (HC.out _).1.mono ?_; rintro e w3 ⟨rfl, h3, m3, st3⟩)
  go_ret
  unfold comeR
  rw [hcm]
  exact ⟨rfl, h3, m3, ((HS.out _).trans (HC.out _).2).trans st3⟩
end Go.Proofs.Ythadhhconkjpmaa
