/- checkStep. -/
import Derived.Test.YtpdccjhabolccaaCa4
namespace Go.Proofs.Ytpdccjhabolccaa
open Go.RowKit Go.WideMaps
set_option linter.unusedVariables false

variable {W W2 : World} {mb n : Nat} {s : CS} {h h2 : CSh}
def stepV (p : Cst) : Value := .agg #[.int .i64 p.kind, .int .i64 p.who, .int .i64 p.msg]

set_option maxRecDepth 100000 in
set_option maxHeartbeats 8000000 in
theorem chk_any (m : Cmov W mb n s h) (hn : n ≤ 6) (hml : s.msgs.length ≤ 200) (p : Cst) :
    Calls Try.prog 31 #[.pointer (some ⟨mb, 0, none⟩), .agg #[.int .i64 p.kind, .int .i64 p.who, .int .i64 p.msg]] W fun e W2 => e = .returned (.int .i64 (codeC n s p)) ∧ Still W W2 := by
  obtain ⟨kd, wh, ms⟩ := p
  simp only
  have HK : Hid (Still W (W.alloc (.cells #[.int .i64 kd, .int .i64 wh, .int .i64 ms] 47))) := hidMk ((Keep.refl _ W).alloc _)
  have b0 : (W.alloc (.cells #[.int .i64 kd, .int .i64 wh, .int .i64 ms] 47)).cell? ⟨W.heap.size, 0, none⟩ = some (.int .i64 kd) := by go_simp
  have b1 : (W.alloc (.cells #[.int .i64 kd, .int .i64 wh, .int .i64 ms] 47)).cell? ⟨W.heap.size, 1, none⟩ = some (.int .i64 wh) := by go_simp
  have b2 : (W.alloc (.cells #[.int .i64 kd, .int .i64 wh, .int .i64 ms] 47)).cell? ⟨W.heap.size, 2, none⟩ = some (.int .i64 ms) := by go_simp
  have M0 := m.still HK.out
  obtain ⟨c0, c1, c2⟩ := M0.cells
  obtain ⟨am, km, em⟩ := segForm m.ms
  rw [em] at c0
  unfold codeC
  simp only
  by_cases k1 : kd ≠ 1 ∧ kd ≠ 2
  · rw [if_pos k1]
    have q1 : (kd != 1) = true := by simpa using k1.1
    have q2 : (kd != 2) = true := by simpa using k1.2
    clear k1 m M0 em
    go_enter Try.func31, Try.ntmps31
    go_wp2
    go_ret
    exact ⟨rfl, HK.out⟩
  · rw [if_neg k1]
    have q12 : (kd != 1) = false ∨ (kd != 1) = true ∧ (kd != 2) = false := by
      by_cases e : kd = 1
      · left; simpa using e
      · right; exact ⟨by simpa using e, by simp; omega⟩
    by_cases w1 : inP n wh = false
    · rw [if_pos w1]
      have w2 : wh < 0 ∨ ¬ wh < 0 ∧ (n : Int) ≤ wh := by simp [inP] at w1; omega
      clear k1 m M0 em w1
      rcases q12 with q1 | ⟨q1, q2⟩ <;> rcases w2 with w2 | ⟨w2, w3⟩ <;> first | have w4 : decide (wh < 0) = true := by simp [w2] | (have w4 : decide (wh < 0) = false := by simp [w2])
      all_goals
        go_enter Try.func31, Try.ntmps31
        go_wp2
        generalize W.alloc (.cells #[.int .i64 kd, .int .i64 wh, .int .i64 ms] 47) = w0 at *
        go_quiet (fail)
        go_wp2
        go_ret
        exact ⟨rfl, HK.out.drewN _⟩
    · rw [if_neg w1]
      obtain ⟨w, hw, rfl⟩ : ∃ w : Nat, w < n ∧ wh = (w : Int) := ⟨wh.toNat, by simp [inP] at w1; omega, by simp [inP] at w1; omega⟩
      have w4 : decide ((w : Int) < 0) = false := decide_eq_false (by omega)
      have w5 : ¬ (n : Int) ≤ (w : Int) := by omega
      have w6 : decide ((n : Int) ≤ (w : Int)) = false := decide_eq_false (by omega)
      by_cases e1 : kd = 1
      · subst e1
        rw [if_pos rfl]
        clear k1 m M0 em w1 q12
        go_enter Try.func31, Try.ntmps31
        go_wp2
        generalize W.alloc (.cells #[.int .i64 1, .int .i64 (w : Int), .int .i64 ms] 47) = w0 at *
        go_quiet (fail)
        go_wp2
        go_ret
        exact ⟨rfl, HK.out.drewN _⟩
      · obtain rfl : kd = 2 := by rcases q12 with q1 | ⟨_, q1⟩ <;> simp at q1 <;> omega
        rw [if_neg (by decide)]
        simp only [Int.toNat_natCast]
        clear k1 w1 q12 e1
        by_cases m1 : inP s.msgs.length ms = false
        · rw [if_pos (.inl m1)]
          have m2 : ms < 0 ∨ ¬ ms < 0 ∧ (s.msgs.length : Int) ≤ ms := by simp [inP] at m1; omega
          clear m M0 em m1
          generalize s.msgs.length = ml at *
          rcases m2 with m2 | ⟨m2, m3⟩ <;> first | have m4 : decide (ms < 0) = true := by simp [m2] | (have m4 : decide (ms < 0) = false := by simp [m2])
          all_goals
            go_enter Try.func31, Try.ntmps31
            go_wp2
            generalize W.alloc (.cells #[.int .i64 2, .int .i64 (w : Int), .int .i64 ms] 47) = w0 at *
            go_quiet (fail)
            go_wp2
            have HK1 := hidMk (HK.out.drewN nq)
            have d0 : (w0.drewN nq).cell? ⟨W.heap.size, 0, none⟩ = some (.int .i64 2) := b0
            have d1 : (w0.drewN nq).cell? ⟨W.heap.size, 1, none⟩ = some (.int .i64 (w : Int)) := b1
            have d2 : (w0.drewN nq).cell? ⟨W.heap.size, 2, none⟩ = some (.int .i64 ms) := b2
            have x0 : (w0.drewN nq).cell? ⟨mb, 0, none⟩ = some (.slice am ml km) := c0
            have x1 : (w0.drewN nq).cell? ⟨mb, 1, none⟩ = some (.map (some h.M)) := c1
            clear b0 b1 b2 c0 c1 c2 HK
            generalize w0.drewN nq = w1 at *
            go_quiet (fail)
            go_wp2
            go_ret
            exact ⟨rfl, HK1.out.drewN _⟩
        · obtain ⟨k, hk, rfl⟩ : ∃ k : Nat, k < s.msgs.length ∧ ms = (k : Int) := ⟨ms.toNat, by simp [inP] at m1; omega, by simp [inP] at m1; omega⟩
          have m4 : decide ((k : Int) < 0) = false := decide_eq_false (by omega)
          have m5 : decide ((s.msgs.length : Int) ≤ (k : Int)) = false := decide_eq_false (by omega)
          have m6 : ¬ (s.msgs.length : Int) ≤ (k : Int) := by omega
          have m7 : (k : Int) < (s.msgs.length : Int) := by omega
          obtain ⟨q, hq⟩ : ∃ q, s.msgs[k]? = some q := ⟨_, List.getElem?_eq_getElem hk⟩
          obtain ⟨g, off, cap, e3, g1, g2⟩ := M0.msg_at hq
          rw [em] at e3
          simp only [Value.slice.injEq] at e3
          obtain ⟨rfl, _, rfl⟩ := e3
          have hgd : s.msgs.getD (Int.toNat (k : Int)) (0, 0) = q := by rw [Int.toNat_natCast, List.getD_eq_getElem?_getD, hq]; rfl
          have lq : Hid (∀ a : Nat, (Instr.lookup 69 (.map (some h.M)) (.agg #[.int .i64 (w : Int), .int .i64 (k : Int)]) false).run Try.prog ((W.alloc (.cells #[.int .i64 2, .int .i64 (w : Int), .int .i64 (k : Int)] 47)).drewN a) = .ok (.int .i64 (s.came w k : Int)) ((W.alloc (.cells #[.int .i64 2, .int .i64 (w : Int), .int .i64 (k : Int)] 47)).drewN a)) := hidMk (fun a => (M0.drewN a).look (by omega) (by omega))
          rw [hgd]
          obtain ⟨q1, q2⟩ := q
          simp only at g1 g2 ⊢
          by_cases s1 : q1 = w
          · rw [if_pos (.inr s1)]
            have s2 : ((q1 : Int) == (w : Int)) = true := by rw [beq_iff_eq, s1]
            clear m M0 em m1 hgd hq lq s1 g2
            generalize s.msgs.length = ml at *
            go_enter Try.func31, Try.ntmps31
            go_wp2
            generalize W.alloc (.cells #[.int .i64 2, .int .i64 (w : Int), .int .i64 (k : Int)] 47) = w0 at *
            go_quiet (fail)
            go_wp2
            have HK1 := hidMk (HK.out.drewN nq)
            have d0 : (w0.drewN nq).cell? ⟨W.heap.size, 0, none⟩ = some (.int .i64 2) := b0
            have d1 : (w0.drewN nq).cell? ⟨W.heap.size, 1, none⟩ = some (.int .i64 (w : Int)) := b1
            have d2 : (w0.drewN nq).cell? ⟨W.heap.size, 2, none⟩ = some (.int .i64 (k : Int)) := b2
            have x0 : (w0.drewN nq).cell? ⟨mb, 0, none⟩ = some (.slice (some ⟨g, off, none⟩) ml km) := c0
            have x1 : (w0.drewN nq).cell? ⟨mb, 1, none⟩ = some (.map (some h.M)) := c1
            have y1 : (w0.drewN nq).cell? ⟨g, off + k * 2, none⟩ = some (.int .i64 (q1 : Int)) := g1
            clear b0 b1 b2 c0 c1 c2 HK g1
            generalize w0.drewN nq = w1 at *
            go_quiet (fail)
            go_wp2
            go_ret
            exact ⟨rfl, HK1.out.drewN _⟩
          · rw [if_neg (by rintro (e | e); exact m1 e; exact s1 e)]
            have s2 : ((q1 : Int) == (w : Int)) = false := by
              rw [beq_eq_false_iff_ne]; omega
            clear m M0 em m1 hgd hq s1 g2
            generalize s.msgs.length = ml at *
            have hcm : ((s.came w k : Int) != 0) = true ∧ (if s.came w k ≠ 0 then (6 : Int) else 0) = 6 ∨ ((s.came w k : Int) != 0) = false ∧ (if s.came w k ≠ 0 then (6 : Int) else 0) = 0 := by
              by_cases e : s.came w k = 0
              · right; simp [e]
              · left; simp [e]
            simp only [Int.toNat_natCast]
            generalize (if s.came w k ≠ 0 then (6 : Int) else 0) = ans at *
            generalize s.came w k = cm at *
            rcases hcm with ⟨hcm, rfl⟩ | ⟨hcm, rfl⟩
            all_goals
              go_enter Try.func31, Try.ntmps31
              go_wp2
              generalize W.alloc (.cells #[.int .i64 2, .int .i64 (w : Int), .int .i64 (k : Int)] 47) = w0 at *
              go_quiet (fail)
              go_wp2
              have HK1 := hidMk (HK.out.drewN nq)
              have d0 : (w0.drewN nq).cell? ⟨W.heap.size, 0, none⟩ = some (.int .i64 2) := b0
              have d1 : (w0.drewN nq).cell? ⟨W.heap.size, 1, none⟩ = some (.int .i64 (w : Int)) := b1
              have d2 : (w0.drewN nq).cell? ⟨W.heap.size, 2, none⟩ = some (.int .i64 (k : Int)) := b2
              have x0 : (w0.drewN nq).cell? ⟨mb, 0, none⟩ = some (.slice (some ⟨g, off, none⟩) ml km) := c0
              have x1 : (w0.drewN nq).cell? ⟨mb, 1, none⟩ = some (.map (some h.M)) := c1
              have y1 : (w0.drewN nq).cell? ⟨g, off + k * 2, none⟩ = some (.int .i64 (q1 : Int)) := g1
              have lq2 := hidMk (fun a => lq.out (nq + a))
              clear b0 b1 b2 c0 c1 c2 HK g1
              have ed : ∀ a, w0.drewN (nq + a) = (w0.drewN nq).drewN a := fun a => by simp [World.drewN, Nat.add_assoc]
              simp only [ed] at lq2
              clear lq ed
              generalize w0.drewN nq = w1 at *
              go_quiet (fail)
              go_wp2
              have HK2 := hidMk (HK1.out.drewN nq)
              have d1' : (w1.drewN nq).cell? ⟨W.heap.size, 1, none⟩ = some (.int .i64 (w : Int)) := d1
              have d2' : (w1.drewN nq).cell? ⟨W.heap.size, 2, none⟩ = some (.int .i64 (k : Int)) := d2
              have x1' : (w1.drewN nq).cell? ⟨mb, 1, none⟩ = some (.map (some h.M)) := x1
              have lq3 := fun a => lq2.out (nq + a)
              have ed : ∀ a, w1.drewN (nq + a) = (w1.drewN nq).drewN a := fun a => by simp [World.drewN, Nat.add_assoc]
              simp only [ed] at lq3
              clear ed
              clear d0 d1 d2 x0 x1 y1 HK1 lq2
              generalize w1.drewN nq = w2 at *
              go_quiet (fail)
              go_wp2
              go_ret
              exact ⟨rfl, HK2.out.drewN _⟩
end Go.Proofs.Ytpdccjhabolccaa
