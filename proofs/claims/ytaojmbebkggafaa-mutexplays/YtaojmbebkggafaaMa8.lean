/- checkStep and do, whole. -/
import Derived.Test.YtaojmbebkggafaaMa7
import Derived.Test.YtaojmbebkggafaaMb0
namespace Go.Proofs.Ytaojmbebkggafaa
open Go.RowKit Go.WideMaps
set_option linter.unusedVariables false

variable {W W2 : World} {mb n : Nat} {s : MS} {h h2 : MSh}
def stepV (p : Cst) : Value := .agg #[.int .i64 p.kind, .int .i64 p.who, .int .i64 p.msg]
theorem chk_any (m : Mmov W mb n s h) (hn : n ≤ 6) (p : Cst) :
    Calls Try.prog 8 #[.pointer (some ⟨mb, 0, none⟩), stepV p] W fun e W2 => e = .returned (.int .i64 (codeM n s p)) ∧ Stil W W2 := by
  obtain ⟨kind, who, frm⟩ := p
  obtain ⟨c0, c1, c2, cf⟩ := m.cells
  have HC : Hid (∀ z o, Calls Try.prog 15 #[.int .i64 z, .pointer (some ⟨W.heap.size, 0, none⟩)] ((W.alloc (.cells #[.pointer (some ⟨mb, 0, none⟩)] 56)).alloc o) fun e w2 => e = .returned (.bool (inP n z)) ∧ w2 = (W.alloc (.cells #[.pointer (some ⟨mb, 0, none⟩)] 56)).alloc o) := by
    intro z o
    refine isProcess_any z ?_ (((Stil.new W _).tr (Stil.new _ _)).cell c0)
    rw [cell_of_row _ W.heap.size 0 #[.pointer (some ⟨mb, 0, none⟩)] 56 (0, 0) (by rw [al_old _ _ _ (by simp), al_new])]
    rfl
  unfold stepV codeM
  simp only []
  by_cases hk : kind ≠ 1 ∧ kind ≠ 2 ∧ kind ≠ 3
  · rw [if_pos hk]
    exact chk_kind HC hk.1 hk.2.1 hk.2.2
  · rw [if_neg hk]
    by_cases hb : inP n who = false ∨ (kind = 2 ∧ (inP n frm = false ∨ who = frm))
    · rw [if_pos hb]
      by_cases e1 : inP n who = false
      · have hk2 : kind = 1 ∨ kind = 2 ∨ kind = 3 := by omega
        rcases hk2 with rfl | rfl | rfl
        · exact chk_no1 HC e1
        · exact chk_no2a HC e1
        · exact chk_no3 HC e1
      · have e1' : inP n who = true := by simpa using e1
        rcases hb with hb | ⟨rfl, hb⟩
        · exact absurd hb e1
        · by_cases e2 : inP n frm = false
          · exact chk_no2b HC e1' e2
          · rcases hb with hb | rfl
            · exact absurd hb e2
            · exact chk_no2c HC e1'
    · rw [if_neg hb]
      have hb1 : inP n who = true := by
        cases e : inP n who with
        | true => rfl
        | false => exact absurd (Or.inl e) hb
      obtain ⟨w, hw, rfl⟩ := in_of hb1
      have p1 := (m.proc hw).2.1
      simp only [Int.toNat_natCast]
      by_cases hk2 : kind = 2
      · subst hk2
        have hb2 : inP n frm = true := by
          cases e : inP n frm with
          | true => rfl
          | false => exact absurd (Or.inr ⟨rfl, Or.inl e⟩) hb
        obtain ⟨o, ho, rfl⟩ := in_of hb2
        have hwo : w ≠ o := fun e => hb (.inr ⟨rfl, .inr (by rw [e])⟩)
        obtain ⟨ta, tc, et⟩ := segForm (m.wy ho hw)
        have HLk : Hid (∀ w9, Stil W w9 → (Instr.lookup 35 (.map (some h.M)) (.agg #[.int .i64 (o : Int), .int .i64 (w : Int)]) false).run Try.prog w9 = .ok (.slice ta (s.ways o w).length tc) w9) := fun w9 h9 => by
          have := (m.still h9).look ho hw (by omega)
          rw [et] at this
          exact this
        rw [if_pos rfl]
        simp only [Int.toNat_natCast]
        by_cases hl : s.ways o w = []
        · rw [if_pos hl]
          exact chk_take5 HC hw ho hwo (by rw [hl]; rfl) c0 c1 p1 HLk
        · rw [if_neg hl]
          exact chk_take0 HC hw ho hwo (fun e => hl (List.length_eq_zero_iff.1 e)) c0 c1 p1 HLk
      · rw [if_neg hk2]
        by_cases hk1 : kind = 1
        · subst hk1
          by_cases h0 : (s.pr w).st = 0
          · rw [if_neg (fun e => by
              rcases e with e | e
              · exact e.2 h0
              · omega)]
            rw [h0] at p1
            exact chk_ask0 (ln := 0) (st := 0) (tc := 0) (ta := none) HC hw c0 c1 p1
          · rw [if_pos (.inl ⟨rfl, h0⟩)]
            exact chk_ask6 (ln := 0) (tc := 0) (ta := none) HC hw h0 c0 c1 p1
        · have hk3 : kind = 3 := by omega
          subst hk3
          by_cases h0 : (s.pr w).st = 2
          · rw [if_neg (fun e => by
              rcases e with e | e
              · omega
              · exact e.2 h0)]
            rw [h0] at p1
            exact chk_leave0 (ln := 0) (st := 0) (tc := 0) (ta := none) HC hw c0 c1 p1
          · rw [if_pos (.inr ⟨rfl, h0⟩)]
            exact chk_leave6 (ln := 0) (tc := 0) (ta := none) HC hw h0 c0 c1 p1

set_option maxRecDepth 100000 in
set_option maxHeartbeats 4000000 in
theorem do_any (m : Mmov W mb n s h) {k : Nat} (hB : MB n k s) (hk : k ≤ 120) (hn : n ≤ 6) (hc : h.c < 80000) {p : Cst} (h0 : codeM n s p = 0) :
    Calls Try.prog 9 #[.pointer (some ⟨mb, 0, none⟩), stepV p] W fun e W2 => e = .returned (.tuple #[]) ∧ ∃ h2, Mmov W2 mb n (doM n s p) h2 ∧ MStp mb W h W2 h2 122 := by
  unfold stepV
  have hins : s.ins.length ≤ 1000 := by have := hB.ins; omega
  rcases code_zero (by omega) h0 with ⟨w, hw, e1, e2, hst, e⟩ | ⟨w, o, x, r, hw, ho, hne, e1, e2, e3, hl, e⟩ | ⟨w, hw, e1, e2, hst, e⟩
  · rw [e, e1, e2]
    have m0 := m.alloc (.cells #[.int .i64 1, .int .i64 (w : Int), .int .i64 p.msg] 39)
    have HA := hidMk (ask_any m0 hw hn (by omega) (fun j hj hji => by have := hB.len hw hj (Ne.symm hji); omega) (by have := hB.num w; omega) hins)
    have HS := hidMk (MStp.of_still mb h (Stil.new W (.cells #[.int .i64 1, .int .i64 (w : Int), .int .i64 p.msg] 39)))
    clear m m0 hB e
    generalize p.msg = f at *
    go_enter Try.func9, Try.ntmps9
    go_wp2_with (go_at_call 16; refine (HA.out).mono ?_; rintro e w3 ⟨rfl, h3, M3, S3⟩)
    go_end0
    exact ⟨rfl, h3, M3, (HS.out.trans S3).mono (by omega)⟩
  · rw [e, e1, e2, e3]
    have m0 := m.alloc (.cells #[.int .i64 2, .int .i64 (w : Int), .int .i64 (o : Int)] 39)
    have HA := hidMk (take_any m0 ho hw hn (by omega) hl hne (by have := hB.len hw ho (Ne.symm hne); omega) (by have := hB.wait w; omega) (by have := hB.num w; omega) (by have := hB.way o w x (by rw [hl]; simp); omega) (hB.inv.st3 w) (by have := hB.yes w; omega) hins)
    have HS := hidMk (MStp.of_still mb h (Stil.new W (.cells #[.int .i64 2, .int .i64 (w : Int), .int .i64 (o : Int)] 39)))
    clear m m0 hB e hl
    go_enter Try.func9, Try.ntmps9
    go_wp2_with (go_at_call 17; refine (HA.out).mono ?_; rintro e w3 ⟨rfl, h3, M3, S3⟩)
    go_end0
    exact ⟨rfl, h3, M3, (HS.out.trans S3).mono (by omega)⟩
  · rw [e, e1, e2]
    have m0 := m.alloc (.cells #[.int .i64 3, .int .i64 (w : Int), .int .i64 p.msg] 39)
    have hwl := hB.wait w
    have HA := hidMk (leave_any m0 hw hn (by omega) (fun j hj hji => by have := hB.len hw hj (Ne.symm hji); omega) (by omega) (fun x hx => by have := hB.inv.wt w hw x hx; exact ⟨this.1, this.2.1⟩))
    have HS := hidMk (MStp.of_still mb h (Stil.new W (.cells #[.int .i64 3, .int .i64 (w : Int), .int .i64 p.msg] 39)))
    clear m m0 hB e
    generalize p.msg = f at *
    go_enter Try.func9, Try.ntmps9
    go_wp2_with (go_at_call 18; refine (HA.out).mono ?_; rintro e w3 ⟨rfl, h3, M3, S3⟩)
    go_end0
    exact ⟨rfl, h3, M3, (HS.out.trans S3).mono (by omega)⟩
end Go.Proofs.Ytaojmbebkggafaa
