/- The ring's moves: do, away. -/
import Derived.Test.YtadanpghmfhhkaaRg4
namespace Go.Proofs.Ytadanpghmfhhkaa
open Go.RowKit
set_option linter.unusedVariables false

variable {W W2 : World} {mb n : Nat} {nm : Nat → Int} {s : GS} {h h2 : GSh}
set_option maxRecDepth 100000 in
set_option maxHeartbeats 4000000 in
theorem do_begin (m : Gmv W mb n nm s h) {i : Nat} (hi : i < n) (hn : n ≤ 6) (hco : ∀ j, (s.pr j).co.length ≤ 1000) (hse : s.sent ≤ 1000) :
    Calls Try.prog 17 #[.pointer (some ⟨mb, 0, none⟩), .agg #[.int .i64 1, .int .i64 (i : Int)]] W fun e W2 => e = .returned (.tuple #[]) ∧ ∃ h2, Gmv W2 mb n nm (sendG n s i (nm i)) h2 ∧ GStp mb W h W2 h2 := by
  have m1 := m.alloc (.cells #[.int .i64 1, .int .i64 (i : Int)] 36)
  have HK1 : Hid (Stil W (W.alloc (.cells #[.int .i64 1, .int .i64 (i : Int)] 36))) := Stil.new _ _
  obtain ⟨c0, c1, c2, cf⟩ := m1.cells
  obtain ⟨p0, p1, p2, pf⟩ := m1.proc hi
  have hi' : (i : Int) < (n : Int) := by omega
  have HD := hidMk (fun q => send_any (m1.drewN q) hi hn (nm i) hco hse)
  clear m m1 c1 c2 cf p1 p2 pf
  go_enter Try.func17, Try.ntmps17
  go_wp2_with (fail)
  refine wp_region_tail rfl (by kernel_rfl) (by kernel_rfl) (by kernel_rfl) (by kernel_rfl) (by kernel_rfl) rfl ?_
  simp only [List.dropLast]
  repeat (go_big_quiet_step (fail))
  refine wpQuiet_nil ?_
  rintro _ ⟨q, rfl⟩
  go_wp2_with (go_at_call 21; refine (HD.out q).mono ?_; rintro e w3 ⟨rfl, h3, M3, S3⟩)
  go_end0
  exact ⟨rfl, h3, M3, (GStp.of_still mb h (Stil.tr HK1.out (Stil.drewN _ q))).trans S3⟩
set_option maxRecDepth 100000 in
set_option maxHeartbeats 4000000 in
theorem do_take (m : Gmv W mb n nm s h) {i : Nat} (hi : i < n) (hn : n ≤ 6) (hne : (s.pr i).co ≠ []) (hco : ∀ j, (s.pr j).co.length ≤ 1000) (hse : s.sent ≤ 1000) (hch : s.ch.length ≤ 1000) :
    Calls Try.prog 17 #[.pointer (some ⟨mb, 0, none⟩), .agg #[.int .i64 2, .int .i64 (i : Int)]] W fun e W2 => e = .returned (.tuple #[]) ∧ ∃ h2, Gmv W2 mb n nm (takeG n nm s i) h2 ∧ GStp mb W h W2 h2 := by
  have m1 := m.alloc (.cells #[.int .i64 2, .int .i64 (i : Int)] 36)
  have HK1 : Hid (Stil W (W.alloc (.cells #[.int .i64 2, .int .i64 (i : Int)] 36))) := Stil.new _ _
  have HD := hidMk (take_any m1 hi hn hne hco hse hch)
  clear m m1 hne hco
  go_enter Try.func17, Try.ntmps17
  go_wp2_with (go_at_call 22; refine (HD.out).mono ?_; rintro e w3 ⟨rfl, h3, M3, S3⟩)
  go_end0
  exact ⟨rfl, h3, M3, (GStp.of_still mb h HK1.out).trans S3⟩
theorem do_any (m : Gmv W mb n nm s h) (hn : n ≤ 6) {t : Nat} (hb : GB t s) (ht : t ≤ 1000) (p : Tu) (hc : codeG n s p = 0) :
    Calls Try.prog 17 #[.pointer (some ⟨mb, 0, none⟩), .agg #[.int .i64 p.kind, .int .i64 p.who]] W fun e W2 => e = .returned (.tuple #[]) ∧ ∃ h2, Gmv W2 mb n nm (doG n nm s p) h2 ∧ GStp mb W h W2 h2 := by
  obtain ⟨kd, z⟩ := p
  have hco : ∀ j, (s.pr j).co.length ≤ 1000 := fun j => Nat.le_trans (hb.co j) ht
  have hse := Nat.le_trans hb.sent ht
  have hch := Nat.le_trans hb.ch ht
  unfold codeG at hc
  simp only at hc
  unfold doG
  simp only
  by_cases hk : kd ≠ 1 ∧ kd ≠ 2
  · rw [if_pos hk] at hc; omega
  · rw [if_neg hk] at hc
    by_cases hz : inP n z = true
    · rw [if_neg (by rw [hz]; simp)] at hc
      obtain ⟨e, hl⟩ := inP_natG hz
      generalize z.toNat = i at *
      subst e
      by_cases h1 : kd = 1
      · subst h1
        rw [if_pos rfl]
        exact do_begin m hl hn hco hse
      · have h2 : kd = 2 := by omega
        subst h2
        rw [if_neg (by omega)] at hc ⊢
        by_cases h3 : (s.pr i).co = []
        · rw [if_pos h3] at hc; omega
        · exact do_take m hl hn h3 hco hse hch
    · have hz2 : inP n z = false := by simpa using hz
      rw [if_pos hz2] at hc; omega
set_option maxRecDepth 100000 in
set_option maxHeartbeats 4000000 in
theorem away_any (m : Gmv W mb n nm s h) (hn : n ≤ 6) {t : Nat} (hb : GB t s) (ht : t ≤ 1000) :
    Calls Try.prog 18 #[.pointer (some ⟨mb, 0, none⟩)] W fun e W2 => e = .returned (.int .i64 (awayG s n : Int)) ∧ Stil W W2 := by
  obtain ⟨c0, c1, c2, cf⟩ := m.cells
  have HM := hidMk m
  have HB := hidMk hb
  have hn6 : (n : Int) ≤ 6 := by omega
  clear m c1 c2 cf hb
  go_enter Try.func18, Try.ntmps18
  go_wp2
  go_loopw [3, 11] (fun v u wr => ∃ k : Nat, k ≤ n ∧ u = .int .i64 (k : Int) ∧ v = .int .i64 (awayG s k : Int) ∧ Hid (Stil W wr)) (fun _ u _ => n - (intOf u).toNat)
  case atStart => exact ⟨0, Nat.zero_le _, rfl, rfl, Keep.refl _ _⟩
  case round =>
    obtain ⟨k, hk, rfl, rfl, HS⟩ := hrel
    have hal : awayG s k ≤ 6000 := by
      have := awayG_le HB.out k
      have h2 : k * t ≤ 6 * 1000 := Nat.mul_le_mul (by omega) ht
      omega
    by_cases hlt : k < n
    · have hlt' : (k : Int) < (n : Int) := by omega
      obtain ⟨p0, p1, p2, pf⟩ := (HM.out.still HS.out).proc hlt
      obtain ⟨qa, qc, et⟩ := segForm (HM.out.co hlt)
      rw [et] at p2
      have hE : Hid (awayG s (k + 1) = awayG s k + (s.pr k).co.length) := rfl
      have hcl := Nat.le_trans (HB.out.co k) ht
      clear et pf
      generalize (s.pr k).co.length = ql at *
      generalize awayG s k = al at *
      generalize (s.pr k).tp = tp at *
      have hw : IntKind.i64.wrap ((al : Int) + (ql : Int)) = ((al + ql : Nat) : Int) := by rw [wrap_of ⟨by omega, by omega⟩]; omega
      go_wp2
      go_roundw
      case rel => exact ⟨k + 1, by omega, by go_num, by rw [hE.out]; go_num, HS.out.alloc _⟩
      case measure => simp [intOf]; omega
    · obtain rfl : k = n := by omega
      go_wp2
      go_ret
      exact ⟨rfl, HS.out⟩
end Go.Proofs.Ytadanpghmfhhkaa
