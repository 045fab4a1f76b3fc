/- do: a step that is right. -/
import Derived.Test.YtpdccjhabolccaaCa5
import Derived.Test.YtpdccjhabolccaaCa6
namespace Go.Proofs.Ytpdccjhabolccaa
open Go.RowKit Go.WideMaps
set_option linter.unusedVariables false

variable {W W2 : World} {mb n : Nat} {s : CS} {h h2 : CSh}

set_option maxRecDepth 100000 in
set_option maxHeartbeats 4000000 in
theorem do_sendC {r : World → Prop} {w : Nat} {x : Int}
    (H : Hid (∀ ob, Calls Try.prog 43 #[.pointer (some ⟨mb, 0, none⟩), .int .i64 (w : Int)] (W.alloc ob) fun e W2 => e = .returned (.tuple #[]) ∧ r W2)) :
    Calls Try.prog 32 #[.pointer (some ⟨mb, 0, none⟩), .agg #[.int .i64 1, .int .i64 (w : Int), .int .i64 x]] W fun e W2 => e = .returned (.tuple #[]) ∧ r W2 := by
  go_enter Try.func32, Try.ntmps32
  go_wp2_with (go_at_call 43; refine (H.out _).mono ?_; rintro e w3 ⟨rfl, HR⟩)
  refine bodyPost_ret (results_none rfl _ _ _) rfl ?_
  exact ⟨rfl, HR⟩

set_option maxRecDepth 100000 in
set_option maxHeartbeats 4000000 in
theorem do_takeC (m : Cmov W mb n s h) (inv : CInv n s) {w k : Nat} (hw : w < n) (hk : k < s.msgs.length) (hn : n ≤ 6) (hml : s.msgs.length ≤ 200) (hc : h.c + s.msgs.length + 1 < 100000) (h0 : s.came w k = 0) :
    Calls Try.prog 32 #[.pointer (some ⟨mb, 0, none⟩), .agg #[.int .i64 2, .int .i64 (w : Int), .int .i64 (k : Int)]] W fun e W2 => e = .returned (.tuple #[]) ∧ ∃ h2, Cmov W2 mb n (takeC s w k) h2 ∧ CStp W h W2 h2 (s.msgs.length + 1) := by
  have K0 : Still W (W.alloc (.cells #[.int .i64 2, .int .i64 (w : Int), .int .i64 (k : Int)] 47)) := (Keep.refl _ W).alloc _
  have b1 : (W.alloc (.cells #[.int .i64 2, .int .i64 (w : Int), .int .i64 (k : Int)] 47)).cell? ⟨W.heap.size, 1, none⟩ = some (.int .i64 (w : Int)) := by go_simp
  have b2 : (W.alloc (.cells #[.int .i64 2, .int .i64 (w : Int), .int .i64 (k : Int)] 47)).cell? ⟨W.heap.size, 2, none⟩ = some (.int .i64 (k : Int)) := by go_simp
  have M0 := m.still K0
  have c1 := M0.cells.2.1
  have f1 := hidMk (m.fresh W.heap.size (Nat.le_refl _))
  have HM := hidMk M0
  have HS := hidMk (K0.step h)
  have HI := hidMk (inv_come inv hk h0)
  clear m M0 K0
  go_enter Try.func32, Try.ntmps32
  go_wp2
  generalize W.alloc (.cells #[.int .i64 2, .int .i64 (w : Int), .int .i64 (k : Int)] 47) = w0 at *
  refine wp_region_tail rfl (by kernel_rfl) (by kernel_rfl) (by kernel_rfl) (by kernel_rfl) (by kernel_rfl) rfl ?_
  simp only [List.dropLast]
  repeat (go_big_quiet_step (fail))
  refine wpQuiet_nil ?_
  rintro _ ⟨q, rfl⟩
  obtain ⟨W1, hr1, M1, S1⟩ := (HM.out.drewN q).came (v := 1) (show w < 1000 by omega) (show k < 1000 by omega) (by omega)
  replace hr1 : (Instr.mapUpdate 69 (.map (some h.M)) (.agg #[.int .i64 (w : Int), .int .i64 (k : Int)]) (.int .i64 1)).run Try.prog (w0.drewN q) = .ok () W1 := hr1
  have d1 := S1.free f1.out (show (w0.drewN q).cell? ⟨W.heap.size, 1, none⟩ = _ from b1)
  have HH := hidMk (hearWait_any M1 HI.out hw hn hml (by show h.c + 1 + s.msgs.length < _; omega))
  have HS1 := hidMk ((HS.out.trans (Still.step ((Keep.refl (fun _ => False) w0).drewN q) h)).trans S1)
  clear b1 b2 c1 HM HS M1 S1
  go_wp2_with (go_at_call 44; refine (HH.out).mono ?_; rintro e w3 ⟨rfl, h3, M3, S3⟩)
  go_end0
  exact ⟨rfl, h3, M3, (HS1.out.trans S3).mono (by show 0 + 0 + 1 + s.msgs.length ≤ _; omega)⟩

theorem do_anyC (m : Cmov W mb n s h) (inv : CInv n s) {p : Cst} (hp : codeC n s p = 0) (hn : n ≤ 6) (hml : s.msgs.length ≤ 200) (hc : h.c + s.msgs.length + 1 < 100000) :
    Calls Try.prog 32 #[.pointer (some ⟨mb, 0, none⟩), stepV p] W fun e W2 => e = .returned (.tuple #[]) ∧ ∃ h2, Cmov W2 mb n (doC s p) h2 ∧ CStp W h W2 h2 (s.msgs.length + 1) := by
  obtain ⟨w, hw, ew, ⟨ek, ed⟩ | ⟨ek, k, hk, em, _, hcm, ed⟩⟩ := code_ok hp
  · rw [ed]
    unfold stepV
    rw [ek, ew]
    refine do_sendC (hidMk fun ob => ((send_any (m.alloc ob) hw hn hml (by omega) (by have := ls_len inv w; omega)).mono ?_))
    rintro e W2 ⟨rfl, h2, m2, st2⟩
    exact ⟨rfl, h2, m2, (st2.alloc).mono (by omega)⟩
  · rw [ed]
    unfold stepV
    rw [ek, ew, em]
    exact do_takeC m inv hw hk hn hml hc hcm
end Go.Proofs.Ytpdccjhabolccaa
