/- The ring's moves: send. -/
import Derived.Test.YtadanpghmfhhkaaRg1
import Derived.BigRegion
import Derived.BigQuiet
namespace Go.Proofs.Ytadanpghmfhhkaa
open Go.RowKit
set_option linter.unusedVariables false

variable {W W2 : World} {mb n : Nat} {nm : Nat → Int} {s : GS} {h h2 : GSh}
set_option maxRecDepth 100000 in
set_option maxHeartbeats 4000000 in
theorem send_any (m : Gmv W mb n nm s h) {i : Nat} (hi : i < n) (hn : n ≤ 6) (x : Int) (hco : ∀ j, (s.pr j).co.length ≤ 1000) (hse : s.sent ≤ 1000) :
    Calls Try.prog 21 #[.pointer (some ⟨mb, 0, none⟩), .int .i64 (i : Int), .int .i64 x] W fun e W2 => e = .returned (.tuple #[]) ∧ ∃ h2, Gmv W2 mb n nm (sendG n s i x) h2 ∧ GStp mb W h W2 h2 := by
  obtain ⟨i0, hit, hz0, hz1, hz2⟩ := info_parts cInfoInt
  obtain ⟨c0, c1, c2, cf⟩ := m.cells
  obtain ⟨p0, p1, p2, pf⟩ := m.proc hi
  have hi' : (i : Int) < (n : Int) := by omega
  have f1 := pf (i * 3 + 1)
  obtain ⟨M1, S1⟩ := m.setTp hi
  have HM1 := hidMk M1
  have HS1 := hidMk S1
  have hw1 : IntKind.i64.wrap ((i : Int) + 1) = ((i + 1 : Nat) : Int) := by rw [wrap_of ⟨by omega, by omega⟩]; omega
  have hj : nx n i < n := nx_lt (by omega)
  have hmod : ((i : Int) + 1).tmod (n : Int) = ((nx n i : Nat) : Int) := by
    show ((i + 1 : Nat) : Int).tmod ((n : Nat) : Int) = _
    rw [← Int.ofNat_tmod]; rfl
  have hmod2 : ((i : Int) + 1) % (n : Int) = ((nx n i : Nat) : Int) := by
    show ((i + 1 : Nat) : Int) % ((n : Nat) : Int) = _
    rw [← Int.natCast_emod]; rfl
  have hn1 : 1 ≤ (n : Int) := by omega
  have hn0 : ((n : Int) == 0) = false := by rw [beq_eq_false_iff_ne]; omega
  have hT : Hid (sendG n s i x = oneG (coG (tpG s i) (nx n i) (((tpG s i).pr (nx n i)).co ++ [x]))) := rfl
  generalize nx n i = j at *
  have hj' : (j : Int) < (n : Int) := by omega
  have hcl : ((tpG s i).pr j).co.length ≤ 1000 := by rw [tpG_co]; exact hco j
  obtain ⟨d0, d1, d2, df⟩ := M1.cells
  clear m M1 S1 pf hco d1 d2 df
  go_enter Try.func21, Try.ntmps21
  go_wp2_with (fail)
  clear c0 c1 c2 cf p0 p1 p2 f1
  go_quiet (fail)
  have HM2 := hidMk (HM1.out.drewN nq)
  have HS2 := hidMk (HS1.out.trans (GStp.of_still mb h (Stil.drewN _ nq)))
  clear HM1 HS1 d0
  generalize (W.setCell ⟨h.P, i * 3 + 1, none⟩ (.bool true)).drewN nq = w0 at *
  obtain ⟨e0, e1, e2, ef⟩ := HM2.out.proc hj
  have hseg := HM2.out.co hj
  obtain ⟨ta, tc, et⟩ := segForm hseg
  rw [et] at e2 hseg
  have HET := hidMk et
  generalize hln : ((tpG s i).pr j).co.length = ln at *
  have HLn := hidMk hln
  have HG := hidMk hseg
  have e2' := Stil.cell (Stil.new w0 (.cells #[.int .i64 x] 3)) e2
  clear hseg et hln e0 e1 ef hmod hmod2 hn0 hn1
  go_wp2_with (at_builtin; refine wpList_append_seg _ rfl _ _ 22 rfl 3 i0 (.int .i64 0) 1 8 Try.underlying22 hit hz0 hz1 hz2 rfl (by decide) (.slice ta ln tc) ln (intsG ((tpG s i).pr j).co) rfl (segAlloc HG.out _) ⟨w0.heap.size, 0, none⟩ 1 1 [.int .i64 x] rfl rfl (cCell1 w0 (.int .i64 x) 3 _ rfl) (cOne _) (by unfold maxLen; omega) (by omega) ?_)
  intro v3 w3 hs3 hg3
  obtain ⟨a3, c3, rfl⟩ := segForm hs3
  obtain ⟨g1, g2, g3, h3, hP3, M3, S3⟩ := HM2.out.pushCo (x := x) hj (wa := w0.alloc (.cells #[.int .i64 x] 3)) (Stil.new w0 _) (by rw [HET.out, HLn.out]; exact hs3.mono (fun g _ e => by simpa using e)) (by rw [HET.out]; exact hg3)
  have g4 : w3.cell? ⟨h.P, j * 3 + 2, none⟩ = some (.slice ta ln tc) := by rw [g1 2 (by omega)]; show some (h.qv j) = _; rw [HET.out]
  have g5 := g2 (j * 3 + 2)
  obtain ⟨M4, S4⟩ := M3.setSent
  obtain ⟨k0, k1, k2, kf⟩ := M3.cells
  have kf2 := kf 2
  have HM4 := hidMk M4
  have HS4 := hidMk ((HS2.out.trans S3).trans S4)
  have k2' : (w3.setCell ⟨h.P, j * 3 + 2, none⟩ (.slice a3 (ln + 1) c3)).cell? ⟨mb, 2, none⟩ = some (.int .i64 (s.sent : Int)) := k2
  have hw2 : IntKind.i64.wrap ((s.sent : Int) + 1) = ((s.sent + 1 : Nat) : Int) := by rw [wrap_of ⟨by omega, by omega⟩]; omega
  clear hs3 hg3 g1 g2 g3 M3 S3 M4 S4 k0 k1 k2 kf e2 e2' HM2 HS2
  go_wp2
  go_end0
  exact ⟨rfl, h3, by rw [hT.out]; exact HM4.out, HS4.out⟩
end Go.Proofs.Ytadanpghmfhhkaa
