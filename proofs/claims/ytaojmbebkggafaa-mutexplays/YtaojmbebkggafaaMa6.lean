/- ask, leave. -/
import Derived.Test.YtaojmbebkggafaaMa5
import Derived.Test.YtaojmbebkggafaaMb2
namespace Go.Proofs.Ytaojmbebkggafaa
open Go.RowKit Go.WideMaps
set_option linter.unusedVariables false

variable {W W2 : World} {mb n : Nat} {s : MS} {h h2 : MSh}
theorem prM_pr (s : MS) (i : Nat) (p : Pr) : (prM s i p).pr i = p := upd1_same _ _ _

theorem Mmov.setKp2 (m : Mmov W mb n s h) {i : Nat} (hi : i < n) (v : Nat) : Mmov (W.setCell ⟨h.P, i * 6 + 2 + 1, none⟩ (.int .i64 (v : Int))) mb n (prM s i { s.pr i with kp := v }) h ∧ MStp mb W h (W.setCell ⟨h.P, i * 6 + 2 + 1, none⟩ (.int .i64 (v : Int))) h 0 := m.setKp hi v
theorem keysTo_len (s : MS) (i x : Nat) {k j : Nat} (h : k ≤ j) : (keysTo s i x k).ways i j = s.ways i j := by
  rw [keysTo_ways, if_neg (by omega)]
set_option maxRecDepth 100000 in
set_option maxHeartbeats 8000000 in
theorem ask_any (m : Mmov W mb n s h) {i : Nat} (hi : i < n) (hn : n ≤ 6) (hc : h.c < 99000) (hl2 : ∀ j, j < n → j ≠ i → (s.ways i j).length ≤ 1000) (hnum : (s.pr i).num ≤ 90000) (hin : s.ins.length ≤ 1000) :
    Calls Try.prog 16 #[.pointer (some ⟨mb, 0, none⟩), .int .i64 (i : Int)] W fun e W2 => e = .returned (.tuple #[]) ∧ ∃ h2, Mmov W2 mb n (askM n s i) h2 ∧ MStp mb W h W2 h2 n := by
  obtain ⟨c0, c1, c2, cf⟩ := m.cells
  obtain ⟨p0, p1, p2, p3, p4, p5, pf⟩ := m.proc hi
  have hi' : (i : Int) < (n : Int) := by omega
  have HM := hidMk m
  generalize hv : (s.pr i).num = v at *
  generalize hv1 : v + 1 = v1 at *
  have hw1 : IntKind.i64.wrap ((v : Int) + 1) = (v1 : Int) := by
    rw [show ((v : Int) + 1) = (v1 : Int) from by omega]
    exact wrap_of ⟨by omega, by omega⟩
  have f0 := pf (i * 6)
  have f1 := pf (i * 6 + 1)
  have f2 := pf (i * 6 + 2)
  have f3 := pf (i * 6 + 3)
  have f4 := pf (i * 6 + 4)
  obtain ⟨M1, S1⟩ := m.setNum hi v1
  obtain ⟨M2, S2⟩ := M1.setKn hi v1
  obtain ⟨M3, S3⟩ := M2.setKp2 hi i
  obtain ⟨M4, S4⟩ := M3.setSt hi 1
  obtain ⟨M5, S5⟩ := M4.setYes hi 0
  simp only [prM_pr, prM_prM] at M5
  have e5 : prM s i { num := v1, st := 1, kn := v1, kp := i, yes := 0, wait := (s.pr i).wait } = askS s i := by unfold askS; rw [hv, hv1]
  rw [e5] at M5
  have HM5 := hidMk M5
  have HS5 := hidMk ((((S1.trans S2).trans S3).trans S4).trans S5)
  obtain ⟨d0, d1, d2, df⟩ := M5.cells
  have HA : Hid (askM n s i = enterM n (keysTo (askS s i) i v1 n) i) := by show askM n s i = _; unfold askM; rw [hv, hv1]
  have HAp : Hid ((askS s i).pr i = ⟨v1, 1, v1, i, 0, (s.pr i).wait⟩) := by show (askS s i).pr i = _; unfold askS; rw [prM_pr, hv, hv1]
  clear m M1 S1 M2 S2 M3 S3 M4 S4 M5 S5 e5
  go_enter Try.func16, Try.ntmps16
  go_upto_region 4 with fail
  clear c0 c1 c2 cf p0 p1 p2 p3 p4 p5 pf f0 f1 f2 f3 f4 hw1
  have HX : Hid (∀ j, j < n → j ≠ i → ((askS s i).ways i j).length ≤ 1000) := hl2
  have HIn : Hid ((askS s i).ins.length ≤ 1000) := hin
  generalize hw0 : (((((W.setCell ⟨h.P, i * 6, none⟩ (.int .i64 (v1 : Int))).setCell ⟨h.P, i * 6 + 2, none⟩ (.int .i64 (v1 : Int))).setCell ⟨h.P, i * 6 + 2 + 1, none⟩ (.int .i64 (i : Int))).setCell ⟨h.P, i * 6 + 1, none⟩ (.int .i64 1)).setCell ⟨h.P, i * 6 + 4, none⟩ (.int .i64 0)) = w0
  have e0 : (((((W.setCell ⟨h.P, i * 6, none⟩ (.int .i64 (v1 : Int))).setCell ⟨h.P, i * 6 + 2, none⟩ (.int .i64 (v1 : Int))).setCell ⟨h.P, i * 6 + 2 + 1, none⟩ (.int .i64 (i : Int))).setCell ⟨h.P, i * 6 + 1, none⟩ (.int .i64 ((1 : Nat) : Int))).setCell ⟨h.P, i * 6 + 4, none⟩ (.int .i64 ((0 : Nat) : Int))) = w0 := hw0
  rw [e0] at HM5 HS5 d0 d1 d2
  clear e0 hw0 df d1 d2
  generalize askS s i = S at *
  go_wp2_with (fail)
  go_loopw [39] (fun u wr => ∃ k h2, k ≤ n ∧ u = .int .i64 (k : Int) ∧ Hid (Mmov wr mb n (keysTo S i v1 k) h2) ∧ Hid (MStp mb W h wr h2 k) ∧ Hid (h2.P = h.P)) (fun u _ => n - (intOf u).toNat)
  case atStart => exact ⟨0, h, Nat.zero_le _, rfl, HM5, HS5, rfl⟩
  case round =>
    obtain ⟨k, h2, hk, rfl, HM2, HS2, HP2⟩ := hrel
    by_cases hlt : k < n
    · have hlt' : (k : Int) < (n : Int) := by omega
      by_cases hki : k = i
      · subst hki
        have HM3 : Hid (Mmov wr mb n (keysTo S k v1 (k + 1)) h2) := by
          show Mmov wr mb n (if k = k then keysTo S k v1 k else _) h2
          rw [if_pos rfl]; exact HM2.out
        go_wp2
        go_roundw
        case rel => exact ⟨k + 1, h2, by omega, by go_num, HM3, HS2.out.mono (by omega), HP2⟩
        case measure => simp [intOf]; omega
      · have hki' : (k : Int) ≠ (i : Int) := by omega
        have e0 := (HM2.out.proc hi).1
        rw [(keysTo_pr S i v1 k).1, HAp.out, HP2.out] at e0
        simp only at e0
        have HPt := hidMk (put_any HM2.out hi hlt hn (x := v1) (by have := HS2.out.count; omega) (by rw [keysTo_len _ _ _ (Nat.le_refl k)]; exact HX.out k hlt hki))
        clear hki
        have HKi := hidMk (show ¬ k = i from fun e => hki' (by omega))
        go_wp2_with (go_at_call 19; refine (HPt.out).mono ?_; rintro e w3 ⟨rfl, h3, M3, S3, _⟩)
        have HM3 : Hid (Mmov w3 mb n (keysTo S i v1 (k + 1)) h3) := by
          show Mmov w3 mb n (if k = i then _ else putM (keysTo S i v1 k) i k v1) h3
          rw [if_neg HKi.out]; exact M3
        have HS3 := hidMk (HS2.out.trans S3)
        have HP3 : Hid (h3.P = h.P) := HS3.out.same.1
        clear M3 S3 HPt e0
        go_wp2
        go_roundw
        case rel => exact ⟨k + 1, h3, by omega, by go_num, HM3, HS3, HP3⟩
        case measure => simp [intOf]; omega
    · obtain rfl : k = n := by omega
      have HEn := hidMk (enter_any HM2.out hi hn (by rw [(keysTo_pr S i v1 k).1, HAp.out]; exact Nat.zero_le _) (by rw [(keysTo_pr S i v1 k).2]; exact HIn.out))
      go_wp2_with (go_at_call 20; refine (HEn.out).mono ?_; rintro e w3 ⟨rfl, h3, M3, S3⟩)
      go_end0
      refine ⟨rfl, h3, ?_, HS2.out.trans S3⟩
      rw [HA.out]
      exact M3

set_option maxRecDepth 100000 in
set_option maxHeartbeats 8000000 in
theorem leave_any (m : Mmov W mb n s h) {i : Nat} (hi : i < n) (hn : n ≤ 6) (hc : h.c < 90000) (hl2 : ∀ j, j < n → j ≠ i → (s.ways i j).length ≤ 500) (hwl : (s.pr i).wait.length ≤ 400) (hwn : ∀ x ∈ (s.pr i).wait, x < n ∧ x ≠ i) :
    Calls Try.prog 18 #[.pointer (some ⟨mb, 0, none⟩), .int .i64 (i : Int)] W fun e W2 => e = .returned (.tuple #[]) ∧ ∃ h2, Mmov W2 mb n (leaveM s i) h2 ∧ MStp mb W h W2 h2 (s.pr i).wait.length := by
  obtain ⟨c0, c1, c2, cf⟩ := m.cells
  obtain ⟨p0, p1, p2, p3, p4, p5, pf⟩ := m.proc hi
  have hi' : (i : Int) < (n : Int) := by omega
  have f1 := pf (i * 6 + 1)
  obtain ⟨M1, S1⟩ := m.setSt hi 0
  have e1 : prM s i { s.pr i with st := 0 } = outS s i := rfl
  rw [e1] at M1
  have hseg := M1.wt hi
  have ew : ((outS s i).pr i).wait = (s.pr i).wait := by unfold outS; rw [prM_pr]
  rw [ew] at hseg
  obtain ⟨ta, tc, et⟩ := segForm hseg
  have d5 := (M1.proc hi).2.2.2.2.2.1
  rw [et] at d5 hseg
  have HM1 : Hid (Mmov (W.setCell ⟨h.P, i * 6 + 1, none⟩ (.int .i64 0)) mb n (outS s i) h) := M1
  have HS1 : Hid (MStp mb W h (W.setCell ⟨h.P, i * 6 + 1, none⟩ (.int .i64 0)) h 0) := S1
  have d5' : (W.setCell ⟨h.P, i * 6 + 1, none⟩ (.int .i64 0)).cell? ⟨h.P, i * 6 + 5, none⟩ = some (.slice ta (s.pr i).wait.length tc) := d5
  have HET := hidMk et
  have HL : Hid (leaveM s i = noneS (yesesTo (outS s i) i (s.pr i).wait) i) := rfl
  have HX : Hid (∀ j, j < n → j ≠ i → ((outS s i).ways i j).length ≤ 500) := hl2
  have HWn := hidMk hwn
  generalize hws : (s.pr i).wait = ws at *
  generalize hwl2 : ws.length = wl at *
  have HWl := hidMk hwl2
  have HEW := hidMk ew
  have hwl' : (wl : Int) ≤ 400 := by omega
  clear m M1 S1 e1 hseg et d5 hwl2 p2 p3 p4 p5 ew
  go_enter Try.func18, Try.ntmps18
  go_upto_region 2 with fail
  clear c0 c1 c2 cf p0 p1 f1 pf
  generalize W.setCell ⟨h.P, i * 6 + 1, none⟩ (.int .i64 0) = w0 at *
  generalize outS s i = S at *
  go_wp2_with (fail)
  go_loopw [21] (fun u wr => ∃ k h2, k ≤ wl ∧ u = .int .i64 (k : Int) ∧ Hid (Mmov wr mb n (yesesTo S i (ws.take k)) h2) ∧ Hid (MStp mb W h wr h2 k) ∧ Hid (h2.wv = h.wv)) (fun u _ => wl - (intOf u).toNat)
  case atStart => exact ⟨0, h, Nat.zero_le _, rfl, by simpa [yesesTo] using HM1, HS1, rfl⟩
  case round =>
    obtain ⟨k, h2, hk, rfl, HM2, HS2, HV2⟩ := hrel
    have HS9 := hidMk (HM2.out.wt hi)
    rw [(yesesTo_pr i (ws.take k) S).1, HEW.out, HV2.out, HET.out, HWl.out] at HS9
    by_cases hlt : k < wl
    · have hlt' : (k : Int) < (wl : Int) := by omega
      have hxk : ws[k]? = some (ws[k]'(by rw [HWl.out]; exact hlt)) := List.getElem?_eq_getElem _
      generalize ws[k]'(by rw [HWl.out]; exact hlt) = x at hxk
      have hxn : x < n := (HWn.out x (List.mem_of_getElem? hxk)).1
      have hxi : x ≠ i := (HWn.out x (List.mem_of_getElem? hxk)).2
      obtain ⟨l1, c1, _, r1⟩ := seg_row HS9.out
      rcases r1 with r1 | ⟨g, o, rfl, _, k1⟩
      · omega
      have kx := k1 k (x : Int) (natsI_at hxk)
      have htk : ws.take (k + 1) = ws.take k ++ [x] := by rw [List.take_add_one, hxk]; rfl
      have HTk := hidMk htk
      have hxn' : (x : Int) < (n : Int) := by omega
      have HPt := hidMk (put_any HM2.out hi hxn hn (x := 0) (by have := HS2.out.count; omega) (by
        rw [yesesTo_ways, if_pos rfl, List.length_append, List.length_replicate]
        have h1 := HX.out x hxn hxi
        have h2 : wc (ws.take k) x ≤ (ws.take k).length := List.countP_le_length
        rw [List.length_take] at h2
        omega))
      clear htk k1 hxk HS9 l1
      go_wp2_with (go_at_call 19; refine (HPt.out).mono ?_; rintro e w3 ⟨rfl, h3, M3, S3, ew3⟩)
      have HM3 : Hid (Mmov w3 mb n (yesesTo S i (ws.take (k + 1))) h3) := by
        show Mmov _ _ _ _ _
        rw [HTk.out, yesesTo_snoc]; exact M3
      have HS3 := hidMk (HS2.out.trans S3)
      have HV3 : Hid (h3.wv = h.wv) := ew3.trans HV2.out
      clear M3 S3 ew3 HPt kx
      go_wp2
      go_roundw
      case rel => exact ⟨k + 1, h3, by omega, by go_num, HM3, HS3, HV3⟩
      case measure => simp [intOf]; omega
    · obtain rfl : k = wl := by omega
      have HM3 : Hid (Mmov wr mb n (yesesTo S i ws) h2) := by
        have := HM2.out
        rw [List.take_of_length_le (by rw [HWl.out]; exact Nat.le_refl _)] at this
        exact this
      obtain ⟨_, _, _, _, _, q5, qf⟩ := HM3.out.proc hi
      have q5' := qf (i * 6 + 5)
      have HNw := hidMk (HM3.out.nilWait hi)
      have HP2 : h2.P = h.P := HS2.out.same.1
      rw [HP2] at q5 q5' HNw
      clear qf HS9 HM2
      go_wp2
      go_end0
      obtain ⟨h4, M4, S4⟩ := HNw.out
      refine ⟨rfl, h4, ?_, HS2.out.trans S4⟩
      rw [HL.out]
      exact M4
end Go.Proofs.Ytaojmbebkggafaa
