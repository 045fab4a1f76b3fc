/- Contracts of clocks.checkEvent and clocks.Check: what is wrong with events. -/
import Derived.Test.YtjglbjiekndpeabG2
import Derived.RegionTactic
import Derived.Deep.RegionWith
namespace Go.Proofs.Ytjglbjiekndpeab
open Go.RowKit
set_option linter.unusedVariables false

set_option maxHeartbeats 1000000 in
theorem checkEvent_row (n : Int) (b off len cap : Nat) (es : List Ev) (ev : Ev) (w : World) (hl : es.length = len) (hlen : len ≤ maxLen) (hq : EvRow w b off es) :
    Calls Try.prog 23 #[.int .i64 n, .slice (some ⟨b, off, none⟩) len cap, .agg #[.int .i64 ev.kind, .int .i64 ev.who, .int .i64 ev.of]] w fun e w' => e = .returned (.int .i64 (evCode n es ev)) ∧ Below w.heap.size w w' := by
  obtain ⟨kd, wh, of⟩ := ev
  have HS : Hid (∀ w1, Below w.heap.size w w1 → Calls Try.prog 26 #[.slice (some ⟨b, off, none⟩) len cap, .int .i64 of] w1 fun e w' => e = .returned (.bool (!noSend es of)) ∧ w' = w1) :=
    fun w1 hb => sentAt_row b off len cap of es hl hlen w1 (hq.below hq.1 hb)
  have hB : ∀ o : Obj, Below w.heap.size w (w.alloc o) := fun o => (Below.refl _ w).alloc (Nat.le_refl _) _
  have HB := hidMk hB
  clear hq hl hB
  dsimp only
  by_cases hkd : kd ≠ 1 ∧ kd ≠ 2 ∧ kd ≠ 3
  · obtain ⟨hk1, hk2, hk3⟩ := hkd
    have hb1 : (kd == 1) = false := by simpa using hk1
    have hb2 : (kd == 2) = false := by simpa using hk2
    have hb3 : (kd == 3) = false := by simpa using hk3
    rw [evCode_kind hk1 hk2 hk3]
    clear hk1 hk2 hk3
    go_enter Try.func23, Try.ntmps23
    go_wp2
    go_ret
    exact ⟨rfl, HB.out _⟩
  · have hk3 : kd = 1 ∨ kd = 2 ∨ kd = 3 := by omega
    clear hkd
    by_cases hwh : wh < 0 ∨ n ≤ wh
    · rw [evCode_who hk3 hwh]
      by_cases hw0 : wh < 0
      · clear hwh
        rcases hk3 with rfl | rfl | rfl
        all_goals go_enter Try.func23, Try.ntmps23
        all_goals go_wp2
        all_goals go_ret
        all_goals exact ⟨rfl, HB.out _⟩
      · have hw1 : n ≤ wh := by omega
        clear hwh
        rcases hk3 with rfl | rfl | rfl
        all_goals go_enter Try.func23, Try.ntmps23
        all_goals go_wp2
        all_goals go_ret
        all_goals exact ⟨rfl, HB.out _⟩
    · have hw0 : 0 ≤ wh := by omega
      have hw1 : wh < n := by omega
      rcases hk3 with rfl | rfl | rfl
      · rw [evCode_ok (.inl rfl) hwh (fun h => by cases h)]
        clear hwh
        go_enter Try.func23, Try.ntmps23
        go_wp2
        go_ret
        exact ⟨rfl, HB.out _⟩
      · rw [evCode_ok (.inr (.inl rfl)) hwh (fun h => by cases h)]
        clear hwh
        go_enter Try.func23, Try.ntmps23
        go_wp2
        go_ret
        exact ⟨rfl, HB.out _⟩
      · cases hN : noSend es of
        · rw [evCode_ok (.inr (.inr rfl)) hwh (fun _ => hN)]
          rw [hN] at HS
          clear hwh hN
          go_enter Try.func23, Try.ntmps23
          go_wp2_with (go_at_call 26; refine (HS.out _ (HB.out _)).mono ?_; rintro e w' ⟨rfl, hw⟩; obtain rfl := hw.symm)
          go_ret
          exact ⟨rfl, HB.out _⟩
        · rw [evCode_of rfl hN]
          rw [hN] at HS
          clear hwh hN
          go_enter Try.func23, Try.ntmps23
          go_wp2_with (go_at_call 26; refine (HS.out _ (HB.out _)).mono ?_; rintro e w' ⟨rfl, hw⟩; obtain rfl := hw.symm)
          go_ret
          exact ⟨rfl, HB.out _⟩

set_option maxHeartbeats 400000 in
theorem check_large (n : Int) (a : Option Addr) (len cap : Nat) (hlen : len ≤ maxLen) (w : World) (h : n < 1 ∨ 6 < n ∨ 60 < len) :
    Calls Try.prog 21 #[.int .i64 n, .slice a len cap] w fun e w' => e = .returned (.int .i64 1) ∧ w' = w := by
  unfold maxLen at hlen
  by_cases h1 : n < 1
  · go_enter Try.func21, Try.ntmps21
    go_wp2
    go_ret
    exact ⟨rfl, rfl⟩
  · by_cases h2 : 6 < n
    · go_enter Try.func21, Try.ntmps21
      go_wp2
      go_ret
      exact ⟨rfl, rfl⟩
    · have h3 : (60 : Int) < (len : Int) := by omega
      clear h
      go_enter Try.func21, Try.ntmps21
      go_wp2
      go_ret
      exact ⟨rfl, rfl⟩

set_option maxHeartbeats 400000 in
theorem check_none (n : Int) (a : Option Addr) (cap : Nat) (w : World) (h1 : 1 ≤ n) (h2 : n ≤ 6) :
    Calls Try.prog 21 #[.int .i64 n, .slice a 0 cap] w fun e w' => e = .returned (.int .i64 0) ∧ w' = w := by
  go_enter Try.func21, Try.ntmps21
  go_wp2
  refine wp_loop_rounds 1 ?_
  rw [rounds_succ]
  go_wp2
  go_ret
  exact ⟨rfl, rfl⟩

set_option maxHeartbeats 1000000 in
theorem check_row (n : Int) (b off len cap : Nat) (es : List Ev) (w : World) (hl : es.length = len) (hl2 : len ≤ 60) (hcap : len ≤ cap) (h1 : 1 ≤ n) (h2 : n ≤ 6) (hq : EvRow w b off es) :
    Calls Try.prog 21 #[.int .i64 n, .slice (some ⟨b, off, none⟩) len cap] w fun e w' => e = .returned (.int .i64 (codeFrom n es 0 len)) ∧ Below w.heap.size w w' := by
  have HL : Hid (es.length = len) := hl
  clear hl
  have hl2' : (len : Int) ≤ 60 := by omega
  go_enter Try.func21, Try.ntmps21
  go_wp2
  go_loopw [21] (fun i wr => ∃ k : Nat, k ≤ len ∧ i = .int .i64 k ∧ Below w.heap.size w wr ∧ Hid (codeFrom n es 0 len = codeFrom n es k (len - k))) (fun i _ => len - (intOf i).toNat)
  case atStart => exact ⟨0, Nat.zero_le _, rfl, Below.refl _ _, rfl⟩
  case round =>
    obtain ⟨k, hk, rfl, hB, hall⟩ := hrel
    by_cases hlt : k < len
    · obtain ⟨ev, he, hm, hf, hc1, hc2, hc3⟩ := (hq.below hq.1 hB).at (k := k) (by rw [HL.out]; exact hlt)
      have HE := hidMk he
      have HC : Hid (∀ w1, Below w.heap.size w w1 → Calls Try.prog 23 #[.int .i64 n, .slice (some ⟨b, off, none⟩) k cap, .agg #[.int .i64 ev.kind, .int .i64 ev.who, .int .i64 ev.of]] w1 fun e w' => e = .returned (.int .i64 (evCode n (es.take k) ev)) ∧ Below w1.heap.size w1 w') :=
        fun w1 hb => checkEvent_row n b off k cap (es.take k) ev w1 (by rw [List.length_take, HL.out]; omega) (by unfold maxLen; omega) ((hq.below hq.1 hb).take k)
      have hB1 : ∀ o : Obj, Below w.heap.size w (wr.alloc o) := fun o => hB.alloc hB.size _
      have HB := hidMk hB1
      clear he hm hf hB1
      have hkc : (k : Int) ≤ cap := by omega
      by_cases h0 : evCode n (es.take k) ev = 0
      · have H0 := hidMk h0
        rw [h0] at HC
        clear h0
        go_wp2
        go_region_with (go_at_call 23; refine (HC.out _ (HB.out _).drew).mono ?_; rintro e w2 ⟨rfl, hB2⟩)
        all_goals go_wp2
        all_goals go_roundw
        all_goals first | exact ⟨k + 1, by omega, by go_num, (HB.out _).drew.trans (hB2.mono (HB.out _).drew.size), by rw [Hid, hall.out, codeFrom_next hlt HE.out H0.out]⟩ | (simp [intOf]; omega)
      · have H0 := hidMk h0
        have hne : (evCode n (es.take k) ev != 0) = true := by simpa using h0
        generalize hz : evCode n (es.take k) ev = z at HC hne
        have HZ := hidMk hz
        clear hz h0
        go_wp2
        go_region_with (go_at_call 23; refine (HC.out _ (HB.out _).drew).mono ?_; rintro e w2 ⟨rfl, hB2⟩)
        all_goals go_wp2
        all_goals go_ret
        all_goals exact ⟨ret_int (by rw [hall.out, codeFrom_bad hlt HE.out H0.out, HZ.out]), (HB.out _).drew.trans (hB2.mono (HB.out _).drew.size)⟩
    · obtain rfl : k = len := by omega
      go_wp2
      go_ret
      exact ⟨ret_int (by rw [hall.out, Nat.sub_self]; rfl), hB⟩

theorem check_any (n : Int) (a : Option Addr) (len cap : Nat) (es : List Ev) (w : World) (h : CameEv w a len cap es) :
    Calls Try.prog 21 #[.int .i64 n, .slice a len cap] w fun e w' => e = .returned (.int .i64 (evsCode n es)) ∧ Below w.heap.size w w' := by
  obtain ⟨hl, hcap, hmax, hr⟩ := h
  by_cases hL : n < 1 ∨ 6 < n ∨ 60 < len
  · rw [evsCode_large (by rw [hl]; exact hL)]
    exact (check_large n a len cap hmax w hL).mono fun e w' ⟨h1, h2⟩ => ⟨h1, by rw [h2]; exact Below.refl _ _⟩
  · rw [evsCode_else (by rw [hl]; exact hL), hl]
    rcases hr with h0 | ⟨b, off, rfl, hr⟩
    · subst h0
      exact (check_none n a cap w (by omega) (by omega)).mono fun e w' ⟨h1, h2⟩ => ⟨h1, by rw [h2]; exact Below.refl _ _⟩
    · exact check_row n b off len cap es w hl (by omega) hcap (by omega) (by omega) hr
end Go.Proofs.Ytjglbjiekndpeab
