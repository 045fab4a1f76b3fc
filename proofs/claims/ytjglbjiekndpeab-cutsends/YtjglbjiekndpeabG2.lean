/- Contracts of folkmootref.EventsCheck. -/
import Derived.Test.YtjglbjiekndpeabProg
import Derived.Test.YtjglbjiekndpeabG1
import Derived.WalkSpells
import Derived.WalkLawsBesides
import Derived.Outline
namespace Go.Proofs.Ytjglbjiekndpeab
open Go.RowKit
set_option linter.unusedVariables false

set_option maxHeartbeats 400000 in
theorem standsIn_any (a : Option Addr) (len cap : Nat) (z : Int) (hlen : len ≤ maxLen) (w : World) :
    Calls Try.prog 28 #[.slice a len cap, .int .i64 z] w fun e w' => e = .returned (.bool (decide (0 ≤ z ∧ z < len))) ∧ w' = w := by
  unfold maxLen at hlen
  by_cases h1 : 0 ≤ z
  · by_cases h2 : z < (len : Int)
    · go_enter Try.func28, Try.ntmps28
      go_wp2
      go_ret
      exact ⟨ret_bool (by simp [h1, h2]), rfl⟩
    · go_enter Try.func28, Try.ntmps28
      go_wp2
      go_ret
      exact ⟨ret_bool (by simp; omega), rfl⟩
  · go_enter Try.func28, Try.ntmps28
    go_wp2
    go_ret
    exact ⟨ret_bool (by simp; omega), rfl⟩

set_option maxHeartbeats 400000 in
theorem sentAt_row (b off len cap : Nat) (z : Int) (es : List Ev) (hl : es.length = len) (hlen : len ≤ maxLen) (w : World) (hq : EvRow w b off es) :
    Calls Try.prog 26 #[.slice (some ⟨b, off, none⟩) len cap, .int .i64 z] w fun e w' => e = .returned (.bool (!noSend es z)) ∧ w' = w := by
  have HS := hidMk (standsIn_any (some ⟨b, off, none⟩) len cap z hlen)
  by_cases h : 0 ≤ z ∧ z < len
  · obtain ⟨k, rfl⟩ : ∃ k : Nat, z = k := ⟨z.toNat, by omega⟩
    have hk : k < len := by omega
    obtain ⟨e, he, hm, hf, hc1, hc2, hc3⟩ := hq.at (k := k) (by omega)
    have hd : decide (0 ≤ (k : Int) ∧ (k : Int) < len) = true := by simpa using h
    rw [hd] at HS
    have hn : (!noSend es (k : Int)) = (e.kind == 2) := by
      unfold noSend
      rw [if_neg (by omega), Int.toNat_natCast, he]
      simp [bne]
    rw [hn]
    have HF := hidMk hf
    clear hf hm he hn hq hc2 hc3 hl
    unfold maxLen at hlen
    go_enter Try.func26, Try.ntmps26
    go_wp2_with (go_at_call 28; refine (HS.out _).mono ?_; rintro e w' ⟨rfl, hw⟩; obtain rfl := hw.symm)
    go_ret
    exact ⟨rfl, rfl⟩
  · have hd : decide (0 ≤ z ∧ z < len) = false := by simpa using h
    rw [hd] at HS
    have hn : (!noSend es z) = false := by
      unfold noSend
      by_cases h0 : z < 0
      · simp [h0]
      · rw [if_neg h0, List.getElem?_eq_none (by omega)]
        rfl
    rw [hn]
    go_enter Try.func26, Try.ntmps26
    go_wp2_with (go_at_call 28; refine (HS.out _).mono ?_; rintro e w' ⟨rfl, hw⟩; obtain rfl := hw.symm)
    go_ret
    exact ⟨rfl, rfl⟩

set_option maxHeartbeats 400000 in
theorem refEvents_large (n : Int) (a : Option Addr) (len cap : Nat) (hlen : len ≤ maxLen) (w : World) (h : n < 1 ∨ 6 < n ∨ 60 < len) :
    Calls Try.prog 13 #[.int .i64 n, .slice a len cap] w fun e w' => e = .returned (.int .i64 1) ∧ w' = w := by
  unfold maxLen at hlen
  by_cases h1 : n < 1
  · go_enter Try.func13, Try.ntmps13
    go_wp2
    go_ret
    exact ⟨rfl, rfl⟩
  · by_cases h2 : 6 < n
    · go_enter Try.func13, Try.ntmps13
      go_wp2
      go_ret
      exact ⟨rfl, rfl⟩
    · have h3 : (60 : Int) < (len : Int) := by omega
      clear h
      go_enter Try.func13, Try.ntmps13
      go_wp2
      go_ret
      exact ⟨rfl, rfl⟩

set_option maxHeartbeats 400000 in
theorem refEvents_none (n : Int) (a : Option Addr) (cap : Nat) (w : World) (h1 : 1 ≤ n) (h2 : n ≤ 6) :
    Calls Try.prog 13 #[.int .i64 n, .slice a 0 cap] w fun e w' => e = .returned (.int .i64 0) ∧ w' = w := by
  go_enter Try.func13, Try.ntmps13
  go_wp2
  refine wp_loop_rounds 1 ?_
  rw [rounds_succ]
  go_wp2
  go_ret
  exact ⟨rfl, rfl⟩

set_option maxHeartbeats 1000000 in
theorem refEvents_row (n : Int) (b off len cap : Nat) (es : List Ev) (w : World) (hl : es.length = len) (hl2 : len ≤ 60) (h1 : 1 ≤ n) (h2 : n ≤ 6) (hq : EvRow w b off es) :
    Calls Try.prog 13 #[.int .i64 n, .slice (some ⟨b, off, none⟩) len cap] w fun e w' => e = .returned (.int .i64 (codeFrom n es 0 len)) ∧ Below w.heap.size w w' := by
  have HL : Hid (es.length = len) := hl
  clear hl
  have hl2' : (len : Int) ≤ 60 := by omega
  go_enter Try.func13, Try.ntmps13
  go_wp2
  go_loopw [20] (fun i wr => ∃ k : Nat, k ≤ len ∧ i = .int .i64 k ∧ Below w.heap.size w wr ∧ Hid (codeFrom n es 0 len = codeFrom n es k (len - k))) (fun i _ => len - (intOf i).toNat)
  case atStart => exact ⟨0, Nat.zero_le _, rfl, Below.refl _ _, rfl⟩
  case round =>
    obtain ⟨k, hk, rfl, hB, hall⟩ := hrel
    by_cases hlt : k < len
    · obtain ⟨⟨kd, wh, of⟩, he, hm, hf, hc1, hc2, hc3⟩ := (hq.below hq.1 hB).at (k := k) (by rw [HL.out]; exact hlt)
      dsimp only at hc1 hc2 hc3
      have HE := hidMk he
      clear he hm hf
      by_cases hkd : kd ≠ 1 ∧ kd ≠ 2 ∧ kd ≠ 3
      · obtain ⟨hk1, hk2, hk3⟩ := hkd
        have hb1 : (kd != 1) = true := by simpa using hk1
        have hb2 : (kd != 2) = true := by simpa using hk2
        have hb3 : (kd != 3) = true := by simpa using hk3
        have HC : Hid (evCode n (es.take k) ⟨kd, wh, of⟩ = 4) := evCode_kind hk1 hk2 hk3
        clear hk1 hk2 hk3
        go_wp2
        go_ret
        exact ⟨ret_int (by rw [hall.out, codeFrom_bad hlt HE.out (by rw [HC.out]; decide), HC.out]), hB.alloc hB.size _⟩
      · have hk3 : kd = 1 ∨ kd = 2 ∨ kd = 3 := by omega
        clear hkd
        by_cases hwh : wh < 0 ∨ n ≤ wh
        · have HC : Hid (evCode n (es.take k) ⟨kd, wh, of⟩ = 2) := evCode_who hk3 hwh
          by_cases hw0 : wh < 0
          · clear hwh
            rcases hk3 with rfl | rfl | rfl
            all_goals go_wp2
            all_goals go_ret
            all_goals exact ⟨ret_int (by rw [hall.out, codeFrom_bad hlt HE.out (by rw [HC.out]; decide), HC.out]), hB.alloc hB.size _⟩
          · have hw1 : n ≤ wh := by omega
            clear hwh
            rcases hk3 with rfl | rfl | rfl
            all_goals go_wp2
            all_goals go_ret
            all_goals exact ⟨ret_int (by rw [hall.out, codeFrom_bad hlt HE.out (by rw [HC.out]; decide), HC.out]), hB.alloc hB.size _⟩
        · have hw0 : 0 ≤ wh := by omega
          have hw1 : wh < n := by omega
          have HW := hidMk hwh
          clear hwh
          have go : ∀ (h : evCode n (es.take k) ⟨kd, wh, of⟩ = 0), codeFrom n es 0 len = codeFrom n es (k + 1) (len - (k + 1)) := fun h => by rw [hall.out, codeFrom_next hlt HE.out h]
          have GO := hidMk go
          clear go
          rcases hk3 with rfl | rfl | rfl
          · have HC := hidMk (GO.out (evCode_ok (.inl rfl) HW.out (fun h => by cases h)))
            clear GO
            go_wp2
            go_roundw
            case rel => exact ⟨k + 1, by omega, by go_num, hB.alloc hB.size _, HC⟩
            case measure => simp [intOf]; omega
          · have HC := hidMk (GO.out (evCode_ok (.inr (.inl rfl)) HW.out (fun h => by cases h)))
            clear GO
            go_wp2
            go_roundw
            case rel => exact ⟨k + 1, by omega, by go_num, hB.alloc hB.size _, HC⟩
            case measure => simp [intOf]; omega
          · by_cases ho0 : of < 0
            · have HC : Hid (evCode n (es.take k) ⟨3, wh, of⟩ = 2) := evCode_of rfl (noSend_neg ho0)
              clear GO
              go_wp2
              go_ret
              exact ⟨ret_int (by rw [hall.out, codeFrom_bad hlt HE.out (by rw [HC.out]; decide), HC.out]), hB.alloc hB.size _⟩
            · by_cases ho1 : (k : Int) ≤ of
              · have HC : Hid (evCode n (es.take k) ⟨3, wh, of⟩ = 2) := evCode_of rfl (noSend_far ho1)
                clear GO
                go_wp2
                go_ret
                exact ⟨ret_int (by rw [hall.out, codeFrom_bad hlt HE.out (by rw [HC.out]; decide), HC.out]), hB.alloc hB.size _⟩
              · obtain ⟨j, rfl⟩ : ∃ j : Nat, of = j := ⟨of.toNat, by omega⟩
                have hj : j < k := by omega
                obtain ⟨⟨kd2, wh2, of2⟩, he2, hm2, hf2, hd1, hd2, hd3⟩ := (hq.below hq.1 hB).at (k := j) (by rw [HL.out]; omega)
                dsimp only at hd1
                have HN := hidMk (noSend_at hj he2)
                clear hd2 hd3 hm2 hf2 he2
                have hd1' : (wr.alloc (.cells #[.int .i64 3, .int .i64 wh, .int .i64 (j : Int)] 35)).cell? ⟨b, off + j * 3, none⟩ = some (.int .i64 kd2) := (((Below.refl _ wr).alloc (Nat.le_refl _) _).cell (p := ⟨b, off + j * 3, none⟩) (by have := hq.1; have := hB.size; show b < wr.heap.size; omega)).trans hd1
                by_cases hk2 : kd2 = 2
                · subst hk2
                  have HC := hidMk (GO.out (evCode_ok (.inr (.inr rfl)) HW.out (fun _ => HN.out)))
                  clear GO
                  go_wp2
                  go_roundw
                  case rel => exact ⟨k + 1, by omega, by go_num, hB.alloc hB.size _, HC⟩
                  case measure => simp [intOf]; omega
                · have hb2 : (kd2 != 2) = true := by simpa using hk2
                  have HC : Hid (evCode n (es.take k) ⟨3, wh, (j : Int)⟩ = 2) := evCode_of rfl (HN.out.trans hb2)
                  clear GO hk2
                  go_wp2
                  go_ret
                  exact ⟨ret_int (by rw [hall.out, codeFrom_bad hlt HE.out (by rw [HC.out]; decide), HC.out]), hB.alloc hB.size _⟩
    · obtain rfl : k = len := by omega
      go_wp2
      go_ret
      exact ⟨ret_int (by rw [hall.out, Nat.sub_self]; rfl), hB⟩

theorem refEvents_any (n : Int) (a : Option Addr) (len cap : Nat) (es : List Ev) (w : World) (h : CameEv w a len cap es) :
    Calls Try.prog 13 #[.int .i64 n, .slice a len cap] w fun e w' => e = .returned (.int .i64 (evsCode n es)) ∧ Below w.heap.size w w' := by
  obtain ⟨hl, hcap, hmax, hr⟩ := h
  by_cases hL : n < 1 ∨ 6 < n ∨ 60 < len
  · rw [evsCode_large (by rw [hl]; exact hL)]
    exact (refEvents_large n a len cap hmax w hL).mono fun e w' ⟨h1, h2⟩ => ⟨h1, by rw [h2]; exact Below.refl _ _⟩
  · rw [evsCode_else (by rw [hl]; exact hL), hl]
    rcases hr with h0 | ⟨b, off, rfl, hr⟩
    · subst h0
      exact (refEvents_none n a cap w (by omega) (by omega)).mono fun e w' ⟨h1, h2⟩ => ⟨h1, by rw [h2]; exact Below.refl _ _⟩
    · exact refEvents_row n b off len cap es w hl (by omega) (by omega) (by omega) hr
end Go.Proofs.Ytjglbjiekndpeab
