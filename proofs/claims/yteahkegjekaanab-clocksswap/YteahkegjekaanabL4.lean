/- folkmootkeep.ClocksSwap, walked. -/
import Derived.Test.YteahkegjekaanabL3
namespace Go.Proofs.Yteahkegjekaanab
open Go.RowKit Go.Shelf
set_option linter.unusedVariables false

set_option maxRecDepth 100000 in
set_option maxHeartbeats 4000000 in
theorem swap_short (n len cap : Nat) (k : Int) (a : Option Addr) (es : List Ev) (w : World)
    (HE : Hid (Calls Try.prog 7 #[.int .i64 (n : Int), .slice a len cap] w fun e w2 => e = .returned (.bool true) ∧ Below w.heap.size w w2))
    (HV : Hid (∀ w1, Below w.heap.size w w1 → Calls Try.prog 9 #[.int .i64 (n : Int), .slice a len cap] w1 fun e w2 => (∃ O R, e = .returned (.tuple #[.slice (some ⟨O, 0, none⟩) len len, .int .i64 0]) ∧ Rows2 es w.heap.size len n w2 O R) ∧ Below w1.heap.size w1 w2))
    (hl : (len : Int) < 2) :
    Calls Try.prog 4 #[.int .i64 (n : Int), .slice a len cap, .int .u8 k] w fun e w2 => e = .returned (.bool true) ∧ Below w.heap.size w w2 := by
  go_enter Try.func4, Try.ntmps4
  go_wp2_with (first | (go_at_call 9; refine (HV.out _ hB1).mono ?_; rintro e w2 ⟨⟨O, R, rfl, hO⟩, hB2⟩; have hB3 := below_from hB1 hB2) | (go_at_call 7; refine (HE.out).mono ?_; rintro e w1 ⟨rfl, hB1⟩))
  go_ret
  exact ⟨rfl, hB3⟩

set_option maxRecDepth 100000 in
set_option maxHeartbeats 4000000 in
theorem swap_same (n i0 kn b off len cap : Nat) (es : List Ev) (w : World)
    (HE : Hid (Calls Try.prog 7 #[.int .i64 (n : Int), .slice (some ⟨b, off, none⟩) len cap] w fun e w2 => e = .returned (.bool true) ∧ Below w.heap.size w w2))
    (HV : Hid (∀ w1, Below w.heap.size w w1 → Calls Try.prog 9 #[.int .i64 (n : Int), .slice (some ⟨b, off, none⟩) len cap] w1 fun e w2 => (∃ O R, e = .returned (.tuple #[.slice (some ⟨O, 0, none⟩) len len, .int .i64 0]) ∧ Rows2 es w.heap.size len n w2 O R) ∧ Below w1.heap.size w1 w2))
    (hl2 : 2 ≤ len) (h60 : len ≤ 60) (hkn : kn ≤ 255) (hi1 : i0 + 1 < len) (hmod : (kn : Int).tmod ((len : Int) - 1) = (i0 : Int)) (hmod2 : (kn : Int) % ((len : Int) - 1) = (i0 : Int))
    (x y z u : Int) (HK : Hid (∀ w1, Below w.heap.size w w1 → w1.cell? ⟨b, off + i0 * 3 + 1, none⟩ = some (.int .i64 x) ∧ w1.cell? ⟨b, off + (i0 + 1) * 3 + 1, none⟩ = some (.int .i64 y) ∧ w1.cell? ⟨b, off + (i0 + 1) * 3, none⟩ = some (.int .i64 z) ∧ w1.cell? ⟨b, off + (i0 + 1) * 3 + 2, none⟩ = some (.int .i64 u)))
    (hc : (x == y) = true ∨ ((x == y) = false ∧ z = 3 ∧ u = (i0 : Int))) :
    Calls Try.prog 4 #[.int .i64 (n : Int), .slice (some ⟨b, off, none⟩) len cap, .int .u8 (kn : Int)] w fun e w2 => e = .returned (.bool true) ∧ Below w.heap.size w w2 := by
  have h60' : (len : Int) ≤ 60 := by omega
  have hl2' : (2 : Int) ≤ (len : Int) := by omega
  have hi1' : (i0 : Int) + 1 < (len : Int) := by omega
  rcases hc with hc | ⟨hc, rfl, rfl⟩
  · go_enter Try.func4, Try.ntmps4
    go_wp2_with (first | (go_at_call 9; refine (HV.out _ hB1).mono ?_; rintro e w2 ⟨⟨O, R, rfl, hO⟩, hB2⟩; have hB3 := below_from hB1 hB2) | (go_at_call 7; refine (HE.out).mono ?_; rintro e w1 ⟨rfl, hB1⟩))
    obtain ⟨k1, k2, k3, k4⟩ := HK.out _ hB3
    go_quiet (fail)
    go_wp2
    go_ret
    exact ⟨rfl, below_drewN hB3 _⟩
  · go_enter Try.func4, Try.ntmps4
    go_wp2_with (first | (go_at_call 9; refine (HV.out _ hB1).mono ?_; rintro e w2 ⟨⟨O, R, rfl, hO⟩, hB2⟩; have hB3 := below_from hB1 hB2) | (go_at_call 7; refine (HE.out).mono ?_; rintro e w1 ⟨rfl, hB1⟩))
    obtain ⟨k1, k2, k3, k4⟩ := HK.out _ hB3
    go_quiet (fail)
    go_wp2
    go_ret
    exact ⟨rfl, below_drewN hB3 _⟩

set_option maxRecDepth 100000 in
set_option maxHeartbeats 2000000 in
theorem clocksSwap_walk (N : Int) (k : Int) (a : Option Addr) (len cap : Nat) (es : List Ev) (w : World) (h : CameEv w a len cap es) (hk0 : 0 ≤ k) (hk1 : k ≤ 255) :
    Calls Try.prog 4 #[.int .i64 N, .slice a len cap, .int .u8 k] w fun e w2 => e = .returned (.bool true) ∧ Below w.heap.size w w2 := by
  have HE : Hid (Calls Try.prog 7 #[.int .i64 N, .slice a len cap] w fun e w2 => e = .returned (.bool (evsCode N es == 0)) ∧ Below w.heap.size w w2) := events_from N a len cap es w w h (Below.refl _ _)
  have HC : Hid (∀ w1, Below w.heap.size w w1 → Calls Try.prog 8 #[.int .i64 N, .slice a len cap] w1 fun e w2 => e = .returned (.int .i64 (evsCode N es)) ∧ Below w.heap.size w w2) := fun w1 hb => check_from N a len cap es w w1 h hb
  by_cases hz : evsCode N es = 0
  · have hzb : (evsCode N es == 0) = true := by simpa using hz
    rw [hzb] at HE
    have hl := h.1
    have hv := valid_of hz
    obtain ⟨n, rfl⟩ : ∃ n : Nat, N = n := ⟨N.toNat, by have := hv.1; omega⟩
    obtain ⟨kn, rfl⟩ : ∃ x : Nat, k = x := ⟨k.toNat, by omega⟩
    have HV : Hid (∀ w1, Below w.heap.size w w1 → Calls Try.prog 9 #[.int .i64 (n : Int), .slice a len cap] w1 fun e w2 => (∃ O R, e = .returned (.tuple #[.slice (some ⟨O, 0, none⟩) len len, .int .i64 0]) ∧ Rows2 es w.heap.size len n w2 O R) ∧ Below w1.heap.size w1 w2) := fun w1 hb => Vectors_rel n a len cap es w w1 h hz hb
    have h60 : len ≤ 60 := by have := hv.2.2.1; omega
    have hn6 : n ≤ 6 := by have := hv.2.1; omega
    by_cases hl2 : len < 2
    · exact swap_short n len cap (kn : Int) a es w HE HV (by omega)
    · rcases h.2.2.2 with h0 | ⟨b, off, rfl, hr⟩
      · omega
      obtain ⟨i0, hi0⟩ : ∃ i0, kn % (len - 1) = i0 := ⟨_, rfl⟩
      have hi1 : i0 + 1 < len := by rw [← hi0]; have := Nat.mod_lt kn (show 0 < len - 1 by omega); omega
      have hle : ((len : Int) - 1) = ((len - 1 : Nat) : Int) := by omega
      have hmod2 : (kn : Int) % ((len : Int) - 1) = (i0 : Int) := by rw [hle, ← hi0]; rfl
      have hmod : (kn : Int).tmod ((len : Int) - 1) = (i0 : Int) := by rw [hle, ← hi0]; rfl
      obtain ⟨ea, hea⟩ : ∃ ea, es[i0]? = some ea := ⟨_, List.getElem?_eq_getElem (by rw [hl]; omega)⟩
      obtain ⟨eb, heb⟩ : ∃ eb, es[i0 + 1]? = some eb := ⟨_, List.getElem?_eq_getElem (by rw [hl]; exact hi1)⟩
      have HK : Hid (∀ w1, Below w.heap.size w w1 → w1.cell? ⟨b, off + i0 * 3 + 1, none⟩ = some (.int .i64 ea.who) ∧ w1.cell? ⟨b, off + (i0 + 1) * 3 + 1, none⟩ = some (.int .i64 eb.who) ∧ w1.cell? ⟨b, off + (i0 + 1) * 3, none⟩ = some (.int .i64 eb.kind) ∧ w1.cell? ⟨b, off + (i0 + 1) * 3 + 2, none⟩ = some (.int .i64 eb.of)) := fun w1 hb => by
        have h2 := hr.below hr.1 hb
        exact ⟨(h2.2.2 i0 ea hea).2.1, (h2.2.2 (i0 + 1) eb heb).2.1, (h2.2.2 (i0 + 1) eb heb).1, (h2.2.2 (i0 + 1) eb heb).2.2⟩
      cases hww : (ea.who == eb.who) with
      | true => exact swap_same n i0 kn b off len cap es w HE HV (by omega) h60 (by omega) hi1 hmod hmod2 _ _ _ _ HK (.inl hww)
      | false =>
        have hw : (whoAt es i0 == whoAt es (i0 + 1)) = false := by rw [whoAt_at hea, whoAt_at heb]; exact hww
        have HK2 : Hid (∀ w1, Below w.heap.size w w1 → w1.cell? ⟨b, off + (i0 + 1) * 3, none⟩ = some (.int .i64 eb.kind) ∧ w1.cell? ⟨b, off + (i0 + 1) * 3 + 2, none⟩ = some (.int .i64 eb.of)) := fun w1 hb => (HK.out w1 hb).2.2
        by_cases c1 : eb.kind = 3
        · by_cases c2 : eb.of = (i0 : Int)
          · exact swap_same n i0 kn b off len cap es w HE HV (by omega) h60 (by omega) hi1 hmod hmod2 _ _ _ _ HK (.inr ⟨hww, c1, c2⟩)
          · refine swap_mainB n i0 kn b off len cap es w HE HV hl (by omega) h60 hn6 hr hv hz (by omega) hi1 hmod hmod2 hw ?_ eb.kind eb.of HK2 c1 (by simpa using c2)
            intro e
            unfold takenAt at e
            rw [heb] at e
            simp only [c1, if_true, Option.some.injEq] at e
            obtain ⟨t, ht, _⟩ := (hv.2.2.2 (i0 + 1) eb heb).2.2.2 c1
            exact c2 (by omega)
        · refine swap_mainA n i0 kn b off len cap es w HE HV hl (by omega) h60 hn6 hr hv hz (by omega) hi1 hmod hmod2 hw ?_ eb.kind eb.of HK2 (by simpa using c1)
          intro e
          unfold takenAt at e
          rw [heb] at e
          simp [c1] at e
  · have hzb : (evsCode N es == 0) = false := by simpa using hz
    have hzn : (evsCode N es != 0) = true := by simpa using hz
    rw [hzb] at HE
    generalize evsCode N es = c at HC hzn
    clear h hz hzb
    go_enter Try.func4, Try.ntmps4
    go_wp2_with (first | (go_at_call 8; refine (HC.out _ hB1).mono ?_; rintro e w2 ⟨rfl, hB2⟩) | (go_at_call 7; refine (HE.out).mono ?_; rintro e w1 ⟨rfl, hB1⟩))
    go_ret
    exact ⟨rfl, hB2⟩
end Go.Proofs.Yteahkegjekaanab
