/- folkmootkeep.ClocksRise, walked. -/
import Derived.Test.YteahkegjekaanabK1
import Derived.Test.YteahkegjekaanabR2
namespace Go.Proofs.Yteahkegjekaanab
open Go.RowKit Go.Shelf
set_option linter.unusedVariables false

theorem vc_rise {N : Int} {es : List Ev} (hv : Valid N es) {i j p : Nat} (hj : j < es.length) (hij : i < j) (hi : whoAt es i = (p : Int)) (hw : whoAt es j = (p : Int)) : vc es p i < vc es p j := by
  rw [vc_own hv p (i + 1) i (by omega) (by omega) hi, vc_own hv p (j + 1) j (by omega) hj hw]
  have h1 := pc_mono es p (show i + 1 ≤ j from hij)
  have h2 : pc es p (i + 1) = pc es p i + 1 := by show pc es p i + _ = _; rw [if_pos hi]
  omega

set_option maxRecDepth 100000 in
set_option maxHeartbeats 4000000 in
theorem rise_a (n len cap : Nat) (i j : Int) (a : Option Addr) (es : List Ev) (w : World)
    (HE : Hid (∀ w1, Below w.heap.size w w1 → Calls Try.prog 7 #[.int .i64 (n : Int), .slice a len cap] w1 fun e w2 => e = .returned (.bool true) ∧ Below w1.heap.size w1 w2))
    (HS : Hid (Calls Try.prog 14 #[.int .i64 (n : Int), .slice a len cap] w fun e W2 => (∃ O, e = .returned (.tuple #[.slice (some ⟨O, 0, none⟩) len len, .int .i64 0]) ∧ RowI W2 w.heap.size O len (sc es)) ∧ Below w.heap.size w W2))
    (HV : Hid (∀ w1, Below w.heap.size w w1 → Calls Try.prog 9 #[.int .i64 (n : Int), .slice a len cap] w1 fun e w2 => (∃ O R, e = .returned (.tuple #[.slice (some ⟨O, 0, none⟩) len len, .int .i64 0]) ∧ Rows2 es w.heap.size len n w2 O R) ∧ Below w1.heap.size w1 w2))
    (hmx' : (len : Int) ≤ 60) (hn6 : n ≤ 6) (hin : inB (len : Int) [i, j] = false) :
    Calls Try.prog 5 #[.int .i64 (n : Int), .slice a len cap, .int .i64 i, .int .i64 j] w fun e w2 => e = .returned (.bool true) ∧ Below w.heap.size w w2 := by
  go_enter Try.func5, Try.ntmps5
  go_wp2_with (first | (go_at_call 7; refine (HE.out _ hB3).mono ?_; rintro e w3 ⟨rfl, hB4⟩; have hB5 := below_from hB3 hB4) | (go_at_call 9; refine (HV.out _ hB1).mono ?_; rintro e w2 ⟨⟨O2, R, rfl, hO2⟩, hB2⟩; have hB3 := below_from hB1 hB2) | (go_at_call 14; refine (HS.out).mono ?_; rintro e w1 ⟨⟨O, rfl, hO⟩, hB1⟩))
  have HIN := hidMk (inside_any (len : Int) w3.heap.size 2 2 [i, j] (w3.alloc (.cells #[.int .i64 i, .int .i64 j] 3)).drew rfl (by decide) (fun q z hz => cells_lit w3 3 [i, j] q z hz))
  have HB6 : Hid (Below w.heap.size w (w3.alloc (.cells #[.int .i64 i, .int .i64 j] 3))) := hB5.alloc hB5.size _
  clear hO hO2
  clear HE HS HV hB1 hB2 hB3 hB4 hB5
  refine wp_region_any (by kernel_rfl) ?_
  refine wpAny_take (i := 0) (fuel := 42) (v := .slice a len cap) rfl (by kernel_rfl) (by kernel_rfl) (by kernel_rfl) (fun _ _ _ h => h) (.inl ⟨rfl, fun _ => rfl⟩) ?_
  refine wpAny_take (i := 1) (fuel := 41) (v := .int .i64 (len : Int)) rfl (by kernel_rfl) (by kernel_rfl) (by kernel_rfl) (fun _ _ _ h => h) (.inl ⟨rfl, fun _ => by go_simp⟩) ?_
  refine wpAny_take (i := 2) (fuel := 40) (v := .int .i64 i) rfl (by kernel_rfl) (by kernel_rfl) (by kernel_rfl) (fun _ _ _ h => h) (.inl ⟨rfl, fun _ => rfl⟩) ?_
  refine wpAny_take (i := 3) (fuel := 39) (v := .int .i64 j) rfl (by kernel_rfl) (by kernel_rfl) (by kernel_rfl) (fun _ _ _ h => h) (.inl ⟨rfl, fun _ => rfl⟩) ?_
  refine wpAny_one 4 (fuel := 38) (by kernel_rfl) rfl rfl (fun K4 hK4 => ?_)
  go_wp2
  refine wpAny_one 5 (fuel := 37) (by kernel_rfl) rfl rfl (fun K5 hK5 => ?_)
  go_wp2_with (go_at_call 11; refine (HIN.out).mono ?_; rintro e w4 ⟨rfl, hw4⟩; obtain rfl := hw4.symm)
  refine wpAny_rest 6 rfl (by kernel_rfl) (by kernel_rfl) ?_
  simp only [List.drop_succ_cons, List.drop_zero]
  repeat (go_big_quiet_step (fail))
  refine wpQuiet_nil ?_
  rintro _ ⟨nq, rfl⟩
  go_wp2
  go_ret
  exact ⟨rfl, below_drewN HB6.out.drew nq⟩

set_option maxRecDepth 100000 in
set_option maxHeartbeats 4000000 in
theorem rise_b (n len cap : Nat) (i j : Int) (a : Option Addr) (es : List Ev) (w : World)
    (HE : Hid (∀ w1, Below w.heap.size w w1 → Calls Try.prog 7 #[.int .i64 (n : Int), .slice a len cap] w1 fun e w2 => e = .returned (.bool true) ∧ Below w1.heap.size w1 w2))
    (HS : Hid (Calls Try.prog 14 #[.int .i64 (n : Int), .slice a len cap] w fun e W2 => (∃ O, e = .returned (.tuple #[.slice (some ⟨O, 0, none⟩) len len, .int .i64 0]) ∧ RowI W2 w.heap.size O len (sc es)) ∧ Below w.heap.size w W2))
    (HV : Hid (∀ w1, Below w.heap.size w w1 → Calls Try.prog 9 #[.int .i64 (n : Int), .slice a len cap] w1 fun e w2 => (∃ O R, e = .returned (.tuple #[.slice (some ⟨O, 0, none⟩) len len, .int .i64 0]) ∧ Rows2 es w.heap.size len n w2 O R) ∧ Below w1.heap.size w1 w2))
    (hmx' : (len : Int) ≤ 60) (hn6 : n ≤ 6) (hin : inB (len : Int) [i, j] = true) (hge : j ≤ i) :
    Calls Try.prog 5 #[.int .i64 (n : Int), .slice a len cap, .int .i64 i, .int .i64 j] w fun e w2 => e = .returned (.bool true) ∧ Below w.heap.size w w2 := by
  go_enter Try.func5, Try.ntmps5
  go_wp2_with (first | (go_at_call 7; refine (HE.out _ hB3).mono ?_; rintro e w3 ⟨rfl, hB4⟩; have hB5 := below_from hB3 hB4) | (go_at_call 9; refine (HV.out _ hB1).mono ?_; rintro e w2 ⟨⟨O2, R, rfl, hO2⟩, hB2⟩; have hB3 := below_from hB1 hB2) | (go_at_call 14; refine (HS.out).mono ?_; rintro e w1 ⟨⟨O, rfl, hO⟩, hB1⟩))
  have HIN := hidMk (inside_any (len : Int) w3.heap.size 2 2 [i, j] (w3.alloc (.cells #[.int .i64 i, .int .i64 j] 3)).drew rfl (by decide) (fun q z hz => cells_lit w3 3 [i, j] q z hz))
  have HB6 : Hid (Below w.heap.size w (w3.alloc (.cells #[.int .i64 i, .int .i64 j] 3))) := hB5.alloc hB5.size _
  clear hO hO2
  clear HE HS HV hB1 hB2 hB3 hB4 hB5
  refine wp_region_any (by kernel_rfl) ?_
  refine wpAny_take (i := 0) (fuel := 42) (v := .slice a len cap) rfl (by kernel_rfl) (by kernel_rfl) (by kernel_rfl) (fun _ _ _ h => h) (.inl ⟨rfl, fun _ => rfl⟩) ?_
  refine wpAny_take (i := 1) (fuel := 41) (v := .int .i64 (len : Int)) rfl (by kernel_rfl) (by kernel_rfl) (by kernel_rfl) (fun _ _ _ h => h) (.inl ⟨rfl, fun _ => by go_simp⟩) ?_
  refine wpAny_take (i := 2) (fuel := 40) (v := .int .i64 i) rfl (by kernel_rfl) (by kernel_rfl) (by kernel_rfl) (fun _ _ _ h => h) (.inl ⟨rfl, fun _ => rfl⟩) ?_
  refine wpAny_take (i := 3) (fuel := 39) (v := .int .i64 j) rfl (by kernel_rfl) (by kernel_rfl) (by kernel_rfl) (fun _ _ _ h => h) (.inl ⟨rfl, fun _ => rfl⟩) ?_
  refine wpAny_one 4 (fuel := 38) (by kernel_rfl) rfl rfl (fun K4 hK4 => ?_)
  go_wp2
  refine wpAny_one 5 (fuel := 37) (by kernel_rfl) rfl rfl (fun K5 hK5 => ?_)
  go_wp2_with (go_at_call 11; refine (HIN.out).mono ?_; rintro e w4 ⟨rfl, hw4⟩; obtain rfl := hw4.symm)
  refine wpAny_rest 6 rfl (by kernel_rfl) (by kernel_rfl) ?_
  simp only [List.drop_succ_cons, List.drop_zero]
  repeat (go_big_quiet_step (fail))
  refine wpQuiet_nil ?_
  rintro _ ⟨nq, rfl⟩
  go_wp2
  go_ret
  exact ⟨rfl, below_drewN HB6.out.drew nq⟩

set_option maxRecDepth 100000 in
set_option maxHeartbeats 4000000 in
theorem rise_c (n len cap : Nat) (i0 j0 b off : Nat) (es : List Ev) (w : World)
    (HE : Hid (∀ w1, Below w.heap.size w w1 → Calls Try.prog 7 #[.int .i64 (n : Int), .slice (some ⟨b, off, none⟩) len cap] w1 fun e w2 => e = .returned (.bool true) ∧ Below w1.heap.size w1 w2))
    (HS : Hid (Calls Try.prog 14 #[.int .i64 (n : Int), .slice (some ⟨b, off, none⟩) len cap] w fun e W2 => (∃ O, e = .returned (.tuple #[.slice (some ⟨O, 0, none⟩) len len, .int .i64 0]) ∧ RowI W2 w.heap.size O len (sc es)) ∧ Below w.heap.size w W2))
    (HV : Hid (∀ w1, Below w.heap.size w w1 → Calls Try.prog 9 #[.int .i64 (n : Int), .slice (some ⟨b, off, none⟩) len cap] w1 fun e w2 => (∃ O R, e = .returned (.tuple #[.slice (some ⟨O, 0, none⟩) len len, .int .i64 0]) ∧ Rows2 es w.heap.size len n w2 O R) ∧ Below w1.heap.size w1 w2))
    (hmx' : (len : Int) ≤ 60) (hn6 : n ≤ 6) (hin : inB (len : Int) [(i0 : Int), (j0 : Int)] = true) (hlt : i0 < j0) (hi0 : i0 < len) (hj0 : j0 < len) (hl : es.length = len) (HR : Hid (EvRow w b off es)) (hw : (whoAt es i0 != whoAt es j0) = true) :
    Calls Try.prog 5 #[.int .i64 (n : Int), .slice (some ⟨b, off, none⟩) len cap, .int .i64 (i0 : Int), .int .i64 (j0 : Int)] w fun e w2 => e = .returned (.bool true) ∧ Below w.heap.size w w2 := by
  have hi' : (i0 : Int) < (len : Int) := by omega
  have hj' : (j0 : Int) < (len : Int) := by omega
  have hlt' : (i0 : Int) < (j0 : Int) := by omega
  have hge : decide ((j0 : Int) ≤ (i0 : Int)) = false := by simp; omega
  have hge2 : decide (j0 ≤ i0) = false := by simp; omega
  go_enter Try.func5, Try.ntmps5
  go_wp2_with (first | (go_at_call 7; refine (HE.out _ hB3).mono ?_; rintro e w3 ⟨rfl, hB4⟩; have hB5 := below_from hB3 hB4) | (go_at_call 9; refine (HV.out _ hB1).mono ?_; rintro e w2 ⟨⟨O2, R, rfl, hO2⟩, hB2⟩; have hB3 := below_from hB1 hB2) | (go_at_call 14; refine (HS.out).mono ?_; rintro e w1 ⟨⟨O, rfl, hO⟩, hB1⟩))
  have HIN := hidMk (inside_any (len : Int) w3.heap.size 2 2 [(i0 : Int), (j0 : Int)] (w3.alloc (.cells #[.int .i64 (i0 : Int), .int .i64 (j0 : Int)] 3)).drew rfl (by decide) (fun q z hz => cells_lit w3 3 [(i0 : Int), (j0 : Int)] q z hz))
  have HB6 : Hid (Below w.heap.size w (w3.alloc (.cells #[.int .i64 (i0 : Int), .int .i64 (j0 : Int)] 3))) := hB5.alloc hB5.size _
  have hwi : (w3.alloc (.cells #[.int .i64 (i0 : Int), .int .i64 (j0 : Int)] 3)).cell? ⟨b, off + i0 * 3 + 1, none⟩ = some (.int .i64 (whoAt es i0)) := by
    obtain ⟨ev, he, _, _, _, hd2, _⟩ := (HR.out.below HR.out.1 HB6.out).at (k := i0) (by omega)
    rw [whoAt_eq he]; exact hd2
  have hwj : (w3.alloc (.cells #[.int .i64 (i0 : Int), .int .i64 (j0 : Int)] 3)).cell? ⟨b, off + j0 * 3 + 1, none⟩ = some (.int .i64 (whoAt es j0)) := by
    obtain ⟨ev, he, _, _, _, hd2, _⟩ := (HR.out.below HR.out.1 HB6.out).at (k := j0) (by omega)
    rw [whoAt_eq he]; exact hd2
  clear hO hO2
  clear HE HS HV hB1 hB2 hB3 hB4 hB5
  refine wp_region_any (by kernel_rfl) ?_
  refine wpAny_take (i := 0) (fuel := 42) (v := .slice (some ⟨b, off, none⟩) len cap) rfl (by kernel_rfl) (by kernel_rfl) (by kernel_rfl) (fun _ _ _ h => h) (.inl ⟨rfl, fun _ => rfl⟩) ?_
  refine wpAny_take (i := 1) (fuel := 41) (v := .int .i64 (len : Int)) rfl (by kernel_rfl) (by kernel_rfl) (by kernel_rfl) (fun _ _ _ h => h) (.inl ⟨rfl, fun _ => by go_simp⟩) ?_
  refine wpAny_take (i := 2) (fuel := 40) (v := .int .i64 (i0 : Int)) rfl (by kernel_rfl) (by kernel_rfl) (by kernel_rfl) (fun _ _ _ h => h) (.inl ⟨rfl, fun _ => rfl⟩) ?_
  refine wpAny_take (i := 3) (fuel := 39) (v := .int .i64 (j0 : Int)) rfl (by kernel_rfl) (by kernel_rfl) (by kernel_rfl) (fun _ _ _ h => h) (.inl ⟨rfl, fun _ => rfl⟩) ?_
  refine wpAny_one 4 (fuel := 38) (by kernel_rfl) rfl rfl (fun K4 hK4 => ?_)
  go_wp2
  refine wpAny_one 5 (fuel := 37) (by kernel_rfl) rfl rfl (fun K5 hK5 => ?_)
  go_wp2_with (go_at_call 11; refine (HIN.out).mono ?_; rintro e w4 ⟨rfl, hw4⟩; obtain rfl := hw4.symm)
  refine wpAny_rest 6 rfl (by kernel_rfl) (by kernel_rfl) ?_
  simp only [List.drop_succ_cons, List.drop_zero]
  repeat (go_big_quiet_step (fail))
  refine wpQuiet_nil ?_
  rintro _ ⟨nq, rfl⟩
  go_wp2
  go_ret
  exact ⟨rfl, below_drewN HB6.out.drew nq⟩

set_option maxRecDepth 100000 in
set_option maxHeartbeats 4000000 in
theorem rise_d (n len cap : Nat) (i0 j0 b off p0 : Nat) (es : List Ev) (w : World)
    (HE : Hid (∀ w1, Below w.heap.size w w1 → Calls Try.prog 7 #[.int .i64 (n : Int), .slice (some ⟨b, off, none⟩) len cap] w1 fun e w2 => e = .returned (.bool true) ∧ Below w1.heap.size w1 w2))
    (HS : Hid (Calls Try.prog 14 #[.int .i64 (n : Int), .slice (some ⟨b, off, none⟩) len cap] w fun e W2 => (∃ O, e = .returned (.tuple #[.slice (some ⟨O, 0, none⟩) len len, .int .i64 0]) ∧ RowI W2 w.heap.size O len (sc es)) ∧ Below w.heap.size w W2))
    (HV : Hid (∀ w1, Below w.heap.size w w1 → Calls Try.prog 9 #[.int .i64 (n : Int), .slice (some ⟨b, off, none⟩) len cap] w1 fun e w2 => (∃ O R, e = .returned (.tuple #[.slice (some ⟨O, 0, none⟩) len len, .int .i64 0]) ∧ Rows2 es w.heap.size len n w2 O R) ∧ Below w1.heap.size w1 w2))
    (hmx' : (len : Int) ≤ 60) (hn6 : n ≤ 6) (hin : inB (len : Int) [(i0 : Int), (j0 : Int)] = true) (hlt : i0 < j0) (hi0 : i0 < len) (hj0 : j0 < len) (hl : es.length = len) (HR : Hid (EvRow w b off es)) (hp0 : whoAt es i0 = (p0 : Int)) (hpj : whoAt es j0 = (p0 : Int)) (hp0n : p0 < n) (hs : sc es i0 < sc es j0) (hvx : vc es p0 i0 < vc es p0 j0) :
    Calls Try.prog 5 #[.int .i64 (n : Int), .slice (some ⟨b, off, none⟩) len cap, .int .i64 (i0 : Int), .int .i64 (j0 : Int)] w fun e w2 => e = .returned (.bool true) ∧ Below w.heap.size w w2 := by
  have hi' : (i0 : Int) < (len : Int) := by omega
  have hj' : (j0 : Int) < (len : Int) := by omega
  have hlt' : (i0 : Int) < (j0 : Int) := by omega
  have hge : decide ((j0 : Int) ≤ (i0 : Int)) = false := by simp; omega
  have hge2 : decide (j0 ≤ i0) = false := by simp; omega
  have hs' : ((sc es i0 : Nat) : Int) < ((sc es j0 : Nat) : Int) := by omega
  have hvv : ((vc es p0 i0 : Nat) : Int) < ((vc es p0 j0 : Nat) : Int) := by omega
  have hp0' : (p0 : Int) < (n : Int) := by omega
  go_enter Try.func5, Try.ntmps5
  go_wp2_with (first | (go_at_call 7; refine (HE.out _ hB3).mono ?_; rintro e w3 ⟨rfl, hB4⟩; have hB5 := below_from hB3 hB4) | (go_at_call 9; refine (HV.out _ hB1).mono ?_; rintro e w2 ⟨⟨O2, R, rfl, hO2⟩, hB2⟩; have hB3 := below_from hB1 hB2) | (go_at_call 14; refine (HS.out).mono ?_; rintro e w1 ⟨⟨O, rfl, hO⟩, hB1⟩))
  have HIN := hidMk (inside_any (len : Int) w3.heap.size 2 2 [(i0 : Int), (j0 : Int)] (w3.alloc (.cells #[.int .i64 (i0 : Int), .int .i64 (j0 : Int)] 3)).drew rfl (by decide) (fun q z hz => cells_lit w3 3 [(i0 : Int), (j0 : Int)] q z hz))
  have HB6 : Hid (Below w.heap.size w (w3.alloc (.cells #[.int .i64 (i0 : Int), .int .i64 (j0 : Int)] 3))) := hB5.alloc hB5.size _
  have hwi : (w3.alloc (.cells #[.int .i64 (i0 : Int), .int .i64 (j0 : Int)] 3)).cell? ⟨b, off + i0 * 3 + 1, none⟩ = some (.int .i64 (whoAt es i0)) := by
    obtain ⟨ev, he, _, _, _, hd2, _⟩ := (HR.out.below HR.out.1 HB6.out).at (k := i0) (by omega)
    rw [whoAt_eq he]; exact hd2
  have hwj : (w3.alloc (.cells #[.int .i64 (i0 : Int), .int .i64 (j0 : Int)] 3)).cell? ⟨b, off + j0 * 3 + 1, none⟩ = some (.int .i64 (whoAt es j0)) := by
    obtain ⟨ev, he, _, _, _, hd2, _⟩ := (HR.out.below HR.out.1 HB6.out).at (k := j0) (by omega)
    rw [whoAt_eq he]; exact hd2
  have hOr := owns_below (owns_below hO hB2) hB4
  have hO2r := rows2_below hO2 hB4
  have hal := (Below.refl w3.heap.size w3).alloc (Nat.le_refl _) (.cells #[.int .i64 (i0 : Int), .int .i64 (j0 : Int)] 3)
  have hO3 := owns_below hOr hal
  have hO4 := rows2_below hO2r hal
  rw [hp0] at hwi
  rw [hpj] at hwj
  have hsi : (w3.alloc (.cells #[.int .i64 (i0 : Int), .int .i64 (j0 : Int)] 3)).cell? ⟨O, i0, none⟩ = some (.int .i64 ((sc es i0 : Nat) : Int)) := by
    rw [World.ownsRow.cellAt hO3 i0 (by omega), List.getElem?_map, rowN_at hi0]; simp [encN]
  have hsj : (w3.alloc (.cells #[.int .i64 (i0 : Int), .int .i64 (j0 : Int)] 3)).cell? ⟨O, j0, none⟩ = some (.int .i64 ((sc es j0 : Nat) : Int)) := by
    rw [World.ownsRow.cellAt hO3 j0 (by omega), List.getElem?_map, rowN_at hj0]; simp [encN]
  have hvi := rows2_out hO4 hi0
  have hvj := rows2_out hO4 hj0
  have hxi := rows2_in hO4 hi0 hp0n
  have hxj := rows2_in hO4 hj0 hp0n
  clear hO hO2 hOr hO2r hO3 hO4 hal
  clear HE HS HV hB1 hB2 hB3 hB4 hB5
  refine wp_region_any (by kernel_rfl) ?_
  refine wpAny_take (i := 0) (fuel := 42) (v := .slice (some ⟨b, off, none⟩) len cap) rfl (by kernel_rfl) (by kernel_rfl) (by kernel_rfl) (fun _ _ _ h => h) (.inl ⟨rfl, fun _ => rfl⟩) ?_
  refine wpAny_take (i := 1) (fuel := 41) (v := .int .i64 (len : Int)) rfl (by kernel_rfl) (by kernel_rfl) (by kernel_rfl) (fun _ _ _ h => h) (.inl ⟨rfl, fun _ => by go_simp⟩) ?_
  refine wpAny_take (i := 2) (fuel := 40) (v := .int .i64 (i0 : Int)) rfl (by kernel_rfl) (by kernel_rfl) (by kernel_rfl) (fun _ _ _ h => h) (.inl ⟨rfl, fun _ => rfl⟩) ?_
  refine wpAny_take (i := 3) (fuel := 39) (v := .int .i64 (j0 : Int)) rfl (by kernel_rfl) (by kernel_rfl) (by kernel_rfl) (fun _ _ _ h => h) (.inl ⟨rfl, fun _ => rfl⟩) ?_
  refine wpAny_one 4 (fuel := 38) (by kernel_rfl) rfl rfl (fun K4 hK4 => ?_)
  go_wp2
  refine wpAny_one 5 (fuel := 37) (by kernel_rfl) rfl rfl (fun K5 hK5 => ?_)
  go_wp2_with (go_at_call 11; refine (HIN.out).mono ?_; rintro e w4 ⟨rfl, hw4⟩; obtain rfl := hw4.symm)
  refine wpAny_rest 6 rfl (by kernel_rfl) (by kernel_rfl) ?_
  simp only [List.drop_succ_cons, List.drop_zero]
  repeat (go_big_quiet_step (fail))
  refine wpQuiet_nil ?_
  rintro _ ⟨nq, rfl⟩
  go_wp2
  go_quiet (fail)
  go_wp2
  go_ret
  exact ⟨by simp, by first | exact below_drewN HB6.out.drew _ | exact below_drewN (below_drewN HB6.out.drew _) _⟩

set_option maxHeartbeats 2000000 in
theorem clocksRise_walk (N i j : Int) (a : Option Addr) (len cap : Nat) (es : List Ev) (w : World) (h : CameEv w a len cap es) :
    Calls Try.prog 5 #[.int .i64 N, .slice a len cap, .int .i64 i, .int .i64 j] w fun e w2 => e = .returned (.bool true) ∧ Below w.heap.size w w2 := by
  have HE : Hid (∀ w1, Below w.heap.size w w1 → Calls Try.prog 7 #[.int .i64 N, .slice a len cap] w1 fun e w2 => e = .returned (.bool (evsCode N es == 0)) ∧ Below w1.heap.size w1 w2) := fun w1 hb => events_from N a len cap es w1 w1 (h.below hb) (Below.refl _ _)
  by_cases hz : evsCode N es = 0
  · have hzb : (evsCode N es == 0) = true := by simpa using hz
    rw [hzb] at HE
    have hl := h.1
    have hv := valid_of hz
    obtain ⟨n, rfl⟩ : ∃ n : Nat, N = n := ⟨N.toNat, by have := hv.1; omega⟩
    have HS := hidMk (scalars_ok (n : Int) a len cap es w h hz)
    have HV : Hid (∀ w1, Below w.heap.size w w1 → Calls Try.prog 9 #[.int .i64 (n : Int), .slice a len cap] w1 fun e w2 => (∃ O R, e = .returned (.tuple #[.slice (some ⟨O, 0, none⟩) len len, .int .i64 0]) ∧ Rows2 es w.heap.size len n w2 O R) ∧ Below w1.heap.size w1 w2) := fun w1 hb => Vectors_rel n a len cap es w w1 h hz hb
    have hmx : (len : Int) ≤ 60 := by have := hv.2.2.1; omega
    have hn6 : n ≤ 6 := by have := hv.2.1; omega
    by_cases hin : inB (len : Int) [i, j] = true
    · have hall : (0 ≤ i ∧ i < (len : Int)) ∧ (0 ≤ j ∧ j < (len : Int)) := by simpa [inB] using hin
      by_cases hge : j ≤ i
      · exact rise_b n len cap i j a es w HE HS HV hmx hn6 hin hge
      · obtain ⟨i0, rfl⟩ : ∃ x : Nat, i = x := ⟨i.toNat, by omega⟩
        obtain ⟨j0, rfl⟩ : ∃ x : Nat, j = x := ⟨j.toNat, by omega⟩
        rcases h.2.2.2 with h0 | ⟨b, off, rfl, hr⟩
        · omega
        by_cases hw : whoAt es i0 = whoAt es j0
        · obtain ⟨p0, hp0, hpn⟩ := who_nat hv (i := i0) (by omega)
          have hb := bef_same hv (i := i0) (j := j0) (by omega) (by omega) hw
          exact rise_d n len cap i0 j0 b off p0 es w HE HS HV hmx hn6 hin (by omega) (by omega) (by omega) hl hr hp0 (by rw [← hw]; exact hp0) (by omega) (sc_bef hv (j0 + 1) (by omega) hb) (vc_rise hv (by omega) (by omega) hp0 (by rw [← hw]; exact hp0))
        · exact rise_c n len cap i0 j0 b off es w HE HS HV hmx hn6 hin (by omega) (by omega) (by omega) hl hr (bne_iff_ne.2 hw)
    · exact rise_a n len cap i j a es w HE HS HV hmx hn6 (by simpa using hin)
  · have hzb : (evsCode N es == 0) = false := by simpa using hz
    have hzn : (evsCode N es != 0) = true := by simpa using hz
    have HS := hidMk (scalars_err N a len cap es w h hz)
    have HV : Hid (∀ w1, Below w.heap.size w w1 → Calls Try.prog 9 #[.int .i64 N, .slice a len cap] w1 fun e w2 => e = .returned (.tuple #[.slice none 0 0, .int .i64 (evsCode N es)]) ∧ Below w1.heap.size w1 w2) := fun w1 hb => Vectors_err N a len cap es w1 (h.below hb) hz
    rw [hzb] at HE
    generalize evsCode N es = c at HS HV hzn
    clear h hz hzb
    go_enter Try.func5, Try.ntmps5
    go_wp2_with (first | (go_at_call 7; refine (HE.out _ hB3).mono ?_; rintro e w3 ⟨rfl, hB4⟩; have hB5 := below_from hB3 hB4) | (go_at_call 9; refine (HV.out _ hB1).mono ?_; rintro e w2 ⟨rfl, hB2⟩; have hB3 := below_from hB1 hB2) | (go_at_call 14; refine (HS.out).mono ?_; rintro e w1 ⟨rfl, hB1⟩))
    go_ret
    exact ⟨by simp, hB5⟩
end Go.Proofs.Yteahkegjekaanab
