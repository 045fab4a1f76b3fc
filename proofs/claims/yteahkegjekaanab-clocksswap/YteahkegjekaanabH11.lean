/- Contracts of clocks.Scalars, Vectors, Before where the events are wrong; of Vectors and Before where they may be. -/
import Derived.Test.YteahkegjekaanabH10
namespace Go.Proofs.Yteahkegjekaanab
open Go.RowKit Go.Shelf
set_option linter.unusedVariables false

set_option maxHeartbeats 1000000 in
theorem scalars_err (N : Int) (a : Option Addr) (len cap : Nat) (es : List Ev) (w : World) (h : CameEv w a len cap es) (hz : evsCode N es ≠ 0) :
    Calls Try.prog 14 #[.int .i64 N, .slice a len cap] w fun e W2 => e = .returned (.tuple #[.slice none 0 0, .int .i64 (evsCode N es)]) ∧ Below w.heap.size w W2 := by
  have HC := hidMk (check_any N a len cap es w h)
  have hne : (evsCode N es != 0) = true := by simpa using hz
  clear h hz
  generalize evsCode N es = c at HC hne
  go_enter Try.func14, Try.ntmps14
  go_wp2_with (go_at_call 8; refine (HC.out).mono ?_; rintro e w1 ⟨rfl, hB1⟩)
  go_ret2
  exact ⟨rfl, hB1⟩

set_option maxHeartbeats 1000000 in
theorem Vectors_err (N : Int) (a : Option Addr) (len cap : Nat) (es : List Ev) (w : World) (h : CameEv w a len cap es) (hz : evsCode N es ≠ 0) :
    Calls Try.prog 9 #[.int .i64 N, .slice a len cap] w fun e W2 => e = .returned (.tuple #[.slice none 0 0, .int .i64 (evsCode N es)]) ∧ Below w.heap.size w W2 := by
  have HC := hidMk (check_any N a len cap es w h)
  have hne : (evsCode N es != 0) = true := by simpa using hz
  clear h hz
  generalize evsCode N es = c at HC hne
  go_enter Try.func9, Try.ntmps9
  go_wp2_with (go_at_call 8; refine (HC.out).mono ?_; rintro e w1 ⟨rfl, hB1⟩)
  go_ret2
  exact ⟨rfl, hB1⟩

/-- The rows of the numbers of all events. -/
def Rows2 (es : List Ev) (base len n : Nat) (W : World) (O : Nat) (R : Nat → Nat) : Prop := RowV W base O len n R len ∧ ∀ j, j < len → RowI W base (R j) n (fun p => vc es p j)

set_option maxHeartbeats 1000000 in
theorem Vectors_ok (n : Nat) (a : Option Addr) (len cap : Nat) (es : List Ev) (w : World) (h : CameEv w a len cap es) (hz : evsCode (n : Int) es = 0) :
    Calls Try.prog 9 #[.int .i64 (n : Int), .slice a len cap] w fun e W2 => (∃ O R, e = .returned (.tuple #[.slice (some ⟨O, 0, none⟩) len len, .int .i64 0]) ∧ Rows2 es w.heap.size len n W2 O R) ∧ Below w.heap.size w W2 := by
  have HC := hidMk (check_any (n : Int) a len cap es w h)
  rw [hz] at HC
  have HVV : Hid (∀ w1, Below w.heap.size w w1 → Calls Try.prog 18 #[.int .i64 (n : Int), .slice a len cap] w1 fun e W2 => (∃ O R, e = .returned (.slice (some ⟨O, 0, none⟩) len len) ∧ RowV W2 w1.heap.size O len n R len ∧ ∀ j, j < len → RowI W2 w1.heap.size (R j) n (fun p => vc es p j)) ∧ Below w1.heap.size w1 W2) :=
    fun w1 hb => vectors_ok n a len cap es w1 (h.below hb) (valid_of hz)
  clear h hz
  go_enter Try.func9, Try.ntmps9
  go_wp2_with (first | (go_at_call 18; refine (HVV.out _ hB1).mono ?_; rintro e w2 ⟨⟨O, R, rfl, hO, hR⟩, hB2⟩) | (go_at_call 8; refine (HC.out).mono ?_; rintro e w1 ⟨rfl, hB1⟩))
  go_ret2
  exact ⟨⟨O, R, rfl, owns_le hO hB1.size, fun j hj => owns_le (hR j hj) hB1.size⟩, hB1.trans (hB2.mono hB1.size)⟩

/-- Is z a place of a list of so many? -/
def stB (len : Nat) (z : Int) : Bool := decide (0 ≤ z ∧ z < (len : Int))

set_option maxHeartbeats 1000000 in
theorem before_err (N i j : Int) (a : Option Addr) (len cap : Nat) (es : List Ev) (w : World) (h : CameEv w a len cap es) (hz : evsCode N es ≠ 0) :
    Calls Try.prog 10 #[.int .i64 N, .slice a len cap, .int .i64 i, .int .i64 j] w fun e W2 => e = .returned (.tuple #[.bool false, .int .i64 (evsCode N es)]) ∧ Below w.heap.size w W2 := by
  have HC := hidMk (check_any N a len cap es w h)
  have hne : (evsCode N es != 0) = true := by simpa using hz
  clear h hz
  generalize evsCode N es = c at HC hne
  go_enter Try.func10, Try.ntmps10
  go_wp2_with (go_at_call 8; refine (HC.out).mono ?_; rintro e w1 ⟨rfl, hB1⟩)
  go_ret2
  exact ⟨rfl, hB1⟩

set_option maxHeartbeats 1000000 in
theorem before_arg (N i j : Int) (a : Option Addr) (len cap : Nat) (es : List Ev) (w : World) (h : CameEv w a len cap es) (hz : evsCode N es = 0) (hij : ¬ ((0 ≤ i ∧ i < len) ∧ (0 ≤ j ∧ j < len))) :
    Calls Try.prog 10 #[.int .i64 N, .slice a len cap, .int .i64 i, .int .i64 j] w fun e W2 => e = .returned (.tuple #[.bool false, .int .i64 2]) ∧ Below w.heap.size w W2 := by
  have HC := hidMk (check_any N a len cap es w h)
  rw [hz] at HC
  have HS : Hid (∀ z w1, Calls Try.prog 19 #[.slice a len cap, .int .i64 z] w1 fun e w' => e = .returned (.bool (stB len z)) ∧ w' = w1) := fun z w1 => standsIn_any a len cap z h.2.2.1 w1
  have hd : stB len i = false ∨ (stB len i = true ∧ stB len j = false) := by
    unfold stB
    by_cases hi : 0 ≤ i ∧ i < (len : Int)
    · right
      exact ⟨decide_eq_true hi, decide_eq_false (fun hj => hij ⟨hi, hj⟩)⟩
    · left
      exact decide_eq_false hi
  clear h hz hij
  rcases hd with h1 | ⟨h1, h2⟩
  · go_enter Try.func10, Try.ntmps10
    go_wp2_with (first | (go_at_call 19; refine (HS.out _ _).mono ?_; rintro e w2 ⟨rfl, hw2⟩; obtain rfl := hw2.symm) | (go_at_call 8; refine (HC.out).mono ?_; rintro e w1 ⟨rfl, hB1⟩))
    go_ret2
    exact ⟨rfl, hB1⟩
  · go_enter Try.func10, Try.ntmps10
    go_wp2_with (first | (go_at_call 19; refine (HS.out _ _).mono ?_; rintro e w2 ⟨rfl, hw2⟩; obtain rfl := hw2.symm) | (go_at_call 8; refine (HC.out).mono ?_; rintro e w1 ⟨rfl, hB1⟩))
    go_ret2
    exact ⟨rfl, hB1⟩

set_option maxHeartbeats 2000000 in
theorem before_ok (n i j : Nat) (a : Option Addr) (len cap : Nat) (es : List Ev) (w : World) (h : CameEv w a len cap es) (hz : evsCode (n : Int) es = 0) (hi : i < len) (hj : j < len) :
    Calls Try.prog 10 #[.int .i64 (n : Int), .slice a len cap, .int .i64 (i : Int), .int .i64 (j : Int)] w fun e W2 => e = .returned (.tuple #[.bool (i != j && decide (vc es (whoAt es i).toNat i ≤ vc es (whoAt es i).toNat j)), .int .i64 0]) ∧ Below w.heap.size w W2 := by
  have hv := valid_of hz
  have HC := hidMk (check_any (n : Int) a len cap es w h)
  rw [hz] at HC
  have HS : Hid (∀ z w1, Calls Try.prog 19 #[.slice a len cap, .int .i64 z] w1 fun e w' => e = .returned (.bool (stB len z)) ∧ w' = w1) := fun z w1 => standsIn_any a len cap z h.2.2.1 w1
  have hsi : stB len (i : Int) = true := decide_eq_true (by omega)
  have hsj : stB len (j : Int) = true := decide_eq_true (by omega)
  have HVV : Hid (∀ w1, Below w.heap.size w w1 → Calls Try.prog 18 #[.int .i64 (n : Int), .slice a len cap] w1 fun e W2 => (∃ O R, e = .returned (.slice (some ⟨O, 0, none⟩) len len) ∧ RowV W2 w1.heap.size O len n R len ∧ ∀ j, j < len → RowI W2 w1.heap.size (R j) n (fun p => vc es p j)) ∧ Below w1.heap.size w1 W2) :=
    fun w1 hb => vectors_ok n a len cap es w1 (h.below hb) hv
  obtain ⟨hl, _, _, hr⟩ := h
  rcases hr with h0 | ⟨b, off, rfl, hr⟩
  · omega
  have HE : Hid (∀ w1, Below w.heap.size w w1 → ∃ p0 : Nat, whoAt es i = (p0 : Int) ∧ p0 < n ∧ w1.cell? ⟨b, off + i * 3 + 1, none⟩ = some (.int .i64 (p0 : Int))) := fun w1 hb => by
    obtain ⟨ev, he, _, _, _, hd2, _⟩ := (hr.below hr.1 hb).at (k := i) (by omega)
    obtain ⟨_, hw0, hw1, _⟩ := hv.2.2.2 i ev he
    exact ⟨ev.who.toNat, by rw [whoAt_eq he]; omega, by omega, by rw [hd2]; congr 2; omega⟩
  have hij : ((i : Int) != (j : Int)) = (i != j) := by
    by_cases h : i = j
    · subst h; simp
    · have h2 : (i : Int) ≠ (j : Int) := by omega
      rw [bne_iff_ne.2 h, bne_iff_ne.2 h2]
  have hi' : (i : Int) < (len : Int) := by omega
  have hj' : (j : Int) < (len : Int) := by omega
  have hl60 : len ≤ 60 := by have := hv.2.2.1; omega
  have hl60' : (len : Int) ≤ 60 := by omega
  have hn6 : n ≤ 6 := by have := hv.2.1; omega
  clear hv hz hr
  by_cases heq : i = j
  · subst heq
    have hbe : ((i : Int) != (i : Int)) = false := by simp
    go_enter Try.func10, Try.ntmps10
    go_wp2_with (first | (go_at_call 18; refine (HVV.out _ hB1).mono ?_; rintro e w2 ⟨⟨O, R, rfl, hO, hR⟩, hB2⟩; have hB3 := hB1.trans (hB2.mono hB1.size); obtain ⟨p0, hp0, hp0n, hpc⟩ := HE.out _ hB3) | (go_at_call 19; refine (HS.out _ _).mono ?_; rintro e w3 ⟨rfl, hw3⟩; obtain rfl := hw3.symm) | (go_at_call 8; refine (HC.out).mono ?_; rintro e w1 ⟨rfl, hB1⟩))
    go_quiet (fail)
    go_wp2
    go_ret2
    exact ⟨by simp, hB3.trans (below_drewN (Below.refl _ _) nq)⟩
  · have hbe : ((i : Int) != (j : Int)) = true := by rw [hij]; exact bne_iff_ne.2 heq
    have hbn : (i != j) = true := bne_iff_ne.2 heq
    rw [hbn]
    have HN := hidMk heq
    clear heq hij hbn
    go_enter Try.func10, Try.ntmps10
    go_wp2_with (first | (go_at_call 18; refine (HVV.out _ hB1).mono ?_; rintro e w2 ⟨⟨O, R, rfl, hO, hR⟩, hB2⟩; have hB3 := hB1.trans (hB2.mono hB1.size); obtain ⟨p0, hp0, hp0n, hpc⟩ := HE.out _ hB3) | (go_at_call 19; refine (HS.out _ _).mono ?_; rintro e w3 ⟨rfl, hw3⟩; obtain rfl := hw3.symm) | (go_at_call 8; refine (HC.out).mono ?_; rintro e w1 ⟨rfl, hB1⟩))
    have hoi : w2.cell? ⟨O, i, none⟩ = some (.slice (some ⟨R i, 0, none⟩) n n) := by rw [World.ownsRow.cellAt hO i (by omega), outRow_at hi, if_pos hi]
    have hoj : w2.cell? ⟨O, j, none⟩ = some (.slice (some ⟨R j, 0, none⟩) n n) := by rw [World.ownsRow.cellAt hO j (by omega), outRow_at hj, if_pos hj]
    have hri : w2.cell? ⟨R i, p0, none⟩ = some (.int .i64 ((vc es p0 i : Nat) : Int)) := by
      rw [World.ownsRow.cellAt (hR i hi) p0 (by omega), List.getElem?_map, rowN_at hp0n]; simp [encN]
    have hrj : w2.cell? ⟨R j, p0, none⟩ = some (.int .i64 ((vc es p0 j : Nat) : Int)) := by
      rw [World.ownsRow.cellAt (hR j hj) p0 (by omega), List.getElem?_map, rowN_at hp0n]; simp [encN]
    have hp0' : (p0 : Int) < (n : Int) := by omega
    have HP := hidMk hp0
    clear hO hR hp0
    go_quiet (fail)
    go_wp2
    go_ret2
    exact ⟨by rw [HP.out]; simp, hB3.trans (below_drewN (Below.refl _ _) nq)⟩
end Go.Proofs.Yteahkegjekaanab
