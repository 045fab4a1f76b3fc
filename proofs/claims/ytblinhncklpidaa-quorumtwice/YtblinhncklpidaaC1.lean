/- Contracts of quorum.meetsEach and its closure, and of folkmootref.meets: has a set a member in common with each? -/
import Derived.Test.YtblinhncklpidaaA9
namespace Go.Proofs.Ytblinhncklpidaa
open Go.RowKit

/-- The set s has a member in common with each. -/
def meetsB (qs : List Nat) (s : Nat) : Bool := !apartB qs s

theorem and_zero' (a b : Nat) (ha : a < 4294967296) (hb : b < 4294967296) : (bits BinOp.and IntKind.u32 (a : Int) (b : Int) == 0) = (a &&& b == 0) := and_zero a b ha hb

set_option maxHeartbeats 400000 in
theorem missedFn_any (t s B : Nat) (ht : t < 4294967296) (hs : s < 4294967296) (w : World) (hc : w.cell? ⟨B, 0, none⟩ = some (.int .u32 (s : Int))) :
    Calls Try.prog 50 #[.int .u32 (t : Int), .pointer (some ⟨B, 0, none⟩)] w fun e w' => e = .returned (.bool (s &&& t == 0)) ∧ w' = w := by
  go_enter Try.func50, Try.ntmps50
  go_wp2
  go_ret
  exact ⟨ret_bool (and_zero s t hs ht), rfl⟩

theorem enters_missed : ∀ args w, (callFunc 50 args).run Try.prog w = .ok (.enter 50 args) w :=
  Go.Proofs.enters_of Try.func50 (by kernel_rfl) rfl

theorem asks_missed (w : World) (s B : Nat) (hs : s < 4294967296) (hB : B < w.heap.size) (hc : w.cell? ⟨B, 0, none⟩ = some (.int .u32 (s : Int))) :
    Asks w 50 (.pointer (some ⟨B, 0, none⟩)) (fun t => s &&& t == 0) := by
  intro x w1 hx hb
  refine (missedFn_any x s B hx hs w1 ((hb.cell (p := ⟨B, 0, none⟩) hB).trans hc)).mono ?_
  rintro e w' ⟨rfl, rfl⟩
  exact ⟨rfl, Below.refl _ _⟩

set_option maxHeartbeats 400000 in
theorem meetsEach_nat (s b off len cap : Nat) (qs : List Nat) (w : World) (hs : s < 4294967296) (hl : qs.length = len) (hl2 : len ≤ 4096) (hq : Row w b off qs) :
    Calls Try.prog 41 #[.int .u32 (s : Int), .slice (some ⟨b, off, none⟩) len cap] w fun e w' => e = .returned (.bool (meetsB qs s)) ∧ Below w.heap.size w w' := by
  have hB0 : Below w.heap.size w (w.alloc (.cells #[.int .u32 (s : Int)] 34)) := (Below.refl _ w).alloc (Nat.le_refl _) _
  have HF := hidMk (containsFunc_row 50 (.pointer (some ⟨w.heap.size, 0, none⟩)) (fun t => s &&& t == 0) b off len cap qs _ enters_missed hl hl2 (hq.below rfl hB0)
    (asks_missed (w.alloc (.cells #[.int .u32 (s : Int)] 34)) s w.heap.size hs (by simp) (Boxed.new w 34 _).cell))
  have hmf : ∀ (fn : Fn) (first cap : Array Value) (w : World), (Instr.makeFunc fn first cap).run Try.prog w = .ok (.func fn first cap) w := fun _ _ _ _ => rfl
  clear hB0 hl hq
  go_enter Try.func41, Try.ntmps41
  go_wp2_with (go_at_call 33; refine (HF.out).mono ?_; rintro e w' ⟨rfl, hB⟩)
  go_ret
  exact ⟨rfl, ((Below.refl _ _).alloc (Nat.le_refl _) _).trans (hB.mono (by simp))⟩

theorem meetsEach_int (z : Int) (b off len cap : Nat) (qs : List Nat) (w : World) (h0 : 0 ≤ z) (h1 : z < 4294967296) (hl : qs.length = len) (hl2 : len ≤ 4096) (hq : Row w b off qs) :
    Calls Try.prog 41 #[.int .u32 z, .slice (some ⟨b, off, none⟩) len cap] w fun e w' => e = .returned (.bool (meetsB qs z.toNat)) ∧ Below w.heap.size w w' := by
  obtain ⟨x, rfl⟩ := Int.eq_ofNat_of_zero_le h0
  exact meetsEach_nat x b off len cap qs w (by omega) hl hl2 hq

theorem meets_hit {qs : List Nat} {s j a : Nat} (h : qs[j]? = some a) (h0 : s &&& a = 0) : meetsB qs s = false := by
  unfold meetsB; rw [apart_mem h h0]; rfl

set_option maxHeartbeats 400000 in
theorem refMeets_nat (s b off len cap : Nat) (qs : List Nat) (w : World) (hs : s < 4294967296) (hl : qs.length = len) (hl2 : len ≤ 4096) (hq : Row w b off qs) :
    Calls Try.prog 27 #[.int .u32 (s : Int), .slice (some ⟨b, off, none⟩) len cap] w fun e w' => e = .returned (.bool (meetsB qs s)) ∧ w' = w := by
  have HL := hidMk hl
  clear hl
  have hl2' : (len : Int) ≤ 4096 := by omega
  go_enter Try.func27, Try.ntmps27
  go_wp2
  go_loop [9] (fun i => ∃ k : Nat, k ≤ len ∧ i = .int .i64 k ∧ Hid (((qs.take k).any fun b => s &&& b == 0) = false)) (fun i => len - (intOf i).toNat)
  case atStart => exact ⟨0, Nat.zero_le _, rfl, by simp [Hid]⟩
  case round =>
    obtain ⟨k, hk, rfl, hall⟩ := hrel
    by_cases hlt : k < len
    · obtain ⟨y, hy, hmem, hyb, hc⟩ := hq.at (k := k) (by rw [HL.out]; exact hlt)
      have HY := hidMk hy
      clear hy
      have hz := and_zero s y hs hyb
      cases h0 : (s &&& y == 0)
      · have H0 := hidMk h0
        rw [h0] at hz
        clear h0
        go_wp2
        go_round
        case rel => exact ⟨k + 1, by omega, by go_num, apart_take_succ HY.out hall.out (by simpa using H0.out)⟩
        case measure => simp [intOf]; omega
      · have H0 := hidMk h0
        rw [h0] at hz
        clear h0
        go_wp2
        go_ret
        exact ⟨ret_bool (meets_hit HY.out (by simpa using H0.out)).symm, rfl⟩
    · obtain rfl : k = len := by omega
      go_wp2
      go_ret
      have e := hall.out
      rw [List.take_of_length_le (by rw [HL.out]; exact Nat.le_refl _)] at e
      exact ⟨ret_bool (by unfold meetsB apartB; rw [e]; rfl), rfl⟩

theorem refMeets_int (z : Int) (b off len cap : Nat) (qs : List Nat) (w : World) (h0 : 0 ≤ z) (h1 : z < 4294967296) (hl : qs.length = len) (hl2 : len ≤ 4096) (hq : Row w b off qs) :
    Calls Try.prog 27 #[.int .u32 z, .slice (some ⟨b, off, none⟩) len cap] w fun e w' => e = .returned (.bool (meetsB qs z.toNat)) ∧ w' = w := by
  obtain ⟨x, rfl⟩ := Int.eq_ofNat_of_zero_le h0
  exact refMeets_nat x b off len cap qs w (by omega) hl hl2 hq

set_option maxHeartbeats 400000 in
theorem size_any (x : Nat) (hx : x < 4294967296) (w : World) :
    Calls Try.prog 30 #[.int .u32 (x : Int)] w fun e w' => e = .returned (.int .i64 (sz x)) ∧ w' = w := by
  go_enter Try.func30, Try.ntmps30
  go_wp2
  go_loop [3, 4] (fun s i => ∃ k : Nat, k ≤ 32 ∧ i = .int .i64 k ∧ s = .int .i64 (cnt k x)) (fun _ i => 32 - (intOf i).toNat)
  case atStart => exact ⟨0, Nat.zero_le _, rfl, rfl⟩
  case round =>
    obtain ⟨k, hk, rfl, rfl⟩ := hrel
    have hle := cnt_le k x
    have hle' : ((cnt k x : Nat) : Int) ≤ 32 := by omega
    by_cases hlt : k < 32
    · have hs : cnt (k + 1) x = cnt k x + (x.testBit k).toNat := rfl
      have HS := hidMk hs
      clear hs
      have HB := hidMk (bit_any x k hx hlt)
      cases hb : x.testBit k
      · rw [hb] at HB HS
        clear hb
        generalize cnt k x = m at *
        go_wp2_with (go_at_call 28; refine (HB.out _).mono ?_; rintro e w' ⟨rfl, rfl⟩)
        go_round
        case rel => exact ⟨k + 1, by omega, by go_num, by rw [HS.out]; rfl⟩
        case measure => simp [intOf]; omega
      · rw [hb] at HB HS
        clear hb
        generalize cnt k x = m at *
        go_wp2_with (go_at_call 28; refine (HB.out _).mono ?_; rintro e w' ⟨rfl, rfl⟩)
        go_round
        case rel => exact ⟨k + 1, by omega, by go_num, by rw [HS.out]; simp⟩
        case measure => simp [intOf]; omega
    · obtain rfl : k = 32 := by omega
      go_wp2
      go_ret
      exact ⟨rfl, rfl⟩

theorem size_int (z : Int) (h0 : 0 ≤ z) (h1 : z < 4294967296) (w : World) :
    Calls Try.prog 30 #[.int .u32 z] w fun e w' => e = .returned (.int .i64 (sz z.toNat)) ∧ w' = w := by
  obtain ⟨x, rfl⟩ := Int.eq_ofNat_of_zero_le h0
  exact size_any x (by omega) w
end Go.Proofs.Ytblinhncklpidaa
