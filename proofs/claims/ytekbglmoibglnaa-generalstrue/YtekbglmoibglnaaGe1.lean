/- Generals: the document's Bit and sent. -/
import Derived.Test.YtekbglmoibglnaaGe0
import Derived.Test.YtekbglmoibglnaaCb2n
import Derived.Laws.BitsAllLaws
import Derived.BigRegion
import Derived.BigQuiet
namespace Go.Proofs.Ytekbglmoibglnaa
open Go.RowKit
set_option linter.unusedVariables false

theorem gret_bool {a b : Bool} (e : a = b) : Ending.returned (.bool a) = Ending.returned (.bool b) := by rw [e]
theorem two_pow_ltG (i : Nat) (hi : i < 32) : 2 ^ i < 4294967296 := Nat.lt_of_lt_of_le (Nat.pow_lt_pow_right (by omega) hi) (by decide)
theorem pow_modG (i : Nat) (hi : i < 32) : ((2 : Int) ^ i % 4294967296) = ((2 ^ i : Nat) : Int) := by
  have h := two_pow_ltG i hi
  have e : ((2 : Int) ^ i) = ((2 ^ i : Nat) : Int) := by simp
  rw [e]; exact Int.emod_eq_of_lt (Int.natCast_nonneg _) (Int.ofNat_lt.2 h)
theorem and_bit (x i : Nat) : (((x &&& 2 ^ i : Nat) : Int) != 0) = x.testBit i := by
  have e : (x &&& 2 ^ i).testBit i = x.testBit i := by rw [Nat.testBit_and, Nat.testBit_two_pow]; simp
  cases h : x.testBit i
  · have : x &&& 2 ^ i = 0 := Nat.eq_of_testBit_eq fun j => by
      rw [Nat.testBit_and, Nat.testBit_two_pow, Nat.zero_testBit]
      by_cases hj : i = j
      · subst hj; simp [h]
      · simp [hj]
    rw [this]; rfl
  · have : x &&& 2 ^ i ≠ 0 := fun h0 => by rw [h0, Nat.zero_testBit, h] at e; cases e
    exact bne_iff_ne.2 (by omega)
theorem bit_and32 (x i : Nat) (hx : x < 4294967296) (hi : i < 32) : (bits BinOp.and IntKind.u32 (x : Int) (2 ^ i % 4294967296) != 0) = x.testBit i := by
  rw [pow_modG i hi, u32_and_nat x _ hx (two_pow_ltG i hi)]
  exact and_bit x i
theorem two_pow_lt64 (i : Nat) (hi : i < 64) : 2 ^ i < 18446744073709551616 := Nat.lt_of_lt_of_le (Nat.pow_lt_pow_right (by omega) hi) (by decide)
theorem pow_mod64 (i : Nat) (hi : i < 64) : ((2 : Int) ^ i % 18446744073709551616) = ((2 ^ i : Nat) : Int) := by
  have h := two_pow_lt64 i hi
  have e : ((2 : Int) ^ i) = ((2 ^ i : Nat) : Int) := by simp
  rw [e]; exact Int.emod_eq_of_lt (Int.natCast_nonneg _) (Int.ofNat_lt.2 h)
theorem bit_and64 (x i : Nat) (hx : x < 18446744073709551616) (hi : i < 64) : (bits BinOp.and IntKind.u64 (x : Int) (2 ^ i % 18446744073709551616) != 0) = x.testBit i := by
  rw [pow_mod64 i hi, u64_and_nat x _ hx (two_pow_lt64 i hi)]
  exact and_bit x i

theorem bit_and64w (x i : Nat) (hx : x < 18446744073709551616) (hi : i < 64) : (bits BinOp.and IntKind.u64 (x : Int) (IntKind.u64.wrap (2 ^ i)) != 0) = x.testBit i := by
  rw [IntKind.wrap_u64]
  exact bit_and64 x i hx hi

set_option maxHeartbeats 800000 in
theorem bitG_any (x : Nat) (i : Nat) (hx : x < 4294967296) (hi : i < 32) (w : World) :
    Calls Try.prog 11 #[.int .u32 x, .int .i64 i] w fun e w' => e = .returned (.bool (x.testBit i)) ∧ w' = w := by
  go_enter Try.func11, Try.ntmps11
  go_wp2
  go_ret
  exact ⟨gret_bool (bit_and32 x i hx hi), rfl⟩

theorem way_fold : ∀ (l : List Nat) (c : Nat), (∀ j ∈ l, j < 7) → l.foldl (fun c i => 7 * c + i + 1) c + 2 ≤ (c + 2) * 8 ^ l.length
  | [], c, _ => by simp
  | a :: l, c, h => by
    have ha := h a (List.mem_cons_self ..)
    have ih := way_fold l (7 * c + a + 1) (fun j hj => h j (List.mem_cons_of_mem _ hj))
    simp only [List.foldl_cons, List.length_cons]
    have h1 : (7 * c + a + 1 + 2) * 8 ^ l.length ≤ (8 * (c + 2)) * 8 ^ l.length := Nat.mul_le_mul_right _ (by omega)
    have e : (c + 2) * 8 ^ (l.length + 1) = (8 * (c + 2)) * 8 ^ l.length := by rw [Nat.pow_succ, Nat.mul_comm 8 (c + 2), Nat.mul_assoc, Nat.mul_comm 8]
    omega
theorem way_le {way : List Nat} (h : ∀ j ∈ way, j < 7) (hl : way.length ≤ 3) : wayC way ≤ 1022 := by
  have h1 := way_fold way 0 h
  have h2 : 8 ^ way.length ≤ 8 ^ 3 := Nat.pow_le_pow_right (by omega) hl
  unfold wayC
  omega
theorem way_take {way : List Nat} {k j : Nat} (h : way[k]? = some j) : wayC (way.take (k + 1)) = 7 * wayC (way.take k) + j + 1 := by
  rw [List.take_add_one, h, Option.toList_some, wayC_app]

set_option maxRecDepth 100000 in
set_option maxHeartbeats 4000000 in
theorem csent_any {W : World} {a : Option Addr} {len cap T L to : Nat} {way : List Nat} (x : Bool) (h : RowI W a len cap (natsI way)) (h0 : 0 < len) (h3 : len ≤ 3) (hw : ∀ j ∈ way, j < 7) (hT : T < 4294967296) (hL : L < 18446744073709551616) (hto : to < 7) :
    Calls Try.prog 21 #[.agg #[.int .u32 (T : Int), .int .u64 (L : Int)], .slice a len cap, .int .i64 (to : Int), .bool x] W fun e w2 => e = .returned (.bool (sentG T.testBit L.testBit way to x)) ∧ Stil W w2 := by
  obtain ⟨l1, c1, _, r1⟩ := h
  rcases r1 with r1 | ⟨b, off, rfl, hb, hc⟩
  · omega
  rw [natsI_len] at l1
  have hl3 : (len : Int) ≤ 3 := by omega
  have hcell : ∀ k, k < len → ∃ j, way[k]? = some j ∧ j < 7 ∧ W.cell? ⟨b, off + k, none⟩ = some (.int .i64 (j : Int)) := fun k hk => by
    have e : way[k]? = some (way[k]'(by omega)) := List.getElem?_eq_getElem (by omega)
    exact ⟨_, e, hw _ (List.getElem_mem _), hc k _ (natsI_at e)⟩
  obtain ⟨g, hg1, hg2, hg3⟩ := hcell (len - 1) (by omega)
  have hlast : lastW way = g := by
    unfold lastW
    rw [List.getLast?_eq_getElem?, l1, hg1]; rfl
  have HA : Hid (Stil W (W.alloc (.cells #[.int .u32 (T : Int), .int .u64 (L : Int)] 32))) := Stil.new _ _
  have hnb := al_new W (.cells #[.int .u32 (T : Int), .int .u64 (L : Int)] 32)
  have y0 : (W.alloc (.cells #[.int .u32 (T : Int), .int .u64 (L : Int)] 32)).cell? ⟨W.heap.size, 0, none⟩ = some (.int .u32 (T : Int)) := by rw [cell_of_row _ _ _ _ _ _ hnb]; rfl
  have y1 : (W.alloc (.cells #[.int .u32 (T : Int), .int .u64 (L : Int)] 32)).cell? ⟨W.heap.size, 1, none⟩ = some (.int .u64 (L : Int)) := by rw [cell_of_row _ _ _ _ _ _ hnb]; rfl
  have hgl : HA.out.cell hg3 = HA.out.cell hg3 := rfl
  have z0 := HA.out.cell hg3
  have HCl : Hid (∀ k, k < len → ∃ j, way[k]? = some j ∧ j < 7 ∧ (W.alloc (.cells #[.int .u32 (T : Int), .int .u64 (L : Int)] 32)).cell? ⟨b, off + k, none⟩ = some (.int .i64 (j : Int))) := fun k hk => by
    obtain ⟨j, e1, e2, e3⟩ := hcell k hk
    exact ⟨j, e1, e2, HA.out.cell e3⟩
  have HS : Hid (sentG T.testBit L.testBit way to x = if T.testBit g = true then L.testBit ((7 * wayC way + to) % 64) else x) := by show _ = _; unfold sentG; rw [hlast]
  have HW := hidMk (way_le hw (by omega))
  have HWt : Hid (∀ k, wayC (way.take k) ≤ 1022) := fun k => way_le (fun j hj => hw j (List.mem_of_mem_take hj)) (by rw [List.length_take]; omega)
  have HLn := hidMk l1
  obtain ⟨m, rfl⟩ : ∃ m, len = m + 1 := ⟨len - 1, by omega⟩
  simp only [Nat.add_sub_cancel] at z0
  have hm2 : m = 0 ∨ m = 1 ∨ m = 2 := by omega
  have HBt := hidMk (fun (wx : World) => bitG_any T g hT (by omega) wx)
  clear hnb hgl hg1 hg3 hcell hc hw l1 hlast
  have HBq : Hid (∀ q, Calls Try.prog 11 #[.int .u32 (T : Int), .int .i64 (g : Int)] ((W.alloc (.cells #[.int .u32 (T : Int), .int .u64 (L : Int)] 32)).drewN q) fun e w5 => e = .returned (.bool (T.testBit g)) ∧ ∃ m, w5 = (W.alloc (.cells #[.int .u32 (T : Int), .int .u64 (L : Int)] 32)).drewN m) := hidMk (fun q => by
    refine (HBt.out _).mono ?_
    rintro e w5 ⟨rfl, rfl⟩
    exact ⟨rfl, q, rfl⟩)
  have hw1 : IntKind.i64.wrap (((m + 1 : Nat) : Int) - 1) = (m : Int) := by
    obtain rfl | rfl | rfl := hm2 <;> decide
  have g1 : (m : Int) < ((m + 1 : Nat) : Int) := by omega
  have g2 : m < m + 1 := by omega
  cases ht : T.testBit g
  · rw [ht] at HBq HS
    clear ht y1 HBt
    go_enter Try.func21, Try.ntmps21
    go_wp2
    generalize W.alloc (.cells #[.int .u32 (T : Int), .int .u64 (L : Int)] 32) = w1 at *
    go_quiet ((go_at_call 11; exact HBq.out _))
    go_wp2
    go_ret
    exact ⟨by rw [HS.out]; rfl, HA.out.tr (Stil.drewN _ _)⟩
  · rw [ht] at HBq HS
    clear ht HBt
    go_enter Try.func21, Try.ntmps21
    go_wp2
    generalize W.alloc (.cells #[.int .u32 (T : Int), .int .u64 (L : Int)] 32) = w1 at *
    go_quiet ((go_at_call 11; exact HBq.out _))
    go_wp2
    have HQw : Hid (Stil W (w1.drewN nq)) := HA.out.tr (Stil.drewN _ _)
    have y1 := (Stil.drewN w1 nq).cell y1
    have HC2 : Hid (∀ k, k < m + 1 → ∃ j, way[k]? = some j ∧ j < 7 ∧ (w1.drewN nq).cell? ⟨b, off + k, none⟩ = some (.int .i64 (j : Int))) := fun k hk => by
      obtain ⟨j, e1, e2, e3⟩ := HCl.out k hk
      exact ⟨j, e1, e2, (Stil.drewN w1 nq).cell e3⟩
    clear y0 z0 HBq HCl HA
    generalize w1.drewN nq = w2 at *
    go_loopw [9, 25] (fun v u wr => ∃ k : Nat, k ≤ m + 1 ∧ u = .int .i64 (k : Int) ∧ v = .int .i64 (wayC (way.take k) : Int) ∧ wr = w2) (fun _ u _ => m + 1 - (intOf u).toNat)
    case atStart => exact ⟨0, Nat.zero_le _, rfl, rfl, rfl⟩
    case round =>
      obtain ⟨k, hk, rfl, rfl, hwr⟩ := hrel
      subst hwr
      by_cases hlt : k < m + 1
      · have hlt' : (k : Int) < (m : Int) + 1 := by omega
        obtain ⟨j, e1, e2, e3⟩ := HC2.out k hlt
        have HE := hidMk (way_take e1)
        have hb := HWt.out k
        generalize wayC (way.take k) = c at *
        clear e1
        go_wp2
        go_roundw
        case rel => exact ⟨k + 1, by omega, by go_num, by rw [HE.out]; go_num, by trivial⟩
        case measure => simp [intOf]; omega
      · obtain rfl : k = m + 1 := by omega
        rw [List.take_of_length_le (by rw [HLn.out]; exact Nat.le_refl _)]
        have hb := HW.out
        generalize wayC way = c at *
        obtain ⟨r, hr⟩ : ∃ r, r = (7 * c + to) % 64 := ⟨_, rfl⟩
        have r1 : (7 * (c : Int) + (to : Int)) % 64 = (r : Int) := by omega
        have r2 : (7 * (c : Int) + (to : Int)).tmod 64 = (r : Int) := by rw [Int.tmod_eq_emod_of_nonneg (by omega)]; exact r1
        have r3 : r < 64 := by rw [hr]; exact Nat.mod_lt _ (by omega)
        rw [← hr] at HS
        clear hr
        go_wp2
        go_ret
        refine ⟨?_, HQw.out⟩
        rw [HS.out, if_pos trivial]
        exact gret_bool (bit_and64w L r hL r3)
end Go.Proofs.Ytekbglmoibglnaa
