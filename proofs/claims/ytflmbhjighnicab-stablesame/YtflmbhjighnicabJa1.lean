/- Machines in a ring: what asks of states; Check; the document's check. -/
import Derived.Test.YtflmbhjighnicabJa0
import Derived.Test.YtflmbhjighnicabCb2n
import Derived.BigRegion
import Derived.BigQuiet
import Derived.Shelf.Abstract
namespace Go.Proofs.Ytflmbhjighnicab
open Go.RowKit
set_option linter.unusedVariables false

theorem jAnyTake (p : Int → Bool) {qs : List Int} {k : Nat} {x : Int} (h : qs[k]? = some x) : (qs.take (k + 1)).any p = ((qs.take k).any p || p x) := by
  rw [List.take_add_one, h, List.any_append]; simp
def jFirst (p : Int → Bool) (qs : List Int) : Int := match qs.findIdx? p with
  | some k => (k : Int)
  | none => -1
theorem jFirst_none {p : Int → Bool} {qs : List Int} (hn : qs.any p = false) : jFirst p qs = -1 := by
  have : qs.findIdx? p = none := by
    rw [List.findIdx?_eq_none_iff]
    intro x hx
    simpa using List.any_eq_false.1 hn x hx
  unfold jFirst; rw [this]
theorem jFirst_hit {p : Int → Bool} {qs : List Int} {k : Nat} {x : Int} (hx : qs[k]? = some x) (hn : (qs.take k).any p = false) (hp : p x = true) : jFirst p qs = (k : Int) := by
  have hk : k < qs.length := (List.getElem?_eq_some_iff.1 hx).1
  have e : qs[k] = x := (List.getElem?_eq_some_iff.1 hx).2
  have : qs.findIdx? p = some k := by
    rw [List.findIdx?_eq_some_iff_getElem]
    refine ⟨hk, by rw [e]; exact hp, fun j hj => ?_⟩
    have h1 := List.any_eq_false.1 hn (qs[j]'(by omega)) (by rw [List.mem_iff_getElem]; exact ⟨j, by simp; omega, by simp⟩)
    simpa using h1
  unfold jFirst; rw [this]
theorem jFirst_ge (p : Int → Bool) (qs : List Int) : decide (0 ≤ jFirst p qs) = qs.any p := by
  cases h : qs.any p
  · rw [jFirst_none h]; rfl
  · unfold jFirst
    cases e : qs.findIdx? p with
    | none =>
      rw [List.findIdx?_eq_none_iff] at e
      obtain ⟨x, hx, hp⟩ := List.any_eq_true.1 h
      have := e x hx
      rw [hp] at this; cases this
    | some k => simp
theorem jret_bool {a b : Bool} (e : a = b) : Ending.returned (.bool a) = Ending.returned (.bool b) := by rw [e]

def AsksJ (w : World) (g : Nat) (c : Value) (p : Int → Bool) : Prop :=
  ∀ (x : Int) (w1 : World), Stil w w1 → Calls Try.prog g #[.int .i64 x, c] w1 fun e w' => e = .returned (.bool (p x)) ∧ Stil w1 w'

set_option maxHeartbeats 800000 in
theorem indexFuncJ (g : Nat) (c : Value) (p : Int → Bool) (b off len cap : Nat) (qs : List Int) (w : World) (eg : ∀ args w, (callFunc g args).run Try.prog w = .ok (.enter g args) w) (hl : qs.length = len) (hl2 : len ≤ 1000)
    (hq : ∀ (k : Nat) (x : Int), qs[k]? = some x → w.cell? ⟨b, off + k, none⟩ = some (.int .i64 x)) (hA : AsksJ w g c p) :
    Calls Try.prog 12 #[.slice (some ⟨b, off, none⟩) len cap, .func (.func g) #[] #[c]] w fun e w' => e = .returned (.int .i64 (jFirst p qs)) ∧ Stil w w' := by
  have HL : Hid (qs.length = len) := hl
  clear hl
  have hl2' : (len : Int) ≤ 1000 := by omega
  go_enter Try.func12, Try.ntmps12
  go_wp2
  go_loopw [8] (fun i wr => ∃ k : Nat, k ≤ len ∧ i = .int .i64 k ∧ Hid (Stil w wr) ∧ Hid ((qs.take k).any p = false)) (fun i _ => len - (intOf i).toNat)
  case atStart => exact ⟨0, Nat.zero_le _, rfl, hidMk (Keep.refl _ _), by simp [Hid]⟩
  case round =>
    obtain ⟨k, hk, rfl, hB, hall⟩ := hrel
    by_cases hlt : k < len
    · obtain ⟨x, hx⟩ : ∃ x, qs[k]? = some x := ⟨qs[k]'(by rw [HL.out]; exact hlt), List.getElem?_eq_getElem _⟩
      have hc0 := hq k x hx
      have hc := hB.out.cell hc0
      have HX : Hid (qs[k]? = some x) := hx
      clear hx hc0
      have hcall := hA x wr hB.out
      cases h0 : p x
      · have H0 : Hid (p x = false) := h0
        rw [h0] at hcall
        clear h0
        have HC : Hid (Calls Try.prog g #[.int .i64 x, c] wr fun e w' => e = .returned (.bool false) ∧ Stil wr w') := hcall
        clear hcall
        go_wp2_with (go_at_fn g; refine (HC.out).mono ?_; rintro e w' ⟨rfl, hB2⟩)
        go_roundw
        case rel => exact ⟨k + 1, by omega, by go_num, hidMk (hB.out.tr hB2), by
          show (qs.take (k + 1)).any p = false
          rw [jAnyTake _ HX.out, hall.out, H0.out]; rfl⟩
        case measure => simp [intOf]; omega
      · have H0 : Hid (p x = true) := h0
        rw [h0] at hcall
        clear h0
        have HC : Hid (Calls Try.prog g #[.int .i64 x, c] wr fun e w' => e = .returned (.bool true) ∧ Stil wr w') := hcall
        clear hcall
        go_wp2_with (go_at_fn g; refine (HC.out).mono ?_; rintro e w' ⟨rfl, hB2⟩)
        go_ret
        exact ⟨ret_int' (jFirst_hit HX.out hall.out H0.out).symm, hB.out.tr hB2⟩
    · obtain rfl : k = len := by omega
      go_wp2
      go_ret
      have e := hall.out
      rw [List.take_of_length_le (by rw [HL.out]; exact Nat.le_refl _)] at e
      exact ⟨ret_int' (jFirst_none e).symm, hB.out⟩

set_option maxHeartbeats 800000 in
theorem containsFuncJ (g : Nat) (c : Value) (p : Int → Bool) (b off len cap : Nat) (qs : List Int) (w : World) (eg : ∀ args w, (callFunc g args).run Try.prog w = .ok (.enter g args) w) (hl : qs.length = len) (hl2 : len ≤ 1000)
    (hq : ∀ (k : Nat) (x : Int), qs[k]? = some x → w.cell? ⟨b, off + k, none⟩ = some (.int .i64 x)) (hA : AsksJ w g c p) :
    Calls Try.prog 9 #[.slice (some ⟨b, off, none⟩) len cap, .func (.func g) #[] #[c]] w fun e w' => e = .returned (.bool (qs.any p)) ∧ Stil w w' := by
  have HL : Hid (qs.length = len) := hl
  clear hl
  go_enter Try.func9, Try.ntmps9
  go_wp2_with (go_at_call 12; refine (indexFuncJ g c p b off len cap qs _ eg HL.out hl2 hq hA).mono ?_; rintro e w' ⟨rfl, hB⟩)
  go_ret
  exact ⟨jret_bool (jFirst_ge _ _), hB⟩

set_option maxHeartbeats 800000 in
theorem outside_any (k : Int) (w : World) :
    Calls Try.prog 10 #[.int .i64 k] w fun e w' => e = .returned (.func (.func 13) #[] #[.pointer (some ⟨w.heap.size, 0, none⟩)]) ∧ w' = w.alloc (.cells #[.int .i64 k] 3) := by
  go_enter Try.func10, Try.ntmps10
  go_wp2
  go_ret
  exact ⟨rfl, rfl⟩
set_option maxHeartbeats 800000 in
theorem outsideFn_any (k x : Int) (B : Nat) (w : World) (hc : w.cell? ⟨B, 0, none⟩ = some (.int .i64 k)) :
    Calls Try.prog 13 #[.int .i64 x, .pointer (some ⟨B, 0, none⟩)] w fun e w' => e = .returned (.bool (badJ k x)) ∧ w' = w := by
  by_cases h : x < 0
  · go_enter Try.func13, Try.ntmps13
    go_wp2
    go_ret
    exact ⟨jret_bool (by simp [badJ]; try omega), rfl⟩
  · have h' : 0 ≤ x := by omega
    go_enter Try.func13, Try.ntmps13
    go_wp2
    go_ret
    exact ⟨jret_bool (by simp [badJ]; try omega), rfl⟩
theorem enters_outsideJ : ∀ args w, (callFunc 13 args).run Try.prog w = .ok (.enter 13 args) w :=
  Go.Proofs.enters_of Try.func13 (by kernel_rfl) rfl

set_option maxRecDepth 100000 in
set_option maxHeartbeats 4000000 in
theorem check_any {w : World} {a : Option Addr} {len cap : Nat} {zs : List Int} (h : RowI w a len cap zs) (k : Int) :
    Calls Try.prog 6 #[.int .i64 k, .slice a len cap] w fun e w2 => e = .returned (.int .i64 (codeJ k zs)) ∧ Stil w w2 := by
  obtain ⟨h1, h2, h3, h4⟩ := h
  have h3' : (len : Int) ≤ 9223372036854775807 := by unfold maxLen at h3; omega
  clear h3
  by_cases hl : len < 2 ∨ 6 < len ∨ k < 2 ∨ 1000 < k
  · have e : codeJ k zs = 1 := by unfold codeJ; rw [h1, if_pos hl]
    rw [e]
    clear h4 e h2 h1
    by_cases l0 : len < 2
    · have l0' : (len : Int) < 2 := by omega
      go_enter Try.func6, Try.ntmps6
      go_wp2
      go_ret
      exact ⟨rfl, Keep.refl _ _⟩
    · have l0' : (2 : Int) ≤ (len : Int) := by omega
      by_cases l1 : 6 < len
      · have l1' : (6 : Int) < (len : Int) := by omega
        go_enter Try.func6, Try.ntmps6
        go_wp2
        go_ret
        exact ⟨rfl, Keep.refl _ _⟩
      · have l1' : (len : Int) ≤ 6 := by omega
        by_cases l2 : k < 2
        · clear hl
          go_enter Try.func6, Try.ntmps6
          go_wp2
          go_ret
          exact ⟨rfl, Keep.refl _ _⟩
        · have l2' : 2 ≤ k := by omega
          have l3 : 1000 < k := by omega
          clear hl
          go_enter Try.func6, Try.ntmps6
          go_wp2
          go_ret
          exact ⟨rfl, Keep.refl _ _⟩
  · have l0' : (2 : Int) ≤ (len : Int) := by omega
    have l1' : (len : Int) ≤ 6 := by omega
    have l2' : 2 ≤ k := by omega
    have l3' : k ≤ 1000 := by omega
    rcases h4 with h4 | ⟨b, off, rfl, hlt, hc⟩
    · omega
    have HE : Hid (codeJ k zs = if zs.any (badJ k) then 2 else 0) := by
      show codeJ k zs = _
      unfold codeJ
      rw [h1, if_neg hl]
    have HF : Hid (Calls Try.prog 9 #[.slice (some ⟨b, off, none⟩) len cap, .func (.func 13) #[] #[.pointer (some ⟨w.heap.size, 0, none⟩)]] (w.alloc (.cells #[.int .i64 k] 3)) fun e w' => e = .returned (.bool (zs.any (badJ k))) ∧ Stil (w.alloc (.cells #[.int .i64 k] 3)) w') := by
      refine containsFuncJ _ _ _ b off len cap zs _ enters_outsideJ h1 (by omega) (fun j x hx => (Stil.new w _).cell (hc j x hx)) (fun x w1 hs => ?_)
      refine (outsideFn_any k x w.heap.size w1 (hs.cell (by rw [cell_of_row _ _ _ _ _ _ (al_new w _)]; rfl))).mono ?_
      rintro e w' ⟨rfl, rfl⟩
      exact ⟨rfl, Keep.refl _ _⟩
    clear hl hc h1 h2
    cases hz : zs.any (badJ k)
    · rw [hz] at HE HF
      rw [HE.out]
      clear HE hz
      go_enter Try.func6, Try.ntmps6
      go_wp2_with (first | (go_at_call 10; refine (outside_any _ _).mono ?_; rintro e w' ⟨rfl, rfl⟩) | (go_at_call 9; refine (HF.out).mono ?_; rintro e w' ⟨rfl, hB⟩))
      go_ret
      exact ⟨rfl, (Stil.new w _).tr hB⟩
    · rw [hz] at HE HF
      rw [HE.out]
      clear HE hz
      go_enter Try.func6, Try.ntmps6
      go_wp2_with (first | (go_at_call 10; refine (outside_any _ _).mono ?_; rintro e w' ⟨rfl, rfl⟩) | (go_at_call 9; refine (HF.out).mono ?_; rintro e w' ⟨rfl, hB⟩))
      go_ret
      exact ⟨rfl, (Stil.new w _).tr hB⟩

set_option maxRecDepth 100000 in
set_option maxHeartbeats 4000000 in
theorem refCheckJ {w : World} {a : Option Addr} {len cap : Nat} {zs : List Int} (h : RowI w a len cap zs) (k : Int) :
    Calls Try.prog 8 #[.int .i64 k, .slice a len cap] w fun e w2 => e = .returned (.int .i64 (codeJ k zs)) ∧ w2 = w := by
  obtain ⟨h1, h2, h3, h4⟩ := h
  have h3' : (len : Int) ≤ 9223372036854775807 := by unfold maxLen at h3; omega
  clear h3
  by_cases hl : len < 2 ∨ 6 < len ∨ k < 2 ∨ 1000 < k
  · have e : codeJ k zs = 1 := by unfold codeJ; rw [h1, if_pos hl]
    rw [e]
    clear h4 e h2 h1
    by_cases l0 : len < 2
    · have l0' : (len : Int) < 2 := by omega
      go_enter Try.func8, Try.ntmps8
      go_wp2
      go_ret
      exact ⟨rfl, rfl⟩
    · have l0' : (2 : Int) ≤ (len : Int) := by omega
      by_cases l1 : 6 < len
      · have l1' : (6 : Int) < (len : Int) := by omega
        go_enter Try.func8, Try.ntmps8
        go_wp2
        go_ret
        exact ⟨rfl, rfl⟩
      · have l1' : (len : Int) ≤ 6 := by omega
        by_cases l2 : k < 2
        · clear hl
          go_enter Try.func8, Try.ntmps8
          go_wp2
          go_ret
          exact ⟨rfl, rfl⟩
        · have l2' : 2 ≤ k := by omega
          have l3 : 1000 < k := by omega
          clear hl
          go_enter Try.func8, Try.ntmps8
          go_wp2
          go_ret
          exact ⟨rfl, rfl⟩
  · have l0' : (2 : Int) ≤ (len : Int) := by omega
    have l1' : (len : Int) ≤ 6 := by omega
    have l2' : 2 ≤ k := by omega
    have l3' : k ≤ 1000 := by omega
    rcases h4 with h4 | ⟨b, off, rfl, hlt, hc⟩
    · omega
    have HC := hidMk hc
    have HE : Hid (codeJ k zs = if zs.any (badJ k) then 2 else 0) := by
      show codeJ k zs = _
      unfold codeJ
      rw [h1, if_neg hl]
    clear hl hc
    go_enter Try.func8, Try.ntmps8
    go_wp2
    go_loopw [25] (fun u wr => ∃ j : Nat, j ≤ len ∧ u = .int .i64 (j : Int) ∧ wr = w ∧ Hid ((zs.take j).any (badJ k) = false)) (fun u _ => len - (intOf u).toNat)
    case atStart => exact ⟨0, Nat.zero_le _, rfl, rfl, by simp [Hid]⟩
    case round =>
      obtain ⟨j, hj, rfl, hwr, HA⟩ := hrel
      subst hwr
      by_cases hlt2 : j < len
      · have hlt' : (j : Int) < (len : Int) := by omega
        have hz : zs[j]? = some (zs[j]'(by omega)) := List.getElem?_eq_getElem (by omega)
        generalize zs[j]'(by omega) = z at hz
        have hcz := HC.out j z hz
        have HZ := hidMk hz
        clear hz
        by_cases z0 : z < 0
        · have HB : Hid (zs.any (badJ k) = true) := List.any_eq_true.2 ⟨z, List.mem_of_getElem? HZ.out, by simp [badJ, z0]⟩
          go_wp2
          go_ret
          exact ⟨by rw [HE.out, HB.out]; rfl, rfl⟩
        · have z0' : 0 ≤ z := by omega
          by_cases z1 : k ≤ z
          · have HB : Hid (zs.any (badJ k) = true) := List.any_eq_true.2 ⟨z, List.mem_of_getElem? HZ.out, by simp [badJ, z1]⟩
            go_wp2
            go_ret
            exact ⟨by rw [HE.out, HB.out]; rfl, rfl⟩
          · have z1' : z < k := by omega
            go_wp2
            go_roundw
            case rel =>
              refine ⟨j + 1, by omega, by go_num, by trivial, ?_⟩
              show (zs.take (j + 1)).any (badJ k) = false
              rw [jAnyTake _ HZ.out, HA.out]
              simp [badJ]
              omega
            case measure => simp [intOf]; omega
      · obtain rfl : j = len := by omega
        go_wp2
        go_ret
        refine ⟨?_, rfl⟩
        have := HA.out
        rw [List.take_of_length_le (by omega)] at this
        rw [HE.out, this]
        rfl
end Go.Proofs.Ytflmbhjighnicab
