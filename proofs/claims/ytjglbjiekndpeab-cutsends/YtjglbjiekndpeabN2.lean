/- Contracts of cuts.raise, cuts.liesIn, and of slices.Min and slices.Equal at numbers. -/
import Derived.Test.YtjglbjiekndpeabN1
import Derived.Test.YtjglbjiekndpeabK1
namespace Go.Proofs.Ytjglbjiekndpeab
open Go.RowKit Go.Shelf
set_option linter.unusedVariables false

theorem drew_below (w : World) (m : Nat) : Below w.heap.size w (w.drewN m) := below_drewN (Below.refl _ _) m

set_option maxHeartbeats 1000000 in
theorem craise_any (g1 g2 n b1 b2 : Nat) (f h : Nat → Nat) (w : World) (hn : n ≤ 6) (hne : g1 ≠ g2) (h1 : RowI w b1 g1 n f) (h2 : RowI w b2 g2 n h) :
    Calls Try.prog 18 #[.slice (some ⟨g1, 0, none⟩) n n, .slice (some ⟨g2, 0, none⟩) n n] w fun e w2 => (∃ v, e = .returned v) ∧ RowI w2 b1 g1 n (fun p => max (f p) (h p)) ∧ w.grownBy w2 (some g1) := by
  have hn' : (n : Int) ≤ 6 := by omega
  have H1 := hidMk h1
  clear h1
  have hmo : Try.prog.follows .mixedOrders = true := by kernel_rfl
  go_enter Try.func18, Try.ntmps18
  go_wp2
  go_loopw [7] (fun i wr => ∃ k : Nat, k ≤ n ∧ i = .int .i64 (k : Int) ∧ RowI wr b1 g1 n (maxTo f h k) ∧ Hid (w.grownBy wr (some g1))) (fun i _ => n - (intOf i).toNat)
  case atStart => exact ⟨0, Nat.zero_le _, rfl, by rw [maxTo_zero]; exact H1.out, grown_refl _ _⟩
  case round =>
    obtain ⟨k, hk, rfl, hrow, HG⟩ := hrel
    by_cases hlt : k < n
    · have hlt' : (k : Int) < (n : Int) := by omega
      have c1 : wr.cell? ⟨g1, k, none⟩ = some (.int .i64 ((f k : Nat) : Int)) := by
        rw [World.ownsRow.cellAt hrow k (by omega), List.getElem?_map, rowN_at hlt]; simp [encN, maxTo]
      have c2 : wr.cell? ⟨g2, k, none⟩ = some (.int .i64 ((h k : Nat) : Int)) := by
        have h2' := World.ownsRow.kept h2 HG.out (.inr (by simp [Value.ownBlock]; exact fun e => hne e.symm))
        rw [World.ownsRow.cellAt h2' k (by omega), List.getElem?_map, rowN_at hlt]; simp [encN]
      have hfz := World.ownsRow.frozenAt hrow k
      have HR := hidMk hrow
      clear hrow
      go_wp2
      go_region
      have hmx : (if f k < h k then ((h k : Nat) : Int) else ((f k : Nat) : Int)) = ((max (f k) (h k) : Nat) : Int) := by split <;> omega
      rw [hmx]
      have hst := World.ownsRow.stored HR.out k (encN (max (f k) (h k)))
      rw [← map_set, maxTo_set] at hst
      have HST := hidMk hst
      clear hst hmx
      go_wp2
      go_roundw
      case rel => exact ⟨k + 1, by omega, by go_num, HST.out.1, grown_same (grown_same HG.out HST.out.2) (grown_drew _ _)⟩
      case measure => simp [intOf]; omega
    · obtain rfl : k = n := by omega
      go_wp2
      go_end0
      refine ⟨⟨_, rfl⟩, ?_, HG.out⟩
      have e : rowN k (maxTo f h k) = rowN k fun p => max (f p) (h p) := rowN_congr fun p hp => by simp [maxTo, hp]
      unfold RowI at hrow ⊢
      rw [← e]; exact hrow

/-- None of the first n is above the other's. -/
def leZ (n : Nat) (f g : Nat → Int) : Bool := (List.range n).all fun p => decide (f p ≤ g p)
theorem leZ_iff {n : Nat} {f g : Nat → Int} : leZ n f g = true ↔ ∀ p, p < n → f p ≤ g p := by
  unfold leZ
  rw [List.all_eq_true]
  constructor
  · exact fun h p hp => of_decide_eq_true (h p (List.mem_range.2 hp))
  · exact fun h p hp => decide_eq_true (h p (List.mem_range.1 hp))
theorem leZ_not {n p : Nat} {f g : Nat → Int} (hp : p < n) (h : g p < f p) : leZ n f g = false := by
  cases e : leZ n f g
  · rfl
  · have := leZ_iff.1 e p hp; omega

set_option maxHeartbeats 1000000 in
theorem liesIn_any (g1 o1 g2 o2 n c1 c2 : Nat) (f h : Nat → Int) (w : World) (h1 : ∀ p, p < n → w.cell? ⟨g1, o1 + p, none⟩ = some (.int .i64 (f p))) (h2 : ∀ p, p < n → w.cell? ⟨g2, o2 + p, none⟩ = some (.int .i64 (h p))) (m1 : n ≤ 100) :
    Calls Try.prog 17 #[.slice (some ⟨g1, o1, none⟩) n c1, .slice (some ⟨g2, o2, none⟩) n c2] w fun e w2 => e = .returned (.bool (leZ n f h)) ∧ ∃ m, w2 = w.drewN m := by
  have m1' : (n : Int) ≤ 100 := by omega
  have H1 := hidMk h1
  have H2 := hidMk h2
  clear h1 h2
  go_enter Try.func17, Try.ntmps17
  go_wp2
  go_loopw [8] (fun i wr => ∃ k : Nat, k ≤ n ∧ i = .int .i64 (k : Int) ∧ Hid (∃ m, wr = w.drewN m) ∧ Hid (∀ p, p < k → f p ≤ h p)) (fun i _ => n - (intOf i).toNat)
  case atStart => exact ⟨0, Nat.zero_le _, rfl, ⟨0, rfl⟩, fun p hp => by omega⟩
  case round =>
    obtain ⟨k, hk, rfl, HM, HT⟩ := hrel
    by_cases hlt : k < n
    · have hlt' : (k : Int) < (n : Int) := by omega
      have d1 : wr.cell? ⟨g1, o1 + k, none⟩ = some (.int .i64 (f k)) := by obtain ⟨m, e⟩ := HM.out; rw [e]; exact H1.out k hlt
      have d2 : wr.cell? ⟨g2, o2 + k, none⟩ = some (.int .i64 (h k)) := by obtain ⟨m, e⟩ := HM.out; rw [e]; exact H2.out k hlt
      generalize hf : f k = x at d1
      generalize hh : h k = y at d2
      have HF := hidMk hf
      have HH := hidMk hh
      clear hf hh
      by_cases he : x ≤ y
      · go_wp2
        go_quiet (fail)
        go_wp2
        go_roundw
        case rel => exact ⟨k + 1, by omega, by go_num, drew_more HM.out nq, fun p hp => by
          by_cases e : p = k
          · subst e; rw [HF.out, HH.out]; exact he
          · exact HT.out p (by omega)⟩
        case measure => simp [intOf]; omega
      · have he' : y < x := by omega
        go_wp2
        go_quiet (fail)
        go_wp2
        go_ret
        exact ⟨ret_bool (leZ_not hlt (by rw [HF.out, HH.out]; exact he')).symm, drew_more HM.out nq⟩
    · obtain rfl : k = n := by omega
      go_wp2
      go_ret
      exact ⟨ret_bool (leZ_iff.2 HT.out).symm, HM.out⟩

/-- The least of the first k + 1. -/
def lowTo (f : Nat → Int) : Nat → Int
  | 0 => f 0
  | k + 1 => if f (k + 1) < lowTo f k then f (k + 1) else lowTo f k
theorem lowTo_neg {f : Nat → Int} : ∀ {k : Nat}, lowTo f k < 0 ↔ ∃ p, p ≤ k ∧ f p < 0
  | 0 => by
    constructor
    · exact fun h => ⟨0, Nat.le_refl _, h⟩
    · rintro ⟨p, hp, h⟩
      obtain rfl : p = 0 := by omega
      exact h
  | k + 1 => by
    have ih := lowTo_neg (f := f) (k := k)
    unfold lowTo
    constructor
    · intro h
      split at h
      · exact ⟨k + 1, Nat.le_refl _, h⟩
      · obtain ⟨p, hp, h2⟩ := ih.1 h
        exact ⟨p, by omega, h2⟩
    · rintro ⟨p, hp, h⟩
      by_cases e : p = k + 1
      · subst e
        split
        · exact h
        · omega
      · have := ih.2 ⟨p, by omega, h⟩
        split
        · omega
        · exact this

set_option maxHeartbeats 1000000 in
theorem min_any (g1 o1 n c1 : Nat) (f : Nat → Int) (w : World) (h1 : ∀ p, p < n → w.cell? ⟨g1, o1 + p, none⟩ = some (.int .i64 (f p))) (m1 : n ≤ 100) (m0 : 1 ≤ n) :
    Calls Try.prog 20 #[.slice (some ⟨g1, o1, none⟩) n c1] w fun e w2 => e = .returned (.int .i64 (lowTo f (n - 1))) ∧ w2 = w := by
  have m1' : (n : Int) ≤ 100 := by omega
  have m0' : 1 ≤ (n : Int) := by omega
  have d0 := h1 0 (by omega)
  rw [Nat.add_zero] at d0
  have H1 := hidMk h1
  clear h1
  go_enter Try.func20, Try.ntmps20
  go_wp2
  go_loop [3, 4] (fun x i => ∃ k : Nat, 1 ≤ k ∧ k ≤ n ∧ i = .int .i64 (k : Int) ∧ x = .int .i64 (lowTo f (k - 1))) (fun _ i => n - (intOf i).toNat)
  case atStart => exact ⟨1, Nat.le_refl _, m0, rfl, rfl⟩
  case round =>
    clear d0
    obtain ⟨k, hk0, hk, rfl, rfl⟩ := hrel
    by_cases hlt : k < n
    · have hlt' : (k : Int) < (n : Int) := by omega
      have d1 := H1.out k hlt
      have HS : Hid (lowTo f (k + 1 - 1) = if f k < lowTo f (k - 1) then f k else lowTo f (k - 1)) := by
        obtain ⟨j, rfl⟩ : ∃ j, k = j + 1 := ⟨k - 1, by omega⟩
        rfl
      generalize lowTo f (k - 1) = y at HS ⊢
      generalize f k = x at d1 HS
      by_cases hxy : x < y
      · go_wp2
        go_round
        case rel => exact ⟨k + 1, by omega, by omega, by go_num, by rw [HS.out, if_pos hxy]⟩
        case measure => simp [intOf]; omega
      · go_wp2
        go_round
        case rel => exact ⟨k + 1, by omega, by omega, by go_num, by rw [HS.out, if_neg hxy]⟩
        case measure => simp [intOf]; omega
    · obtain rfl : k = n := by omega
      go_wp2
      go_ret
      exact ⟨rfl, rfl⟩

theorem CameI.at {w : World} {a : Option Addr} {len cap : Nat} {zs : List Int} (h : CameI w a len cap zs) {k : Nat} (hk : k < len) : ∃ b off z, a = some ⟨b, off, none⟩ ∧ zs[k]? = some z ∧ w.cell? ⟨b, off + k, none⟩ = some (.int .i64 z) := by
  obtain ⟨h1, _, _, h4 | ⟨b, off, h4, h5⟩⟩ := h
  · omega
  · obtain ⟨z, hz, _, hc⟩ := h5.at (k := k) (by omega)
    exact ⟨b, off, z, h4, hz, hc⟩

set_option maxHeartbeats 1000000 in
theorem equal_ints (a1 a2 : Option Addr) (n1 n2 c1 c2 : Nat) (z1 z2 : List Int) (w : World) (h1 : CameI w a1 n1 c1 z1) (h2 : CameI w a2 n2 c2 z2) (m1 : n1 ≤ 100) :
    Calls Try.prog 15 #[.slice a1 n1 c1, .slice a2 n2 c2] w fun e w2 => e = .returned (.bool (z1 == z2)) ∧ ∃ m, w2 = w.drewN m := by
  have m1' : (n1 : Int) ≤ 100 := by omega
  have m2 := h2.2.2.1
  unfold maxLen at m2
  have m2' : (n2 : Int) ≤ 9223372036854775807 := by omega
  clear m2
  by_cases hne : n1 = n2
  · subst hne
    have H1 := hidMk h1
    have H2 := hidMk h2
    clear h1 h2
    go_enter Try.func15, Try.ntmps15
    go_wp2
    go_loopw [13] (fun i wr => ∃ k : Nat, k ≤ n1 ∧ i = .int .i64 (k : Int) ∧ Hid (∃ m, wr = w.drewN m) ∧ Hid (z1.take k = z2.take k)) (fun i _ => n1 - (intOf i).toNat)
    case atStart => exact ⟨0, Nat.zero_le _, rfl, ⟨0, rfl⟩, by simp [Hid]⟩
    case round =>
      obtain ⟨k, hk, rfl, HM, HT⟩ := hrel
      by_cases hlt : k < n1
      · have hlt' : (k : Int) < (n1 : Int) := by omega
        obtain ⟨g1, o1, x, rfl, hx, d1⟩ := H1.out.at hlt
        obtain ⟨g2, o2, y, rfl, hy, d2⟩ := H2.out.at hlt
        have HX := hidMk hx
        have HY := hidMk hy
        have d1' : wr.cell? ⟨g1, o1 + k, none⟩ = some (.int .i64 x) := by obtain ⟨m, e⟩ := HM.out; rw [e]; exact d1
        have d2' : wr.cell? ⟨g2, o2 + k, none⟩ = some (.int .i64 y) := by obtain ⟨m, e⟩ := HM.out; rw [e]; exact d2
        clear hx hy d1 d2
        by_cases he : x = y
        · have hb : (x != y) = false := by simp; omega
          have HE := hidMk he
          clear he
          go_wp2
          go_quiet (fail)
          go_wp2
          go_roundw
          case rel => exact ⟨k + 1, by omega, by go_num, drew_more HM.out nq, take_same HX.out (by rw [HE.out]; exact HY.out) HT.out⟩
          case measure => simp [intOf]; omega
        · have hb : (x != y) = true := by simp; omega
          have HE := hidMk he
          clear he
          go_wp2
          go_quiet (fail)
          go_wp2
          go_ret
          exact ⟨ret_bool (beq_at HX.out HY.out HE.out).symm, drew_more HM.out nq⟩
      · obtain rfl : k = n1 := by omega
        go_wp2
        go_ret
        refine ⟨ret_bool ?_, HM.out⟩
        have e := HT.out
        rw [List.take_of_length_le (by rw [H1.out.1]; exact Nat.le_refl _), List.take_of_length_le (by rw [H2.out.1]; exact Nat.le_refl _)] at e
        rw [e]; simp
  · have hb : ((n1 : Int) != (n2 : Int)) = true := by simp; omega
    have HE : Hid ((z1 == z2) = false) := beq_len (by rw [h1.1, h2.1]; exact hne)
    clear h1 h2 hne
    go_enter Try.func15, Try.ntmps15
    go_wp2
    go_ret
    exact ⟨ret_bool HE.out.symm, 0, rfl⟩
end Go.Proofs.Ytjglbjiekndpeab
