/- Contracts of slices.order2Ordered, medianOrdered, medianAdjacentOrdered and choosePivotOrdered at rows of 32 bits: an index within the range. -/
import Derived.Test.YtblinhncklpidaaS5
namespace Go.Proofs.Ytblinhncklpidaa
open Go.RowKit

theorem boxed_drewN {w : World} {B : Nat} {t : TypeId} {v : Value} (h : Boxed w B t v) (n : Nat) : Boxed (w.drewN n) B t v := h

set_option maxHeartbeats 1000000 in
theorem order2_any (g cap : Nat) (d : Array Nat) (n a b B s : Nat) (w : World) (hn : n = d.size) (ha : a < d.size) (hb : b < d.size) (hs : s ≤ 1000) (h : Arr w g cap d) (hB : Boxed w B 3 (.int .i64 (s : Int))) :
    Calls Try.prog 68 #[.slice (some ⟨g, 0, none⟩) n cap, .int .i64 (a : Int), .int .i64 (b : Int), .pointer (some ⟨B, 0, none⟩)] w fun e w' =>
      ∃ p q s' : Nat, ((p = a ∧ q = b) ∨ (p = b ∧ q = a)) ∧ s' ≤ s + 1 ∧ e = .returned (.tuple #[.int .i64 (p : Int), .int .i64 (q : Int)]) ∧ Boxed w' B 3 (.int .i64 (s' : Int)) ∧ w.grownBy w' (some B) := by
  subst hn
  have ca := h.cell ha
  have cb := h.cell hb
  have ha' : (a : Int) < (d.size : Int) := by omega
  have hb' : (b : Int) < (d.size : Int) := by omega
  have cB := hB.cell
  have fB := hB.frozen
  have hs' : (s : Int) ≤ 1000 := by omega
  have HLE := hidMk (less_any d[b]! d[a]!)
  cases hls : lt32 d[b]! d[a]!
  · rw [hls] at HLE
    clear hls
    generalize d[a]! = x at *
    generalize d[b]! = y at *
    go_enter Try.func68, Try.ntmps68
    go_wp2
    go_quiet ((go_at_call 57; exact Calls.quiet_of_same (HLE.out _)))
    go_wp2
    go_ret2
    exact ⟨a, b, s, .inl ⟨rfl, rfl⟩, by omega, rfl, boxed_drewN hB _, turned_drewN (World.grownBy.refl _ _) _⟩
  · rw [hls] at HLE
    clear hls
    generalize d[a]! = x at *
    generalize d[b]! = y at *
    go_enter Try.func68, Try.ntmps68
    go_wp2
    go_quiet ((go_at_call 57; exact Calls.quiet_of_same (HLE.out _)))
    go_wp2
    go_ret2
    exact ⟨b, a, s + 1, .inr ⟨rfl, rfl⟩, Nat.le_refl _, rfl, by simpa using (boxed_drewN hB _).set _, (turned_drewN (World.grownBy.refl _ _) _).trans (turned_setCell _ B 0 _)⟩

set_option maxHeartbeats 1000000 in
theorem median_any (g cap : Nat) (d : Array Nat) (n a b c B s : Nat) (w : World) (hn : n = d.size) (ha : a < d.size) (hb : b < d.size) (hc : c < d.size) (hs : s ≤ 500) (hne : B ≠ g) (h : Arr w g cap d) (hB : Boxed w B 3 (.int .i64 (s : Int))) :
    Calls Try.prog 66 #[.slice (some ⟨g, 0, none⟩) n cap, .int .i64 (a : Int), .int .i64 (b : Int), .int .i64 (c : Int), .pointer (some ⟨B, 0, none⟩)] w fun e w' =>
      ∃ p s' : Nat, (p = a ∨ p = b ∨ p = c) ∧ s' ≤ s + 3 ∧ e = .returned (.int .i64 (p : Int)) ∧ Boxed w' B 3 (.int .i64 (s' : Int)) ∧ w.grownBy w' (some B) := by
  subst hn
  have hne' : some g ≠ some B := fun e => hne (Option.some.inj e).symm
  go_enter Try.func66, Try.ntmps66
  go_wp2_with fail
  refine (order2_any g cap d d.size a b B s _ rfl ha hb (by omega) h hB).mono ?_
  rintro e w1 ⟨p1, q1, s1, h1, hs1, rfl, hB1, hG1⟩
  have hA1 := h.kept hG1 hne'
  go_wp2_with fail
  refine (order2_any g cap d d.size q1 c B s1 _ rfl (by omega) hc (by omega) hA1 hB1).mono ?_
  rintro e w2 ⟨p2, q2, s2, h2, hs2, rfl, hB2, hG2⟩
  have hA2 := hA1.kept hG2 hne'
  go_wp2_with fail
  refine (order2_any g cap d d.size p1 p2 B s2 _ rfl (by omega) (by omega) (by omega) hA2 hB2).mono ?_
  rintro e w3 ⟨p3, q3, s3, h3, hs3, rfl, hB3, hG3⟩
  go_wp2
  go_ret
  exact ⟨q3, s3, by omega, by omega, rfl, hB3, (hG1.trans hG2).trans hG3⟩

set_option maxHeartbeats 1000000 in
theorem medianAdj_any (g cap : Nat) (d : Array Nat) (n a B s : Nat) (w : World) (hn : n = d.size) (ha : 1 ≤ a) (hb : a + 1 < d.size) (hd : d.size ≤ 4096) (hs : s ≤ 500) (hne : B ≠ g) (h : Arr w g cap d) (hB : Boxed w B 3 (.int .i64 (s : Int))) :
    Calls Try.prog 65 #[.slice (some ⟨g, 0, none⟩) n cap, .int .i64 (a : Int), .pointer (some ⟨B, 0, none⟩)] w fun e w' =>
      ∃ p s' : Nat, (p = a - 1 ∨ p = a ∨ p = a + 1) ∧ s' ≤ s + 3 ∧ e = .returned (.int .i64 (p : Int)) ∧ Boxed w' B 3 (.int .i64 (s' : Int)) ∧ w.grownBy w' (some B) := by
  obtain ⟨k, hk⟩ : ∃ k, a = k + 1 := ⟨a - 1, by omega⟩
  obtain ⟨c, hc⟩ : ∃ c, c = a + 1 := ⟨_, rfl⟩
  have e1 : (a : Int) - 1 = (k : Int) := by omega
  have e2 : (a : Int) + 1 = (c : Int) := by omega
  have ha1 : (a : Int) ≤ 4096 := by omega
  have ha2 : (1 : Int) ≤ (a : Int) := by omega
  have HM := hidMk (median_any g cap d n k a c B s w hn (by omega) (by omega) (by omega) hs hne h hB)
  have HK1 := hidMk hk
  have HK2 := hidMk hc
  clear hk hc h hB hn
  go_enter Try.func65, Try.ntmps65
  go_wp2_with (go_at_call 66; refine (HM.out).mono ?_; rintro e w1 ⟨p, s', h1, h2, rfl, h3, h4⟩)
  go_ret
  exact ⟨p, s', by have := HK1.out; have := HK2.out; omega, h2, rfl, h3, h4⟩

set_option maxRecDepth 100000 in
set_option maxHeartbeats 4000000 in
theorem pivot_any (g cap : Nat) (d : Array Nat) (n a b : Nat) (w : World) (hn : n = d.size) (hb : b ≤ d.size) (hab : a + 12 < b) (hd : d.size ≤ 4096) (h : Arr w g cap d) :
    Calls Try.prog 54 #[.slice (some ⟨g, 0, none⟩) n cap, .int .i64 (a : Int), .int .i64 (b : Int)] w fun e w' =>
      ∃ (p : Nat) (c : Int), a ≤ p ∧ p < b ∧ (c = 0 ∨ c = 1 ∨ c = 2) ∧ e = .returned (.tuple #[.int .i64 (p : Int), .int .i64 c]) ∧ RowKit.Below w.heap.size w w' := by
  subst hn
  obtain ⟨l, hl⟩ : ∃ l, b - a = l := ⟨_, rfl⟩
  have hle : (b : Int) - (a : Int) = (l : Int) := by omega
  obtain ⟨q, hq⟩ : ∃ q, l / 4 = q := ⟨_, rfl⟩
  have hqe : (l : Int) / 4 = (q : Int) := by omega
  obtain ⟨i0, hi0⟩ : ∃ i0, a + q = i0 := ⟨_, rfl⟩
  obtain ⟨j0, hj0⟩ : ∃ j0, a + q * 2 = j0 := ⟨_, rfl⟩
  obtain ⟨k0, hk0⟩ : ∃ k0, a + q * 3 = k0 := ⟨_, rfl⟩
  have hie : (a : Int) + (q : Int) = (i0 : Int) := by omega
  have hje : (a : Int) + (q : Int) * 2 = (j0 : Int) := by omega
  have hke : (a : Int) + (q : Int) * 3 = (k0 : Int) := by omega
  have hqb : (q : Int) ≤ 4096 := by omega
  have hab' : (a : Int) ≤ 4096 := by omega
  have hbb' : (b : Int) ≤ 4096 := by omega
  have hl8 : (8 : Int) ≤ (l : Int) := by omega
  have bB := Boxed.new w 3 (.int .i64 0)
  have hgl := h.lt
  have hne : w.heap.size ≠ g := by omega
  have hA1 : Arr (w.alloc (.cells #[.int .i64 0] 3)) g cap d := h.kept (World.grownBy_alloc w _ none) (by simp)
  have hB0 : RowKit.Below w.heap.size w (w.alloc (.cells #[.int .i64 0] 3)) := (RowKit.Below.refl _ w).alloc (Nat.le_refl _) _
  have hne' : some g ≠ some w.heap.size := fun e => hne (Option.some.inj e).symm
  have i1 : a ≤ i0 ∧ i0 < b := by omega
  have j1 : a ≤ j0 ∧ j0 < b := by omega
  have k1 : a ≤ k0 ∧ k0 < b := by omega
  have i2 : a + 3 ≤ i0 ∧ i0 + 1 < b := by omega
  have j2 : a + 3 ≤ j0 ∧ j0 + 1 < b := by omega
  have k2 : a + 3 ≤ k0 ∧ k0 + 1 < b := by omega
  clear hl hq hi0 hj0 hk0
  by_cases h50 : 50 ≤ l
  · have h50' : (50 : Int) ≤ (l : Int) := by omega
    go_enter Try.func54, Try.ntmps54
    go_wp2_with fail
    refine (medianAdj_any g cap d d.size i0 w.heap.size 0 _ rfl (by omega) (by omega) hd (by omega) hne hA1 bB).mono ?_
    rintro e w1 ⟨pi, s1, h1, hs1, rfl, hB1, hG1⟩
    have hA2 := hA1.kept hG1 hne'
    go_wp2_with fail
    refine (medianAdj_any g cap d d.size j0 w.heap.size s1 _ rfl (by omega) (by omega) hd (by omega) hne hA2 hB1).mono ?_
    rintro e w2 ⟨pj, s2, h2, hs2, rfl, hB2, hG2⟩
    have hA3 := hA2.kept hG2 hne'
    go_wp2_with fail
    refine (medianAdj_any g cap d d.size k0 w.heap.size s2 _ rfl (by omega) (by omega) hd (by omega) hne hA3 hB2).mono ?_
    rintro e w3 ⟨pk, s3, h3, hs3, rfl, hB3, hG3⟩
    have hA4 := hA3.kept hG3 hne'
    go_wp2_with fail
    refine (median_any g cap d d.size pi pj pk w.heap.size s3 _ rfl (by omega) (by omega) (by omega) (by omega) hne hA4 hB3).mono ?_
    rintro e w4 ⟨p, s4, h4, hs4, rfl, hB4, hG4⟩
    have hp : a ≤ p ∧ p < b := by omega
    have cS := hB4.cell
    have hBel : RowKit.Below w.heap.size w w4 := hB0.grown (((hG1.trans hG2).trans hG3).trans hG4) (by simp) (fun k e => by cases e; exact Nat.le_refl _)
    clear hA1 hA2 hA3 hA4 hG1 hG2 hG3 hG4 hB1 hB2 hB3 bB
    by_cases z0 : s4 = 0
    · subst z0
      go_wp2
      go_ret2
      exact ⟨p, 1, hp.1, hp.2, by omega, rfl, hBel⟩
    · have z0' : ((s4 : Int) == 0) = false := by simp; omega
      by_cases z1 : s4 = 12
      · subst z1
        go_wp2
        go_ret2
        exact ⟨p, 2, hp.1, hp.2, by omega, rfl, hBel⟩
      · have z1' : ((s4 : Int) == 12) = false := by simp; omega
        go_wp2
        go_ret2
        exact ⟨p, 0, hp.1, hp.2, by omega, rfl, hBel⟩
  · have h50' : (l : Int) < 50 := by omega
    go_enter Try.func54, Try.ntmps54
    go_wp2_with fail
    refine (median_any g cap d d.size i0 j0 k0 w.heap.size 0 _ rfl (by omega) (by omega) (by omega) (by omega) hne hA1 bB).mono ?_
    rintro e w4 ⟨p, s4, h4, hs4, rfl, hB4, hG4⟩
    have hp : a ≤ p ∧ p < b := by omega
    have cS := hB4.cell
    have hBel : RowKit.Below w.heap.size w w4 := hB0.grown hG4 (by simp) (fun k e => by cases e; exact Nat.le_refl _)
    clear hA1 hG4 bB
    by_cases z0 : s4 = 0
    · subst z0
      go_wp2
      go_ret2
      exact ⟨p, 1, hp.1, hp.2, by omega, rfl, hBel⟩
    · have z0' : ((s4 : Int) == 0) = false := by simp; omega
      have z1' : ((s4 : Int) == 12) = false := by simp; omega
      go_wp2
      go_ret2
      exact ⟨p, 0, hp.1, hp.2, by omega, rfl, hBel⟩
end Go.Proofs.Ytblinhncklpidaa
