/- folkmootref.Bakeries, of what is the same. -/
import Derived.Test.YtgnigjfgddhgiaaBb0
namespace Go.Proofs.Ytgnigjfgddhgiaa
open Go.RowKit
set_option linter.unusedVariables false

theorem Stil.dr {A B : World} (h : Stil A B) (q : Nat) : Stil A (B.drewN q) := Stil.tr h (Stil.drewN _ _)
theorem rowI_keepO {w w' : World} {o : Nat → Prop} {a : Option Addr} {len cap : Nat} {xs : List Int} (h : RowI w a len cap xs) (hs : Keep o w w') (ho : ∀ g, g < w.heap.size → ¬ o g) : RowI w' a len cap xs := by
  obtain ⟨h1, h2, h3, h4⟩ := h
  refine ⟨h1, h2, h3, ?_⟩
  rcases h4 with h4 | ⟨b, off, e, hr, hc⟩
  · exact .inl h4
  · exact .inr ⟨b, off, e, Nat.lt_of_lt_of_le hr hs.size, fun j x hx => (World.cell?_of_block (hs.block b hr (ho _ hr))).trans (hc j x hx)⟩
theorem rowO_keepO {w w' : World} {o : Nat → Prop} {a : Option Addr} {len cap : Nat} {xs : List Bool} (h : RowO w a len cap xs) (hs : Keep o w w') (ho : ∀ g, g < w.heap.size → ¬ o g) : RowO w' a len cap xs := by
  obtain ⟨h1, h2, h3, h4⟩ := h
  refine ⟨h1, h2, h3, ?_⟩
  rcases h4 with h4 | ⟨b, off, e, hr, hc⟩
  · exact .inl h4
  · exact .inr ⟨b, off, e, Nat.lt_of_lt_of_le hr hs.size, fun j x hx => (World.cell?_of_block (hs.block b hr (ho _ hr))).trans (hc j x hx)⟩
/-- A block that holds no numbers is not a row's. -/
theorem rowI_past {w w' : World} {g : Nat} {a : Option Addr} {len cap : Nat} {xs : List Int} (h : RowI w a len cap xs) (hs : Keep (fun q => q = g) w w') (hc : ∀ j z, w.cell? ⟨g, j, none⟩ ≠ some (.int .i64 z)) : RowI w' a len cap xs := by
  obtain ⟨h1, h2, h3, h4⟩ := h
  refine ⟨h1, h2, h3, ?_⟩
  by_cases hz : len = 0
  · exact .inl hz
  rcases h4 with h4 | ⟨b, off, e, hr, hcl⟩
  · exact .inl h4
  · have hx : xs[0]? = some (xs[0]'(by omega)) := List.getElem?_eq_getElem (by omega)
    have hbg : ¬ b = g := fun e2 => hc _ _ (by rw [← e2]; exact hcl 0 _ hx)
    exact .inr ⟨b, off, e, Nat.lt_of_lt_of_le hr hs.size, fun j x hx => (World.cell?_of_block (hs.block b hr hbg)).trans (hcl j x hx)⟩
theorem rowO_past {w w' : World} {g : Nat} {a : Option Addr} {len cap : Nat} {xs : List Bool} (h : RowO w a len cap xs) (hs : Keep (fun q => q = g) w w') (hc : ∀ j z, w.cell? ⟨g, j, none⟩ ≠ some (.bool z)) : RowO w' a len cap xs := by
  obtain ⟨h1, h2, h3, h4⟩ := h
  refine ⟨h1, h2, h3, ?_⟩
  by_cases hz : len = 0
  · exact .inl hz
  rcases h4 with h4 | ⟨b, off, e, hr, hcl⟩
  · exact .inl h4
  · have hx : xs[0]? = some (xs[0]'(by omega)) := List.getElem?_eq_getElem (by omega)
    have hbg : ¬ b = g := fun e2 => hc _ _ (by rw [← e2]; exact hcl 0 _ hx)
    exact .inr ⟨b, off, e, Nat.lt_of_lt_of_le hr hs.size, fun j x hx => (World.cell?_of_block (hs.block b hr hbg)).trans (hcl j x hx)⟩

set_option maxRecDepth 100000 in
set_option maxHeartbeats 4000000 in
theorem bools_same {w : World} {a b : Option Addr} {n c d : Nat} {xs : List Bool} (h1 : RowO w a n c xs) (h2 : RowO w b n d xs) (hn : n ≤ 1000) :
    Calls Try.prog 19 #[.slice a n c, .slice b n d] w fun e w2 => e = .returned (.bool true) ∧ ∃ k, w2 = w.drewN k := by
  obtain ⟨l1, c1, _, r1⟩ := h1
  obtain ⟨l2, c2, _, r2⟩ := h2
  have hn' : (n : Int) ≤ 1000 := by omega
  by_cases hn0 : n = 0
  · subst hn0
    clear r1 r2
    go_enter Try.func19, Try.ntmps19
    go_wp2
    go_loopw [5] (fun u wr => u = .int .i64 0 ∧ wr = w) (fun u _ => 0)
    case atStart => exact ⟨rfl, rfl⟩
    case round =>
      obtain ⟨rfl, hwr⟩ := hrel
      subst hwr
      go_wp2
      go_ret
      exact ⟨rfl, 0, rfl⟩
  · rcases r1 with r1 | ⟨g1, o1, rfl, b1, k1⟩
    · exact absurd r1 hn0
    rcases r2 with r2 | ⟨g2, o2, rfl, b2, k2⟩
    · exact absurd r2 hn0
    have H1 := hidMk k1
    have H2 := hidMk k2
    clear k1 k2
    go_enter Try.func19, Try.ntmps19
    go_wp2
    go_loopw [5] (fun u wr => ∃ k q : Nat, k ≤ n ∧ u = .int .i64 (k : Int) ∧ wr = w.drewN q) (fun u _ => n - (intOf u).toNat)
    case atStart => exact ⟨0, 0, Nat.zero_le _, rfl, rfl⟩
    case round =>
      obtain ⟨k, q, hk, rfl, hwr⟩ := hrel
      by_cases hlt : k < n
      · have hlt' : (k : Int) < (n : Int) := by omega
        have hx : xs[k]? = some (xs[k]'(by omega)) := List.getElem?_eq_getElem (by omega)
        generalize xs[k]'(by omega) = x at hx
        have d1 : wr.cell? ⟨g1, o1 + k, none⟩ = some (.bool x) := by rw [hwr]; exact H1.out k x hx
        have d2 : wr.cell? ⟨g2, o2 + k, none⟩ = some (.bool x) := by rw [hwr]; exact H2.out k x hx
        have HW := hidMk hwr
        clear hwr hx
        cases x
        all_goals
          go_wp2
          go_quiet (fail)
          go_wp2
          go_roundw
          case rel => exact ⟨k + 1, q + nq, by omega, by go_num, by rw [HW.out, drewN_plus]⟩
          case measure => simp [intOf]; omega
      · obtain rfl : k = n := by omega
        go_wp2
        go_ret
        exact ⟨rfl, q, by first | rfl | exact hwr⟩

set_option maxRecDepth 100000 in
set_option maxHeartbeats 4000000 in
theorem bakeries_same {w : World} {a0 a1 a2 a3 a4 b0 b1 b2 b3 b4 : Option Addr} {pl n il c0 c1 c2 c3 c4 d0 d1 d2 d3 d4 : Nat} {x0 x1 x2 x4 : List Int} {x3 : List Bool}
    (r0 : RowI w a0 pl c0 x0) (r1 : RowI w a1 n c1 x1) (r2 : RowI w a2 n c2 x2) (r3 : RowO w a3 n c3 x3) (r4 : RowI w a4 il c4 x4)
    (s0 : RowI w b0 pl d0 x0) (s1 : RowI w b1 n d1 x1) (s2 : RowI w b2 n d2 x2) (s3 : RowO w b3 n d3 x3) (s4 : RowI w b4 il d4 x4) (h1 : pl ≤ 1000) (h2 : n ≤ 1000) (h3 : il ≤ 1000) :
    Calls Try.prog 10 #[.agg #[.slice a0 pl c0, .slice a1 n c1, .slice a2 n c2, .slice a3 n c3, .slice a4 il c4], .agg #[.slice b0 pl d0, .slice b1 n d1, .slice b2 n d2, .slice b3 n d3, .slice b4 il d4]] w fun e W2 => e = .returned (.bool true) ∧ Stil w W2 := by
  have H0 := hidMk (fun (w' : World) (h : Stil w w') => codesI_same (r0.still h) (s0.still h) h1)
  have H1 := hidMk (fun (w' : World) (h : Stil w w') => intsI_same (r1.still h) (s1.still h) h2)
  have H2 := hidMk (fun (w' : World) (h : Stil w w') => intsI_same (r2.still h) (s2.still h) h2)
  have H3 := hidMk (fun (w' : World) (h : Stil w w') => bools_same (r3.still h) (s3.still h) h2)
  have H4 := hidMk (fun (w' : World) (h : Stil w w') => intsI_same (r4.still h) (s4.still h) h3)
  have HK : Hid (Stil w ((w.alloc (.cells #[.slice a0 pl c0, .slice a1 n c1, .slice a2 n c2, .slice a3 n c3, .slice a4 il c4] 26)).alloc (.cells #[.slice b0 pl d0, .slice b1 n d1, .slice b2 n d2, .slice b3 n d3, .slice b4 il d4] 26))) := ((Keep.refl _ w).alloc _).alloc _
  clear r0 r1 r2 r3 r4 s0 s1 s2 s3 s4
  go_enter Try.func10, Try.ntmps10
  go_wp2_with (fail)
  go_at_call 14
  refine (H0.out _ HK.out).mono ?_
  rintro e w1 ⟨rfl, m1, rfl⟩
  clear H0
  go_wp2_with (fail)
  go_at_call 18
  refine (H1.out _ (HK.out.dr _)).mono ?_
  rintro e w1 ⟨rfl, m2, rfl⟩
  clear H1
  go_wp2_with (fail)
  go_at_call 18
  refine (H2.out _ (HK.out.dr _)).mono ?_
  rintro e w1 ⟨rfl, m3, rfl⟩
  clear H2
  go_wp2_with (fail)
  go_at_call 19
  refine (H3.out _ (HK.out.dr _)).mono ?_
  rintro e w1 ⟨rfl, m4, rfl⟩
  clear H3
  go_wp2_with (fail)
  go_at_call 18
  refine (H4.out _ (HK.out.dr _)).mono ?_
  rintro e w1 ⟨rfl, m5, rfl⟩
  clear H4
  go_wp2
  go_ret
  exact ⟨rfl, (HK.out.dr _)⟩
end Go.Proofs.Ytgnigjfgddhgiaa
