/- Contracts of folkmootkeep.nearest, and of leq at whatever two lists. -/
import Derived.Test.YtjglbjiekndpeabO1
namespace Go.Proofs.Ytjglbjiekndpeab
open Go.RowKit Go.Shelf
set_option linter.unusedVariables false

/-- Numbers that a call made, with room. -/
abbrev RowC (W : World) (base g n c : Nat) (f : Nat → Nat) : Prop := W.ownsRow base 3 1 (.slice (some ⟨g, 0, none⟩) n c) n ((rowN n f).map encN)
theorem rowC_cell {w : World} {base g n c : Nat} {f : Nat → Nat} (h : RowC w base g n c f) {p : Nat} (hp : p < n) : w.cell? ⟨g, p, none⟩ = some (.int .i64 ((f p : Nat) : Int)) := by
  rw [World.ownsRow.cellAt h p (by omega), List.getElem?_map, rowN_at hp]; simp [encN]
theorem rowC_cap {w : World} {base g n c : Nat} {f : Nat → Nat} (h : RowC w base g n c f) : n ≤ c := by
  obtain ⟨_, ⟨h1, _⟩ | ⟨g2, c2, cur, h1, _, _, h2, _⟩⟩ := h
  · cases h1
  · cases h1; exact h2
theorem came_rowC {w : World} {base g n c : Nat} {f : Nat → Nat} (h : RowC w base g n c f) (hn : n ≤ 6) (hf : ∀ p, p < n → f p ≤ 100) : CameI w (some ⟨g, 0, none⟩) n c (rowI n f) := by
  refine ⟨rowI_len n f, rowC_cap h, by unfold maxLen; omega, .inr ⟨g, 0, rfl, (World.ownsRow.lt h g rfl).2, fun z hz => ?_, fun j z hz => ?_⟩⟩
  · obtain ⟨j, hj⟩ := List.mem_iff_getElem?.1 hz
    have hjn : j < n := by have := (List.getElem?_eq_some_iff.1 hj).1; rwa [rowI_len] at this
    rw [rowI_at hjn] at hj
    have := hf j hjn
    cases hj
    unfold I64; omega
  · have hjn : j < n := by have := (List.getElem?_eq_some_iff.1 hz).1; rwa [rowI_len] at this
    rw [rowI_at hjn] at hz
    cases hz
    rw [Nat.zero_add]
    exact rowC_cell h hjn

set_option maxHeartbeats 1000000 in
theorem leq_cells (g1 o1 g2 o2 n c1 c2 : Nat) (f h : Nat → Nat) (w : World) (h1 : ∀ p, p < n → w.cell? ⟨g1, o1 + p, none⟩ = some (.int .i64 ((f p : Nat) : Int))) (h2 : ∀ p, p < n → w.cell? ⟨g2, o2 + p, none⟩ = some (.int .i64 ((h p : Nat) : Int))) (m1 : n ≤ 100) :
    Calls Try.prog 11 #[.slice (some ⟨g1, o1, none⟩) n c1, .slice (some ⟨g2, o2, none⟩) n c2] w fun e w2 => e = .returned (.bool (leN n f h)) ∧ ∃ m, w2 = w.drewN m := by
  have m1' : (n : Int) ≤ 100 := by omega
  have H1 := hidMk h1
  have H2 := hidMk h2
  clear h1 h2
  go_enter Try.func11, Try.ntmps11
  go_wp2
  go_loopw [5] (fun i wr => ∃ k : Nat, k ≤ n ∧ i = .int .i64 (k : Int) ∧ Hid (∃ m, wr = w.drewN m) ∧ Hid (∀ p, p < k → f p ≤ h p)) (fun i _ => n - (intOf i).toNat)
  case atStart => exact ⟨0, Nat.zero_le _, rfl, ⟨0, rfl⟩, fun p hp => by omega⟩
  case round =>
    obtain ⟨k, hk, rfl, HM, HT⟩ := hrel
    by_cases hlt : k < n
    · have hlt' : (k : Int) < (n : Int) := by omega
      have d1 : wr.cell? ⟨g1, o1 + k, none⟩ = some (.int .i64 ((f k : Nat) : Int)) := by obtain ⟨m, e⟩ := HM.out; rw [e]; exact H1.out k hlt
      have d2 : wr.cell? ⟨g2, o2 + k, none⟩ = some (.int .i64 ((h k : Nat) : Int)) := by obtain ⟨m, e⟩ := HM.out; rw [e]; exact H2.out k hlt
      by_cases he : f k ≤ h k
      · have he' : ((f k : Nat) : Int) ≤ ((h k : Nat) : Int) := by omega
        go_wp2
        go_quiet (fail)
        go_wp2
        go_roundw
        case rel => exact ⟨k + 1, by omega, by go_num, drew_more HM.out nq, fun p hp => by
          by_cases e : p = k
          · subst e; exact he
          · exact HT.out p (by omega)⟩
        case measure => simp [intOf]; omega
      · have he' : ((h k : Nat) : Int) < ((f k : Nat) : Int) := by omega
        go_wp2
        go_quiet (fail)
        go_wp2
        go_ret
        exact ⟨ret_bool (leN_not hlt (by omega)).symm, drew_more HM.out nq⟩
    · obtain rfl : k = n := by omega
      go_wp2
      go_ret
      exact ⟨ret_bool (leN_iff.2 HT.out).symm, HM.out⟩

theorem rowN_snoc (n : Nat) (f : Nat → Nat) : rowN (n + 1) f = rowN n f ++ [f n] := by simp [rowN, List.range_succ]
/-- The greater, or the lesser, of each two. -/
def nr (great : Bool) (f h : Nat → Nat) (p : Nat) : Nat := if great then max (f p) (h p) else min (f p) (h p)
theorem nr_step (great : Bool) (f h : Nat → Nat) (p : Nat) : nr great f h p = if (decide (((f p : Nat) : Int) < ((h p : Nat) : Int))) == great then h p else f p := by
  unfold nr
  by_cases hlt : f p < h p
  · have e : decide (((f p : Nat) : Int) < ((h p : Nat) : Int)) = true := by simpa using hlt
    rw [e]
    cases great
    · simp; omega
    · simp; omega
  · have e : decide (((f p : Nat) : Int) < ((h p : Nat) : Int)) = false := by simpa using hlt
    rw [e]
    cases great
    · simp; omega
    · simp; omega

theorem form_row {w : World} {base k : Nat} {v : Value} {f : Nat → Nat} (h : w.ownsRow base 3 1 v k ((rowN k f).map encN)) (hk : 0 < k) : ∃ g c, v = .slice (some ⟨g, 0, none⟩) k c := by
  obtain ⟨_, ⟨h1, h2⟩ | ⟨g, c, cur, h1, _⟩⟩ := h
  · omega
  · exact ⟨g, c, h1⟩

set_option maxHeartbeats 2000000 in
theorem nearest_two (great : Bool) (g1 o1 g2 o2 n c1 c2 : Nat) (f h : Nat → Nat) (w : World) (b1 : g1 < w.heap.size) (b2 : g2 < w.heap.size) (h1 : ∀ p, p < n → w.cell? ⟨g1, o1 + p, none⟩ = some (.int .i64 ((f p : Nat) : Int))) (h2 : ∀ p, p < n → w.cell? ⟨g2, o2 + p, none⟩ = some (.int .i64 ((h p : Nat) : Int))) (m0 : 0 < n) (m1 : n ≤ 100) :
    Calls Try.prog 9 #[.slice (some ⟨g1, o1, none⟩) n c1, .slice (some ⟨g2, o2, none⟩) n c2, .bool great] w fun e w2 => (∃ g c, e = .returned (.slice (some ⟨g, 0, none⟩) n c) ∧ RowC w2 w.heap.size g n c (nr great f h)) ∧ Below w.heap.size w w2 := by
  obtain ⟨i0, hi, hz0, hz1, hz2⟩ := info_parts Try.info3
  have m1' : (n : Int) ≤ 100 := by omega
  have H1 := hidMk h1
  have H2 := hidMk h2
  clear h1 h2
  go_enter Try.func9, Try.ntmps9
  go_wp2
  go_loopw [7, 8] (fun v u wr => ∃ k : Nat, k ≤ n ∧ u = .int .i64 (k : Int) ∧ wr.ownsRow w.heap.size 3 1 v k ((rowN k (nr great f h)).map encN) ∧ Hid (Below w.heap.size w wr)) (fun _ u _ => n - (intOf u).toNat)
  case atStart => exact ⟨0, Nat.zero_le _, rfl, World.ownsRow_nil _ _ _ _, Below.refl _ _⟩
  case round =>
    obtain ⟨k, hk, rfl, hown, HB⟩ := hrel
    by_cases hlt : k < n
    · have hlt' : (k : Int) < (n : Int) := by omega
      have d1 := (HB.out.cell (p := ⟨g1, o1 + k, none⟩) b1).trans (H1.out k hlt)
      have d2 := (HB.out.cell (p := ⟨g2, o2 + k, none⟩) b2).trans (H2.out k hlt)
      have hsz := HB.out.size
      have HN := hidMk (nr_step great f h k)
      have HA : Hid (∀ (z : Nat) (v3 : Value) (w3 : World), nr great f h k = z → w3.ownsRow w.heap.size 3 1 v3 (k + 1) ((rowN k (nr great f h)).map encN ++ [.int .i64 (z : Int)]) → w3.ownsRow w.heap.size 3 1 v3 (k + 1) ((rowN (k + 1) (nr great f h)).map encN)) := fun z v3 w3 e h => by
        rw [rowN_snoc, List.map_append, e]; exact h
      have HN0 := hidMk (nr_step great f h k)
      clear HN
      generalize hx : f k = x at d1 HN0
      generalize hy : h k = y at d2 HN0
      clear hx hy
      by_cases hxy : x < y
      · have hxy' : (x : Int) < (y : Int) := by omega
        cases great with
        | true =>
          have HN : Hid (nr true f h k = y) := HN0.out.trans (by simp [hxy])
          clear HN0
          go_wp2_with (at_builtin; refine wpList_append_own _ rfl _ _ 23 rfl w.heap.size 3 i0 (.int .i64 0) 1 8 Try.underlying23 hi hz0 hz1 hz2 rfl (by decide) _ _ _ rfl (World.ownsRow.alloc hown _) ⟨wr.heap.size, 0, none⟩ 1 1 [.int .i64 (y : Int)] rfl rfl (cell_one_at _ _ _ _ rfl) (one_cell _) (by unfold maxLen; omega) (by omega) (by simp; omega) ?_)
          intro v3 w3 hown3 hgrow3 _
          have HO3 := hidMk (HA.out y v3 w3 HN.out hown3)
          have HB3 : Hid (Below w.heap.size w w3) := (HB.out.alloc HB.out.size _).grown hgrow3 (by simp; omega) (fun q e => (World.ownsRow.lt hown q e).1)
          clear hown3 hgrow3 hown
          go_wp2
          go_roundw
          case rel => exact ⟨k + 1, by omega, by go_num, HO3.out, HB3⟩
          case measure => simp [intOf]; omega
        | false =>
          have HN : Hid (nr false f h k = x) := HN0.out.trans (by simp [hxy])
          clear HN0
          go_wp2_with (at_builtin; refine wpList_append_own _ rfl _ _ 23 rfl w.heap.size 3 i0 (.int .i64 0) 1 8 Try.underlying23 hi hz0 hz1 hz2 rfl (by decide) _ _ _ rfl (World.ownsRow.alloc hown _) ⟨wr.heap.size, 0, none⟩ 1 1 [.int .i64 (x : Int)] rfl rfl (cell_one_at _ _ _ _ rfl) (one_cell _) (by unfold maxLen; omega) (by omega) (by simp; omega) ?_)
          intro v3 w3 hown3 hgrow3 _
          have HO3 := hidMk (HA.out x v3 w3 HN.out hown3)
          have HB3 : Hid (Below w.heap.size w w3) := (HB.out.alloc HB.out.size _).grown hgrow3 (by simp; omega) (fun q e => (World.ownsRow.lt hown q e).1)
          clear hown3 hgrow3 hown
          go_wp2
          go_roundw
          case rel => exact ⟨k + 1, by omega, by go_num, HO3.out, HB3⟩
          case measure => simp [intOf]; omega
      · have hxy' : (y : Int) ≤ (x : Int) := by omega
        cases great with
        | true =>
          have HN : Hid (nr true f h k = x) := HN0.out.trans (by simp; omega)
          clear HN0
          go_wp2_with (at_builtin; refine wpList_append_own _ rfl _ _ 23 rfl w.heap.size 3 i0 (.int .i64 0) 1 8 Try.underlying23 hi hz0 hz1 hz2 rfl (by decide) _ _ _ rfl (World.ownsRow.alloc hown _) ⟨wr.heap.size, 0, none⟩ 1 1 [.int .i64 (x : Int)] rfl rfl (cell_one_at _ _ _ _ rfl) (one_cell _) (by unfold maxLen; omega) (by omega) (by simp; omega) ?_)
          intro v3 w3 hown3 hgrow3 _
          have HO3 := hidMk (HA.out x v3 w3 HN.out hown3)
          have HB3 : Hid (Below w.heap.size w w3) := (HB.out.alloc HB.out.size _).grown hgrow3 (by simp; omega) (fun q e => (World.ownsRow.lt hown q e).1)
          clear hown3 hgrow3 hown
          go_wp2
          go_roundw
          case rel => exact ⟨k + 1, by omega, by go_num, HO3.out, HB3⟩
          case measure => simp [intOf]; omega
        | false =>
          have HN : Hid (nr false f h k = y) := HN0.out.trans (by simp; omega)
          clear HN0
          go_wp2_with (at_builtin; refine wpList_append_own _ rfl _ _ 23 rfl w.heap.size 3 i0 (.int .i64 0) 1 8 Try.underlying23 hi hz0 hz1 hz2 rfl (by decide) _ _ _ rfl (World.ownsRow.alloc hown _) ⟨wr.heap.size, 0, none⟩ 1 1 [.int .i64 (y : Int)] rfl rfl (cell_one_at _ _ _ _ rfl) (one_cell _) (by unfold maxLen; omega) (by omega) (by simp; omega) ?_)
          intro v3 w3 hown3 hgrow3 _
          have HO3 := hidMk (HA.out y v3 w3 HN.out hown3)
          have HB3 : Hid (Below w.heap.size w w3) := (HB.out.alloc HB.out.size _).grown hgrow3 (by simp; omega) (fun q e => (World.ownsRow.lt hown q e).1)
          clear hown3 hgrow3 hown
          go_wp2
          go_roundw
          case rel => exact ⟨k + 1, by omega, by go_num, HO3.out, HB3⟩
          case measure => simp [intOf]; omega
    · obtain rfl : k = n := by omega
      obtain ⟨g, c, rfl⟩ := form_row hown m0
      have HO := hidMk hown
      clear hown
      go_wp2
      go_ret
      exact ⟨⟨g, c, rfl, HO.out⟩, HB.out⟩
end Go.Proofs.Ytjglbjiekndpeab
