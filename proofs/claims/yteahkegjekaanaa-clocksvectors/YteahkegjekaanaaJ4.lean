/- The numbers of an event by all that are before it: plain facts; contract of folkmootref.Scalars. -/
import Derived.Test.YteahkegjekaanaaJ2
namespace Go.Proofs.Yteahkegjekaanaa
open Go.RowKit Go.Shelf
set_option linter.unusedVariables false

/-- The greatest number of those among the first i that are before j. -/
def topBef (es : List Ev) (j : Nat) : Nat → Nat
  | 0 => 0
  | i + 1 => if befB es i j = true ∧ topBef es j i < sc es i then sc es i else topBef es j i
theorem topBef_le {N : Int} {es : List Ev} (hv : Valid N es) {j : Nat} : ∀ i, topBef es j i + 1 ≤ sc es j
  | 0 => sc_pos hv j
  | i + 1 => by
    unfold topBef
    split
    · next h => exact sc_bef hv (j + 1) (by omega) h.1
    · exact topBef_le hv i
theorem topBef_ge {es : List Ev} {j k : Nat} (hb : befB es k j = true) : ∀ i, k < i → sc es k ≤ topBef es j i
  | 0, h => by omega
  | i + 1, h => by
    unfold topBef
    by_cases e : k = i
    · subst e
      split
      · exact Nat.le_refl _
      · next h2 =>
        have h3 : ¬ (topBef es j k < sc es k) := fun h4 => h2 ⟨hb, h4⟩
        omega
    · have := topBef_ge hb i (by omega)
      split
      · omega
      · exact this
theorem topBef_is {N : Int} {es : List Ev} (hv : Valid N es) (j : Nat) : topBef es j j + 1 = sc es j := by
  have h1 := topBef_le hv (j := j) j
  have h2 : sc es j ≤ topBef es j j + 1 := by
    rw [sc_eq hv j]
    have e1 := opt_max (f := sc es) (o := lastAt es j (whoAt es j)) (B := topBef es j j) (fun k hk => topBef_ge (bef_near hv (near_last hk)) j (lastAt_lt hk))
    have e2 := opt_max (f := sc es) (o := takenAt es j) (B := topBef es j j) (fun k hk => topBef_ge (bef_near hv (near_taken hk)) j (taken_lt hv hk))
    omega
  omega

theorem rowN_succ (k : Nat) (f : Nat → Nat) : (rowN (k + 1) f).map encN = (rowN k f).map encN ++ [.int .i64 ((f k : Nat) : Int)] := by
  simp [rowN, List.range_succ, encN]

set_option maxRecDepth 100000 in
set_option maxHeartbeats 4000000 in
theorem refScalars_row (n b off cap : Nat) (es : List Ev) (w : World) (N : Int) (hl : es.length = n) (hn0 : 0 < n) (hv : Valid N es) (hq : EvRow w b off es) :
    Calls Try.prog 15 #[.slice (some ⟨b, off, none⟩) n cap] w fun e w2 => (∃ g c, e = .returned (.slice (some ⟨g, 0, none⟩) n c) ∧ w2.ownsRow w.heap.size 3 1 (.slice (some ⟨g, 0, none⟩) n c) n ((rowN n (sc es)).map encN)) ∧ Below w.heap.size w w2 := by
  obtain ⟨i0, hi, hz0, hz1, hz2⟩ := info_parts Try.info3
  have hn60 : n ≤ 60 := by have := hv.2.2.1; omega
  have hn60' : (n : Int) ≤ 60 := by omega
  have HR := hidMk (refBefore_row n b off cap es w N hl hv hq)
  have HL := hidMk hl
  have HV := hidMk hv
  clear hl hv hq
  go_enter Try.func15, Try.ntmps15
  go_wp2_with (go_at_call 12; refine (HR.out).mono ?_; rintro e w1 ⟨⟨g, rfl, hT⟩, hB1⟩)
  have hgl := (World.ownsRow.lt hT g rfl).2
  go_loopw [5, 6] (fun v u wr => ∃ j : Nat, j ≤ n ∧ u = .int .i64 (j : Int) ∧ wr.ownsRow w1.heap.size 3 1 v j ((rowN j (sc es)).map encN) ∧ Hid (Below w1.heap.size w1 wr)) (fun _ u _ => n - (intOf u).toNat)
  case atStart => exact ⟨0, Nat.zero_le _, rfl, World.ownsRow_nil _ _ _ _, Below.refl _ _⟩
  case round =>
    obtain ⟨j, hj, rfl, hown, HB⟩ := hrel
    by_cases hjn : j < n
    · have hjn' : (j : Int) < (n : Int) := by omega
      have hT2 := owns_below hT HB.out
      have hsh : ∃ av cv, u5 = .slice av j cv ∧ Hid (j = 0 ∨ ∃ g2, av = some ⟨g2, 0, none⟩ ∧ ∀ i, i < j → wr.cell? ⟨g2, i, none⟩ = some (.int .i64 ((sc es i : Nat) : Int))) := by
        have h2 : wr.ownsRow w1.heap.size 3 1 u5 (rowN j (sc es)).length ((rowN j (sc es)).map encN) := by rw [rowN_len]; exact hown
        obtain ⟨av, cv, h3, h4⟩ := near_cells h2
        rw [rowN_len] at h3
        refine ⟨av, cv, h3, ?_⟩
        rcases h4.out with h | ⟨g2, h5, _, _, h6⟩
        · rw [rowN_len] at h; exact .inl h
        · exact .inr ⟨g2, h5, fun i hi => h6 i _ (rowN_at hi)⟩
      obtain ⟨av, cv, rfl, HSH⟩ := hsh
      have HX := hidMk (topBef_is HV.out j)
      have HXL : Hid (∀ i, topBef es j i ≤ 60) := fun i => by have := topBef_le HV.out (j := j) i; have := sc_le HV.out (j + 1) j (by omega); omega
      go_wp2
      go_loop [7, 8] (fun x u => ∃ i : Nat, i ≤ j ∧ u = .int .i64 (i : Int) ∧ x = .int .i64 ((topBef es j i : Nat) : Int)) (fun _ u => j - (intOf u).toNat)
      case atStart => exact ⟨0, Nat.zero_le _, rfl, rfl⟩
      case round =>
        obtain ⟨i, hij, rfl, rfl⟩ := hrel
        by_cases hlt : i < j
        · have hlt' : (i : Int) < (j : Int) := by omega
          have hin : i < n := by omega
          rcases HSH.out with h | ⟨g2, ha, hcs⟩
          · omega
          subst ha
          have hci := hcs i hlt
          have d1 := Tab.cell hT2 hin hjn
          have hn1 : i * n ≤ 3540 := Nat.le_trans (Nat.mul_le_mul (show i ≤ 59 by omega) hn60) (by decide)
          have hc1 : ((i * n : Nat) : Int) = (i : Int) * (n : Int) := by simp
          have hc3 : ((n * n : Nat) : Int) = (n : Int) * (n : Int) := by simp
          have q0 : 0 ≤ (i : Int) * (n : Int) := by rw [← hc1]; omega
          have q1 : (i : Int) * (n : Int) ≤ 3540 := by rw [← hc1]; omega
          have q6 : (i : Int) * (n : Int) + (j : Int) < (n : Int) * (n : Int) := by have := at_lt hin hjn; rw [← hc1, ← hc3]; omega
          have r3 : ((i : Int) * (n : Int) + (j : Int)).toNat = i * n + j := by rw [← hc1]; omega
          have HTB := hidMk hT2
          have HCS := hidMk hcs
          have HOWN := hidMk hown
          clear hT2 hT hcs hown hc1 hc3 hn1
          cases c1 : befB es i j with
          | true =>
            rw [c1] at d1
            by_cases c2 : topBef es j i < sc es i
            · have c2' : ((topBef es j i : Nat) : Int) < ((sc es i : Nat) : Int) := by omega
              have HS : Hid (topBef es j (i + 1) = sc es i) := by show topBef es j (i + 1) = _; unfold topBef; rw [if_pos ⟨c1, c2⟩]
              clear c1
              go_wp2
              go_round
              case rel => exact ⟨i + 1, by omega, by go_num, by rw [HS.out]⟩
              case measure => simp [intOf]; omega
            · have c2' : ((sc es i : Nat) : Int) ≤ ((topBef es j i : Nat) : Int) := by omega
              have HS : Hid (topBef es j (i + 1) = topBef es j i) := by show topBef es j (i + 1) = _; rw [topBef, if_neg (fun h => c2 h.2)]
              clear c1 c2
              go_wp2
              go_round
              case rel => exact ⟨i + 1, by omega, by go_num, by rw [HS.out]⟩
              case measure => simp [intOf]; omega
          | false =>
            rw [c1] at d1
            have HS : Hid (topBef es j (i + 1) = topBef es j i) := by show topBef es j (i + 1) = _; rw [topBef, if_neg (fun h => by rw [c1] at h; exact absurd h.1 (by decide))]
            clear c1
            go_wp2
            go_round
            case rel => exact ⟨i + 1, by omega, by go_num, by rw [HS.out]⟩
            case measure => simp [intOf]; omega
        · obtain rfl : i = j := by omega
          have hto : ((topBef es i i : Nat) : Int) ≤ 60 := by have := HXL.out i; omega
          have hsz := HB.out.size
          go_wp2_with (at_builtin; refine wpList_append_own _ rfl _ _ 31 rfl w1.heap.size 3 i0 (.int .i64 0) 1 8 Try.underlying31 hi hz0 hz1 hz2 rfl (by decide) _ _ _ rfl (World.ownsRow.alloc hown _) ⟨wr.heap.size, 0, none⟩ 1 1 [.int .i64 ((topBef es i i : Nat) + 1 : Int)] rfl rfl (cell_one_at _ _ _ _ rfl) (one_cell _) (by unfold maxLen; omega) (by omega) (by simp; omega) ?_)
          intro v3 w3 hown3 hgrow3 _
          obtain ⟨g3, c3, rfl⟩ := ownsRow_succ hown3
          have HO3 : Hid (w3.ownsRow w1.heap.size 3 1 (.slice (some ⟨g3, 0, none⟩) (i + 1) c3) (i + 1) ((rowN (i + 1) (sc es)).map encN)) := by
            show World.ownsRow _ _ _ _ _ _ _
            rw [rowN_succ, ← HX.out]
            exact hown3
          have HB3 : Hid (Below w1.heap.size w1 w3) := (HB.out.alloc HB.out.size _).grown hgrow3 (by simp; omega) (fun k e => (World.ownsRow.lt hown k e).1)
          clear hown3 hgrow3
          go_wp2
          go_roundw
          case rel => exact ⟨i + 1, by omega, by go_num, HO3.out, HB3⟩
          case measure => simp [intOf]; omega
    · obtain rfl : j = n := by omega
      obtain ⟨m, hm⟩ : ∃ m, j = m + 1 := ⟨j - 1, by omega⟩
      have hsh : ∃ g2 c2, u5 = .slice (some ⟨g2, 0, none⟩) j c2 := by
        rw [hm] at hown
        obtain ⟨g2, c2, e⟩ := ownsRow_succ hown
        exact ⟨g2, c2, by rw [hm]; exact e⟩
      obtain ⟨g2, c2, rfl⟩ := hsh
      go_wp2
      go_ret
      exact ⟨⟨g2, c2, rfl, owns_le hown hB1.size⟩, hB1.trans (HB.out.mono hB1.size)⟩
end Go.Proofs.Yteahkegjekaanaa
