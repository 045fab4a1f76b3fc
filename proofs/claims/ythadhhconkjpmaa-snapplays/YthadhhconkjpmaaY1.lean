/- The document's Snap is the program's; folkmootref.Snaps, of what is the same. -/
import Derived.Test.YthadhhconkjpmaaY0
namespace Go.Proofs.Ythadhhconkjpmaa
open Go.RowKit Go.WideMaps
set_option linter.unusedVariables false

theorem tlF_same {n : Nat} {m : Nat → Int} (hm : ∀ i, i < n → 0 ≤ m i) (ps : List Pass) (k : Nat) {t : Nat} (ht : t < n * n) : tlF n (rfAt n (rf0 m) ps k) t = ((stAt n (st0 m) ps k).ways (t / n) (t % n)).noted := by
  have hn : 0 < n := by
    rcases Nat.eq_zero_or_pos n with e | e
    · subst e; simp at ht
    · exact e
  have hi : t / n < n := Nat.div_lt_of_lt_mul ht
  have hj : t % n < n := Nat.mod_lt t hn
  have hinv := (at_inv (inv0 (n := n) hm) ps k).1
  have hs := sim_at (n := n) hm ps k
  unfold tlF
  by_cases e : t / n = t % n
  · rw [if_pos e, e, hinv.i4 _ hj]
  · rw [if_neg e, hs.nt _ _ hi hj]
theorem dF_same {n : Nat} (hn : 0 < n) {m : Nat → Int} (hm : ∀ i, i < n → 0 ≤ m i) (ps : List Pass) (k : Nat) : dF n (rfAt n (rf0 m) ps k) (n * n) = doneB n (stAt n (st0 m) ps k) := by
  rw [← sim_done (at_inv (inv0 (n := n) hm) ps k).1 (sim_at (n := n) hm ps k) hn]
  generalize rfAt n (rf0 m) ps k = R
  rw [Bool.eq_iff_iff]
  unfold dF doneR
  simp only [List.all_eq_true, List.mem_range]
  constructor
  · intro h i hi j hj
    have h9 : (i + 1) * n ≤ n * n := Nat.mul_le_mul_right _ hi
    rw [Nat.succ_mul] at h9
    have := h (i * n + j) (by omega)
    rw [div_at hj, mod_at hj] at this
    exact this
  · intro h t ht
    exact h (t / n) (Nat.div_lt_of_lt_mul ht) (t % n) (Nat.mod_lt t hn)
theorem cdR_same {n : Nat} {m : Nat → Int} (hm : ∀ i, i < n → 0 ≤ m i) (ps : List Pass) {k : Nat} (hk : k ≤ ps.length) : cdR n (rf0 m) ps k = (List.range k).map (codeAt n (st0 m) ps) := by
  unfold cdR
  apply List.map_congr_left
  intro i hi
  rw [List.mem_range] at hi
  have hx : ps[i]? = some (ps[i]'(by omega)) := List.getElem?_eq_getElem (by omega)
  unfold codeAt
  rw [hx]
  exact sim_code (at_inv (inv0 (n := n) hm) ps i).1 (sim_at (n := n) hm ps i) _
theorem money_same {n : Nat} {m : Nat → Int} (hm : ∀ i, i < n → 0 ≤ m i) (ps : List Pass) (k : Nat) : (List.range n).map (rfAt n (rf0 m) ps k).money = (List.range n).map (stAt n (st0 m) ps k).money := by
  apply List.map_congr_left
  intro i hi
  rw [List.mem_range] at hi
  exact (sim_at (n := n) hm ps k).money i hi
theorem own_same {n : Nat} {m : Nat → Int} (hm : ∀ i, i < n → 0 ≤ m i) (ps : List Pass) (k : Nat) : (List.range n).map (rfAt n (rf0 m) ps k).own = (List.range n).map (stAt n (st0 m) ps k).own := by
  apply List.map_congr_left
  intro i hi
  rw [List.mem_range] at hi
  exact (sim_at (n := n) hm ps k).own i hi

theorem Stil.dr {A B : World} (h : Stil A B) (q : Nat) : Stil A (B.drewN q) := Stil.tr h (Stil.drewN _ _)
/-- A slice of lists. -/
def RowsZ (w : World) (L o N : Nat) (S : Nat → List Int) : Prop := ∀ i, i < N → ∃ a c, w.cell? ⟨L, o + i, none⟩ = some (.slice a (S i).length c) ∧ RowI w a (S i).length c (S i)
theorem RowsZ.still {w w' : World} {L o N : Nat} {S : Nat → List Int} (h : RowsZ w L o N S) (hs : Stil w w') : RowsZ w' L o N S := fun i hi => let ⟨a, c, h1, h2⟩ := h i hi; ⟨a, c, hs.cell h1, h2.still hs⟩
set_option maxRecDepth 100000 in
set_option maxHeartbeats 4000000 in
theorem listsZ_same {w : World} {L1 o1 c1 L2 o2 c2 N : Nat} {S : Nat → List Int} (h1 : RowsZ w L1 o1 N S) (h2 : RowsZ w L2 o2 N S) (hN : N ≤ 36) (hS : ∀ i, i < N → (S i).length ≤ 200) :
    Calls Try.prog 16 #[.slice (some ⟨L1, o1, none⟩) N c1, .slice (some ⟨L2, o2, none⟩) N c2] w fun e w2 => e = .returned (.bool true) ∧ ∃ k, w2 = w.drewN k := by
  have H1 := hidMk h1
  have H2 := hidMk h2
  have HS := hidMk hS
  clear h1 h2 hS
  have hn' : (N : Int) ≤ 36 := by omega
  go_enter Try.func16, Try.ntmps16
  go_wp2
  go_loopw [5] (fun u wr => ∃ k q : Nat, k ≤ N ∧ u = .int .i64 (k : Int) ∧ wr = w.drewN q) (fun u _ => N - (intOf u).toNat)
  case atStart => exact ⟨0, 0, Nat.zero_le _, rfl, rfl⟩
  case round =>
    obtain ⟨k, q, hk, rfl, hwr⟩ := hrel
    by_cases hlt : k < N
    · have hlt' : (k : Int) < (N : Int) := by omega
      obtain ⟨a1, c1, e1, r1⟩ := (H1.out.still (Stil.drewN w q)) k hlt
      obtain ⟨a2, c2, e2, r2⟩ := (H2.out.still (Stil.drewN w q)) k hlt
      rw [← hwr] at e1 r1 e2 r2
      have hl := HS.out k hlt
      have HI : Hid (∀ q, Calls Try.prog 15 #[.slice a1 (S k).length c1, .slice a2 (S k).length c2] (wr.drewN q) fun e w5 => e = .returned (.bool true) ∧ ∃ m, w5 = wr.drewN m) := fun q => by
        refine (intsI_same (r1.still (Stil.drewN wr q)) (r2.still (Stil.drewN wr q)) (by omega)).mono ?_
        rintro e w5 ⟨rfl, m, rfl⟩
        exact ⟨rfl, q + m, drewN_plus _ _ _⟩
      have HW := hidMk hwr
      clear hwr r1 r2
      generalize (S k).length = sl at *
      go_wp2
      go_quiet ((go_at_call 15; exact HI.out _))
      go_wp2
      go_roundw
      case rel => exact ⟨k + 1, q + nq, by omega, by go_num, by rw [HW.out, drewN_plus]⟩
      case measure => simp [intOf]; omega
    · obtain rfl : k = N := by omega
      go_wp2
      go_ret
      exact ⟨rfl, q, by first | rfl | exact hwr⟩
set_option maxRecDepth 100000 in
set_option maxHeartbeats 4000000 in
theorem lists_none {w : World} : Calls Try.prog 16 #[.slice none 0 0, .slice none 0 0] w fun e w2 => e = .returned (.bool true) ∧ ∃ k, w2 = w.drewN k := by
  go_enter Try.func16, Try.ntmps16
  go_wp2
  go_loopw [5] (fun u wr => u = .int .i64 0 ∧ wr = w) (fun u _ => 0)
  case atStart => exact ⟨rfl, rfl⟩
  case round =>
    obtain ⟨rfl, hwr⟩ := hrel
    subst hwr
    go_wp2
    go_ret
    exact ⟨rfl, 0, rfl⟩
set_option maxRecDepth 100000 in
set_option maxHeartbeats 4000000 in
theorem snaps_same {w : World} {a0 a1 a2 a3 b0 b1 b2 b3 : Option Addr} {pl n N c0 c1 c2 c3 d0 d1 d2 d3 : Nat} {x0 x1 x2 : List Int} (dn : Bool)
    (r0 : RowI w a0 pl c0 x0) (r1 : RowI w a1 n c1 x1) (r2 : RowI w a2 n c2 x2) (s0 : RowI w b0 pl d0 x0) (s1 : RowI w b1 n d1 x1) (s2 : RowI w b2 n d2 x2)
    (hl : ∀ w1, Stil w w1 → Calls Try.prog 16 #[.slice a3 N c3, .slice b3 N d3] w1 fun e w2 => e = .returned (.bool true) ∧ ∃ k, w2 = w1.drewN k) (h1 : pl ≤ 1000) (h2 : n ≤ 1000) :
    Calls Try.prog 6 #[.agg #[.slice a0 pl c0, .slice a1 n c1, .slice a2 n c2, .slice a3 N c3, .bool dn], .agg #[.slice b0 pl d0, .slice b1 n d1, .slice b2 n d2, .slice b3 N d3, .bool dn]] w fun e W2 => e = .returned (.bool true) ∧ Stil w W2 := by
  have H0 := hidMk (fun (w' : World) (h : Stil w w') => codesI_same (r0.still h) (s0.still h) h1)
  have H1 := hidMk (fun (w' : World) (h : Stil w w') => intsI_same (r1.still h) (s1.still h) h2)
  have H2 := hidMk (fun (w' : World) (h : Stil w w') => intsI_same (r2.still h) (s2.still h) h2)
  have H3 := hidMk hl
  have HK : Hid (Stil w ((w.alloc (.cells #[.slice a0 pl c0, .slice a1 n c1, .slice a2 n c2, .slice a3 N c3, .bool dn] 27)).alloc (.cells #[.slice b0 pl d0, .slice b1 n d1, .slice b2 n d2, .slice b3 N d3, .bool dn] 27))) := ((Keep.refl _ w).alloc _).alloc _
  clear r0 r1 r2 s0 s1 s2 hl
  cases dn
  all_goals
    go_enter Try.func6, Try.ntmps6
    go_wp2_with (fail)
    go_at_call 14
    refine (H0.out _ HK.out).mono ?_
    rintro e w1 ⟨rfl, m1, rfl⟩
    clear H0
    go_wp2_with (fail)
    go_at_call 15
    refine (H1.out _ (Stil.dr HK.out _)).mono ?_
    rintro e w1 ⟨rfl, m2, rfl⟩
    clear H1
    go_wp2_with (fail)
    go_at_call 15
    refine (H2.out _ (Stil.dr HK.out _)).mono ?_
    rintro e w1 ⟨rfl, m3, rfl⟩
    clear H2
    go_wp2_with (fail)
    go_at_call 16
    refine (H3.out _ (Stil.dr HK.out _)).mono ?_
    rintro e w1 ⟨rfl, m4, rfl⟩
    clear H3
    go_wp2
    go_ret
    exact ⟨rfl, (Stil.dr HK.out _)⟩
/-- The program's answer, by rows. -/
theorem seen_rows {w : World} {lo C B gm om go oo n pl cm co : Nat} {S : St} {cd : Nat → Int} (h : Seen w lo C B gm om go oo n pl S cd) (hpl : pl ≤ 120) (hn : 0 < n) (hn6 : n ≤ 6) (hcm : n ≤ cm) (hco : n ≤ co) (hl : ∀ t, t < n * n → (S.ways (t / n) (t % n)).noted.length ≤ 200) (hcp : pl = 0 ∨ 0 < pl) :
    RowI w (some ⟨C, 0, none⟩) pl pl ((List.range pl).map cd) ∧ RowI w (some ⟨gm, om, none⟩) n cm ((List.range n).map S.money) ∧ RowI w (some ⟨go, oo, none⟩) n co ((List.range n).map S.own) ∧ RowsZ w B 0 (n * n) (fun t => (S.ways (t / n) (t % n)).noted) := by
  refine ⟨⟨by simp, Nat.le_refl _, by unfold maxLen; omega, ?_⟩, ⟨by simp, hcm, by unfold maxLen; omega, .inr ⟨gm, om, rfl, World.block_lt_of_cell? _ _ (h.money 0 hn), fun j x hx => ?_⟩⟩, ⟨by simp, hco, by unfold maxLen; omega, .inr ⟨go, oo, rfl, World.block_lt_of_cell? _ _ (h.own 0 hn), fun j x hx => ?_⟩⟩, fun t ht => ?_⟩
  · rcases hcp with e | e
    · exact .inl e
    · refine .inr ⟨C, 0, rfl, World.block_lt_of_cell? _ _ (h.codes 0 e), fun j x hx => ?_⟩
      have hj := (List.getElem?_eq_some_iff.1 hx).1
      simp at hj
      simp [hj] at hx
      rw [Nat.zero_add, ← hx]
      exact h.codes j hj
  · have hj := (List.getElem?_eq_some_iff.1 hx).1
    simp at hj
    simp [hj] at hx
    rw [← hx]
    exact h.money j hj
  · have hj := (List.getElem?_eq_some_iff.1 hx).1
    simp at hj
    simp [hj] at hx
    rw [← hx]
    exact h.own j hj
  · obtain ⟨a, c, h1, h2, h3⟩ := h.rows t ht
    refine ⟨a, c, by rw [Nat.zero_add]; exact h1, rfl, h2, by have := hl t ht; show (S.ways (t / n) (t % n)).noted.length ≤ maxLen; unfold maxLen; omega, ?_⟩
    by_cases e : (S.ways (t / n) (t % n)).noted.length = 0
    · exact .inl e
    · have hx : (S.ways (t / n) (t % n)).noted[0]? = some ((S.ways (t / n) (t % n)).noted[0]'(by omega)) := List.getElem?_eq_getElem (by omega)
      obtain ⟨g, off, e2, h5⟩ := h3 0 _ hx
      exact .inr ⟨g, off, e2, World.block_lt_of_cell? _ _ (h5 0 _ hx), h5⟩
end Go.Proofs.Ythadhhconkjpmaa
