/- Machines in a ring: the document's Free and Moved; states. -/
import Derived.Test.YtflmbhjighnicaaJa3
namespace Go.Proofs.Ytflmbhjighnicaa
open Go.RowKit
set_option linter.unusedVariables false

/-- Numbers as a slice that came in. -/
def CameI (w : World) (a : Option Addr) (len cap : Nat) (zs : List Int) : Prop := RowI w a len cap zs
theorem came_ints {w : World} {a : Option Addr} {len cap : Nat} {zs : List Int}
    (h : (a = none ∧ len = 0 ∧ cap = 0 ∧ zs = []) ∨
      ∃ x, a = some x ∧ len ≤ cap ∧ cap ≤ maxLen ∧ zs.length = cap ∧ (∀ i, i < zs.length → w.cell? (x.add i) = some (.int .i64 (zs.getD i 0))) ∧ ∀ n ∈ zs, (Lit.int .i64 n).wf = true) :
    CameI w a len cap (zs.take len) := by
  rcases h with ⟨rfl, rfl, rfl, rfl⟩ | ⟨⟨b, off, spot⟩, rfl, hl, hm, hz, hcell, hwz⟩
  · exact ⟨rfl, Nat.le_refl _, Nat.zero_le _, .inl rfl⟩
  · refine ⟨by simp; omega, hl, Nat.le_trans hl hm, ?_⟩
    by_cases h0 : len = 0
    · exact .inl h0
    · have hc := hcell 0 (by omega)
      have hspot : spot = none := by simpa [Addr.add] using World.cell?_spot hc
      subst hspot
      refine .inr ⟨b, off, rfl, ?_, ?_⟩
      · have hc' : w.cell? ⟨b, off + 0, none⟩ = some (.int .i64 (zs.getD 0 0)) := by simpa [Addr.add] using hc
        exact World.block_lt_of_cell? _ _ hc'
      · intro j x hn
        have hjl : j < (zs.take len).length := (List.getElem?_eq_some_iff.1 hn).1
        rw [List.length_take] at hjl
        have e : zs[j]? = some x := by rw [List.getElem?_take] at hn; split at hn <;> simp_all
        have hj' := hcell j (by omega)
        rw [List.getD_eq_getElem?_getD, e, Option.getD_some, addr_add] at hj'
        exact hj'
/-- States that came in and may be. -/
theorem stJ {w : World} {a : Option Addr} {n c : Nat} {zs : List Int} {k : Int} (h : RowI w a n c zs) (hz : codeJ k zs = 0) :
    ∃ s, zs = rwJ n s ∧ RowI w a n c (rwJ n s) ∧ 2 ≤ n ∧ n ≤ 6 ∧ 2 ≤ k ∧ k ≤ 1000 ∧ OkJ k n s := by
  have hl := h.1
  obtain ⟨h1, h2, h3, h4, _⟩ := codeJ_zero hz
  have hv := okJ_of hz
  have e := rwJ_of zs
  subst hl
  exact ⟨_, e, by rw [← e]; exact h, h1, h2, h3, h4, hv⟩

theorem code_bool (x : Int) : Ending.returned (.bool (x == 0)) = Ending.returned (.bool (decide (x = 0))) := by
  congr 2
set_option maxRecDepth 100000 in
set_option maxHeartbeats 4000000 in
theorem states_any {w : World} {a : Option Addr} {len cap : Nat} {zs : List Int} (h : RowI w a len cap zs) (k : Int) :
    Calls Try.prog 16 #[.int .i64 k, .slice a len cap] w fun e w2 => e = .returned (.bool (codeJ k zs == 0)) ∧ w2 = w := by
  have HC := hidMk (refCheckJ h k)
  generalize codeJ k zs = rc at *
  clear h
  go_enter Try.func16, Try.ntmps16
  go_wp2_with (go_at_call 10; refine (HC.out).mono ?_; rintro e w1 ⟨rfl, hw⟩; obtain rfl := hw.symm)
  go_ret
  exact ⟨rfl, rfl⟩

set_option maxRecDepth 100000 in
set_option maxHeartbeats 4000000 in
theorem refFree_any {w : World} {a : Option Addr} {n c : Nat} {s : Nat → Int} (h : RowI w a n c (rwJ n s)) (h2 : 2 ≤ n) (h6 : n ≤ 6) {i : Nat} (hi : i < n) :
    Calls Try.prog 12 #[.slice a n c, .int .i64 (i : Int)] w fun e w2 => e = .returned (.bool (frJ n s i)) ∧ Stil w w2 := by
  obtain ⟨b, off, rfl, hb, hc⟩ := rowJ_cells h (by omega)
  have hcap : n ≤ c := h.2.1
  clear h
  have hn6 : (n : Int) ≤ 6 := by omega
  have hn2 : (2 : Int) ≤ (n : Int) := by omega
  by_cases h0 : i = 0
  · subst h0
    have d0 := hc 0 hi
    have d1 := hc (n - 1) (by omega)
    rw [Nat.add_zero] at d0
    have e : frJ n s 0 = (s 0 == s (n - 1)) := by simp [frJ]
    rw [e]
    clear hc e
    generalize s 0 = z0 at *
    generalize s (n - 1) = z1 at *
    have hnn : n = 2 ∨ n = 3 ∨ n = 4 ∨ n = 5 ∨ n = 6 := by omega
    clear hn6 hn2 h2 h6 hi
    rcases hnn with rfl | rfl | rfl | rfl | rfl
    · have q5 : IntKind.i64.wrap 1 = 1 := by decide
      have d1 : w.cell? ⟨b, off + 1, none⟩ = some (.int .i64 z1) := d1
      go_enter Try.func12, Try.ntmps12
      go_wp2
      go_quiet (fail)
      go_wp2
      go_ret
      exact ⟨rfl, Stil.drewN _ _⟩
    · have q5 : IntKind.i64.wrap 2 = 2 := by decide
      have d1 : w.cell? ⟨b, off + 2, none⟩ = some (.int .i64 z1) := d1
      go_enter Try.func12, Try.ntmps12
      go_wp2
      go_quiet (fail)
      go_wp2
      go_ret
      exact ⟨rfl, Stil.drewN _ _⟩
    · have q5 : IntKind.i64.wrap 3 = 3 := by decide
      have d1 : w.cell? ⟨b, off + 3, none⟩ = some (.int .i64 z1) := d1
      go_enter Try.func12, Try.ntmps12
      go_wp2
      go_quiet (fail)
      go_wp2
      go_ret
      exact ⟨rfl, Stil.drewN _ _⟩
    · have q5 : IntKind.i64.wrap 4 = 4 := by decide
      have d1 : w.cell? ⟨b, off + 4, none⟩ = some (.int .i64 z1) := d1
      go_enter Try.func12, Try.ntmps12
      go_wp2
      go_quiet (fail)
      go_wp2
      go_ret
      exact ⟨rfl, Stil.drewN _ _⟩
    · have q5 : IntKind.i64.wrap 5 = 5 := by decide
      have d1 : w.cell? ⟨b, off + 5, none⟩ = some (.int .i64 z1) := d1
      go_enter Try.func12, Try.ntmps12
      go_wp2
      go_quiet (fail)
      go_wp2
      go_ret
      exact ⟨rfl, Stil.drewN _ _⟩
  · have d0 := hc i hi
    have d1 := hc (i - 1) (by omega)
    have e : frJ n s i = (s i != s (i - 1)) := by simp [frJ, h0]
    rw [e]
    have hi' : (i : Int) < (n : Int) := by omega
    clear hc e
    obtain ⟨j, rfl⟩ : ∃ j, i = j + 1 := ⟨i - 1, by omega⟩
    simp only [Nat.add_sub_cancel] at d1 ⊢
    generalize s (j + 1) = z0 at *
    generalize s j = z1 at *
    have hj : j = 0 ∨ j = 1 ∨ j = 2 ∨ j = 3 ∨ j = 4 := by omega
    rcases hj with rfl | rfl | rfl | rfl | rfl
    · have q1 : (1 : Int) < (n : Int) := by omega
      have q2 : 1 < n := by omega
      have q3 : (0 : Int) < (n : Int) := by omega
      have q4 : 0 < n := by omega
      have q5 : IntKind.i64.wrap 0 = 0 := by decide
      rw [Nat.add_zero] at d1
      clear h0 hi hi'
      go_enter Try.func12, Try.ntmps12
      go_wp2
      go_quiet (fail)
      go_wp2
      go_ret
      exact ⟨rfl, Stil.drewN _ _⟩
    · have q1 : (2 : Int) < (n : Int) := by omega
      have q2 : 2 < n := by omega
      have q3 : (1 : Int) < (n : Int) := by omega
      have q4 : 1 < n := by omega
      have q5 : IntKind.i64.wrap 1 = 1 := by decide
      clear h0 hi hi'
      go_enter Try.func12, Try.ntmps12
      go_wp2
      go_quiet (fail)
      go_wp2
      go_ret
      exact ⟨rfl, Stil.drewN _ _⟩
    · have q1 : (3 : Int) < (n : Int) := by omega
      have q2 : 3 < n := by omega
      have q3 : (2 : Int) < (n : Int) := by omega
      have q4 : 2 < n := by omega
      have q5 : IntKind.i64.wrap 2 = 2 := by decide
      clear h0 hi hi'
      go_enter Try.func12, Try.ntmps12
      go_wp2
      go_quiet (fail)
      go_wp2
      go_ret
      exact ⟨rfl, Stil.drewN _ _⟩
    · have q1 : (4 : Int) < (n : Int) := by omega
      have q2 : 4 < n := by omega
      have q3 : (3 : Int) < (n : Int) := by omega
      have q4 : 3 < n := by omega
      have q5 : IntKind.i64.wrap 3 = 3 := by decide
      clear h0 hi hi'
      go_enter Try.func12, Try.ntmps12
      go_wp2
      go_quiet (fail)
      go_wp2
      go_ret
      exact ⟨rfl, Stil.drewN _ _⟩
    · have q1 : (5 : Int) < (n : Int) := by omega
      have q2 : 5 < n := by omega
      have q3 : (4 : Int) < (n : Int) := by omega
      have q4 : 4 < n := by omega
      have q5 : IntKind.i64.wrap 4 = 4 := by decide
      clear h0 hi hi'
      go_enter Try.func12, Try.ntmps12
      go_wp2
      go_quiet (fail)
      go_wp2
      go_ret
      exact ⟨rfl, Stil.drewN _ _⟩

def mvTo (k : Int) (s : Nat → Int) (i m : Nat) : List Int := (List.range m).map (mvJ k s i)
theorem mvTo_len (k : Int) (s : Nat → Int) (i m : Nat) : (mvTo k s i m).length = m := by simp [mvTo]
theorem mvTo_succ (k : Int) (s : Nat → Int) (i m : Nat) : intsJ (mvTo k s i (m + 1)) = intsJ (mvTo k s i m) ++ [.int .i64 (mvJ k s i m)] := by simp [mvTo, intsJ, List.range_succ]
theorem app_moved {w wr w9 : World} {v v9 : Value} {j i : Nat} {k : Int} {s : Nat → Int} {y : Int} (hy : mvJ k s i j = y) {o : Obj} (HS : Stil w wr) (HG : Seg wr (fun g => w.heap.size ≤ g) 3 1 v j (intsJ (mvTo k s i j)))
    (hs9 : Seg w9 (fun g => (v.ownBlock = some g ∧ w.heap.size ≤ g) ∨ g = wr.heap.size + 1) 3 1 v9 (j + 1) (intsJ (mvTo k s i j) ++ [.int .i64 y])) (hg9 : (wr.alloc o).grownBy w9 v.ownBlock) :
    Seg w9 (fun g => w.heap.size ≤ g) 3 1 v9 (j + 1) (intsJ (mvTo k s i (j + 1))) ∧ Stil w w9 := by
  constructor
  · rw [mvTo_succ, hy]
    refine hs9.mono (fun g _ h => ?_)
    rcases h with ⟨_, h⟩ | h
    · exact h
    · have h9 := HS.size; rw [h]; omega
  · exact (HS.alloc _).grown hg9 (fun g e hg => by
      have := (HG.block e).1
      omega)
set_option maxRecDepth 100000 in
set_option maxHeartbeats 8000000 in
theorem refMoved_any {w : World} {a : Option Addr} {n c : Nat} {s : Nat → Int} {k : Int} (h : RowI w a n c (rwJ n s)) (h2 : 2 ≤ n) (h6 : n ≤ 6) (k2 : 2 ≤ k) (k3 : k ≤ 1000) (hv : OkJ k n s) {i : Nat} (hi : i < n) :
    Calls Try.prog 15 #[.int .i64 k, .slice a n c, .int .i64 (i : Int)] w fun e w2 => ∃ a2 c2, e = .returned (.slice a2 n c2) ∧ RowI w2 a2 n c2 (rwJ n (mvJ k s i)) ∧ Stil w w2 := by
  obtain ⟨b, off, rfl, hb, hc⟩ := rowJ_cells h (by omega)
  have hcap : n ≤ c := h.2.1
  have hn6 : (n : Int) ≤ 6 := by omega
  have hi' : (i : Int) < (n : Int) := by omega
  have HC := hidMk hc
  have hs0 := hv 0 (by omega)
  obtain ⟨i0, hit, hz0, hz1, hz2⟩ := info_parts cInfoInt
  clear h hv hc
  go_enter Try.func15, Try.ntmps15
  go_wp2
  go_loopw [7, 8, 9] (fun v u x wr => ∃ j : Nat, j ≤ n ∧ u = .int .i64 (j : Int) ∧ Hid (Seg wr (fun g => w.heap.size ≤ g) 3 1 v j (intsJ (mvTo k s i j))) ∧ Hid (Stil w wr)) (fun _ u _ _ => n - (intOf u).toNat)
  case atStart => exact ⟨0, Nat.zero_le _, rfl, Seg.nil _ _ _ _, Keep.refl _ _⟩
  case round =>
    obtain ⟨j, hj, rfl, HG, HS⟩ := hrel
    obtain ⟨sa, scp, hv⟩ := segForm HG.out
    subst hv
    by_cases hlt : j < n
    · have hlt' : (j : Int) < (n : Int) := by omega
      have d0 := HS.out.cell (HC.out j hlt)
      have dz := HS.out.cell (HC.out 0 (by omega))
      rw [Nat.add_zero] at dz
      by_cases e : j = i
      · have g0 : ((j : Int) == (i : Int)) = true := by rw [e]; simp
        by_cases e0 : i = 0
        · have em : mvJ k s i j = if s 0 + 1 = k then 0 else s 0 + 1 := by rw [e, e0]; simp [mvJ]
          have gg1 : decide ((0 : Int) < (i : Int)) = false := decide_eq_false (by omega)
          have gg2 : ((i : Int) == 0) = true := by rw [e0]; rfl
          have gg3 : decide (0 < i) = false := decide_eq_false (by omega)
          have gg4 : ¬ 0 < i := by omega
          clear e e0
          by_cases e1 : s 0 + 1 = k
          · rw [if_pos e1] at em
            have HEM := hidMk em
            have hwr : IntKind.i64.wrap (s 0 + 1) = k := by rw [e1]; exact wrapJ ⟨by omega, by omega⟩
            clear em e1
            generalize s j = y0 at *
            generalize hzz : s 0 = z at *
            clear hzz hs0
            go_wp2_with (at_builtin; refine wpList_append_seg _ rfl _ _ 22 rfl 3 i0 (.int .i64 0) 1 8 Try.underlying22 hit hz0 hz1 hz2 rfl (by decide) _ _ _ rfl (segAlloc HG.out _) ⟨_, 0, none⟩ 1 1 [.int .i64 0] rfl rfl (cCell1 _ _ _ _ (by simp)) (cOne _) (by unfold maxLen; omega) (by omega) ?_)
            intro v9 w9 hs9 hg9
            obtain ⟨h8, h9⟩ := app_moved HEM.out HS.out HG.out hs9 hg9
            have HG9 := hidMk h8
            have HS9 := hidMk h9
            obtain ⟨sa3, sc3, hv3⟩ := segForm hs9
            subst hv3
            clear hs9 hg9 HG HS h8 h9
            go_wp2
            go_roundw
            case rel => exact ⟨j + 1, by omega, by go_num, HG9, HS9⟩
            case measure => simp [intOf]; omega
          · rw [if_neg e1] at em
            have HEM := hidMk em
            have hwr : IntKind.i64.wrap (s 0 + 1) = s 0 + 1 := wrapJ ⟨by omega, by omega⟩
            have g1 : (s 0 + 1 == k) = false := by simpa using e1
            clear em e1
            generalize s j = y0 at *
            generalize hzz : s 0 = z at *
            clear hzz hs0
            go_wp2_with (at_builtin; refine wpList_append_seg _ rfl _ _ 22 rfl 3 i0 (.int .i64 0) 1 8 Try.underlying22 hit hz0 hz1 hz2 rfl (by decide) _ _ _ rfl (segAlloc HG.out _) ⟨_, 0, none⟩ 1 1 [.int .i64 (z + 1)] rfl rfl (cCell1 _ _ _ _ (by simp)) (cOne _) (by unfold maxLen; omega) (by omega) ?_)
            intro v9 w9 hs9 hg9
            obtain ⟨h8, h9⟩ := app_moved HEM.out HS.out HG.out hs9 hg9
            have HG9 := hidMk h8
            have HS9 := hidMk h9
            obtain ⟨sa3, sc3, hv3⟩ := segForm hs9
            subst hv3
            clear hs9 hg9 HG HS h8 h9
            go_wp2
            go_roundw
            case rel => exact ⟨j + 1, by omega, by go_num, HG9, HS9⟩
            case measure => simp [intOf]; omega
        · obtain ⟨j1, hj1⟩ : ∃ j1, i = j1 + 1 := ⟨i - 1, by omega⟩
          have d1 := HS.out.cell (HC.out j1 (by omega))
          have em : mvJ k s i j = s j1 := by rw [e, hj1]; simp [mvJ]
          have HEM := hidMk em
          have hw1 : IntKind.i64.wrap ((i : Int) - 1) = (j1 : Int) := by
            rw [show ((i : Int) - 1) = (j1 : Int) from by omega]
            exact wrapJ ⟨by omega, by omega⟩
          have g1 : decide ((0 : Int) < (i : Int)) = true := decide_eq_true (by omega)
          have g2 : (j1 : Int) < (n : Int) := by omega
          have g4 : decide (0 < i) = true := decide_eq_true (by omega)
          have g5 : 0 < i := by omega
          have g3 : ((i : Int) == 0) = false := by rw [beq_eq_false_iff_ne]; omega
          clear em dz hs0 e e0 hj1
          generalize s j = y0 at *
          generalize s j1 = y1 at *
          go_wp2_with (at_builtin; refine wpList_append_seg _ rfl _ _ 22 rfl 3 i0 (.int .i64 0) 1 8 Try.underlying22 hit hz0 hz1 hz2 rfl (by decide) _ _ _ rfl (segAlloc HG.out _) ⟨_, 0, none⟩ 1 1 [.int .i64 y1] rfl rfl (cCell1 _ _ _ _ (by simp)) (cOne _) (by unfold maxLen; omega) (by omega) ?_)
          intro v9 w9 hs9 hg9
          obtain ⟨h8, h9⟩ := app_moved HEM.out HS.out HG.out hs9 hg9
          have HG9 := hidMk h8
          have HS9 := hidMk h9
          obtain ⟨sa3, sc3, hv3⟩ := segForm hs9
          subst hv3
          clear hs9 hg9 HG HS h8 h9
          go_wp2
          go_roundw
          case rel => exact ⟨j + 1, by omega, by go_num, HG9, HS9⟩
          case measure => simp [intOf]; omega
      · have em : mvJ k s i j = s j := by unfold mvJ; rw [if_neg e]
        have HEM := hidMk em
        have g1 : ((j : Int) == (i : Int)) = false := by simp; omega
        clear em dz hs0
        generalize s j = y1 at *
        go_wp2_with (at_builtin; refine wpList_append_seg _ rfl _ _ 22 rfl 3 i0 (.int .i64 0) 1 8 Try.underlying22 hit hz0 hz1 hz2 rfl (by decide) _ _ _ rfl (segAlloc HG.out _) ⟨_, 0, none⟩ 1 1 [.int .i64 y1] rfl rfl (cCell1 _ _ _ _ (by simp)) (cOne _) (by unfold maxLen; omega) (by omega) ?_)
        intro v9 w9 hs9 hg9
        obtain ⟨h8, h9⟩ := app_moved HEM.out HS.out HG.out hs9 hg9
        have HG9 := hidMk h8
        have HS9 := hidMk h9
        obtain ⟨sa3, sc3, hv3⟩ := segForm hs9
        subst hv3
        clear hs9 hg9 HG HS h8 h9
        go_wp2
        go_roundw
        case rel => exact ⟨j + 1, by omega, by go_num, HG9, HS9⟩
        case measure => simp [intOf]; omega
    · obtain rfl : j = n := by omega
      have hsr := hidMk (seg_rowJ HG.out)
      go_wp2
      go_ret
      exact ⟨sa, scp, rfl, hsr.out, HS.out⟩
end Go.Proofs.Ytflmbhjighnicaa
