/- folkmootkeep.CutsPast, walked. -/
import Derived.Test.YtjglbjiekndpeaaQ2
namespace Go.Proofs.Ytjglbjiekndpeaa
open Go.RowKit Go.Shelf
set_option linter.unusedVariables false

theorem cells_one (W : World) (T : TypeId) (i : Int) : ∀ (j : Nat) (z : Int), [i][j]? = some z → (W.alloc (.cells #[.int .i64 i] T)).cell? ⟨W.heap.size, j, none⟩ = some (.int .i64 z) := by
  intro j z hj
  cases j with
  | zero => simp at hj; subst hj; simp
  | succ k => simp at hj
theorem one_set (n p0 x : Nat) : (rowN n fun _ => 0).set p0 x = rowN n fun p => if p = p0 then x else 0 := by rw [rowN_set]

set_option maxHeartbeats 4000000 in
theorem cutsPast_walk (N i : Int) (a : Option Addr) (len cap : Nat) (es : List Ev) (w : World) (h : CameEv w a len cap es) :
    Calls Try.prog 8 #[.int .i64 N, .slice a len cap, .int .i64 i] w fun e w2 => e = .returned (.bool true) ∧ Below w.heap.size w w2 := by
  have HE : Hid (∀ w1, Below w.heap.size w w1 → Calls Try.prog 17 #[.int .i64 N, .slice a len cap] w1 fun e w2 => e = .returned (.bool (evsCode N es == 0)) ∧ Below w1.heap.size w1 w2) := fun w1 k => events_from N a len cap es w1 w1 (h.below k) (Below.refl _ _)
  by_cases hz : evsCode N es = 0
  · have hzb : (evsCode N es == 0) = true := by simpa using hz
    rw [hzb] at HE
    have hl := h.1
    have hv := valid_of hz
    obtain ⟨n, rfl⟩ : ∃ n : Nat, N = n := ⟨N.toNat, by have := hv.1; omega⟩
    have HS := hidMk (Vectors_ok n a len cap es w h hz)
    have hmx' : (len : Int) ≤ 60 := by have := hv.2.2.1; omega
    have hn6 : n ≤ 6 := by have := hv.2.1; omega
    have hn6' : (n : Int) ≤ 6 := by omega
    have hmi := make_ints n (by omega)
    by_cases hin : inB (len : Int) [i] = true
    · have hall : 0 ≤ i ∧ i < (len : Int) := by simpa [inB] using hin
      obtain ⟨i0, rfl⟩ : ∃ x : Nat, i = x := ⟨i.toNat, by omega⟩
      have hi0 : i0 < len := by omega
      have hi' : (i0 : Int) < (len : Int) := by omega
      obtain ⟨p0, hp0, hp0n⟩ := who_nat hv (i := i0) (by omega)
      have hp0m : p0 < n := by omega
      obtain ⟨b, off, rfl, hr⟩ : ∃ b off, a = some ⟨b, off, none⟩ ∧ EvRow w b off es := by
        rcases h.2.2.2 with h0 | h0
        · omega
        · exact h0
      have HWV : Hid (∀ w1, Below w.heap.size w w1 → ∀ base g, RowI w1 base g n (fun p => vc es p i0) → Calls Try.prog 9 #[.int .i64 (n : Int), .slice (some ⟨b, off, none⟩) len cap, .slice (some ⟨g, 0, none⟩) n n] w1 fun e W2 => e = .returned (.tuple #[.bool true, .int .i64 0]) ∧ Below w1.heap.size w1 W2) := fun w1 k base g hr => whole_b (h.below k) hz (fun p hp => past_cut hv (by omega) p) (past_whole hv (by omega)) hr
      have HG : Hid (∀ w1, Below w.heap.size w w1 → ∀ base g, RowI w1 base g n (fun p => if p = p0 then vc es p0 i0 else 0) → Calls Try.prog 12 #[.int .i64 (n : Int), .slice (some ⟨b, off, none⟩) len cap, .slice (some ⟨g, 0, none⟩) n n] w1 fun e W2 => (∃ g, e = .returned (.tuple #[.slice (some ⟨g, 0, none⟩) n n, .int .i64 0]) ∧ RowI W2 w1.heap.size g n (fun p => vc es p i0)) ∧ Below w1.heap.size w1 W2) := fun w1 k base g hrow => by
        have hf : ∀ p, p < n → (if p = p0 then vc es p0 i0 else 0) ≤ pc es p es.length := fun p _ => by
          split
          · rename_i e; subst e; exact past_cut hv (by omega) _
          · exact Nat.zero_le _
        have hsame : ∀ p, p < n → grown es (atN (rowI n fun p => if p = p0 then vc es p0 i0 else 0)) p = vc es p i0 := fun p hp => by
          rw [← past_grown hv rfl (i := i0) (q := p0) (by omega) hp0 p]
          apply Nat.le_antisymm
          · exact grown_le hv rfl (grown_whole hv _) (fun q hq => by rw [atN_rowI hq]; exact grown_ge hv (c := fun p => if p = p0 then vc es p0 i0 else 0) (hf q hq)) p
          · exact grown_le hv rfl (grown_whole hv _) (fun q hq => by
              have := grown_ge hv (c := atN (rowI n fun p => if p = p0 then vc es p0 i0 else 0)) (p := q) (by rw [atN_rowI hq]; exact hf q hq)
              rw [atN_rowI hq] at this
              exact this) p
        have := grow_ok n _ len cap es w1 (h.below k) _ n n (rowI n fun p => if p = p0 then vc es p0 i0 else 0) (came_row hrow hn6 fun p hp => by have := hf p hp; have := pc_bound es p es.length; have := hv.2.2.1; omega) hz (cut_rowI hf)
        exact this.mono fun e W2 ⟨⟨g, p, q⟩, r⟩ => ⟨⟨g, p, rowI_same q hsame⟩, r⟩
      have HCW : Hid (∀ w1, Below w.heap.size w w1 → w1.cell? ⟨b, off + i0 * 3 + 1, none⟩ = some (.int .i64 (p0 : Int))) := fun w1 k => by
        obtain ⟨ev, he, _, _, _, hd2, _⟩ := (hr.below hr.1 k).at (k := i0) (by omega)
        rw [hd2, ← whoAt_eq he, hp0]
      have hown := vc_own hv p0 (i0 + 1) i0 (by omega) (by omega) hp0
      have hge : 1 ≤ ((vc es p0 i0 : Nat) : Int) := by omega
      have hbs : b < w.heap.size := hr.1
      clear hown hz hzb hv h hall hr hp0 hl
      go_enter Try.func8, Try.ntmps8
      go_wp2_with (first
        | (go_at_call 22; refine (inside_any _ _ 1 1 [(i0 : Int)] _ rfl (by decide) (cells_one _ _ _)).mono ?_; rintro e w3 ⟨rfl, rfl⟩; have hO3 := rows2_below hO2 ((Below.refl _ w2).alloc (Nat.le_refl _) (.cells #[.int .i64 (i0 : Int)] 3)); have hc3 := rows2_out hO3 hi0)
        | (go_at_call 17; refine (HE.out _ hB1).mono ?_; rintro e w2 ⟨rfl, hb2⟩; have hB2 := below_from hB1 hb2; have hO2 := rows2_below hO hb2; clear hO)
        | (go_at_call 21; refine (HS.out).mono ?_; rintro e w1 ⟨⟨O, R, rfl, hO⟩, hB1⟩))
      have hB3 : Below w.heap.size w (w2.alloc (.cells #[.int .i64 (i0 : Int)] 3)) := hB2.alloc hB2.size _
      clear HE HS hB1 hb2 hB2 hO2
      generalize w2.alloc (.cells #[.int .i64 (i0 : Int)] 3) = W3 at *
      go_wp2_with (go_at_call 9; refine (HWV.out _ hB3 _ _ (hO3.2 i0 hi0)).mono ?_; rintro e w4 ⟨rfl, hb4⟩; have hB4 := below_from hB3 hb4; have hO4 := rows2_below hO3 hb4; have hO5 := rows2_below hO4 ((Below.refl _ w4).alloc (Nat.le_refl _) (.cells (madeCells #[.int .i64 0] n) 3)); have hc5 := rows2_out hO5 hi0; have hr5 := rowI_made w4 (base := w4.heap.size) (Nat.le_refl _) (show n ≤ 100 by omega); clear hO3 hb4 hB3 hc3)
      have hb5 := (Below.refl w4.heap.size w4).alloc (Nat.le_refl _) (.cells (madeCells #[.int .i64 0] n) 3)
      clear HWV hmi
      generalize w4.alloc (.cells (madeCells #[.int .i64 0] n) 3) = W5 at *
      have hcw := HCW.out W5 (below_from hB4 hb5)
      have hci := rows2_in hO5 hi0 hp0m
      have hfz := World.ownsRow.frozenAt hr5 p0
      have hcz := rowI_cell hr5 hp0m
      have HR5 := hidMk hr5
      clear hr5 hO5
      go_region
      have hst := World.ownsRow.stored HR5.out p0 (encN (vc es p0 i0))
      rw [← map_set, one_set] at hst
      have hr6 : RowI (W5.setCell ⟨w4.heap.size, p0, none⟩ (.int .i64 ((vc es p0 i0 : Nat) : Int))).drew w4.heap.size w4.heap.size n (fun p => if p = p0 then vc es p0 i0 else 0) := hst.1
      have hg6 : W5.grownBy (W5.setCell ⟨w4.heap.size, p0, none⟩ (.int .i64 ((vc es p0 i0 : Nat) : Int))).drew (some w4.heap.size) := grown_same hst.2 (grown_drew _ _)
      have hb6 := hb5.grown hg6 hb5.size (fun k e => by cases e; exact Nat.le_refl _)
      clear hst hg6 hcw hci hfz hcz HR5 hb5 hc5
      generalize (W5.setCell ⟨w4.heap.size, p0, none⟩ (.int .i64 ((vc es p0 i0 : Nat) : Int))).drew = W6 at *
      have hB6 := below_from hB4 hb6
      have hO6 := rows2_below hO4 hb6
      clear hb6 hO4
      have HI : Hid (∀ (w1 : World) (b1 g1 b2 g2 : Nat), RowI w1 b1 g1 n (fun p => vc es p i0) → RowI w1 b2 g2 n (fun p => vc es p i0) → Calls Try.prog 13 #[.slice (some ⟨g1, 0, none⟩) n n, .slice (some ⟨g2, 0, none⟩) n n] w1 fun e w2 => e = .returned (.bool true) ∧ ∃ m, w2 = w1.drewN m) := fun w1 b1 g1 b2 g2 h1 h2 => by
        have := ints_any _ _ n n n n _ _ w1 (rowZ_of h1) (rowZ_of h2) (by omega) (by omega)
        rwa [show (rowN n (fun p => vc es p i0) == rowN n (fun p => vc es p i0)) = true by simp] at this
      go_wp2_with (first
        | (go_at_call 13; refine (HI.out _ _ _ _ _ hg7 hv7).mono ?_; rintro e w8 ⟨rfl, m, hw8⟩)
        | (go_at_call 12; refine (HG.out _ hB6 _ _ hr6).mono ?_; rintro e w7 ⟨⟨g, rfl, hg7⟩, hb7⟩; have hB7 := below_from hB6 hb7; have hO7 := rows2_below hO6 hb7; have hc7 := rows2_out hO7 hi0; have hv7 := hO7.2 i0 hi0; have hcw := HCW.out _ hB7; have hr7 := rowI_cell (owns_below hr6 hb7) hp0m; rw [if_pos rfl] at hr7; clear hb7 hO7 hO6 hr6 hB6))
      go_ret
      exact ⟨by simp, below_from hB7 (drew_below _ m)⟩
    · have hin' : inB (len : Int) [i] = false := by simpa using hin
      clear hz hzb hv h hl hin hmi
      go_enter Try.func8, Try.ntmps8
      go_wp2_with (first
        | (go_at_call 22; refine (inside_any _ _ 1 1 [i] _ rfl (by decide) (cells_one _ _ _)).mono ?_; rintro e w3 ⟨rfl, rfl⟩)
        | (go_at_call 17; refine (HE.out _ hB1).mono ?_; rintro e w2 ⟨rfl, hb2⟩; have hB2 := below_from hB1 hb2; clear hO)
        | (go_at_call 21; refine (HS.out).mono ?_; rintro e w1 ⟨⟨O, R, rfl, hO⟩, hB1⟩))
      go_ret
      exact ⟨rfl, hB2.alloc hB2.size _⟩
  · have HS := hidMk (Vectors_err N a len cap es w h hz)
    have hzb : (evsCode N es == 0) = false := by simpa using hz
    have hzn : (evsCode N es != 0) = true := by simpa using hz
    rw [hzb] at HE
    generalize evsCode N es = c at HS hzn
    clear h hz hzb
    go_enter Try.func8, Try.ntmps8
    go_wp2_with (first
      | (go_at_call 17; refine (HE.out _ hB1).mono ?_; rintro e w2 ⟨rfl, hb2⟩; have hB2 := below_from hB1 hb2)
      | (go_at_call 21; refine (HS.out).mono ?_; rintro e w1 ⟨rfl, hB1⟩))
    go_ret
    exact ⟨rfl, hB2⟩
end Go.Proofs.Ytjglbjiekndpeaa
