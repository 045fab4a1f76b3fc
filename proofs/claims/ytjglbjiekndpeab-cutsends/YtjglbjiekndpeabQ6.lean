/- folkmootkeep.CutsEnds, walked. -/
import Derived.Test.YtjglbjiekndpeabQ5
namespace Go.Proofs.Ytjglbjiekndpeab
open Go.RowKit Go.Shelf
set_option linter.unusedVariables false

theorem pc_add {es : List Ev} {k p0 : Nat} (n : Nat) (hw : whoAt es k = (p0 : Int)) : (rowN n fun p => pc es p k).set p0 (pc es p0 k + 1) = rowN n fun p => pc es p (k + 1) := by
  rw [rowN_set]
  apply rowN_congr
  intro p _
  show _ = pc es p k + _
  rw [hw]
  by_cases hp : p = p0
  · subst hp; simp
  · rw [if_neg hp, if_neg (by omega)]; rfl
/-- Nothing, and all. -/
def endF (es : List Ev) : Nat → Nat → Nat
  | 0 => fun _ => 0
  | _ + 1 => fun p => pc es p es.length
theorem endF_cut (es : List Ev) (k p : Nat) : endF es k p ≤ pc es p es.length := by
  cases k
  · exact Nat.zero_le _
  · exact Nat.le_refl _
theorem endF_whole {es : List Ev} {N : Int} (hv : Valid N es) (k : Nat) : WholeC es (endF es k) := by
  cases k
  · exact whole_none
  · exact whole_all hv

set_option maxHeartbeats 16000000 in
theorem cutsEnds_walk (N : Int) (a : Option Addr) (len cap : Nat) (es : List Ev) (w : World) (h : CameEv w a len cap es) :
    Calls Try.prog 4 #[.int .i64 N, .slice a len cap] w fun e w2 => e = .returned (.bool true) ∧ Below w.heap.size w w2 := by
  have HE : Hid (Calls Try.prog 5 #[.int .i64 N, .slice a len cap] w fun e w2 => e = .returned (.bool (evsCode N es == 0)) ∧ Below w.heap.size w w2) := events_from N a len cap es w w h (Below.refl _ _)
  by_cases hz : evsCode N es = 0
  · have hzb : (evsCode N es == 0) = true := by simpa using hz
    rw [hzb] at HE
    have hv := valid_of hz
    obtain ⟨n, rfl⟩ : ∃ n : Nat, N = n := ⟨N.toNat, by have := hv.1; omega⟩
    have hel : es.length = len := h.1
    have hmx' : (len : Int) ≤ 60 := by have := hv.2.2.1; omega
    have hn6 : n ≤ 6 := by have := hv.2.1; omega
    have hn6' : (n : Int) ≤ 6 := by omega
    have hmi := make_ints n (by omega)
    have HW : Hid (∀ k w1 base g, Below w.heap.size w w1 → RowI w1 base g n (endF es k) → Calls Try.prog 7 #[.int .i64 (n : Int), .slice a len cap, .slice (some ⟨g, 0, none⟩) n n] w1 fun e W2 => e = .returned (.tuple #[.bool true, .int .i64 0]) ∧ Below w1.heap.size w1 W2) := fun k w1 base g hB hr => whole_b (h.below hB) hz (fun p _ => endF_cut es k p) (endF_whole hv k) hr
    have HG : Hid (∀ k w1 base g, Below w.heap.size w w1 → RowI w1 base g n (endF es k) → Calls Try.prog 10 #[.int .i64 (n : Int), .slice a len cap, .slice (some ⟨g, 0, none⟩) n n] w1 fun e W2 => (∃ g, e = .returned (.tuple #[.slice (some ⟨g, 0, none⟩) n n, .int .i64 0]) ∧ RowI W2 w1.heap.size g n (endF es k)) ∧ Below w1.heap.size w1 W2) := fun k w1 base g hB hr => (grow_made (h.below hB) hz (fun p _ => endF_cut es k p) hr).mono fun e W2 ⟨⟨g, p, q⟩, r⟩ => ⟨⟨g, p, rowI_same q fun p _ => grown_whole_same hv rfl (endF_whole hv k) (endF_cut es k p)⟩, r⟩
    have HS : Hid (∀ k w1 base g, Below w.heap.size w w1 → RowI w1 base g n (endF es k) → Calls Try.prog 8 #[.int .i64 (n : Int), .slice a len cap, .slice (some ⟨g, 0, none⟩) n n] w1 fun e W2 => (∃ g, e = .returned (.tuple #[.slice (some ⟨g, 0, none⟩) n n, .int .i64 0]) ∧ RowI W2 w1.heap.size g n (endF es k)) ∧ Below w1.heap.size w1 W2) := fun k w1 base g hB hr => (shrink_made (h.below hB) hz (fun p _ => endF_cut es k p) hr).mono fun e W2 ⟨⟨g, p, q⟩, r⟩ => ⟨⟨g, p, rowI_same q fun p _ => shrunk_whole_same hv rfl (endF_whole hv k) (endF_cut es k p)⟩, r⟩
    have HI : Hid (∀ k (w1 : World) (b1 g1 b2 g2 : Nat), RowI w1 b1 g1 n (endF es k) → RowI w1 b2 g2 n (endF es k) → Calls Try.prog 12 #[.slice (some ⟨g1, 0, none⟩) n n, .slice (some ⟨g2, 0, none⟩) n n] w1 fun e w2 => e = .returned (.bool true) ∧ Below w1.heap.size w1 w2) := fun k w1 b1 g1 b2 g2 h1 h2 => by
      have := ints_two hn6 h1 h2
      rwa [show (rowN n (endF es k) == rowN n (endF es k)) = true by simp] at this
    have HEV : Hid (∀ k, k < len → ∃ be oe, a = some ⟨be, oe, none⟩ ∧ EvRow w be oe es) := fun k hk => by
      rcases h.2.2.2 with h0 | h0
      · omega
      · exact h0
    have HV := hidMk hv
    have HEL := hidMk hel
    have HM : Hid (∀ p k, k ≤ len → ((pc es p k : Nat) : Int) ≤ 60) := fun p k hk => by have := pc_bound es p k; omega
    clear h hz hzb hv hel
    go_enter Try.func4, Try.ntmps4
    go_wp2_with (go_at_call 5; refine (HE.out).mono ?_; rintro e w1 ⟨rfl, hB1⟩)
    have hr0 := rowI_made w1 (base := w1.heap.size) (Nat.le_refl _) (show n ≤ 100 by omega)
    have HB1 := hidMk hB1
    clear hB1 HE
    go_loopw [35] (fun i wr => ∃ k : Nat, k ≤ len ∧ i = .int .i64 (k : Int) ∧ RowI wr w1.heap.size w1.heap.size n (fun p => pc es p k) ∧ Hid (Below w1.heap.size w1 wr)) (fun i _ => len - (intOf i).toNat)
    case atStart => exact ⟨0, Nat.zero_le _, rfl, hr0, (Below.refl _ _).alloc (Nat.le_refl _) _⟩
    case round =>
      clear hr0
      obtain ⟨k, hk, rfl, hrow, HB⟩ := hrel
      by_cases hkl : k < len
      · have hkl' : (k : Int) < (len : Int) := by omega
        obtain ⟨be, oe, rfl, hr⟩ := HEV.out k hkl
        obtain ⟨⟨kd, wh, of⟩, he, _, _, hc1, hc2, hc3⟩ := (hr.below hr.1 (below_from HB1.out HB.out)).at (k := k) (by rw [HEL.out]; exact hkl)
        dsimp only at hc1 hc2 hc3
        obtain ⟨p0, hp0, hp0n⟩ := who_nat HV.out (i := k) (by rw [HEL.out]; exact hkl)
        have hwh : wh = (p0 : Int) := by rw [whoAt_at he] at hp0; exact hp0
        subst hwh
        have hp0m : p0 < n := by omega
        have hpm := HM.out p0 k hk
        have HPP := hidMk (pc_add n hp0)
        have hBA : Below w1.heap.size w1 (wr.alloc (.cells #[.int .i64 kd, .int .i64 (p0 : Int), .int .i64 of] 35)) := HB.out.alloc HB.out.size _
        have hrowA := World.ownsRow.alloc hrow (.cells #[.int .i64 kd, .int .i64 (p0 : Int), .int .i64 of] 35)
        have hce : (wr.alloc (.cells #[.int .i64 kd, .int .i64 (p0 : Int), .int .i64 of] 35)).cell? ⟨wr.heap.size, 1, none⟩ = some (.int .i64 (p0 : Int)) := by simp
        have hgA := (World.ownsRow.lt hrow w1.heap.size rfl).2
        have hcs := rowI_cell hrowA hp0m
        have hfz := World.ownsRow.frozenAt hrowA p0
        have HROW := hidMk hrowA
        have HBA := hidMk hBA
        clear hrow he hp0 hr hrowA hBA hmi
        go_wp2
        generalize hWA : wr.alloc (.cells #[.int .i64 kd, .int .i64 (p0 : Int), .int .i64 of] 35) = WA at *
        have sA : WA.heap.size = wr.heap.size + 1 := by rw [← hWA]; simp
        clear hWA hc1 hc2 hc3 HB
        generalize hge : wr.heap.size = ge at *
        clear hge
        go_region
        have hst := World.ownsRow.stored HROW.out p0 (encN (pc es p0 k + 1))
        rw [← map_set, HPP.out] at hst
        have hrow1 : RowI (WA.setCell ⟨w1.heap.size, p0, none⟩ (.int .i64 (((pc es p0 k : Nat) : Int) + 1))).drew w1.heap.size w1.heap.size n (fun p => pc es p (k + 1)) := hst.1
        have hg1 : WA.grownBy (WA.setCell ⟨w1.heap.size, p0, none⟩ (.int .i64 (((pc es p0 k : Nat) : Int) + 1))).drew (some w1.heap.size) := grown_same hst.2 (grown_drew _ _)
        have HR1 := hidMk hrow1
        have HB2 := hidMk (HBA.out.grown hg1 HBA.out.size (fun k e => by cases e; exact Nat.le_refl _))
        clear hst hrow1 hg1 hcs hfz hce
        go_wp2
        go_roundw
        case rel => exact ⟨k + 1, by omega, by go_num, HR1.out, HB2⟩
        case measure => simp [intOf]; omega
      · obtain rfl : k = len := by omega
        have HB2 := hidMk (below_from HB1.out HB.out)
        have HR1 : Hid (RowI wr w1.heap.size w1.heap.size n (endF es 1)) := rowI_same hrow fun p _ => by show _ = pc es p es.length; rw [HEL.out]
        have HR0 := hidMk (rowI_made wr (base := wr.heap.size) (Nat.le_refl _) (show n ≤ 100 by omega))
        clear hrow HB
        go_wp2
        have HC0 : Hid (((wr.alloc (.cells (madeCells #[.int .i64 0] n) 3)).alloc (.cells #[.slice (some ⟨wr.heap.size, 0, none⟩) n n, .slice (some ⟨w1.heap.size, 0, none⟩) n n] 23)).cell? ⟨wr.heap.size + 1, 0, none⟩ = some (.slice (some ⟨wr.heap.size, 0, none⟩) n n)) := by show World.cell? _ _ = _; simp
        have HC1 : Hid (((wr.alloc (.cells (madeCells #[.int .i64 0] n) 3)).alloc (.cells #[.slice (some ⟨wr.heap.size, 0, none⟩) n n, .slice (some ⟨w1.heap.size, 0, none⟩) n n] 23)).cell? ⟨wr.heap.size + 1, 1, none⟩ = some (.slice (some ⟨w1.heap.size, 0, none⟩) n n)) := by show World.cell? _ _ = _; simp
        have hb2 : Below wr.heap.size wr ((wr.alloc (.cells (madeCells #[.int .i64 0] n) 3)).alloc (.cells #[.slice (some ⟨wr.heap.size, 0, none⟩) n n, .slice (some ⟨w1.heap.size, 0, none⟩) n n] 23)) := ((Below.refl _ _).alloc (Nat.le_refl _) _).alloc (by simp) _
        have HR0b : Hid (RowI ((wr.alloc (.cells (madeCells #[.int .i64 0] n) 3)).alloc (.cells #[.slice (some ⟨wr.heap.size, 0, none⟩) n n, .slice (some ⟨w1.heap.size, 0, none⟩) n n] 23)) _ _ n (endF es 0)) := World.ownsRow.alloc HR0.out _
        have HR1b := hidMk (owns_below HR1.out hb2)
        have HB3 := hidMk (below_from HB2.out hb2)
        have hsz : wr.heap.size + 1 < ((wr.alloc (.cells (madeCells #[.int .i64 0] n) 3)).alloc (.cells #[.slice (some ⟨wr.heap.size, 0, none⟩) n n, .slice (some ⟨w1.heap.size, 0, none⟩) n n] 23)).heap.size := by simp
        clear hb2 HR0 HR1 HB2 hmi HEV HM
        generalize (wr.alloc (.cells (madeCells #[.int .i64 0] n) 3)).alloc (.cells #[.slice (some ⟨wr.heap.size, 0, none⟩) n n, .slice (some ⟨w1.heap.size, 0, none⟩) n n] 23) = WB at *
        generalize wr.heap.size = S0 at *
        go_loopw [55] (fun i ws => ∃ k : Nat, k ≤ 2 ∧ i = .int .i64 (k : Int) ∧ Hid (Below WB.heap.size WB ws)) (fun i _ => 2 - (intOf i).toNat)
        case atStart => exact ⟨0, Nat.zero_le _, rfl, Below.refl _ _⟩
        case round =>
          obtain ⟨k, hk, rfl, HBS⟩ := hrel
          by_cases hk2 : k < 2
          · have hk2' : (k : Int) < 2 := by omega
            have hBSo := HBS.out
            obtain ⟨G, base, hcell, hcR⟩ : ∃ G base, wr.cell? ⟨S0 + 1, k, none⟩ = some (.slice (some ⟨G, 0, none⟩) n n) ∧ RowI wr base G n (endF es k) := by
              rcases (show k = 0 ∨ k = 1 by omega) with rfl | rfl
              · exact ⟨_, _, (HBS.out.cell (p := ⟨_, 0, none⟩) hsz).trans HC0.out, owns_below HR0b.out HBS.out⟩
              · exact ⟨_, _, (HBS.out.cell (p := ⟨_, 1, none⟩) hsz).trans HC1.out, owns_below HR1b.out HBS.out⟩
            go_wp2_with (first
          | (go_at_call 12; refine (HI.out k _ _ _ _ _ hOs4 hc4).mono ?_; rintro e w5 ⟨rfl, hb5⟩; have hB5 := below_from hB4 hb5; have hc5 := owns_below hc4 hb5; have hOg5 := owns_below hOg4 hb5; have hOs5 := owns_below hOs4 hb5; clear hb5 hB4 hc4 hOg4 hOs4)
          | (go_at_call 12; refine (HI.out k _ _ _ _ _ hOg3 hc3).mono ?_; rintro e w4 ⟨rfl, hb4⟩; have hB4 := below_from hB3 hb4; have hc4 := owns_below hc3 hb4; have hOg4 := owns_below hOg3 hb4; have hOs4 := owns_below hs hb4; clear hb4 hB3 hc3 hOg3 hs)
          | (go_at_call 8; refine (HS.out k _ _ _ (below_from HB3.out hB2) hc2).mono ?_; rintro e w3 ⟨⟨s, rfl, hs⟩, hb3⟩; have hB3 := below_from hB2 hb3; have hc3 := owns_below hc2 hb3; have hOg3 := owns_below hg hb3; clear hb3 hB2 hc2 hg)
          | (go_at_call 10; refine (HG.out k _ _ _ (below_from HB3.out hB1) hc1).mono ?_; rintro e w2 ⟨⟨g, rfl, hg⟩, hb2⟩; have hB2 := below_from hB1 hb2; have hc2 := owns_below hc1 hb2; clear hb2 hB1 hc1)
          | (go_at_call 7; refine (HW.out k _ _ _ (below_from HB3.out hBSo) hcR).mono ?_; rintro e w1 ⟨rfl, hb1⟩; have hB1 := below_from hBSo hb1; have hc1 := owns_below hcR hb1; clear hb1 hBSo hcR))
            have HBE := hidMk hB5
            clear hB5
            go_wp2
            go_roundw
            case rel => exact ⟨k + 1, by omega, by go_num, HBE⟩
            case measure => simp [intOf]; omega
          · obtain rfl : k = 2 := by omega
            go_wp2
            go_ret
            exact ⟨rfl, below_from HB3.out HBS.out⟩
  · have hne : (evsCode N es != 0) = true := by simpa using hz
    have hzb : (evsCode N es == 0) = false := by simpa using hz
    rw [hzb] at HE
    have hmi : ∀ W : World, (Instr.makeSlice 23 (.int .i64 3) (.int .i64 3)).run Try.prog W = .ok (.slice (some ⟨W.heap.size, 0, none⟩) 3 3) (W.alloc (.cells (madeCells #[.int .i64 0] 3) 3)) := make_ints 3 (by omega)
    have HW : Hid (∀ w1, Below w.heap.size w w1 → Calls Try.prog 7 #[.int .i64 N, .slice a len cap, .slice (some ⟨w1.heap.size, 0, none⟩) 3 3] (w1.alloc (.cells (madeCells #[.int .i64 0] 3) 3)) fun e W2 => e = .returned (.tuple #[.bool (wholeA N es (rowI 3 fun _ => 0)), .int .i64 (evsCode N es)]) ∧ Below w.heap.size w W2) := fun w1 k => by
      have := whole_any N a len cap es _ (h.below (k.alloc k.size (.cells (madeCells #[.int .i64 0] 3) 3))) _ 3 3 _ (came_row (rowI_made w1 (base := 0) (Nat.zero_le _) (by omega)) (by omega) (fun _ _ => Nat.zero_le _))
      rw [wholeE_evs hz] at this
      exact this.mono fun e W2 ⟨p, q⟩ => ⟨p, below_from (k.alloc k.size _) q⟩
    generalize evsCode N es = c at HW hne
    generalize wholeA N es (rowI 3 fun _ => 0) = xa at HW
    clear h hz hzb
    go_enter Try.func4, Try.ntmps4
    go_wp2_with (first
      | (go_at_call 7; refine (HW.out _ hB1).mono ?_; rintro e w2 ⟨rfl, hB2⟩)
      | (go_at_call 5; refine (HE.out).mono ?_; rintro e w1 ⟨rfl, hB1⟩))
    go_ret
    exact ⟨rfl, hB2⟩
end Go.Proofs.Ytjglbjiekndpeab
