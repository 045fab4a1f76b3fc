/- folkmootkeep.CutsLattice, walked. -/
import Derived.Test.YtjglbjiekndpeaaQ1
namespace Go.Proofs.Ytjglbjiekndpeaa
open Go.RowKit Go.Shelf
set_option linter.unusedVariables false

theorem wholeE_evs {N : Int} {es : List Ev} {zs : List Int} (h : evsCode N es ≠ 0) : wholeE N es zs = evsCode N es := by unfold wholeE; rw [if_pos h]
theorem wholeE_cut {N : Int} {es : List Ev} {zs : List Int} (h : evsCode N es = 0) : wholeE N es zs = cutCode N es zs := by unfold wholeE; rw [if_neg (by simpa using h)]
/-- A whole cut that a call made. -/
theorem whole_made {n : Nat} {a : Option Addr} {len cap : Nat} {es : List Ev} {w : World} (h : CameEv w a len cap es) (hz : evsCode (n : Int) es = 0) {f : Nat → Nat} (hf : ∀ p, p < n → f p ≤ pc es p es.length) {base g c : Nat} (hr : RowC w base g n c f) :
    Calls Try.prog 9 #[.int .i64 (n : Int), .slice a len cap, .slice (some ⟨g, 0, none⟩) n c] w fun e W2 => e = .returned (.tuple #[.bool (wholeB es f), .int .i64 0]) ∧ Below w.heap.size w W2 := by
  have hv := valid_of hz
  have hn6 : n ≤ 6 := by have := hv.2.1; omega
  have h60 : es.length ≤ 60 := by have := hv.2.2.1; omega
  have hb : wholeB es (atN (rowI n f)) = wholeB es f := by
    rw [Bool.eq_iff_iff, wholeB_iff, wholeB_iff]
    exact ⟨whole_congr hv rfl fun p hp => atN_rowI hp, whole_congr hv rfl fun p hp => (atN_rowI hp).symm⟩
  have := whole_ok n a len cap es w h (some ⟨g, 0, none⟩) n c (rowI n f) (came_rowC hr hn6 fun p hp => by have := hf p hp; have := pc_bound es p es.length; omega) hz (cut_rowI hf)
  rw [hb] at this
  exact this
theorem whole_b {n : Nat} {a : Option Addr} {len cap : Nat} {es : List Ev} {w : World} (h : CameEv w a len cap es) (hz : evsCode (n : Int) es = 0) {f : Nat → Nat} (hf : ∀ p, p < n → f p ≤ pc es p es.length) (hw : WholeC es f) {base g c : Nat} (hr : RowC w base g n c f) :
    Calls Try.prog 9 #[.int .i64 (n : Int), .slice a len cap, .slice (some ⟨g, 0, none⟩) n c] w fun e W2 => e = .returned (.tuple #[.bool true, .int .i64 0]) ∧ Below w.heap.size w W2 := by
  have := whole_made h hz hf hr
  rw [wholeB_iff.2 hw] at this
  exact this
theorem nr_whole {es : List Ev} {f h : Nat → Nat} (hf : WholeC es f) (hh : WholeC es h) (great : Bool) : WholeC es (nr great f h) := by
  cases great
  · exact whole_min hf hh
  · exact whole_max hf hh
theorem nr_le {f h : Nat → Nat} {p B : Nat} (h1 : f p ≤ B) (h2 : h p ≤ B) (great : Bool) : nr great f h p ≤ B := by
  unfold nr; split <;> omega

set_option maxHeartbeats 4000000 in
theorem cutsLattice_walk (N : Int) (a : Option Addr) (len cap : Nat) (es : List Ev) (w : World) (h : CameEv w a len cap es) (a2 : Option Addr) (n2 c2 : Nat) (za : List Int) (ha : CameI w a2 n2 c2 za) (a3 : Option Addr) (n3 c3 : Nat) (zb : List Int) (hb : CameI w a3 n3 c3 zb) :
    Calls Try.prog 6 #[.int .i64 N, .slice a len cap, .slice a2 n2 c2, .slice a3 n3 c3] w fun e w2 => e = .returned (.bool true) ∧ Below w.heap.size w w2 := by
  have HE : Hid (Calls Try.prog 17 #[.int .i64 N, .slice a len cap] w fun e w2 => e = .returned (.bool (evsCode N es == 0)) ∧ Below w.heap.size w w2) := events_from N a len cap es w w h (Below.refl _ _)
  have HWA : Hid (∀ w1, Below w.heap.size w w1 → Calls Try.prog 9 #[.int .i64 N, .slice a len cap, .slice a2 n2 c2] w1 fun e W2 => e = .returned (.tuple #[.bool (wholeA N es za), .int .i64 (wholeE N es za)]) ∧ Below w.heap.size w W2) := fun w1 k => (whole_any N a len cap es w1 (h.below k) a2 n2 c2 za (ha.below k)).mono fun e W2 ⟨p, q⟩ => ⟨p, below_from k q⟩
  have HWB : Hid (∀ w1, Below w.heap.size w w1 → Calls Try.prog 9 #[.int .i64 N, .slice a len cap, .slice a3 n3 c3] w1 fun e W2 => e = .returned (.tuple #[.bool (wholeA N es zb), .int .i64 (wholeE N es zb)]) ∧ Below w.heap.size w W2) := fun w1 k => (whole_any N a len cap es w1 (h.below k) a3 n3 c3 zb (hb.below k)).mono fun e W2 ⟨p, q⟩ => ⟨p, below_from k q⟩
  by_cases hz : evsCode N es = 0
  · have hv := valid_of hz
    obtain ⟨n, rfl⟩ : ∃ n : Nat, N = n := ⟨N.toNat, by have := hv.1; omega⟩
    have HCA : Hid (∀ w1, Below w.heap.size w w1 → Calls Try.prog 18 #[.int .i64 (n : Int), .slice a len cap, .slice a2 n2 c2] w1 fun e W2 => e = .returned (.bool (cutCode (n : Int) es za == 0)) ∧ Below w.heap.size w W2) := fun w1 k => (cut_any n a len cap es w1 (h.below k) hz a2 n2 c2 za (ha.below k)).mono fun e W2 ⟨p, q⟩ => ⟨p, below_from k q⟩
    have HCB : Hid (∀ w1, Below w.heap.size w w1 → Calls Try.prog 18 #[.int .i64 (n : Int), .slice a len cap, .slice a3 n3 c3] w1 fun e W2 => e = .returned (.bool (cutCode (n : Int) es zb == 0)) ∧ Below w.heap.size w W2) := fun w1 k => (cut_any n a len cap es w1 (h.below k) hz a3 n3 c3 zb (hb.below k)).mono fun e W2 ⟨p, q⟩ => ⟨p, below_from k q⟩
    rw [wholeE_cut hz] at HWA HWB
    rw [hz] at HE
    by_cases hca : cutCode (n : Int) es za = 0
    · rw [hca] at HCA HWA
      by_cases hcb : cutCode (n : Int) es zb = 0
      · rw [hcb] at HCB HWB
        have hn6 : n ≤ 6 := by have := hv.2.1; omega
        have hn1 : 1 ≤ n := by have := hv.1; omega
        have hn6' : (n : Int) ≤ 6 := by omega
        have hmi := make_ints n (by omega)
        obtain ⟨rfl, b, off, rfl, hqa⟩ := cut_row_of hv ha hca
        obtain ⟨e3, b3, off3, rfl, hqb⟩ := cut_row_of hv hb hcb
        subst e3
        have HN0 : Hid (∀ w1, Below w.heap.size w w1 → Calls Try.prog 9 #[.int .i64 (n3 : Int), .slice a len cap, .slice (some ⟨w1.heap.size, 0, none⟩) n3 n3] (w1.alloc (.cells (madeCells #[.int .i64 0] n3) 3)) fun e W2 => e = .returned (.tuple #[.bool true, .int .i64 0]) ∧ Below w.heap.size w W2) := fun w1 k => (whole_b (h.below (k.alloc k.size _)) hz (f := fun _ => 0) (fun _ _ => Nat.zero_le _) whole_none (rowI_made w1 (base := 0) (Nat.zero_le _) (by omega))).mono fun e W2 ⟨p, q⟩ => ⟨p, below_from (k.alloc k.size _) q⟩
        have HNR : Hid (∀ great w1, Below w.heap.size w w1 → Calls Try.prog 19 #[.slice (some ⟨b, off, none⟩) n3 c2, .slice (some ⟨b3, off3, none⟩) n3 c3, .bool great] w1 fun e w2 => (∃ g c, e = .returned (.slice (some ⟨g, 0, none⟩) n3 c) ∧ RowC w2 w1.heap.size g n3 c (nr great (atN za) (atN zb))) ∧ Below w.heap.size w w2) := fun great w1 k => (nearest_two great b off b3 off3 n3 c2 c3 (atN za) (atN zb) w1 (Nat.lt_of_lt_of_le hqa.1 k.size) (Nat.lt_of_lt_of_le hqb.1 k.size) (fun p hp => cut_cell hca (hqa.below hqa.1 k) hp) (fun p hp => cut_cell hcb (hqb.below hqb.1 k) hp) hn1 (by omega)).mono fun e W2 ⟨p, q⟩ => ⟨p, below_from k q⟩
        have HWR : Hid (wholeB es (atN za) = true → wholeB es (atN zb) = true → ∀ great w1 base g c, Below w.heap.size w w1 → RowC w1 base g n3 c (nr great (atN za) (atN zb)) → Calls Try.prog 9 #[.int .i64 (n3 : Int), .slice a len cap, .slice (some ⟨g, 0, none⟩) n3 c] w1 fun e W2 => e = .returned (.tuple #[.bool true, .int .i64 0]) ∧ Below w.heap.size w W2) := fun xa xb great w1 base g c k hr => (whole_b (h.below k) hz (fun p hp => nr_le (cut_le hca hp) (cut_le hcb hp) great) (nr_whole (wholeB_iff.1 xa) (wholeB_iff.1 xb) great) hr).mono fun e W2 ⟨p, q⟩ => ⟨p, below_from k q⟩
        have eA : wholeA (n3 : Int) es za = wholeB es (atN za) := by unfold wholeA; rw [if_neg (by rw [wholeE_cut hz, hca]; simp)]
        have eB : wholeA (n3 : Int) es zb = wholeB es (atN zb) := by unfold wholeA; rw [if_neg (by rw [wholeE_cut hz, hcb]; simp)]
        rw [eA] at HWA
        rw [eB] at HWB
        generalize wholeB es (atN za) = xa at HWA HWR
        generalize wholeB es (atN zb) = xb at HWB HWR
        clear h ha hb hz hv hca hcb hqa hqb eA eB
        cases xa with
        | false =>
          clear HWR HNR
          go_enter Try.func6, Try.ntmps6
          go_wp2_with (first
            | (go_at_call 9; refine (HN0.out _ hB5).mono ?_; rintro e w6 ⟨rfl, hB6⟩)
            | (go_at_call 9; refine (HWB.out _ hB4).mono ?_; rintro e w5 ⟨rfl, hB5⟩)
            | (go_at_call 9; refine (HWA.out _ hB3).mono ?_; rintro e w4 ⟨rfl, hB4⟩)
            | (go_at_call 18; refine (HCB.out _ hB2).mono ?_; rintro e w3 ⟨rfl, hB3⟩)
            | (go_at_call 18; refine (HCA.out _ hB1).mono ?_; rintro e w2 ⟨rfl, hB2⟩)
            | (go_at_call 17; refine (HE.out).mono ?_; rintro e w1 ⟨rfl, hB1⟩))
          go_ret
          exact ⟨rfl, hB6⟩
        | true =>
          cases xb with
          | false =>
            clear HWR HNR
            go_enter Try.func6, Try.ntmps6
            go_wp2_with (first
              | (go_at_call 9; refine (HN0.out _ hB5).mono ?_; rintro e w6 ⟨rfl, hB6⟩)
              | (go_at_call 9; refine (HWB.out _ hB4).mono ?_; rintro e w5 ⟨rfl, hB5⟩)
              | (go_at_call 9; refine (HWA.out _ hB3).mono ?_; rintro e w4 ⟨rfl, hB4⟩)
              | (go_at_call 18; refine (HCB.out _ hB2).mono ?_; rintro e w3 ⟨rfl, hB3⟩)
              | (go_at_call 18; refine (HCA.out _ hB1).mono ?_; rintro e w2 ⟨rfl, hB2⟩)
              | (go_at_call 17; refine (HE.out).mono ?_; rintro e w1 ⟨rfl, hB1⟩))
            go_ret
            exact ⟨rfl, hB6⟩
          | true =>
            have HWR2 := hidMk (HWR.out rfl rfl)
            clear HWR
            go_enter Try.func6, Try.ntmps6
            go_wp2_with (first
              | (go_at_call 9; refine (HWR2.out true _ _ _ _ hB9 hR9).mono ?_; rintro e w10 ⟨rfl, hB10⟩)
              | (go_at_call 19; refine (HNR.out true _ hB8).mono ?_; rintro e w9 ⟨⟨g9, c9, rfl, hR9⟩, hB9⟩)
              | (go_at_call 9; refine (HWR2.out false _ _ _ _ hB7 hR7).mono ?_; rintro e w8 ⟨rfl, hB8⟩)
              | (go_at_call 19; refine (HNR.out false _ hB6).mono ?_; rintro e w7 ⟨⟨g7, c7, rfl, hR7⟩, hB7⟩)
              | (go_at_call 9; refine (HN0.out _ hB5).mono ?_; rintro e w6 ⟨rfl, hB6⟩)
              | (go_at_call 9; refine (HWB.out _ hB4).mono ?_; rintro e w5 ⟨rfl, hB5⟩)
              | (go_at_call 9; refine (HWA.out _ hB3).mono ?_; rintro e w4 ⟨rfl, hB4⟩)
              | (go_at_call 18; refine (HCB.out _ hB2).mono ?_; rintro e w3 ⟨rfl, hB3⟩)
              | (go_at_call 18; refine (HCA.out _ hB1).mono ?_; rintro e w2 ⟨rfl, hB2⟩)
              | (go_at_call 17; refine (HE.out).mono ?_; rintro e w1 ⟨rfl, hB1⟩))
            go_ret
            exact ⟨rfl, hB10⟩
      · have hcb0 : (cutCode (n : Int) es zb == 0) = false := by simpa using hcb
        have hcb1 : (cutCode (n : Int) es zb != 0) = true := by simpa using hcb
        rw [hcb0] at HCB
        generalize cutCode (n : Int) es zb = cb at HWB hcb1
        generalize wholeA (n : Int) es za = xa at HWA
        generalize wholeA (n : Int) es zb = xb at HWB
        clear h ha hb hz hv hca hcb hcb0
        go_enter Try.func6, Try.ntmps6
        go_wp2_with (first
          | (go_at_call 9; refine (HWB.out _ hB4).mono ?_; rintro e w5 ⟨rfl, hB5⟩)
          | (go_at_call 9; refine (HWA.out _ hB3).mono ?_; rintro e w4 ⟨rfl, hB4⟩)
          | (go_at_call 18; refine (HCB.out _ hB2).mono ?_; rintro e w3 ⟨rfl, hB3⟩)
          | (go_at_call 18; refine (HCA.out _ hB1).mono ?_; rintro e w2 ⟨rfl, hB2⟩)
          | (go_at_call 17; refine (HE.out).mono ?_; rintro e w1 ⟨rfl, hB1⟩))
        go_ret
        exact ⟨rfl, hB5⟩
    · have hca0 : (cutCode (n : Int) es za == 0) = false := by simpa using hca
      have hca1 : (cutCode (n : Int) es za != 0) = true := by simpa using hca
      rw [hca0] at HCA
      generalize cutCode (n : Int) es za = ca at HWA hca1
      generalize cutCode (n : Int) es zb = cb at HWB
      generalize wholeA (n : Int) es za = xa at HWA
      generalize wholeA (n : Int) es zb = xb at HWB
      clear h ha hb hz hv hca hca0 HCB
      go_enter Try.func6, Try.ntmps6
      go_wp2_with (first
        | (go_at_call 9; refine (HWB.out _ hB4).mono ?_; rintro e w5 ⟨rfl, hB5⟩)
        | (go_at_call 9; refine (HWA.out _ hB2).mono ?_; rintro e w4 ⟨rfl, hB4⟩)
        | (go_at_call 18; refine (HCA.out _ hB1).mono ?_; rintro e w2 ⟨rfl, hB2⟩)
        | (go_at_call 17; refine (HE.out).mono ?_; rintro e w1 ⟨rfl, hB1⟩))
      go_ret
      exact ⟨rfl, hB5⟩
  · have hz0 : (evsCode N es == 0) = false := by simpa using hz
    have hz1 : (evsCode N es != 0) = true := by simpa using hz
    rw [wholeE_evs hz] at HWA HWB
    rw [hz0] at HE
    generalize evsCode N es = ce at HWA HWB hz1
    generalize wholeA N es za = xa at HWA
    generalize wholeA N es zb = xb at HWB
    clear h ha hb hz hz0
    go_enter Try.func6, Try.ntmps6
    go_wp2_with (first
      | (go_at_call 9; refine (HWB.out _ hB4).mono ?_; rintro e w5 ⟨rfl, hB5⟩)
      | (go_at_call 9; refine (HWA.out _ hB1).mono ?_; rintro e w4 ⟨rfl, hB4⟩)
      | (go_at_call 17; refine (HE.out).mono ?_; rintro e w1 ⟨rfl, hB1⟩))
    go_ret
    exact ⟨rfl, hB5⟩
end Go.Proofs.Ytjglbjiekndpeaa
