/- folkmootkeep.CutsStep, walked. -/
import Derived.Test.YtjglbjiekndpeabQ2
namespace Go.Proofs.Ytjglbjiekndpeab
open Go.RowKit Go.Shelf
set_option linter.unusedVariables false

theorem grown_congr {es : List Ev} {n : Nat} (hv : Valid (n : Int) es) {c d : Nat → Nat} (h : ∀ p, p < n → c p = d p) (hd : ∀ p, p < n → d p ≤ pc es p es.length) (p : Nat) : grown es c p = grown es d p := by
  apply Nat.le_antisymm
  · exact grown_le hv rfl (grown_whole hv d) (fun q hq => by rw [h q hq]; exact grown_ge hv (hd q hq)) p
  · exact grown_le hv rfl (grown_whole hv c) (fun q hq => by rw [← h q hq]; exact grown_ge hv (by rw [h q hq]; exact hd q hq)) p
theorem shrunk_congr {es : List Ev} {n : Nat} (hv : Valid (n : Int) es) {c d : Nat → Nat} (h : ∀ p, p < n → c p = d p) (p : Nat) : shrunk es c p = shrunk es d p := by
  apply Nat.le_antisymm
  · exact shrunk_ge hv rfl (shrunk_whole hv c) (fun q hq => by rw [← h q hq]; exact shrunk_le hv q) (shrunk_cut _ p)
  · exact shrunk_ge hv rfl (shrunk_whole hv d) (fun q hq => by rw [h q hq]; exact shrunk_le hv q) (shrunk_cut _ p)
theorem shrink_made {n : Nat} {a : Option Addr} {len cap : Nat} {es : List Ev} {w : World} (h : CameEv w a len cap es) (hz : evsCode (n : Int) es = 0) {f : Nat → Nat} (hf : ∀ p, p < n → f p ≤ pc es p es.length) {base g c : Nat} (hr : RowC w base g n c f) :
    Calls Try.prog 8 #[.int .i64 (n : Int), .slice a len cap, .slice (some ⟨g, 0, none⟩) n c] w fun e W2 => (∃ g, e = .returned (.tuple #[.slice (some ⟨g, 0, none⟩) n n, .int .i64 0]) ∧ RowI W2 w.heap.size g n (shrunk es f)) ∧ Below w.heap.size w W2 := by
  have hv := valid_of hz
  have hn6 : n ≤ 6 := by have := hv.2.1; omega
  have h60 : es.length ≤ 60 := by have := hv.2.2.1; omega
  exact (shrink_ok n a len cap es w h (some ⟨g, 0, none⟩) n c (rowI n f) (came_rowC hr hn6 fun p hp => by have := hf p hp; have := pc_bound es p es.length; omega) hz (cut_rowI hf)).mono fun e W2 ⟨⟨g, p, q⟩, r⟩ => ⟨⟨g, p, rowI_same q fun p _ => shrunk_congr hv (fun q hq => atN_rowI hq) p⟩, r⟩
theorem grow_made {n : Nat} {a : Option Addr} {len cap : Nat} {es : List Ev} {w : World} (h : CameEv w a len cap es) (hz : evsCode (n : Int) es = 0) {f : Nat → Nat} (hf : ∀ p, p < n → f p ≤ pc es p es.length) {base g c : Nat} (hr : RowC w base g n c f) :
    Calls Try.prog 10 #[.int .i64 (n : Int), .slice a len cap, .slice (some ⟨g, 0, none⟩) n c] w fun e W2 => (∃ g, e = .returned (.tuple #[.slice (some ⟨g, 0, none⟩) n n, .int .i64 0]) ∧ RowI W2 w.heap.size g n (grown es f)) ∧ Below w.heap.size w W2 := by
  have hv := valid_of hz
  have hn6 : n ≤ 6 := by have := hv.2.1; omega
  have h60 : es.length ≤ 60 := by have := hv.2.2.1; omega
  exact (grow_ok n a len cap es w h (some ⟨g, 0, none⟩) n c (rowI n f) (came_rowC hr hn6 fun p hp => by have := hf p hp; have := pc_bound es p es.length; omega) hz (cut_rowI hf)).mono fun e W2 ⟨⟨g, p, q⟩, r⟩ => ⟨⟨g, p, rowI_same q fun p _ => grown_congr hv (fun q hq => atN_rowI hq) hf p⟩, r⟩
theorem ints_two {n g1 g2 b1 b2 : Nat} {f h : Nat → Nat} {w : World} (hn : n ≤ 6) (h1 : RowI w b1 g1 n f) (h2 : RowI w b2 g2 n h) :
    Calls Try.prog 12 #[.slice (some ⟨g1, 0, none⟩) n n, .slice (some ⟨g2, 0, none⟩) n n] w fun e w2 => e = .returned (.bool (rowN n f == rowN n h)) ∧ Below w.heap.size w w2 :=
  (ints_any _ _ n n n n _ _ w (rowZ_of h1) (rowZ_of h2) (by omega) (by omega)).mono fun e w2 ⟨p, m, q⟩ => ⟨p, by rw [q]; exact drew_below w m⟩

/-- One more at q. -/
def up1 (f : Nat → Nat) (q p : Nat) : Nat := if p = q then f q + 1 else f p

set_option maxHeartbeats 16000000 in
theorem cutsStep_walk (N : Int) (a : Option Addr) (len cap : Nat) (es : List Ev) (w : World) (h : CameEv w a len cap es) (a2 : Option Addr) (n2 c2 : Nat) (za : List Int) (ha : CameI w a2 n2 c2 za) (a3 : Option Addr) (n3 c3 : Nat) (zb : List Int) (hb : CameI w a3 n3 c3 zb) :
    Calls Try.prog 3 #[.int .i64 N, .slice a len cap, .slice a2 n2 c2, .slice a3 n3 c3] w fun e w2 => e = .returned (.bool true) ∧ Below w.heap.size w w2 := by
  obtain ⟨i0, hti, hz0, hz1, hz2⟩ := info_parts Try.info3
  have HE : Hid (∀ w1, Below w.heap.size w w1 → Calls Try.prog 5 #[.int .i64 N, .slice a len cap] w1 fun e w2 => e = .returned (.bool (evsCode N es == 0)) ∧ Below w1.heap.size w1 w2) := fun w1 k => events_from N a len cap es w1 w1 (h.below k) (Below.refl _ _)
  have HWA : Hid (∀ w1, Below w.heap.size w w1 → Calls Try.prog 7 #[.int .i64 N, .slice a len cap, .slice a2 n2 c2] w1 fun e W2 => e = .returned (.tuple #[.bool (wholeA N es za), .int .i64 (wholeE N es za)]) ∧ Below w1.heap.size w1 W2) := fun w1 k => whole_any N a len cap es w1 (h.below k) a2 n2 c2 za (ha.below k)
  have HWB : Hid (∀ w1, Below w.heap.size w w1 → Calls Try.prog 7 #[.int .i64 N, .slice a len cap, .slice a3 n3 c3] w1 fun e W2 => e = .returned (.tuple #[.bool (wholeA N es zb), .int .i64 (wholeE N es zb)]) ∧ Below w1.heap.size w1 W2) := fun w1 k => whole_any N a len cap es w1 (h.below k) a3 n3 c3 zb (hb.below k)
  by_cases hz : evsCode N es = 0
  · have hv := valid_of hz
    obtain ⟨n, rfl⟩ : ∃ n : Nat, N = n := ⟨N.toNat, by have := hv.1; omega⟩
    have HCA : Hid (∀ w1, Below w.heap.size w w1 → Calls Try.prog 6 #[.int .i64 (n : Int), .slice a len cap, .slice a2 n2 c2] w1 fun e W2 => e = .returned (.bool (cutCode (n : Int) es za == 0)) ∧ Below w1.heap.size w1 W2) := fun w1 k => cut_any n a len cap es w1 (h.below k) hz a2 n2 c2 za (ha.below k)
    have HCB : Hid (∀ w1, Below w.heap.size w w1 → Calls Try.prog 6 #[.int .i64 (n : Int), .slice a len cap, .slice a3 n3 c3] w1 fun e W2 => e = .returned (.bool (cutCode (n : Int) es zb == 0)) ∧ Below w1.heap.size w1 W2) := fun w1 k => cut_any n a len cap es w1 (h.below k) hz a3 n3 c3 zb (hb.below k)
    rw [wholeE_cut hz] at HWA HWB
    rw [hz] at HE
    by_cases hca : cutCode (n : Int) es za = 0
    · rw [hca] at HCA HWA
      by_cases hcb : cutCode (n : Int) es zb = 0
      · rw [hcb] at HCB HWB
        have hn6 : n ≤ 6 := by have := hv.2.1; omega
        have hn1 : 1 ≤ n := by have := hv.1; omega
        have hn6' : (n : Int) ≤ 6 := by omega
        obtain ⟨rfl, b, off, rfl, hqa⟩ := cut_row_of hv ha hca
        obtain ⟨e3, b3, off3, rfl, hqb⟩ := cut_row_of hv hb hcb
        subst e3
        have HNR : Hid (∀ great w1, Below w.heap.size w w1 → Calls Try.prog 9 #[.slice (some ⟨b, off, none⟩) n3 c2, .slice (some ⟨b3, off3, none⟩) n3 c3, .bool great] w1 fun e w2 => (∃ g c, e = .returned (.slice (some ⟨g, 0, none⟩) n3 c) ∧ RowC w2 w1.heap.size g n3 c (nr great (atN za) (atN zb))) ∧ Below w1.heap.size w1 w2) := fun great w1 k => nearest_two great b off b3 off3 n3 c2 c3 (atN za) (atN zb) w1 (Nat.lt_of_lt_of_le hqa.1 k.size) (Nat.lt_of_lt_of_le hqb.1 k.size) (fun p hp => cut_cell hca (hqa.below hqa.1 k) hp) (fun p hp => cut_cell hcb (hqb.below hqb.1 k) hp) hn1 (by omega)
        have hnl : ∀ great p, p < n3 → nr great (atN za) (atN zb) p ≤ pc es p es.length := fun great p hp => nr_le (cut_le hca hp) (cut_le hcb hp) great
        have HSH : Hid (∀ w1 base g c, Below w.heap.size w w1 → RowC w1 base g n3 c (nr false (atN za) (atN zb)) → Calls Try.prog 8 #[.int .i64 (n3 : Int), .slice a len cap, .slice (some ⟨g, 0, none⟩) n3 c] w1 fun e W2 => (∃ g, e = .returned (.tuple #[.slice (some ⟨g, 0, none⟩) n3 n3, .int .i64 0]) ∧ RowI W2 w1.heap.size g n3 (shrunk es (nr false (atN za) (atN zb)))) ∧ Below w1.heap.size w1 W2) := fun w1 base g c k hr => shrink_made (h.below k) hz (hnl false) hr
        have HGR : Hid (∀ w1 base g c, Below w.heap.size w w1 → RowC w1 base g n3 c (nr true (atN za) (atN zb)) → Calls Try.prog 10 #[.int .i64 (n3 : Int), .slice a len cap, .slice (some ⟨g, 0, none⟩) n3 c] w1 fun e W2 => (∃ g, e = .returned (.tuple #[.slice (some ⟨g, 0, none⟩) n3 n3, .int .i64 0]) ∧ RowI W2 w1.heap.size g n3 (grown es (nr true (atN za) (atN zb)))) ∧ Below w1.heap.size w1 W2) := fun w1 base g c k hr => grow_made (h.below k) hz (hnl true) hr
        have hlh : ∀ p, p < n3 → shrunk es (nr false (atN za) (atN zb)) p ≤ grown es (nr true (atN za) (atN zb)) p := fun p hp => by
          have h1 := shrunk_le hv (c := nr false (atN za) (atN zb)) p
          have h2 := grown_ge hv (c := nr true (atN za) (atN zb)) (hnl true p hp)
          have h3 : nr false (atN za) (atN zb) p ≤ nr true (atN za) (atN zb) p := by simp only [nr, if_true]; simp; omega
          omega
        have hhc : ∀ p, grown es (nr true (atN za) (atN zb)) p ≤ pc es p es.length := fun p => grown_cut _ p
        have hwl := shrunk_whole hv (nr false (atN za) (atN zb))
        have hwh := grown_whole hv (nr true (atN za) (atN zb))
        generalize shrunk es (nr false (atN za) (atN zb)) = lo at HSH hlh hwl
        generalize grown es (nr true (atN za) (atN zb)) = hi at HGR hlh hhc hwh
        have HST : Hid ((rowN n3 lo == rowN n3 hi) = false → ∃ q, q < n3 ∧ lo q < hi q ∧ wholeB es (up1 lo q) = true) := fun hne => by
          have : ∃ p0, p0 < n3 ∧ lo p0 < hi p0 := by
            apply Classical.byContradiction
            intro hno
            have : rowN n3 lo = rowN n3 hi := rowN_congr fun p hp => by
              have := hlh p hp
              by_cases e : lo p < hi p
              · exact absurd ⟨p, hp, e⟩ hno
              · omega
            rw [this] at hne
            simp at hne
          obtain ⟨p0, h1, h2⟩ := this
          obtain ⟨q, h3, h4, h5⟩ := step_some hv rfl hwl hwh (fun p _ => hhc p) h1 h2
          exact ⟨q, h3, h4, wholeB_iff.2 h5⟩
        have HWU : Hid (∀ q, q < n3 → lo q < hi q → ∀ w1 base g c, Below w.heap.size w w1 → RowC w1 base g n3 c (up1 lo q) → Calls Try.prog 7 #[.int .i64 (n3 : Int), .slice a len cap, .slice (some ⟨g, 0, none⟩) n3 c] w1 fun e W2 => e = .returned (.tuple #[.bool (wholeB es (up1 lo q)), .int .i64 0]) ∧ Below w1.heap.size w1 W2) := fun q hq hlt w1 base g c k hr => whole_made (h.below k) hz (fun p hp => by
          unfold up1
          have h1 := hlh p hp
          have h2 := hhc p
          split
          · rename_i e; subst e; omega
          · omega) hr
        have HLQ : Hid (∀ (w1 : World) (b1 g1 b2 g2 : Nat), RowI w1 b1 g1 n3 lo → RowI w1 b2 g2 n3 hi → Calls Try.prog 11 #[.slice (some ⟨g1, 0, none⟩) n3 n3, .slice (some ⟨g2, 0, none⟩) n3 n3] w1 fun e w2 => e = .returned (.bool true) ∧ Below w1.heap.size w1 w2) := fun w1 b1 g1 b2 g2 h1 h2 => by
          have := leN_rel (c1 := n3) (c2 := n3) (rowI_cell0 h1) (rowI_cell0 h2) hn6
          rwa [leN_iff.2 hlh] at this
        have HI : Hid (∀ (w1 : World) (b1 g1 b2 g2 : Nat), RowI w1 b1 g1 n3 lo → RowI w1 b2 g2 n3 hi → Calls Try.prog 12 #[.slice (some ⟨g1, 0, none⟩) n3 n3, .slice (some ⟨g2, 0, none⟩) n3 n3] w1 fun e w2 => e = .returned (.bool (rowN n3 lo == rowN n3 hi)) ∧ Below w1.heap.size w1 w2) := fun w1 b1 g1 b2 g2 h1 h2 => ints_two hn6 h1 h2
        have HLH := hidMk hlh
        have HLO : Hid (∀ p, p < n3 → lo p ≤ 60) := fun p hp => by have := hlh p hp; have := hhc p; have := pc_bound es p es.length; have := hv.2.2.1; omega
        generalize (rowN n3 lo == rowN n3 hi) = eq at HI HST
        clear h ha hb hz hv hca hcb hqa hqb hnl hlh hhc hwl hwh
        cases eq with
        | true =>
          go_enter Try.func3, Try.ntmps3
          go_wp2_with (first
            | (go_at_call 12; refine (HI.out _ _ _ _ _ hOl8 hOh8).mono ?_; rintro e w9 ⟨rfl, hb9⟩; have hB9 := below_from hB8 hb9; have hx9 := owns_below hx8 hb9; have hOl9 := owns_below hOl8 hb9; have hy9 := owns_below hy8 hb9; have hOh9 := owns_below hOh8 hb9; clear hb9 hB8 hx8 hOl8 hy8 hOh8)
            | (go_at_call 11; refine (HLQ.out _ _ _ _ _ hOl7 hh).mono ?_; rintro e w8 ⟨rfl, hb8⟩; have hB8 := below_from hB7 hb8; have hx8 := owns_below hx7 hb8; have hOl8 := owns_below hOl7 hb8; have hy8 := owns_below hy7 hb8; have hOh8 := owns_below hh hb8; clear hb8 hB7 hx7 hOl7 hy7 hh)
            | (go_at_call 10; refine (HGR.out _ _ _ _ hB6 hr6).mono ?_; rintro e w7 ⟨⟨gh, rfl, hh⟩, hb7⟩; have hB7 := below_from hB6 hb7; have hx7 := owns_below hx6 hb7; have hOl7 := owns_below hOl6 hb7; have hy7 := owns_below hr6 hb7; clear hb7 hB6 hx6 hOl6 hr6)
            | (go_at_call 9; refine (HNR.out true _ hB5).mono ?_; rintro e w6 ⟨⟨g6, c6, rfl, hr6⟩, hb6⟩; have hB6 := below_from hB5 hb6; have hx6 := owns_below hx5 hb6; have hOl6 := owns_below hl hb6; clear hb6 hB5 hx5 hl)
            | (go_at_call 8; refine (HSH.out _ _ _ _ hB4 hr4).mono ?_; rintro e w5 ⟨⟨gl, rfl, hl⟩, hb5⟩; have hB5 := below_from hB4 hb5; have hx5 := owns_below hr4 hb5; clear hb5 hB4 hr4)
            | (go_at_call 9; refine (HNR.out false _ hB3).mono ?_; rintro e w4 ⟨⟨g4, c4, rfl, hr4⟩, hb4⟩; have hB4 := below_from hB3 hb4; clear hb4 hB3)
            | (go_at_call 6; refine (HCB.out _ hB2).mono ?_; rintro e w3 ⟨rfl, hb3⟩; have hB3 := below_from hB2 hb3; clear hb3 hB2)
            | (go_at_call 6; refine (HCA.out _ hB1).mono ?_; rintro e w2 ⟨rfl, hb2⟩; have hB2 := below_from hB1 hb2; clear hb2 hB1)
            | (go_at_call 5; refine (HE.out _ (Below.refl _ _)).mono ?_; rintro e w1 ⟨rfl, hb1⟩; have hB1 := below_from (Below.refl _ _) hb1; clear hb1))
          go_ret
          exact ⟨rfl, hB9⟩

        | false =>
          have HST2 := hidMk (HST.out rfl)
          clear HST
          go_enter Try.func3, Try.ntmps3
          go_wp2_with (first
            | (go_at_call 12; refine (HI.out _ _ _ _ _ hOl8 hOh8).mono ?_; rintro e w9 ⟨rfl, hb9⟩; have hB9 := below_from hB8 hb9; have hx9 := owns_below hx8 hb9; have hOl9 := owns_below hOl8 hb9; have hy9 := owns_below hy8 hb9; have hOh9 := owns_below hOh8 hb9; clear hb9 hB8 hx8 hOl8 hy8 hOh8)
            | (go_at_call 11; refine (HLQ.out _ _ _ _ _ hOl7 hh).mono ?_; rintro e w8 ⟨rfl, hb8⟩; have hB8 := below_from hB7 hb8; have hx8 := owns_below hx7 hb8; have hOl8 := owns_below hOl7 hb8; have hy8 := owns_below hy7 hb8; have hOh8 := owns_below hh hb8; clear hb8 hB7 hx7 hOl7 hy7 hh)
            | (go_at_call 10; refine (HGR.out _ _ _ _ hB6 hr6).mono ?_; rintro e w7 ⟨⟨gh, rfl, hh⟩, hb7⟩; have hB7 := below_from hB6 hb7; have hx7 := owns_below hx6 hb7; have hOl7 := owns_below hOl6 hb7; have hy7 := owns_below hr6 hb7; clear hb7 hB6 hx6 hOl6 hr6)
            | (go_at_call 9; refine (HNR.out true _ hB5).mono ?_; rintro e w6 ⟨⟨g6, c6, rfl, hr6⟩, hb6⟩; have hB6 := below_from hB5 hb6; have hx6 := owns_below hx5 hb6; have hOl6 := owns_below hl hb6; clear hb6 hB5 hx5 hl)
            | (go_at_call 8; refine (HSH.out _ _ _ _ hB4 hr4).mono ?_; rintro e w5 ⟨⟨gl, rfl, hl⟩, hb5⟩; have hB5 := below_from hB4 hb5; have hx5 := owns_below hr4 hb5; clear hb5 hB4 hr4)
            | (go_at_call 9; refine (HNR.out false _ hB3).mono ?_; rintro e w4 ⟨⟨g4, c4, rfl, hr4⟩, hb4⟩; have hB4 := below_from hB3 hb4; clear hb4 hB3)
            | (go_at_call 6; refine (HCB.out _ hB2).mono ?_; rintro e w3 ⟨rfl, hb3⟩; have hB3 := below_from hB2 hb3; clear hb3 hB2)
            | (go_at_call 6; refine (HCA.out _ hB1).mono ?_; rintro e w2 ⟨rfl, hb2⟩; have hB2 := below_from hB1 hb2; clear hb2 hB1)
            | (go_at_call 5; refine (HE.out _ (Below.refl _ _)).mono ?_; rintro e w1 ⟨rfl, hb1⟩; have hB1 := below_from (Below.refl _ _) hb1; clear hb1))

          have HBW := hidMk hB9
          have HOL := hidMk hOl9
          have HOH := hidMk hOh9
          clear hB9 hOl9 hOh9 HE HWA HWB HCA HCB HNR HSH HGR HLQ HI
          go_loopw [17] (fun i wr => ∃ k : Nat, k ≤ n3 ∧ i = .int .i64 (k : Int) ∧ Hid (Below w9.heap.size w9 wr) ∧ Hid (∀ q, q < k → lo q < hi q → wholeB es (up1 lo q) = false)) (fun i _ => n3 - (intOf i).toNat)
          case atStart => exact ⟨0, Nat.zero_le _, rfl, Below.refl _ _, fun q hq => by omega⟩
          case round =>
            obtain ⟨k, hk, rfl, HB, HT⟩ := hrel
            by_cases hkn : k < n3
            · have hkn' : (k : Int) < (n3 : Int) := by omega
              have d1 := rowI_cell (owns_below HOL.out HB.out) hkn
              have d2 := rowI_cell (owns_below HOH.out HB.out) hkn
              by_cases he : lo k = hi k
              · have he' : (((lo k : Nat) : Int) == ((hi k : Nat) : Int)) = true := by rw [he]; simp
                have HN : Hid (∀ q, q < k + 1 → lo q < hi q → wholeB es (up1 lo q) = false) := fun q hq hlt => by
                  by_cases e : q = k
                  · subst e; omega
                  · exact HT.out q (by omega) hlt
                clear he
                go_wp2
                go_quiet (fail)
                go_wp2
                go_roundw
                case rel => exact ⟨k + 1, by omega, by go_num, below_drewN HB.out nq, HN⟩
                case measure => simp [intOf]; omega
              · have hlt : lo k < hi k := by have := HLH.out k hkn; omega
                have he' : (((lo k : Nat) : Int) == ((hi k : Nat) : Int)) = false := by simp; omega
                have h60 : ((lo k : Nat) : Int) ≤ 60 := by have := HLO.out k hkn; omega
                have HOLR := hidMk (owns_below HOL.out HB.out)
                have hgl := (World.ownsRow.lt (owns_below HOL.out HB.out) gl rfl).2
                clear he
                go_wp2
                go_quiet (fail)
                have HB2 := hidMk (below_drewN HB.out nq)
                have HOLR2 : Hid (RowI (wr.drewN nq) _ gl n3 lo) := owns_below HOLR.out (drew_below wr nq)
                have hgl2 : gl < (wr.drewN nq).heap.size := hgl
                clear HOLR HB hgl d1 d2
                generalize wr.drewN nq = W1 at *
                have hown := World.ownsRow_lit (e := 3) (size := 1) (base := W1.heap.size) W1 #[] 0 (Nat.le_refl _) (by unfold maxLen; omega) (by simp)
                have hnews : ∀ j u, ((rowN n3 lo).map encN)[j]? = some u → (W1.alloc (.cells #[] 3)).cell? ((⟨gl, 0, none⟩ : Addr).add j) = some u := fun j u hj => by
                  have hjn : j < n3 := by have := (List.getElem?_eq_some_iff.1 hj).1; rwa [List.length_map, rowN_len] at this
                  have ea : (Addr.add ⟨gl, 0, none⟩ j) = ⟨gl, j, none⟩ := by
                    by_cases h0 : j = 0
                    · subst h0; simp [Addr.add]
                    · simp [Addr.add, h0]
                  rw [ea, World.ownsRow.cellAt (World.ownsRow.alloc HOLR2.out _) j (by omega)]
                  exact hj
                have hone : ∀ u ∈ (rowN n3 lo).map encN, u.oneCell' = true := fun u hu => by
                  obtain ⟨z, _, rfl⟩ := List.mem_map.1 hu
                  rfl
                have HNW := hidMk hnews
                have HON := hidMk hone
                clear hnews hone
                go_wp2_with (at_builtin; refine wpList_append_own _ rfl _ _ 23 rfl W1.heap.size 3 i0 (.int .i64 0) 1 8 Try.underlying23 hti hz0 hz1 hz2 rfl (by decide) _ 0 [] rfl hown ⟨gl, 0, none⟩ n3 n3 ((rowN n3 lo).map encN) rfl (by rw [List.length_map, rowN_len]; omega) HNW.out HON.out (by unfold maxLen; omega) (by omega) (by simp) ?_)
                intro v3 w3 hown3 hgrow3 _
                obtain ⟨g3, c3', rfl⟩ := form_row hown3 hn1
                have hb3 : Below W1.heap.size W1 w3 := ((Below.refl _ W1).alloc (Nat.le_refl _) _).grown hgrow3 (by simp) (fun q e => by simp [Value.ownBlock] at e; omega)
                have hd3 := rowC_cell hown3 hkn
                have hfz := World.ownsRow.frozenAt hown3 k
                have hst := World.ownsRow.stored hown3 k (encN (lo k + 1))
                rw [← map_set, rowN_set] at hst
                have HR4 : Hid (RowC (w3.setCell ⟨g3, k, none⟩ (.int .i64 (((lo k : Nat) : Int) + 1))) W1.heap.size g3 n3 c3' (up1 lo k)) := hst.1
                have hg4 : w3.grownBy (w3.setCell ⟨g3, k, none⟩ (.int .i64 (((lo k : Nat) : Int) + 1))) (some g3) := hst.2
                have HB4 : Hid (Below w9.heap.size w9 (w3.setCell ⟨g3, k, none⟩ (.int .i64 (((lo k : Nat) : Int) + 1)))) := below_from HB2.out (hb3.grown hg4 hb3.size (fun q e => by cases e; exact (World.ownsRow.lt hown3 g3 rfl).1))
                clear hst hg4 hb3 hgrow3 hown hown3 HNW HON HOLR2
                go_wp2_with (fail)
                generalize w3.setCell ⟨g3, k, none⟩ (.int .i64 (((lo k : Nat) : Int) + 1)) = W4 at *
                clear hd3 hfz
                refine (HWU.out k hkn hlt _ _ _ _ (below_from HBW.out HB4.out) HR4.out).mono ?_
                rintro e w5 ⟨rfl, hb5⟩
                have HB5 := hidMk (below_from HB4.out hb5)
                clear hb5
                cases hwk : wholeB es (up1 lo k) with
                | true =>
                  go_wp2
                  go_ret
                  exact ⟨rfl, below_from HBW.out HB5.out⟩
                | false =>
                  have HN : Hid (∀ q, q < k + 1 → lo q < hi q → wholeB es (up1 lo q) = false) := fun q hq hlt => by
                    by_cases e : q = k
                    · subst e; exact hwk
                    · exact HT.out q (by omega) hlt
                  clear hwk
                  go_wp2
                  go_roundw
                  case rel => exact ⟨k + 1, by omega, by go_num, HB5, HN⟩
                  case measure => simp [intOf]; omega
            · obtain rfl : k = n3 := by omega
              obtain ⟨q, h1, h2, h3⟩ := HST2.out
              rw [HT.out q h1 h2] at h3
              cases h3
      · have hcb0 : (cutCode (n : Int) es zb == 0) = false := by simpa using hcb
        have hcb1 : (cutCode (n : Int) es zb != 0) = true := by simpa using hcb
        rw [hcb0] at HCB
        generalize cutCode (n : Int) es zb = cb at HWB hcb1
        generalize wholeA (n : Int) es za = xa at HWA
        generalize wholeA (n : Int) es zb = xb at HWB
        clear h ha hb hz hv hca hcb hcb0
        go_enter Try.func3, Try.ntmps3
        go_wp2_with (first
          | (go_at_call 7; refine (HWB.out _ hB4).mono ?_; rintro e w5 ⟨rfl, hb5⟩; have hB5 := below_from hB4 hb5; clear hb5 hB4)
          | (go_at_call 7; refine (HWA.out _ hB3).mono ?_; rintro e w4 ⟨rfl, hb4⟩; have hB4 := below_from hB3 hb4; clear hb4 hB3)
          | (go_at_call 6; refine (HCB.out _ hB2).mono ?_; rintro e w3 ⟨rfl, hb3⟩; have hB3 := below_from hB2 hb3; clear hb3 hB2)
          | (go_at_call 6; refine (HCA.out _ hB1).mono ?_; rintro e w2 ⟨rfl, hb2⟩; have hB2 := below_from hB1 hb2; clear hb2 hB1)
          | (go_at_call 5; refine (HE.out _ (Below.refl _ _)).mono ?_; rintro e w1 ⟨rfl, hb1⟩; have hB1 := below_from (Below.refl _ _) hb1; clear hb1))
        go_ret
        exact ⟨rfl, hB5⟩

    · have hca0 : (cutCode (n : Int) es za == 0) = false := by simpa using hca
      have hca1 : (cutCode (n : Int) es za != 0) = true := by simpa using hca
      rw [hca0] at HCA
      generalize cutCode (n : Int) es za = ca at HWA hca1
      generalize cutCode (n : Int) es zb = cb at HWB
      generalize wholeA (n : Int) es za = xa at HWA
      generalize wholeA (n : Int) es zb = xb at HWB
      clear h ha hb hz hv hca hca0 HCB
      go_enter Try.func3, Try.ntmps3
      go_wp2_with (first
        | (go_at_call 7; refine (HWB.out _ hB3).mono ?_; rintro e w4 ⟨rfl, hb4⟩; have hB4 := below_from hB3 hb4; clear hb4 hB3)
        | (go_at_call 7; refine (HWA.out _ hB2).mono ?_; rintro e w3 ⟨rfl, hb3⟩; have hB3 := below_from hB2 hb3; clear hb3 hB2)
        | (go_at_call 6; refine (HCA.out _ hB1).mono ?_; rintro e w2 ⟨rfl, hb2⟩; have hB2 := below_from hB1 hb2; clear hb2 hB1)
        | (go_at_call 5; refine (HE.out _ (Below.refl _ _)).mono ?_; rintro e w1 ⟨rfl, hb1⟩; have hB1 := below_from (Below.refl _ _) hb1; clear hb1))
      go_ret
      exact ⟨rfl, hB4⟩

  · have hz0 : (evsCode N es == 0) = false := by simpa using hz
    have hz1 : (evsCode N es != 0) = true := by simpa using hz
    rw [wholeE_evs hz] at HWA HWB
    rw [hz0] at HE
    generalize evsCode N es = ce at HWA HWB hz1
    generalize wholeA N es za = xa at HWA
    generalize wholeA N es zb = xb at HWB
    clear h ha hb hz hz0
    go_enter Try.func3, Try.ntmps3
    go_wp2_with (first
      | (go_at_call 7; refine (HWB.out _ hB2).mono ?_; rintro e w3 ⟨rfl, hb3⟩; have hB3 := below_from hB2 hb3; clear hb3 hB2)
      | (go_at_call 7; refine (HWA.out _ hB1).mono ?_; rintro e w2 ⟨rfl, hb2⟩; have hB2 := below_from hB1 hb2; clear hb2 hB1)
      | (go_at_call 5; refine (HE.out _ (Below.refl _ _)).mono ?_; rintro e w1 ⟨rfl, hb1⟩; have hB1 := below_from (Below.refl _ _) hb1; clear hb1))
    go_ret
    exact ⟨rfl, hB3⟩

end Go.Proofs.Ytjglbjiekndpeab
