/- folkmootkeep.CutsClosest, walked. -/
import Derived.Test.YtjglbjiekndpeaaQ2
import Derived.Test.YtjglbjiekndpeaaO3
namespace Go.Proofs.Ytjglbjiekndpeaa
open Go.RowKit Go.Shelf
set_option linter.unusedVariables false

theorem leN_rel {n g1 o1 c1 g2 o2 c2 : Nat} {f h : Nat → Nat} {w : World} (h1 : ∀ p, p < n → w.cell? ⟨g1, o1 + p, none⟩ = some (.int .i64 ((f p : Nat) : Int))) (h2 : ∀ p, p < n → w.cell? ⟨g2, o2 + p, none⟩ = some (.int .i64 ((h p : Nat) : Int))) (m1 : n ≤ 6) :
    Calls Try.prog 20 #[.slice (some ⟨g1, o1, none⟩) n c1, .slice (some ⟨g2, o2, none⟩) n c2] w fun e w2 => e = .returned (.bool (leN n f h)) ∧ Below w.heap.size w w2 :=
  (leq_cells g1 o1 g2 o2 n c1 c2 f h w h1 h2 (by omega)).mono fun e w2 ⟨p, m, q⟩ => ⟨p, by rw [q]; exact drew_below w m⟩
theorem rowI_cell0 {w : World} {base g n : Nat} {f : Nat → Nat} (h : RowI w base g n f) (p : Nat) (hp : p < n) : w.cell? ⟨g, 0 + p, none⟩ = some (.int .i64 ((f p : Nat) : Int)) := by rw [Nat.zero_add]; exact rowI_cell h hp

set_option maxHeartbeats 16000000 in
theorem cutsClosest_walk (N : Int) (a : Option Addr) (len cap : Nat) (es : List Ev) (w : World) (h : CameEv w a len cap es) (a2 : Option Addr) (n2 c2 : Nat) (za : List Int) (ha : CameI w a2 n2 c2 za) (a3 : Option Addr) (n3 c3 : Nat) (zb : List Int) (hb : CameI w a3 n3 c3 zb) :
    Calls Try.prog 7 #[.int .i64 N, .slice a len cap, .slice a2 n2 c2, .slice a3 n3 c3] w fun e w2 => e = .returned (.bool true) ∧ Below w.heap.size w w2 := by
  have HE : Hid (∀ w1, Below w.heap.size w w1 → Calls Try.prog 17 #[.int .i64 N, .slice a len cap] w1 fun e w2 => e = .returned (.bool (evsCode N es == 0)) ∧ Below w1.heap.size w1 w2) := fun w1 k => events_from N a len cap es w1 w1 (h.below k) (Below.refl _ _)
  by_cases hz : evsCode N es = 0
  · have hv := valid_of hz
    obtain ⟨n, rfl⟩ : ∃ n : Nat, N = n := ⟨N.toNat, by have := hv.1; omega⟩
    have HCA : Hid (∀ w1, Below w.heap.size w w1 → Calls Try.prog 18 #[.int .i64 (n : Int), .slice a len cap, .slice a2 n2 c2] w1 fun e W2 => e = .returned (.bool (cutCode (n : Int) es za == 0)) ∧ Below w1.heap.size w1 W2) := fun w1 k => cut_any n a len cap es w1 (h.below k) hz a2 n2 c2 za (ha.below k)
    have HCB : Hid (∀ w1, Below w.heap.size w w1 → Calls Try.prog 18 #[.int .i64 (n : Int), .slice a len cap, .slice a3 n3 c3] w1 fun e W2 => e = .returned (.bool (cutCode (n : Int) es zb == 0)) ∧ Below w1.heap.size w1 W2) := fun w1 k => cut_any n a len cap es w1 (h.below k) hz a3 n3 c3 zb (hb.below k)
    rw [hz] at HE
    by_cases hca : cutCode (n : Int) es za = 0
    · rw [hca] at HCA
      have hn6 : n ≤ 6 := by have := hv.2.1; omega
      have HG := hidMk (grow_ok n a len cap es w h a2 n2 c2 za ha hz hca)
      have HS : Hid (∀ w1, Below w.heap.size w w1 → Calls Try.prog 15 #[.int .i64 (n : Int), .slice a len cap, .slice a2 n2 c2] w1 fun e W2 => (∃ g, e = .returned (.tuple #[.slice (some ⟨g, 0, none⟩) n n, .int .i64 0]) ∧ RowI W2 w1.heap.size g n (shrunk es (atN za))) ∧ Below w1.heap.size w1 W2) := fun w1 k => shrink_ok n a len cap es w1 (h.below k) a2 n2 c2 za (ha.below k) hz hca
      have HWG : Hid (∀ w1, Below w.heap.size w w1 → ∀ base g, RowI w1 base g n (grown es (atN za)) → Calls Try.prog 9 #[.int .i64 (n : Int), .slice a len cap, .slice (some ⟨g, 0, none⟩) n n] w1 fun e W2 => e = .returned (.tuple #[.bool true, .int .i64 0]) ∧ Below w1.heap.size w1 W2) := fun w1 k base g hr => whole_b (h.below k) hz (fun p hp => grown_cut _ p) (grown_whole hv _) hr
      have HWS : Hid (∀ w1, Below w.heap.size w w1 → ∀ base g, RowI w1 base g n (shrunk es (atN za)) → Calls Try.prog 9 #[.int .i64 (n : Int), .slice a len cap, .slice (some ⟨g, 0, none⟩) n n] w1 fun e W2 => e = .returned (.tuple #[.bool true, .int .i64 0]) ∧ Below w1.heap.size w1 W2) := fun w1 k base g hr => whole_b (h.below k) hz (fun p hp => shrunk_cut _ p) (shrunk_whole hv _) hr
      obtain ⟨rfl, b, off, rfl, hqa⟩ := cut_row_of hv ha hca
      have cA : ∀ w1, Below w.heap.size w w1 → ∀ p, p < n2 → w1.cell? ⟨b, off + p, none⟩ = some (.int .i64 ((atN za p : Nat) : Int)) := fun w1 k p hp => cut_cell hca (hqa.below hqa.1 k) hp
      have HLAG : Hid (∀ w1, Below w.heap.size w w1 → ∀ base g, RowI w1 base g n2 (grown es (atN za)) → Calls Try.prog 20 #[.slice (some ⟨b, off, none⟩) n2 c2, .slice (some ⟨g, 0, none⟩) n2 n2] w1 fun e W2 => e = .returned (.bool true) ∧ Below w1.heap.size w1 W2) := fun w1 k base g hr => by
        have := leN_rel (c1 := c2) (c2 := n2) (cA w1 k) (rowI_cell0 hr) hn6
        rw [leN_iff.2 fun p hp => grown_ge hv (cut_le hca hp)] at this
        exact this
      have HLSA : Hid (∀ w1, Below w.heap.size w w1 → ∀ base g, RowI w1 base g n2 (shrunk es (atN za)) → Calls Try.prog 20 #[.slice (some ⟨g, 0, none⟩) n2 n2, .slice (some ⟨b, off, none⟩) n2 c2] w1 fun e W2 => e = .returned (.bool true) ∧ Below w1.heap.size w1 W2) := fun w1 k base g hr => by
        have := leN_rel (c1 := n2) (c2 := c2) (rowI_cell0 hr) (cA w1 k) hn6
        rw [leN_iff.2 fun p hp => shrunk_le hv p] at this
        exact this
      by_cases hcb : cutCode (n2 : Int) es zb = 0
      · rw [hcb] at HCB
        have HRW : Hid (∀ w1, Below w.heap.size w w1 → Calls Try.prog 11 #[.slice a len cap, .slice a3 n3 c3] w1 fun e W2 => e = .returned (.bool (wholeB es (atN zb))) ∧ Below w1.heap.size w1 W2) := fun w1 hB => refWhole_any n2 a len cap es w1 (h.below hB) hz a3 n3 c3 zb (hb.below hB) hcb
        cases hwb : wholeB es (atN zb) with
        | false =>
          rw [hwb] at HRW
          clear h ha hb hz hv hca hcb hqa cA hwb
          go_enter Try.func7, Try.ntmps7
          go_wp2_with (first
            | (go_at_call 11; refine (HRW.out _ hB9).mono ?_; rintro e w10 ⟨rfl, hb10⟩; have hB10 := below_from hB9 hb10; have hOg10 := owns_below hOg9 hb10; have hOs10 := owns_below hOs9 hb10; clear hb10 hB9 hOg9 hOs9)
            | (go_at_call 18; refine (HCB.out _ hB8).mono ?_; rintro e w9 ⟨rfl, hb9⟩; have hB9 := below_from hB8 hb9; have hOg9 := owns_below hOg8 hb9; have hOs9 := owns_below hOs8 hb9; clear hb9 hB8 hOg8 hOs8)
            | (go_at_call 20; refine (HLSA.out _ hB7 _ _ hOs7).mono ?_; rintro e w8 ⟨rfl, hb8⟩; have hB8 := below_from hB7 hb8; have hOg8 := owns_below hOg7 hb8; have hOs8 := owns_below hOs7 hb8; clear hb8 hB7 hOg7 hOs7)
            | (go_at_call 20; refine (HLAG.out _ hB6 _ _ hOg6).mono ?_; rintro e w7 ⟨rfl, hb7⟩; have hB7 := below_from hB6 hb7; have hOg7 := owns_below hOg6 hb7; have hOs7 := owns_below hOs6 hb7; clear hb7 hB6 hOg6 hOs6)
            | (go_at_call 9; refine (HWS.out _ hB5 _ _ hOs5).mono ?_; rintro e w6 ⟨rfl, hb6⟩; have hB6 := below_from hB5 hb6; have hOg6 := owns_below hOg5 hb6; have hOs6 := owns_below hOs5 hb6; clear hb6 hB5 hOg5 hOs5)
            | (go_at_call 9; refine (HWG.out _ hB4 _ _ hOg4).mono ?_; rintro e w5 ⟨rfl, hb5⟩; have hB5 := below_from hB4 hb5; have hOg5 := owns_below hOg4 hb5; have hOs5 := owns_below hOs4 hb5; clear hb5 hB4 hOg4 hOs4)
            | (go_at_call 18; refine (HCA.out _ hB3).mono ?_; rintro e w4 ⟨rfl, hb4⟩; have hB4 := below_from hB3 hb4; have hOg4 := owns_below hOg3 hb4; have hOs4 := owns_below hOs3 hb4; clear hb4 hB3 hOg3 hOs3)
            | (go_at_call 17; refine (HE.out _ hB2).mono ?_; rintro e w3 ⟨rfl, hb3⟩; have hB3 := below_from hB2 hb3; have hOg3 := owns_below hOg2 hb3; have hOs3 := owns_below hs hb3; clear hb3 hB2 hOg2 hs)
            | (go_at_call 15; refine (HS.out _ hB1).mono ?_; rintro e w2 ⟨⟨s, rfl, hs⟩, hb2⟩; have hB2 := below_from hB1 hb2; have hOg2 := owns_below hg hb2; clear hb2 hB1 hg)
            | (go_at_call 12; refine (HG.out).mono ?_; rintro e w1 ⟨⟨g, rfl, hg⟩, hb1⟩; have hB1 := below_from (Below.refl _ _) hb1; clear hb1))
          go_ret
          exact ⟨rfl, hB10⟩

        | true =>
          rw [hwb] at HRW
          have hW := wholeB_iff.1 hwb
          obtain ⟨e3, b3, off3, rfl, hqb⟩ := cut_row_of hv hb hcb
          subst e3
          have cB : ∀ w1, Below w.heap.size w w1 → ∀ p, p < n3 → w1.cell? ⟨b3, off3 + p, none⟩ = some (.int .i64 ((atN zb p : Nat) : Int)) := fun w1 k p hp => cut_cell hcb (hqb.below hqb.1 k) hp
          have HLAB : Hid (∀ w1, Below w.heap.size w w1 → Calls Try.prog 20 #[.slice (some ⟨b, off, none⟩) n3 c2, .slice (some ⟨b3, off3, none⟩) n3 c3] w1 fun e W2 => e = .returned (.bool (leN n3 (atN za) (atN zb))) ∧ Below w1.heap.size w1 W2) := fun w1 k => leN_rel (cA w1 k) (cB w1 k) hn6
          have HLBA : Hid (∀ w1, Below w.heap.size w w1 → Calls Try.prog 20 #[.slice (some ⟨b3, off3, none⟩) n3 c3, .slice (some ⟨b, off, none⟩) n3 c2] w1 fun e W2 => e = .returned (.bool (leN n3 (atN zb) (atN za))) ∧ Below w1.heap.size w1 W2) := fun w1 k => leN_rel (cB w1 k) (cA w1 k) hn6
          have HLGB : Hid (leN n3 (atN za) (atN zb) = true → ∀ w1, Below w.heap.size w w1 → ∀ base g, RowI w1 base g n3 (grown es (atN za)) → Calls Try.prog 20 #[.slice (some ⟨g, 0, none⟩) n3 n3, .slice (some ⟨b3, off3, none⟩) n3 c3] w1 fun e W2 => e = .returned (.bool true) ∧ Below w1.heap.size w1 W2) := fun hl w1 k base g hr => by
            have := leN_rel (c1 := n3) (c2 := c3) (rowI_cell0 hr) (cB w1 k) hn6
            rw [leN_iff.2 fun p hp => grown_le hv rfl hW (leN_iff.1 hl) p] at this
            exact this
          have HLBS : Hid (leN n3 (atN zb) (atN za) = true → ∀ w1, Below w.heap.size w w1 → ∀ base g, RowI w1 base g n3 (shrunk es (atN za)) → Calls Try.prog 20 #[.slice (some ⟨b3, off3, none⟩) n3 c3, .slice (some ⟨g, 0, none⟩) n3 n3] w1 fun e W2 => e = .returned (.bool true) ∧ Below w1.heap.size w1 W2) := fun hl w1 k base g hr => by
            have := leN_rel (c1 := c3) (c2 := n3) (cB w1 k) (rowI_cell0 hr) hn6
            rw [leN_iff.2 fun p hp => shrunk_ge hv rfl hW (leN_iff.1 hl) (cut_le hcb hp)] at this
            exact this
          generalize leN n3 (atN za) (atN zb) = l1 at HLAB HLGB
          generalize leN n3 (atN zb) (atN za) = l2 at HLBA HLBS
          clear h ha hb hz hv hca hcb hqa hqb cA cB hwb hW
          cases l1 with
          | true =>
            have HLGB2 := hidMk (HLGB.out rfl)
            clear HLGB
            cases l2 with
            | true =>
              have HLBS2 := hidMk (HLBS.out rfl)
              clear HLBS
              go_enter Try.func7, Try.ntmps7
              go_wp2_with (first
                | (go_at_call 20; refine (HLBS2.out _ hB13 _ _ hOs13).mono ?_; rintro e w14 ⟨rfl, hb14⟩; have hB14 := below_from hB13 hb14; have hOg14 := owns_below hOg13 hb14; have hOs14 := owns_below hOs13 hb14; clear hb14 hB13 hOg13 hOs13)
                | (go_at_call 20; refine (HLBA.out _ hB12).mono ?_; rintro e w13 ⟨rfl, hb13⟩; have hB13 := below_from hB12 hb13; have hOg13 := owns_below hOg12 hb13; have hOs13 := owns_below hOs12 hb13; clear hb13 hB12 hOg12 hOs12)
                | (go_at_call 20; refine (HLGB2.out _ hB11 _ _ hOg11).mono ?_; rintro e w12 ⟨rfl, hb12⟩; have hB12 := below_from hB11 hb12; have hOg12 := owns_below hOg11 hb12; have hOs12 := owns_below hOs11 hb12; clear hb12 hB11 hOg11 hOs11)
                | (go_at_call 20; refine (HLAB.out _ hB10).mono ?_; rintro e w11 ⟨rfl, hb11⟩; have hB11 := below_from hB10 hb11; have hOg11 := owns_below hOg10 hb11; have hOs11 := owns_below hOs10 hb11; clear hb11 hB10 hOg10 hOs10)
                | (go_at_call 11; refine (HRW.out _ hB9).mono ?_; rintro e w10 ⟨rfl, hb10⟩; have hB10 := below_from hB9 hb10; have hOg10 := owns_below hOg9 hb10; have hOs10 := owns_below hOs9 hb10; clear hb10 hB9 hOg9 hOs9)
                | (go_at_call 18; refine (HCB.out _ hB8).mono ?_; rintro e w9 ⟨rfl, hb9⟩; have hB9 := below_from hB8 hb9; have hOg9 := owns_below hOg8 hb9; have hOs9 := owns_below hOs8 hb9; clear hb9 hB8 hOg8 hOs8)
                | (go_at_call 20; refine (HLSA.out _ hB7 _ _ hOs7).mono ?_; rintro e w8 ⟨rfl, hb8⟩; have hB8 := below_from hB7 hb8; have hOg8 := owns_below hOg7 hb8; have hOs8 := owns_below hOs7 hb8; clear hb8 hB7 hOg7 hOs7)
                | (go_at_call 20; refine (HLAG.out _ hB6 _ _ hOg6).mono ?_; rintro e w7 ⟨rfl, hb7⟩; have hB7 := below_from hB6 hb7; have hOg7 := owns_below hOg6 hb7; have hOs7 := owns_below hOs6 hb7; clear hb7 hB6 hOg6 hOs6)
                | (go_at_call 9; refine (HWS.out _ hB5 _ _ hOs5).mono ?_; rintro e w6 ⟨rfl, hb6⟩; have hB6 := below_from hB5 hb6; have hOg6 := owns_below hOg5 hb6; have hOs6 := owns_below hOs5 hb6; clear hb6 hB5 hOg5 hOs5)
                | (go_at_call 9; refine (HWG.out _ hB4 _ _ hOg4).mono ?_; rintro e w5 ⟨rfl, hb5⟩; have hB5 := below_from hB4 hb5; have hOg5 := owns_below hOg4 hb5; have hOs5 := owns_below hOs4 hb5; clear hb5 hB4 hOg4 hOs4)
                | (go_at_call 18; refine (HCA.out _ hB3).mono ?_; rintro e w4 ⟨rfl, hb4⟩; have hB4 := below_from hB3 hb4; have hOg4 := owns_below hOg3 hb4; have hOs4 := owns_below hOs3 hb4; clear hb4 hB3 hOg3 hOs3)
                | (go_at_call 17; refine (HE.out _ hB2).mono ?_; rintro e w3 ⟨rfl, hb3⟩; have hB3 := below_from hB2 hb3; have hOg3 := owns_below hOg2 hb3; have hOs3 := owns_below hs hb3; clear hb3 hB2 hOg2 hs)
                | (go_at_call 15; refine (HS.out _ hB1).mono ?_; rintro e w2 ⟨⟨s, rfl, hs⟩, hb2⟩; have hB2 := below_from hB1 hb2; have hOg2 := owns_below hg hb2; clear hb2 hB1 hg)
                | (go_at_call 12; refine (HG.out).mono ?_; rintro e w1 ⟨⟨g, rfl, hg⟩, hb1⟩; have hB1 := below_from (Below.refl _ _) hb1; clear hb1))
              go_ret
              exact ⟨rfl, hB14⟩

            | false =>
              go_enter Try.func7, Try.ntmps7
              go_wp2_with (first
                | (go_at_call 20; refine (HLBA.out _ hB12).mono ?_; rintro e w13 ⟨rfl, hb13⟩; have hB13 := below_from hB12 hb13; have hOg13 := owns_below hOg12 hb13; have hOs13 := owns_below hOs12 hb13; clear hb13 hB12 hOg12 hOs12)
                | (go_at_call 20; refine (HLGB2.out _ hB11 _ _ hOg11).mono ?_; rintro e w12 ⟨rfl, hb12⟩; have hB12 := below_from hB11 hb12; have hOg12 := owns_below hOg11 hb12; have hOs12 := owns_below hOs11 hb12; clear hb12 hB11 hOg11 hOs11)
                | (go_at_call 20; refine (HLAB.out _ hB10).mono ?_; rintro e w11 ⟨rfl, hb11⟩; have hB11 := below_from hB10 hb11; have hOg11 := owns_below hOg10 hb11; have hOs11 := owns_below hOs10 hb11; clear hb11 hB10 hOg10 hOs10)
                | (go_at_call 11; refine (HRW.out _ hB9).mono ?_; rintro e w10 ⟨rfl, hb10⟩; have hB10 := below_from hB9 hb10; have hOg10 := owns_below hOg9 hb10; have hOs10 := owns_below hOs9 hb10; clear hb10 hB9 hOg9 hOs9)
                | (go_at_call 18; refine (HCB.out _ hB8).mono ?_; rintro e w9 ⟨rfl, hb9⟩; have hB9 := below_from hB8 hb9; have hOg9 := owns_below hOg8 hb9; have hOs9 := owns_below hOs8 hb9; clear hb9 hB8 hOg8 hOs8)
                | (go_at_call 20; refine (HLSA.out _ hB7 _ _ hOs7).mono ?_; rintro e w8 ⟨rfl, hb8⟩; have hB8 := below_from hB7 hb8; have hOg8 := owns_below hOg7 hb8; have hOs8 := owns_below hOs7 hb8; clear hb8 hB7 hOg7 hOs7)
                | (go_at_call 20; refine (HLAG.out _ hB6 _ _ hOg6).mono ?_; rintro e w7 ⟨rfl, hb7⟩; have hB7 := below_from hB6 hb7; have hOg7 := owns_below hOg6 hb7; have hOs7 := owns_below hOs6 hb7; clear hb7 hB6 hOg6 hOs6)
                | (go_at_call 9; refine (HWS.out _ hB5 _ _ hOs5).mono ?_; rintro e w6 ⟨rfl, hb6⟩; have hB6 := below_from hB5 hb6; have hOg6 := owns_below hOg5 hb6; have hOs6 := owns_below hOs5 hb6; clear hb6 hB5 hOg5 hOs5)
                | (go_at_call 9; refine (HWG.out _ hB4 _ _ hOg4).mono ?_; rintro e w5 ⟨rfl, hb5⟩; have hB5 := below_from hB4 hb5; have hOg5 := owns_below hOg4 hb5; have hOs5 := owns_below hOs4 hb5; clear hb5 hB4 hOg4 hOs4)
                | (go_at_call 18; refine (HCA.out _ hB3).mono ?_; rintro e w4 ⟨rfl, hb4⟩; have hB4 := below_from hB3 hb4; have hOg4 := owns_below hOg3 hb4; have hOs4 := owns_below hOs3 hb4; clear hb4 hB3 hOg3 hOs3)
                | (go_at_call 17; refine (HE.out _ hB2).mono ?_; rintro e w3 ⟨rfl, hb3⟩; have hB3 := below_from hB2 hb3; have hOg3 := owns_below hOg2 hb3; have hOs3 := owns_below hs hb3; clear hb3 hB2 hOg2 hs)
                | (go_at_call 15; refine (HS.out _ hB1).mono ?_; rintro e w2 ⟨⟨s, rfl, hs⟩, hb2⟩; have hB2 := below_from hB1 hb2; have hOg2 := owns_below hg hb2; clear hb2 hB1 hg)
                | (go_at_call 12; refine (HG.out).mono ?_; rintro e w1 ⟨⟨g, rfl, hg⟩, hb1⟩; have hB1 := below_from (Below.refl _ _) hb1; clear hb1))
              go_ret
              exact ⟨rfl, hB13⟩

          | false =>
            cases l2 with
            | true =>
              have HLBS2 := hidMk (HLBS.out rfl)
              clear HLBS
              go_enter Try.func7, Try.ntmps7
              go_wp2_with (first
                | (go_at_call 20; refine (HLBS2.out _ hB12 _ _ hOs12).mono ?_; rintro e w13 ⟨rfl, hb13⟩; have hB13 := below_from hB12 hb13; have hOg13 := owns_below hOg12 hb13; have hOs13 := owns_below hOs12 hb13; clear hb13 hB12 hOg12 hOs12)
                | (go_at_call 20; refine (HLBA.out _ hB11).mono ?_; rintro e w12 ⟨rfl, hb12⟩; have hB12 := below_from hB11 hb12; have hOg12 := owns_below hOg11 hb12; have hOs12 := owns_below hOs11 hb12; clear hb12 hB11 hOg11 hOs11)
                | (go_at_call 20; refine (HLAB.out _ hB10).mono ?_; rintro e w11 ⟨rfl, hb11⟩; have hB11 := below_from hB10 hb11; have hOg11 := owns_below hOg10 hb11; have hOs11 := owns_below hOs10 hb11; clear hb11 hB10 hOg10 hOs10)
                | (go_at_call 11; refine (HRW.out _ hB9).mono ?_; rintro e w10 ⟨rfl, hb10⟩; have hB10 := below_from hB9 hb10; have hOg10 := owns_below hOg9 hb10; have hOs10 := owns_below hOs9 hb10; clear hb10 hB9 hOg9 hOs9)
                | (go_at_call 18; refine (HCB.out _ hB8).mono ?_; rintro e w9 ⟨rfl, hb9⟩; have hB9 := below_from hB8 hb9; have hOg9 := owns_below hOg8 hb9; have hOs9 := owns_below hOs8 hb9; clear hb9 hB8 hOg8 hOs8)
                | (go_at_call 20; refine (HLSA.out _ hB7 _ _ hOs7).mono ?_; rintro e w8 ⟨rfl, hb8⟩; have hB8 := below_from hB7 hb8; have hOg8 := owns_below hOg7 hb8; have hOs8 := owns_below hOs7 hb8; clear hb8 hB7 hOg7 hOs7)
                | (go_at_call 20; refine (HLAG.out _ hB6 _ _ hOg6).mono ?_; rintro e w7 ⟨rfl, hb7⟩; have hB7 := below_from hB6 hb7; have hOg7 := owns_below hOg6 hb7; have hOs7 := owns_below hOs6 hb7; clear hb7 hB6 hOg6 hOs6)
                | (go_at_call 9; refine (HWS.out _ hB5 _ _ hOs5).mono ?_; rintro e w6 ⟨rfl, hb6⟩; have hB6 := below_from hB5 hb6; have hOg6 := owns_below hOg5 hb6; have hOs6 := owns_below hOs5 hb6; clear hb6 hB5 hOg5 hOs5)
                | (go_at_call 9; refine (HWG.out _ hB4 _ _ hOg4).mono ?_; rintro e w5 ⟨rfl, hb5⟩; have hB5 := below_from hB4 hb5; have hOg5 := owns_below hOg4 hb5; have hOs5 := owns_below hOs4 hb5; clear hb5 hB4 hOg4 hOs4)
                | (go_at_call 18; refine (HCA.out _ hB3).mono ?_; rintro e w4 ⟨rfl, hb4⟩; have hB4 := below_from hB3 hb4; have hOg4 := owns_below hOg3 hb4; have hOs4 := owns_below hOs3 hb4; clear hb4 hB3 hOg3 hOs3)
                | (go_at_call 17; refine (HE.out _ hB2).mono ?_; rintro e w3 ⟨rfl, hb3⟩; have hB3 := below_from hB2 hb3; have hOg3 := owns_below hOg2 hb3; have hOs3 := owns_below hs hb3; clear hb3 hB2 hOg2 hs)
                | (go_at_call 15; refine (HS.out _ hB1).mono ?_; rintro e w2 ⟨⟨s, rfl, hs⟩, hb2⟩; have hB2 := below_from hB1 hb2; have hOg2 := owns_below hg hb2; clear hb2 hB1 hg)
                | (go_at_call 12; refine (HG.out).mono ?_; rintro e w1 ⟨⟨g, rfl, hg⟩, hb1⟩; have hB1 := below_from (Below.refl _ _) hb1; clear hb1))
              go_ret
              exact ⟨rfl, hB13⟩

            | false =>
              go_enter Try.func7, Try.ntmps7
              go_wp2_with (first
                | (go_at_call 20; refine (HLBA.out _ hB11).mono ?_; rintro e w12 ⟨rfl, hb12⟩; have hB12 := below_from hB11 hb12; have hOg12 := owns_below hOg11 hb12; have hOs12 := owns_below hOs11 hb12; clear hb12 hB11 hOg11 hOs11)
                | (go_at_call 20; refine (HLAB.out _ hB10).mono ?_; rintro e w11 ⟨rfl, hb11⟩; have hB11 := below_from hB10 hb11; have hOg11 := owns_below hOg10 hb11; have hOs11 := owns_below hOs10 hb11; clear hb11 hB10 hOg10 hOs10)
                | (go_at_call 11; refine (HRW.out _ hB9).mono ?_; rintro e w10 ⟨rfl, hb10⟩; have hB10 := below_from hB9 hb10; have hOg10 := owns_below hOg9 hb10; have hOs10 := owns_below hOs9 hb10; clear hb10 hB9 hOg9 hOs9)
                | (go_at_call 18; refine (HCB.out _ hB8).mono ?_; rintro e w9 ⟨rfl, hb9⟩; have hB9 := below_from hB8 hb9; have hOg9 := owns_below hOg8 hb9; have hOs9 := owns_below hOs8 hb9; clear hb9 hB8 hOg8 hOs8)
                | (go_at_call 20; refine (HLSA.out _ hB7 _ _ hOs7).mono ?_; rintro e w8 ⟨rfl, hb8⟩; have hB8 := below_from hB7 hb8; have hOg8 := owns_below hOg7 hb8; have hOs8 := owns_below hOs7 hb8; clear hb8 hB7 hOg7 hOs7)
                | (go_at_call 20; refine (HLAG.out _ hB6 _ _ hOg6).mono ?_; rintro e w7 ⟨rfl, hb7⟩; have hB7 := below_from hB6 hb7; have hOg7 := owns_below hOg6 hb7; have hOs7 := owns_below hOs6 hb7; clear hb7 hB6 hOg6 hOs6)
                | (go_at_call 9; refine (HWS.out _ hB5 _ _ hOs5).mono ?_; rintro e w6 ⟨rfl, hb6⟩; have hB6 := below_from hB5 hb6; have hOg6 := owns_below hOg5 hb6; have hOs6 := owns_below hOs5 hb6; clear hb6 hB5 hOg5 hOs5)
                | (go_at_call 9; refine (HWG.out _ hB4 _ _ hOg4).mono ?_; rintro e w5 ⟨rfl, hb5⟩; have hB5 := below_from hB4 hb5; have hOg5 := owns_below hOg4 hb5; have hOs5 := owns_below hOs4 hb5; clear hb5 hB4 hOg4 hOs4)
                | (go_at_call 18; refine (HCA.out _ hB3).mono ?_; rintro e w4 ⟨rfl, hb4⟩; have hB4 := below_from hB3 hb4; have hOg4 := owns_below hOg3 hb4; have hOs4 := owns_below hOs3 hb4; clear hb4 hB3 hOg3 hOs3)
                | (go_at_call 17; refine (HE.out _ hB2).mono ?_; rintro e w3 ⟨rfl, hb3⟩; have hB3 := below_from hB2 hb3; have hOg3 := owns_below hOg2 hb3; have hOs3 := owns_below hs hb3; clear hb3 hB2 hOg2 hs)
                | (go_at_call 15; refine (HS.out _ hB1).mono ?_; rintro e w2 ⟨⟨s, rfl, hs⟩, hb2⟩; have hB2 := below_from hB1 hb2; have hOg2 := owns_below hg hb2; clear hb2 hB1 hg)
                | (go_at_call 12; refine (HG.out).mono ?_; rintro e w1 ⟨⟨g, rfl, hg⟩, hb1⟩; have hB1 := below_from (Below.refl _ _) hb1; clear hb1))
              go_ret
              exact ⟨rfl, hB12⟩

      · have hcb0 : (cutCode (n2 : Int) es zb == 0) = false := by simpa using hcb
        rw [hcb0] at HCB
        clear h ha hb hz hv hca hcb hcb0 hqa cA
        go_enter Try.func7, Try.ntmps7
        go_wp2_with (first
          | (go_at_call 18; refine (HCB.out _ hB8).mono ?_; rintro e w9 ⟨rfl, hb9⟩; have hB9 := below_from hB8 hb9; have hOg9 := owns_below hOg8 hb9; have hOs9 := owns_below hOs8 hb9; clear hb9 hB8 hOg8 hOs8)
          | (go_at_call 20; refine (HLSA.out _ hB7 _ _ hOs7).mono ?_; rintro e w8 ⟨rfl, hb8⟩; have hB8 := below_from hB7 hb8; have hOg8 := owns_below hOg7 hb8; have hOs8 := owns_below hOs7 hb8; clear hb8 hB7 hOg7 hOs7)
          | (go_at_call 20; refine (HLAG.out _ hB6 _ _ hOg6).mono ?_; rintro e w7 ⟨rfl, hb7⟩; have hB7 := below_from hB6 hb7; have hOg7 := owns_below hOg6 hb7; have hOs7 := owns_below hOs6 hb7; clear hb7 hB6 hOg6 hOs6)
          | (go_at_call 9; refine (HWS.out _ hB5 _ _ hOs5).mono ?_; rintro e w6 ⟨rfl, hb6⟩; have hB6 := below_from hB5 hb6; have hOg6 := owns_below hOg5 hb6; have hOs6 := owns_below hOs5 hb6; clear hb6 hB5 hOg5 hOs5)
          | (go_at_call 9; refine (HWG.out _ hB4 _ _ hOg4).mono ?_; rintro e w5 ⟨rfl, hb5⟩; have hB5 := below_from hB4 hb5; have hOg5 := owns_below hOg4 hb5; have hOs5 := owns_below hOs4 hb5; clear hb5 hB4 hOg4 hOs4)
          | (go_at_call 18; refine (HCA.out _ hB3).mono ?_; rintro e w4 ⟨rfl, hb4⟩; have hB4 := below_from hB3 hb4; have hOg4 := owns_below hOg3 hb4; have hOs4 := owns_below hOs3 hb4; clear hb4 hB3 hOg3 hOs3)
          | (go_at_call 17; refine (HE.out _ hB2).mono ?_; rintro e w3 ⟨rfl, hb3⟩; have hB3 := below_from hB2 hb3; have hOg3 := owns_below hOg2 hb3; have hOs3 := owns_below hs hb3; clear hb3 hB2 hOg2 hs)
          | (go_at_call 15; refine (HS.out _ hB1).mono ?_; rintro e w2 ⟨⟨s, rfl, hs⟩, hb2⟩; have hB2 := below_from hB1 hb2; have hOg2 := owns_below hg hb2; clear hb2 hB1 hg)
          | (go_at_call 12; refine (HG.out).mono ?_; rintro e w1 ⟨⟨g, rfl, hg⟩, hb1⟩; have hB1 := below_from (Below.refl _ _) hb1; clear hb1))
        go_ret
        exact ⟨rfl, hB9⟩

    · have hE : wholeE (n : Int) es za ≠ 0 := by rw [wholeE_cut hz]; exact hca
      have hca0 : (cutCode (n : Int) es za == 0) = false := by simpa using hca
      have hca1 : (wholeE (n : Int) es za != 0) = true := by simpa using hE
      have HG := hidMk (grow_err (n : Int) a len cap es w h a2 n2 c2 za ha hE)
      have HS : Hid (∀ w1, Below w.heap.size w w1 → Calls Try.prog 15 #[.int .i64 (n : Int), .slice a len cap, .slice a2 n2 c2] w1 fun e W2 => e = .returned (.tuple #[.slice none 0 0, .int .i64 (wholeE (n : Int) es za)]) ∧ Below w1.heap.size w1 W2) := fun w1 k => shrink_err (n : Int) a len cap es w1 (h.below k) a2 n2 c2 za (ha.below k) hE
      rw [hca0] at HCA
      generalize wholeE (n : Int) es za = ca at HG HS hca1
      clear h ha hb hz hv hca hca0 HCB hE
      go_enter Try.func7, Try.ntmps7
      go_wp2_with (first
        | (go_at_call 18; refine (HCA.out _ hB3).mono ?_; rintro e w4 ⟨rfl, hb4⟩; have hB4 := below_from hB3 hb4; clear hb4 hB3)
        | (go_at_call 17; refine (HE.out _ hB2).mono ?_; rintro e w3 ⟨rfl, hb3⟩; have hB3 := below_from hB2 hb3; clear hb3 hB2)
        | (go_at_call 15; refine (HS.out _ hB1).mono ?_; rintro e w2 ⟨rfl, hb2⟩; have hB2 := below_from hB1 hb2; clear hb2 hB1)
        | (go_at_call 12; refine (HG.out).mono ?_; rintro e w1 ⟨rfl, hb1⟩; have hB1 := below_from (Below.refl _ _) hb1; clear hb1))
      go_ret
      exact ⟨rfl, hB4⟩

  · have hE : wholeE N es za ≠ 0 := by rw [wholeE_evs hz]; exact hz
    have hz0 : (evsCode N es == 0) = false := by simpa using hz
    have hz1 : (wholeE N es za != 0) = true := by simpa using hE
    have HG := hidMk (grow_err N a len cap es w h a2 n2 c2 za ha hE)
    have HS : Hid (∀ w1, Below w.heap.size w w1 → Calls Try.prog 15 #[.int .i64 N, .slice a len cap, .slice a2 n2 c2] w1 fun e W2 => e = .returned (.tuple #[.slice none 0 0, .int .i64 (wholeE N es za)]) ∧ Below w1.heap.size w1 W2) := fun w1 k => shrink_err N a len cap es w1 (h.below k) a2 n2 c2 za (ha.below k) hE
    rw [hz0] at HE
    generalize wholeE N es za = ca at HG HS hz1
    clear h ha hb hz hz0 hE
    go_enter Try.func7, Try.ntmps7
    go_wp2_with (first
      | (go_at_call 17; refine (HE.out _ hB2).mono ?_; rintro e w3 ⟨rfl, hb3⟩; have hB3 := below_from hB2 hb3; clear hb3 hB2)
      | (go_at_call 15; refine (HS.out _ hB1).mono ?_; rintro e w2 ⟨rfl, hb2⟩; have hB2 := below_from hB1 hb2; clear hb2 hB1)
      | (go_at_call 12; refine (HG.out).mono ?_; rintro e w1 ⟨rfl, hb1⟩; have hB1 := below_from (Below.refl _ _) hb1; clear hb1))
    go_ret
    exact ⟨rfl, hB3⟩

end Go.Proofs.Ytjglbjiekndpeaa
