/- folkmootkeep.TotalSame, walked. -/
import Derived.Test.YtgidgdnldiahkaaTb1
namespace Go.Proofs.Ytgidgdnldiahkaa
open Go.RowKit
set_option linter.unusedVariables false

set_option maxRecDepth 100000 in
set_option maxHeartbeats 4000000 in
theorem begins_long {w : World} {a b : Option Addr} {n m c d : Nat} (hlt : m < n) :
    Calls Try.prog 13 #[.slice a n c, .slice b m d] w fun e w2 => e = .returned (.bool false) ∧ ∃ k, w2 = w.drewN k := by
  have hq : decide ((n : Int) ≤ (m : Int)) = false := decide_eq_false (by omega)
  go_enter Try.func13, Try.ntmps13
  go_wp2
  go_ret
  exact ⟨rfl, 0, rfl⟩
/-- Of two lists one begins the other: what is told of both ways. -/
theorem begins_two {w : World} {a b : Option Addr} {n m c d : Nat} {xs ys : List Int} (h1 : RowI w a n c xs) (h2 : RowI w b m d ys) (hn : n ≤ 1000) (hm : m ≤ 1000) (h : (∃ r, ys = xs ++ r) ∨ (∃ r, xs = ys ++ r)) :
    ∃ u v : Bool, (u || v) = true ∧ (∀ q, Calls Try.prog 13 #[.slice a n c, .slice b m d] (w.drewN q) fun e w2 => e = .returned (.bool u) ∧ ∃ k, w2 = w.drewN k) ∧
      ∀ q, Calls Try.prog 13 #[.slice b m d, .slice a n c] (w.drewN q) fun e w2 => e = .returned (.bool v) ∧ ∃ k, w2 = w.drewN k := by
  have up : ∀ {q k : Nat} {w2 : World}, w2 = (w.drewN q).drewN k → ∃ k, w2 = w.drewN k := fun {q k w2} e => ⟨q + k, by rw [e, drewN_plus]⟩
  rcases h with ⟨r, e⟩ | ⟨r, e⟩
  · subst e
    by_cases hl : n = m
    · have hr : r = [] := by
        have e1 := h1.1
        have e2 := h2.1
        rw [List.length_append] at e2
        exact List.eq_nil_of_length_eq_zero (by omega)
      subst hr
      rw [List.append_nil] at h2
      refine ⟨true, true, rfl, fun q => ?_, fun q => ?_⟩
      · refine (beginsI_true (r := []) (h1.still (Stil.drewN w q)) (by rw [List.append_nil]; exact h2.still (Stil.drewN w q)) hm).mono ?_
        rintro e w2 ⟨rfl, k, hk⟩
        exact ⟨rfl, up hk⟩
      · refine (beginsI_true (r := []) (h2.still (Stil.drewN w q)) (by rw [List.append_nil]; exact h1.still (Stil.drewN w q)) hn).mono ?_
        rintro e w2 ⟨rfl, k, hk⟩
        exact ⟨rfl, up hk⟩
    · have hlt : n < m := by
        have e1 := h1.1
        have e2 := h2.1
        rw [List.length_append] at e2
        omega
      refine ⟨true, false, rfl, fun q => ?_, fun q => ?_⟩
      · refine (beginsI_true (h1.still (Stil.drewN w q)) (h2.still (Stil.drewN w q)) hm).mono ?_
        rintro e w2 ⟨rfl, k, hk⟩
        exact ⟨rfl, up hk⟩
      · refine (begins_long hlt).mono ?_
        rintro e w2 ⟨rfl, k, hk⟩
        exact ⟨rfl, up hk⟩
  · subst e
    by_cases hl : n = m
    · have hr : r = [] := by
        have e1 := h1.1
        have e2 := h2.1
        rw [List.length_append] at e1
        exact List.eq_nil_of_length_eq_zero (by omega)
      subst hr
      rw [List.append_nil] at h1
      refine ⟨true, true, rfl, fun q => ?_, fun q => ?_⟩
      · refine (beginsI_true (r := []) (h1.still (Stil.drewN w q)) (by rw [List.append_nil]; exact h2.still (Stil.drewN w q)) hm).mono ?_
        rintro e w2 ⟨rfl, k, hk⟩
        exact ⟨rfl, up hk⟩
      · refine (beginsI_true (r := []) (h2.still (Stil.drewN w q)) (by rw [List.append_nil]; exact h1.still (Stil.drewN w q)) hn).mono ?_
        rintro e w2 ⟨rfl, k, hk⟩
        exact ⟨rfl, up hk⟩
    · have hlt : m < n := by
        have e1 := h1.1
        have e2 := h2.1
        rw [List.length_append] at e1
        omega
      refine ⟨false, true, rfl, fun q => ?_, fun q => ?_⟩
      · refine (begins_long hlt).mono ?_
        rintro e w2 ⟨rfl, k, hk⟩
        exact ⟨rfl, up hk⟩
      · refine (beginsI_true (h2.still (Stil.drewN w q)) (h1.still (Stil.drewN w q)) hn).mono ?_
        rintro e w2 ⟨rfl, k, hk⟩
        exact ⟨rfl, up hk⟩

set_option maxRecDepth 100000 in
set_option maxHeartbeats 4000000 in
theorem same_bad {W : World} {pa : Option Addr} {pl pc : Nat} {z : Int} (hz : castCode z pl ≠ 0) (hpl : pl ≤ maxLen) :
    Calls Try.prog 4 #[.int .i64 z, .slice pa pl pc] W fun e W2 => e = .returned (.bool true) ∧ Below W.heap.size W W2 := by
  have HP := hidMk (play_badT (W := W) (pa := pa) (pc := pc) hz hpl)
  clear hz hpl
  go_enter Try.func4, Try.ntmps4
  go_wp2_with (go_at_call 8; refine (HP.out).mono ?_; rintro e w1 ⟨rfl, hk1⟩)
  go_ret
  exact ⟨rfl, Stil.below (hk1.alloc _)⟩

set_option maxRecDepth 100000 in
set_option maxHeartbeats 8000000 in
theorem same_ok {W : World} {pa : Option Addr} {n pl pc : Nat} {ps : List Cst} (hp : CameC W pa pl pc ps) (h0 : 0 < n) (h6 : n ≤ 6) (hpl : pl ≤ 120) :
    Calls Try.prog 4 #[.int .i64 (n : Int), .slice pa pl pc] W fun e W2 => e = .returned (.bool true) ∧ Below W.heap.size W W2 := by
  have HP := hidMk (play_seenT hp h0 h6 hpl)
  have HPre : Hid (∀ p q, (∃ r, natsI ((tsAt n ps pl).ls q) = natsI ((tsAt n ps pl).ls p) ++ r) ∨ (∃ r, natsI ((tsAt n ps pl).ls p) = natsI ((tsAt n ps pl).ls q) ++ r)) := fun p q => by
    obtain ⟨g, hi⟩ := (tat_all (n := n) (by omega) ps pl).inv
    rcases lists_pre hi (by omega) p q with ⟨r, e⟩ | ⟨r, e⟩
    · exact .inl ⟨natsI r, by rw [e, natsI_app]⟩
    · exact .inr ⟨natsI r, by rw [e, natsI_app]⟩
  have HLL : Hid (∀ p, ((tsAt n ps pl).ls p).length ≤ 120) := fun p => by have := tlen_le h6 ps pl p; omega
  have HND : Hid (∀ p, ((tsAt n ps pl).ls p).Nodup) := fun p => tnodup h6 ps pl p
  have hpl' : (pl : Int) ≤ 120 := by omega
  generalize (tsAt n ps pl).ls = S at *
  generalize tcAt n ps = cd at *
  clear hp
  go_enter Try.func4, Try.ntmps4
  go_wp2_with (fail)
  go_at_call 8
  refine (HP.out).mono ?_
  rintro e w1 ⟨⟨C, L, rfl, hS⟩, hk1⟩
  have HK2 : Hid (Stil W (w1.alloc (.cells #[.slice (some ⟨C, 0, none⟩) pl pl, .slice (some ⟨L, 0, none⟩) n n] 26))) := hk1.alloc _
  have HSe := hidMk (hS.still (Stil.new w1 (.cells #[.slice (some ⟨C, 0, none⟩) pl pl, .slice (some ⟨L, 0, none⟩) n n] 26)))
  have b1 : (w1.alloc (.cells #[.slice (some ⟨C, 0, none⟩) pl pl, .slice (some ⟨L, 0, none⟩) n n] 26)).cell? ⟨w1.heap.size, 1, none⟩ = some (.slice (some ⟨L, 0, none⟩) n n) := by
    rw [cell_of_row _ _ _ _ _ _ (al_new w1 _)]; rfl
  have HB1 := hidMk b1
  clear hk1 hS HP b1
  go_wp2
  generalize w1.alloc (.cells #[.slice (some ⟨C, 0, none⟩) pl pl, .slice (some ⟨L, 0, none⟩) n n] 26) = w3 at *
  generalize w1.heap.size = Lb at *
  go_loopw [39] (fun u wr => ∃ k : Nat, k ≤ n ∧ u = .int .i64 (k : Int) ∧ Hid (Stil w3 wr)) (fun u _ => n - (intOf u).toNat)
  case atStart => exact ⟨0, Nat.zero_le _, rfl, Keep.refl _ _⟩
  case round =>
    obtain ⟨k, hk, rfl, HKr⟩ := hrel
    by_cases hlt : k < n
    · have hlt' : (k : Int) < (n : Int) := by omega
      obtain ⟨la, lc, e1, e2⟩ := (HSe.out.still HKr.out).lists k hlt
      have HE2 := hidMk e2
      have b1 := HKr.out.cell HB1.out
      clear e2
      generalize hww : wr = w5 at *
      clear hww
      go_wp2
      go_loopw [46] (fun u ws => ∃ j : Nat, j ≤ n ∧ u = .int .i64 (j : Int) ∧ Hid (Stil w5 ws)) (fun u _ => n - (intOf u).toNat)
      case atStart => exact ⟨0, Nat.zero_le _, rfl, Keep.refl _ _⟩
      case round =>
        obtain ⟨j, hj, rfl, HKs⟩ := hrel
        by_cases hltj : j < n
        · have hltj' : (j : Int) < (n : Int) := by omega
          have b2 := HKs.out.cell b1
          obtain ⟨qa, qc, f1, f2⟩ := (HSe.out.still (HKr.out.tr HKs.out)).lists j hltj
          have g2 := HE2.out.still HKs.out
          have HO := hidMk (once_true g2 (by have := HLL.out k; omega) (natsI_nodup (HND.out k)))
          obtain ⟨u, v, huv, HB⟩ := begins_two g2 f2 (by have := HLL.out k; omega) (by have := HLL.out j; omega) (HPre.out k j)
          have HBa := hidMk HB.1
          have HBb := hidMk HB.2
          clear HB f2 g2
          generalize (S k).length = lk at *
          generalize (S j).length = lj at *
          have h1 := HBa.out 0
          rw [World.drewN_zero] at h1
          have HBa := hidMk h1
          clear h1
          go_wp2_with (fail)
          go_at_call 12
          refine (HO.out).mono ?_
          rintro e w' ⟨rfl, hw⟩
          obtain rfl := hw.symm
          clear hw HO
          go_wp2_with (fail)
          go_at_call 13
          refine (HBa.out).mono ?_
          rintro e w7 ⟨rfl, q7, hw⟩
          subst hw
          clear HBa
          cases u with
          | true =>
            clear HBb
            go_wp2
            go_roundw
            case rel => exact ⟨j + 1, by omega, by go_num, HKs.out.tr (Stil.drewN _ _)⟩
            case measure => simp [intOf]; omega
          | false =>
            have hv : v = true := by simpa using huv
            subst hv
            go_wp2_with (fail)
            go_at_call 13
            refine (HBb.out _).mono ?_
            rintro e w8 ⟨rfl, q8, hw⟩
            subst hw
            clear HBb
            go_wp2
            go_roundw
            case rel => exact ⟨j + 1, by omega, by go_num, HKs.out.tr (Stil.drewN _ _)⟩
            case measure => simp [intOf]; omega
        · obtain rfl : j = n := by omega
          go_wp2
          go_roundw
          case rel => exact ⟨k + 1, by omega, by go_num, HKr.out.tr HKs.out⟩
          case measure => simp [intOf]; omega
    · obtain rfl : k = n := by omega
      go_wp2
      go_ret
      exact ⟨rfl, Stil.below (HK2.out.tr HKr.out)⟩

theorem same_walk {W : World} {z : Int} {pa : Option Addr} {pl pc : Nat} {ps : List Cst} (hp : CameC W pa pl pc ps) :
    Calls Try.prog 4 #[.int .i64 z, .slice pa pl pc] W fun e W2 => e = .returned (.bool true) ∧ Below W.heap.size W W2 := by
  by_cases hz : castCode z pl = 0
  · obtain ⟨n, rfl, h0, h6, h120⟩ := castCode_zero hz
    exact same_ok hp h0 h6 h120
  · exact same_bad hz hp.2.2.1
end Go.Proofs.Ytgidgdnldiahkaa
