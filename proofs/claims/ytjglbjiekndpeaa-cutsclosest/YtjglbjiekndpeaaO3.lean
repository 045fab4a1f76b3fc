/- Contract of folkmootref.Whole; folkmootlaw.CutsWholes, walked. -/
import Derived.Test.YtjglbjiekndpeaaO2
namespace Go.Proofs.Ytjglbjiekndpeaa
open Go.RowKit Go.Shelf
set_option linter.unusedVariables false

theorem whole_next {es : List Ev} {c : Nat → Nat} {k : Nat} (h : wholeTo es c k = true) (h2 : ∀ j, takenAt es k = some j → inC es c k = true → inC es c j = true) : wholeTo es c (k + 1) = true := by
  rw [wholeTo_succ, h, Bool.true_and]
  cases ht : takenAt es k with
  | none => rfl
  | some j =>
    cases hi : inC es c k with
    | false => simp
    | true => simp [h2 j ht hi]

set_option maxRecDepth 100000 in
set_option maxHeartbeats 4000000 in
theorem refWhole_any (n : Nat) (a : Option Addr) (len cap : Nat) (es : List Ev) (w : World) (h : CameEv w a len cap es) (hz : evsCode (n : Int) es = 0) (a2 : Option Addr) (n2 c2 : Nat) (zs : List Int) (hc : CameI w a2 n2 c2 zs) (hcc : cutCode (n : Int) es zs = 0) :
    Calls Try.prog 11 #[.slice a len cap, .slice a2 n2 c2] w fun e W2 => e = .returned (.bool (wholeB es (atN zs))) ∧ Below w.heap.size w W2 := by
  have HI := hidMk (refIn_any n a len cap es w h hz a2 n2 c2 zs hc hcc)
  have hv := valid_of hz
  have hel : es.length = len := h.1
  have hmx' : (len : Int) ≤ 60 := by have := hv.2.2.1; omega
  have HE : Hid (∀ k, k < len → ∃ be oe, a = some ⟨be, oe, none⟩ ∧ EvRow w be oe es) := fun k hk => by
    rcases h.2.2.2 with h0 | h0
    · omega
    · exact h0
  have HV := hidMk hv
  have HEL := hidMk hel
  clear h hz hv hel hc hcc
  go_enter Try.func11, Try.ntmps11
  go_wp2_with (go_at_call 26; refine (HI.out).mono ?_; rintro e w1 ⟨⟨av, cv, rfl, hRB⟩, hB1⟩)
  have HRB := hidMk hRB
  have HB1 := hidMk hB1
  clear hRB hB1
  go_loopw [13] (fun i wr => ∃ k : Nat, k ≤ len ∧ i = .int .i64 (k : Int) ∧ Hid (Below w1.heap.size w1 wr) ∧ Hid (wholeTo es (atN zs) k = true)) (fun i _ => len - (intOf i).toNat)
  case atStart => exact ⟨0, Nat.zero_le _, rfl, Below.refl _ _, wholeTo_zero _⟩
  case round =>
    obtain ⟨k, hk, rfl, HB, HT⟩ := hrel
    by_cases hkl : k < len
    · have hkl' : (k : Int) < (len : Int) := by omega
      obtain ⟨be, oe, rfl, hr⟩ := HE.out k hkl
      obtain ⟨⟨kd, wh, of⟩, he, _, _, hc1, hc2, hc3⟩ := (hr.below hr.1 (below_from HB1.out HB.out)).at (k := k) (by rw [HEL.out]; exact hkl)
      dsimp only at hc1 hc2 hc3
      have hof := (HV.out.2.2.2 k _ he).2.2.2
      dsimp only at hof
      obtain ⟨gi, rfl, _, _, _⟩ := HRB.out.at hkl
      have HBA : Hid (Below w1.heap.size w1 (wr.alloc (.cells #[.int .i64 kd, .int .i64 wh, .int .i64 of] 42))) := HB.out.alloc HB.out.size _
      have HBW : Hid (Below w.heap.size w (wr.alloc (.cells #[.int .i64 kd, .int .i64 wh, .int .i64 of] 42))) := below_from HB1.out HBA.out
      have hI : ∀ j, j < len → (wr.alloc (.cells #[.int .i64 kd, .int .i64 wh, .int .i64 of] 42)).cell? ⟨gi, j, none⟩ = some (.bool (inC es (atN zs) j)) := fun j hj => by
        obtain ⟨g, e, _, _, hcell⟩ := (HRB.out.below HBA.out).at hj
        cases e
        exact hcell
      have hIk := hI k hkl
      by_cases hkd : kd = 3
      · subst hkd
        obtain ⟨j, rfl, hjk⟩ := hof rfl
        have hIj := hI j (by omega)
        have hjl : (j : Int) < (len : Int) := by omega
        have hta : takenAt es k = some j := by unfold takenAt; rw [he]; simp
        clear hI he hof hr
        cases h1 : inC es (atN zs) k with
        | false =>
          rw [h1] at hIk
          have HN : Hid (wholeTo es (atN zs) (k + 1) = true) := whole_next HT.out fun j _ h => by rw [h1] at h; cases h
          clear h1 hta
          go_wp2
          go_roundw
          case rel => exact ⟨k + 1, by omega, by go_num, HBA, HN⟩
          case measure => simp [intOf]; omega
        | true =>
          rw [h1] at hIk
          cases h2 : inC es (atN zs) j with
          | false =>
            rw [h2] at hIj
            have HN : Hid (wholeB es (atN zs) = false) := wholeB_not (by rw [HEL.out]; exact hkl) hta h1 h2
            clear h1 h2 hta
            go_wp2
            go_ret
            exact ⟨ret_bool HN.out.symm, HBW.out⟩
          | true =>
            rw [h2] at hIj
            have HN : Hid (wholeTo es (atN zs) (k + 1) = true) := whole_next HT.out fun j2 h3 _ => by rw [hta] at h3; cases h3; exact h2
            clear h1 h2 hta
            go_wp2
            go_roundw
            case rel => exact ⟨k + 1, by omega, by go_num, HBA, HN⟩
            case measure => simp [intOf]; omega
      · have hkd' : (kd == 3) = false := by simpa using hkd
        have hta : takenAt es k = none := by unfold takenAt; rw [he]; simp [hkd]
        have HN : Hid (wholeTo es (atN zs) (k + 1) = true) := whole_next HT.out fun j2 h3 _ => by rw [hta] at h3; cases h3
        clear hI he hof hr hta hkd
        cases h1 : inC es (atN zs) k with
        | false =>
          rw [h1] at hIk
          clear h1
          go_wp2
          go_roundw
          case rel => exact ⟨k + 1, by omega, by go_num, HBA, HN⟩
          case measure => simp [intOf]; omega
        | true =>
          rw [h1] at hIk
          clear h1
          go_wp2
          go_roundw
          case rel => exact ⟨k + 1, by omega, by go_num, HBA, HN⟩
          case measure => simp [intOf]; omega
    · obtain rfl : k = len := by omega
      have HN : Hid (wholeB es (atN zs) = true) := by show wholeB es (atN zs) = true; unfold wholeB; rw [HEL.out]; exact HT.out
      go_wp2
      go_ret
      exact ⟨ret_bool HN.out.symm, below_from HB1.out HB.out⟩

set_option maxHeartbeats 2000000 in
theorem cutsWholes_walk (N : Int) (a : Option Addr) (len cap : Nat) (es : List Ev) (w : World) (h : CameEv w a len cap es) (a2 : Option Addr) (n2 c2 : Nat) (zs : List Int) (hc : CameI w a2 n2 c2 zs) :
    Calls Try.prog 3 #[.int .i64 N, .slice a len cap, .slice a2 n2 c2] w fun e w2 => e = .returned (.bool true) ∧ Below w.heap.size w w2 := by
  have HC : Hid (∀ w1, Below w.heap.size w w1 → Calls Try.prog 10 #[.int .i64 N, .slice a len cap, .slice a2 n2 c2] w1 fun e W2 => e = .returned (.int .i64 (wholeE N es zs)) ∧ Below w1.heap.size w1 W2) := fun w1 hb => cutCheck_any N a len cap es w1 (h.below hb) a2 n2 c2 zs (hc.below hb)
  have HW := hidMk (whole_any N a len cap es w h a2 n2 c2 zs hc)
  by_cases hE : wholeE N es zs = 0
  · obtain ⟨hz, hcc⟩ := wholeE_zero.1 hE
    have hv := valid_of hz
    obtain ⟨n, rfl⟩ : ∃ n : Nat, N = n := ⟨N.toNat, by have := hv.1; omega⟩
    have hA : wholeA (n : Int) es zs = wholeB es (atN zs) := by unfold wholeA; rw [if_neg (by simpa using hE)]
    have HR : Hid (∀ w1, Below w.heap.size w w1 → Calls Try.prog 11 #[.slice a len cap, .slice a2 n2 c2] w1 fun e W2 => e = .returned (.bool (wholeB es (atN zs))) ∧ Below w1.heap.size w1 W2) := fun w1 hb => refWhole_any n a len cap es w1 (h.below hb) hz a2 n2 c2 zs (hc.below hb) hcc
    rw [hE] at HC HW
    rw [hA] at HW
    generalize wholeB es (atN zs) = b1 at HR HW
    clear h hc hE hz hcc hv hA
    go_enter Try.func3, Try.ntmps3
    go_wp2_with (first
      | (go_at_call 11; refine (HR.out _ hB2').mono ?_; rintro e w3 ⟨rfl, hB3⟩; have hB3' := below_from hB2' hB3)
      | (go_at_call 10; refine (HC.out _ hB1).mono ?_; rintro e w2 ⟨rfl, hB2⟩; have hB2' := below_from hB1 hB2)
      | (go_at_call 9; refine (HW.out).mono ?_; rintro e w1 ⟨rfl, hB1⟩))
    go_ret
    exact ⟨by simp, hB3'⟩
  · have hA : wholeA N es zs = false := by unfold wholeA; rw [if_pos hE]
    have hne : (wholeE N es zs != 0) = true := by simpa using hE
    rw [hA] at HW
    generalize wholeE N es zs = c at HC HW hne
    clear h hc hE hA
    go_enter Try.func3, Try.ntmps3
    go_wp2_with (first
      | (go_at_call 10; refine (HC.out _ hB1).mono ?_; rintro e w2 ⟨rfl, hB2⟩; have hB2' := below_from hB1 hB2)
      | (go_at_call 9; refine (HW.out).mono ?_; rintro e w1 ⟨rfl, hB1⟩))
    go_ret
    exact ⟨by simp, hB2'⟩
end Go.Proofs.Ytjglbjiekndpeaa
