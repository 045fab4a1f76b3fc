/- Contracts of cuts.Grow, Shrink, Whole. -/
import Derived.Test.YtjglbjiekndpeabN3
namespace Go.Proofs.Ytjglbjiekndpeab
open Go.RowKit Go.Shelf
set_option linter.unusedVariables false

theorem cut_cell {w : World} {n b off : Nat} {es : List Ev} {zs : List Int} (hcc : cutCode (n : Int) es zs = 0) (h : IRow w b off zs) {p : Nat} (hp : p < n) : w.cell? ⟨b, off + p, none⟩ = some (.int .i64 ((atN zs p : Nat) : Int)) := by
  obtain ⟨h1, h2⟩ := cut_of hcc
  exact h.2.2 p _ (h2 p (by omega)).1
theorem cut_row_of {w : World} {n n2 c2 : Nat} {a2 : Option Addr} {es : List Ev} {zs : List Int} (hv : Valid (n : Int) es) (hc : CameI w a2 n2 c2 zs) (hcc : cutCode (n : Int) es zs = 0) : n2 = n ∧ ∃ b off, a2 = some ⟨b, off, none⟩ ∧ IRow w b off zs := by
  have hl : zs.length = n := by have := (cut_of hcc).1; omega
  obtain ⟨h1, h2, h3, h4⟩ := hc
  refine ⟨by omega, ?_⟩
  rcases h4 with h4 | h4
  · have := hv.1; omega
  · exact h4

set_option maxHeartbeats 1000000 in
theorem grow_err (N : Int) (a : Option Addr) (len cap : Nat) (es : List Ev) (w : World) (h : CameEv w a len cap es) (a2 : Option Addr) (n2 c2 : Nat) (zs : List Int) (hc : CameI w a2 n2 c2 zs) (hE : wholeE N es zs ≠ 0) :
    Calls Try.prog 10 #[.int .i64 N, .slice a len cap, .slice a2 n2 c2] w fun e W2 => e = .returned (.tuple #[.slice none 0 0, .int .i64 (wholeE N es zs)]) ∧ Below w.heap.size w W2 := by
  have HS := hidMk (ccheck_err N a len cap es w h a2 n2 c2 zs hc hE)
  have hne : (wholeE N es zs != 0) = true := by simpa using hE
  clear h hc hE
  generalize wholeE N es zs = c at HS hne
  go_enter Try.func10, Try.ntmps10
  go_wp2_with (go_at_call 16; refine (HS.out).mono ?_; rintro e w1 ⟨rfl, hB1⟩)
  go_ret2
  exact ⟨rfl, hB1⟩

set_option maxHeartbeats 4000000 in
theorem grow_ok (n : Nat) (a : Option Addr) (len cap : Nat) (es : List Ev) (w : World) (h : CameEv w a len cap es) (a2 : Option Addr) (n2 c2 : Nat) (zs : List Int) (hc : CameI w a2 n2 c2 zs) (hz : evsCode (n : Int) es = 0) (hcc : cutCode (n : Int) es zs = 0) :
    Calls Try.prog 10 #[.int .i64 (n : Int), .slice a len cap, .slice a2 n2 c2] w fun e W2 => (∃ g, e = .returned (.tuple #[.slice (some ⟨g, 0, none⟩) n n, .int .i64 0]) ∧ RowI W2 w.heap.size g n (grown es (atN zs))) ∧ Below w.heap.size w W2 := by
  have HS := hidMk (ccheck_ok n a len cap es w h a2 n2 c2 zs hc hz hcc)
  have hv := valid_of hz
  obtain ⟨rfl, b, off, rfl, hq⟩ := cut_row_of hv hc hcc
  have hmx' : (len : Int) ≤ 60 := by have := hv.2.2.1; have := h.1; omega
  have hn6 : n2 ≤ 6 := by have := hv.2.1; omega
  have hn6' : (n2 : Int) ≤ 6 := by omega
  have hmi := make_ints n2 (by omega)
  have HV := hidMk hv
  have HQ := hidMk hq
  have HCC := hidMk hcc
  have HL := hidMk h.1
  have HE : Hid (∀ k, k < len → ∃ be oe, a = some ⟨be, oe, none⟩ ∧ ∃ p0 : Nat, whoAt es k = (p0 : Int) ∧ p0 < n2 ∧ ∀ w1, Below w.heap.size w w1 → w1.cell? ⟨be, oe + k * 3 + 1, none⟩ = some (.int .i64 (p0 : Int))) := fun k hk => by
    obtain ⟨hl, _, _, hr⟩ := h
    rcases hr with h0 | ⟨be, oe, rfl, hr⟩
    · omega
    · obtain ⟨p0, hp0, hp1⟩ := who_nat hv (i := k) (by omega)
      refine ⟨be, oe, rfl, p0, hp0, by omega, fun w1 hb => ?_⟩
      obtain ⟨ev, he, _, _, _, hd2, _⟩ := (hr.below hr.1 hb).at (k := k) (by omega)
      rw [hd2, ← whoAt_eq he, hp0]
  clear h hz hv hq hcc hc
  go_enter Try.func10, Try.ntmps10
  go_wp2_with (go_at_call 16; refine (HS.out).mono ?_; rintro e w1 ⟨⟨O, R, rfl, hO⟩, hB1⟩)
  have hr0 := rowI_made w1 (base := w1.heap.size) (Nat.le_refl _) (show n2 ≤ 100 by omega)
  have HO := hidMk hO
  have HB1 := hidMk hB1
  clear hO hB1
  go_loopw [28] (fun i wr => ∃ k : Nat, k ≤ len ∧ i = .int .i64 (k : Int) ∧ RowI wr w1.heap.size w1.heap.size n2 (fun p => mx es (inC es (atN zs)) p k) ∧ Hid (Below w1.heap.size w1 wr)) (fun i _ => len - (intOf i).toNat)
  case atStart => exact ⟨0, Nat.zero_le _, rfl, hr0, (Below.refl _ _).alloc (Nat.le_refl _) _⟩
  case round =>
    clear hr0 hmi
    obtain ⟨k, hk, rfl, hrow, HB⟩ := hrel
    by_cases hlt : k < len
    · have hlt' : (k : Int) < (len : Int) := by omega
      have hR2 := rows2_below HO.out HB.out
      have hci := rows2_out hR2 hlt
      obtain ⟨be, oe, rfl, p0, hp0, hp0n, hcw⟩ := HE.out k hlt
      have hcw := hcw wr (below_from HB1.out HB.out)
      have hp0' : (p0 : Int) < (n2 : Int) := by omega
      have hcp := rows2_in hR2 hlt hp0n
      have hcc2 := cut_cell HCC.out (HQ.out.below HQ.out.1 (below_from HB1.out HB.out)) hp0n
      have hin : inC es (atN zs) k = decide (vc es p0 k ≤ atN zs p0) := by
        rw [Bool.eq_iff_iff, inC_iff hp0, decide_eq_true_iff, vc_own HV.out p0 (k + 1) k (by omega) (by rw [HL.out]; exact hlt) hp0]
        omega
      cases hi : inC es (atN zs) k with
      | true =>
        have hle : ((vc es p0 k : Nat) : Int) ≤ ((atN zs p0 : Nat) : Int) := by rw [hi] at hin; have := of_decide_eq_true hin.symm; omega
        have HRA : Hid (∀ q, Calls Try.prog 18 #[.slice (some ⟨w1.heap.size, 0, none⟩) n2 n2, .slice (some ⟨R k, 0, none⟩) n2 n2] (wr.drewN q) fun e w2 => (∃ v, e = .returned v) ∧ RowI w2 w1.heap.size w1.heap.size n2 (fun p => mx es (inC es (atN zs)) p (k + 1)) ∧ (wr.drewN q).grownBy w2 (some w1.heap.size)) := fun q =>
          (craise_any w1.heap.size (R k) n2 w1.heap.size w.heap.size _ _ (wr.drewN q) hn6 (by have := (World.ownsRow.lt (HO.out.2 k hlt) (R k) rfl).2; omega) (owns_below hrow (drew_below wr q)) ((rows2_below hR2 (drew_below wr q)).2 k hlt)).mono fun e w2 ⟨h1, h2, h3⟩ => ⟨h1, rowI_same h2 fun p _ => (mx_yes hi).symm, h3⟩
        clear hrow hR2 hi hin hp0
        go_wp2
        go_quiet (fail)
        go_wp2_with (go_at_call 18; refine (HRA.out _).mono ?_; rintro e w2 ⟨⟨v, rfl⟩, hrow2, hg2⟩)
        have HB2 : Hid (Below w1.heap.size w1 w2) := (below_from HB.out (drew_below wr nq)).grown hg2 HB.out.size (fun k e => by cases e; exact Nat.le_refl _)
        clear hg2
        go_roundw
        case rel => exact ⟨k + 1, by omega, by go_num, hrow2, HB2⟩
        case measure => simp [intOf]; omega
      | false =>
        have hle : ((atN zs p0 : Nat) : Int) < ((vc es p0 k : Nat) : Int) := by rw [hi] at hin; have := of_decide_eq_false hin.symm; omega
        have HRW := hidMk (rowI_same hrow fun p _ => (mx_no hi).symm)
        clear hrow hR2 hi hin hp0
        go_wp2
        go_quiet (fail)
        go_wp2
        go_roundw
        case rel => exact ⟨k + 1, by omega, by go_num, owns_below HRW.out (drew_below wr nq), below_from HB.out (drew_below wr nq)⟩
        case measure => simp [intOf]; omega
    · obtain rfl : k = len := by omega
      have HRW : Hid (RowI wr w1.heap.size w1.heap.size n2 (grown es (atN zs))) := rowI_same hrow fun p _ => by rw [← HL.out]; exact mx_grown HV.out _ p
      clear hrow
      go_wp2
      go_ret2
      exact ⟨⟨_, rfl, owns_le HRW.out HB1.out.size⟩, below_from HB1.out HB.out⟩

set_option maxHeartbeats 1000000 in
theorem shrink_err (N : Int) (a : Option Addr) (len cap : Nat) (es : List Ev) (w : World) (h : CameEv w a len cap es) (a2 : Option Addr) (n2 c2 : Nat) (zs : List Int) (hc : CameI w a2 n2 c2 zs) (hE : wholeE N es zs ≠ 0) :
    Calls Try.prog 8 #[.int .i64 N, .slice a len cap, .slice a2 n2 c2] w fun e W2 => e = .returned (.tuple #[.slice none 0 0, .int .i64 (wholeE N es zs)]) ∧ Below w.heap.size w W2 := by
  have HS := hidMk (ccheck_err N a len cap es w h a2 n2 c2 zs hc hE)
  have hne : (wholeE N es zs != 0) = true := by simpa using hE
  clear h hc hE
  generalize wholeE N es zs = c at HS hne
  go_enter Try.func8, Try.ntmps8
  go_wp2_with (go_at_call 16; refine (HS.out).mono ?_; rintro e w1 ⟨rfl, hB1⟩)
  go_ret2
  exact ⟨rfl, hB1⟩

set_option maxHeartbeats 4000000 in
theorem shrink_ok (n : Nat) (a : Option Addr) (len cap : Nat) (es : List Ev) (w : World) (h : CameEv w a len cap es) (a2 : Option Addr) (n2 c2 : Nat) (zs : List Int) (hc : CameI w a2 n2 c2 zs) (hz : evsCode (n : Int) es = 0) (hcc : cutCode (n : Int) es zs = 0) :
    Calls Try.prog 8 #[.int .i64 (n : Int), .slice a len cap, .slice a2 n2 c2] w fun e W2 => (∃ g, e = .returned (.tuple #[.slice (some ⟨g, 0, none⟩) n n, .int .i64 0]) ∧ RowI W2 w.heap.size g n (shrunk es (atN zs))) ∧ Below w.heap.size w W2 := by
  have HS := hidMk (ccheck_ok n a len cap es w h a2 n2 c2 zs hc hz hcc)
  have hv := valid_of hz
  obtain ⟨rfl, b, off, rfl, hq⟩ := cut_row_of hv hc hcc
  have hmx' : (len : Int) ≤ 60 := by have := hv.2.2.1; have := h.1; omega
  have hn6 : n2 ≤ 6 := by have := hv.2.1; omega
  have hn6' : (n2 : Int) ≤ 6 := by omega
  have hmi := make_ints n2 (by omega)
  have HV := hidMk hv
  have HQ := hidMk hq
  have HCC := hidMk hcc
  have HL := hidMk h.1
  clear h hz hv hq hcc hc
  go_enter Try.func8, Try.ntmps8
  go_wp2_with (go_at_call 16; refine (HS.out).mono ?_; rintro e w1 ⟨⟨O, R, rfl, hO⟩, hB1⟩)
  have hr0 := rowI_made w1 (base := w1.heap.size) (Nat.le_refl _) (show n2 ≤ 100 by omega)
  have HO := hidMk hO
  have HB1 := hidMk hB1
  clear hO hB1
  go_loopw [27] (fun i wr => ∃ k : Nat, k ≤ len ∧ i = .int .i64 (k : Int) ∧ RowI wr w1.heap.size w1.heap.size n2 (fun p => mx es (sP es (atN zs)) p k) ∧ Hid (Below w1.heap.size w1 wr)) (fun i _ => len - (intOf i).toNat)
  case atStart => exact ⟨0, Nat.zero_le _, rfl, hr0, (Below.refl _ _).alloc (Nat.le_refl _) _⟩
  case round =>
    clear hr0 hmi
    obtain ⟨k, hk, rfl, hrow, HB⟩ := hrel
    by_cases hlt : k < len
    · have hlt' : (k : Int) < (len : Int) := by omega
      have hR2 := rows2_below HO.out HB.out
      have hci := rows2_out hR2 hlt
      have hsp : leZ n2 (fun p => ((vc es p k : Nat) : Int)) (fun p => ((atN zs p : Nat) : Int)) = sP es (atN zs) k := by
        rw [Bool.eq_iff_iff, leZ_iff, sP_by HV.out rfl _ (by rw [HL.out]; exact hlt)]
        exact ⟨fun h p hp => by have := h p hp; omega, fun h p hp => by have := h p hp; omega⟩
      have HLI : Hid (Calls Try.prog 17 #[.slice (some ⟨R k, 0, none⟩) n2 n2, .slice (some ⟨b, off, none⟩) n2 c2] wr fun e w2 => e = .returned (.bool (sP es (atN zs) k)) ∧ ∃ m, w2 = wr.drewN m) := by
        have := liesIn_any (R k) 0 b off n2 n2 c2 (fun p => ((vc es p k : Nat) : Int)) (fun p => ((atN zs p : Nat) : Int)) wr (fun p hp => by rw [Nat.zero_add]; exact rows2_in hR2 hlt hp) (fun p hp => cut_cell HCC.out (HQ.out.below HQ.out.1 (below_from HB1.out HB.out)) hp) (by omega)
        rwa [hsp] at this
      cases hi : sP es (atN zs) k with
      | true =>
        rw [hi] at HLI
        have HRA : Hid (∀ q, Calls Try.prog 18 #[.slice (some ⟨w1.heap.size, 0, none⟩) n2 n2, .slice (some ⟨R k, 0, none⟩) n2 n2] (wr.drewN q) fun e w2 => (∃ v, e = .returned v) ∧ RowI w2 w1.heap.size w1.heap.size n2 (fun p => mx es (sP es (atN zs)) p (k + 1)) ∧ (wr.drewN q).grownBy w2 (some w1.heap.size)) := fun q =>
          (craise_any w1.heap.size (R k) n2 w1.heap.size w.heap.size _ _ (wr.drewN q) hn6 (by have := (World.ownsRow.lt (HO.out.2 k hlt) (R k) rfl).2; omega) (owns_below hrow (drew_below wr q)) ((rows2_below hR2 (drew_below wr q)).2 k hlt)).mono fun e w2 ⟨h1, h2, h3⟩ => ⟨h1, rowI_same h2 fun p _ => (mx_yes hi).symm, h3⟩
        clear hrow hR2 hi hsp
        go_wp2_with (first | (go_at_call 18; refine (HRA.out m).mono ?_; rintro e w2 ⟨⟨v, rfl⟩, hrow2, hg2⟩) | (go_at_call 17; refine (HLI.out).mono ?_; rintro e w3 ⟨rfl, m, hw3⟩))
        have HB2 : Hid (Below w1.heap.size w1 w2) := (below_from HB.out (drew_below wr m)).grown hg2 HB.out.size (fun k e => by cases e; exact Nat.le_refl _)
        clear hg2
        go_roundw
        case rel => exact ⟨k + 1, by omega, by go_num, hrow2, HB2⟩
        case measure => simp [intOf]; omega
      | false =>
        rw [hi] at HLI
        have HRW := hidMk (rowI_same hrow fun p _ => (mx_no hi).symm)
        clear hrow hR2 hi hsp
        go_wp2_with (go_at_call 17; refine (HLI.out).mono ?_; rintro e w3 ⟨rfl, m, hw3⟩)
        go_roundw
        case rel => exact ⟨k + 1, by omega, by go_num, owns_below HRW.out (drew_below wr m), below_from HB.out (drew_below wr m)⟩
        case measure => simp [intOf]; omega
    · obtain rfl : k = len := by omega
      have HRW : Hid (RowI wr w1.heap.size w1.heap.size n2 (shrunk es (atN zs))) := rowI_same hrow fun p _ => by rw [← HL.out]; exact mx_shrunk HV.out _ p
      clear hrow
      go_wp2
      go_ret2
      exact ⟨⟨_, rfl, owns_le HRW.out HB1.out.size⟩, below_from HB1.out HB.out⟩

/-- A row that a call made, as numbers that came in. -/
theorem came_row {w : World} {base g n : Nat} {f : Nat → Nat} (h : RowI w base g n f) (hn : n ≤ 6) (hf : ∀ p, p < n → f p ≤ 100) : CameI w (some ⟨g, 0, none⟩) n n (rowI n f) := by
  refine ⟨rowI_len n f, Nat.le_refl _, by unfold maxLen; omega, .inr ⟨g, 0, rfl, (World.ownsRow.lt h g rfl).2, fun z hz => ?_, fun j z hz => ?_⟩⟩
  · obtain ⟨j, hj⟩ := List.mem_iff_getElem?.1 hz
    have hjn : j < n := by have := (List.getElem?_eq_some_iff.1 hj).1; rwa [rowI_len] at this
    rw [rowI_at hjn] at hj
    have := hf j hjn
    cases hj
    unfold I64; omega
  · have hjn : j < n := by have := (List.getElem?_eq_some_iff.1 hz).1; rwa [rowI_len] at this
    rw [rowI_at hjn] at hz
    cases hz
    rw [Nat.zero_add]
    exact rowI_cell h hjn
theorem pc_bound (es : List Ev) (p : Nat) : ∀ m, pc es p m ≤ m
  | 0 => Nat.le_refl _
  | m + 1 => by
    have := pc_bound es p m
    simp only [pc]
    split <;> omega
theorem grown_100 {es : List Ev} {N : Int} (hv : Valid N es) (c : Nat → Nat) (p : Nat) : grown es c p ≤ 100 := by
  have h1 := grown_cut (es := es) c p
  have h2 := pc_bound es p es.length
  have := hv.2.2.1
  omega
theorem shrunk_100 {es : List Ev} {N : Int} (hv : Valid N es) (c : Nat → Nat) (p : Nat) : shrunk es c p ≤ 100 := by
  have h1 := shrunk_cut (es := es) c p
  have h2 := pc_bound es p es.length
  have := hv.2.2.1
  omega

set_option maxHeartbeats 2000000 in
theorem whole_ok (n : Nat) (a : Option Addr) (len cap : Nat) (es : List Ev) (w : World) (h : CameEv w a len cap es) (a2 : Option Addr) (n2 c2 : Nat) (zs : List Int) (hc : CameI w a2 n2 c2 zs) (hz : evsCode (n : Int) es = 0) (hcc : cutCode (n : Int) es zs = 0) :
    Calls Try.prog 7 #[.int .i64 (n : Int), .slice a len cap, .slice a2 n2 c2] w fun e W2 => e = .returned (.tuple #[.bool (wholeB es (atN zs)), .int .i64 0]) ∧ Below w.heap.size w W2 := by
  have HS := hidMk (grow_ok n a len cap es w h a2 n2 c2 zs hc hz hcc)
  have hv := valid_of hz
  have hn6 : n ≤ 6 := by have := hv.2.1; omega
  have HQ : Hid (∀ w1 g, Below w.heap.size w w1 → RowI w1 w.heap.size g n (grown es (atN zs)) → Calls Try.prog 15 #[.slice (some ⟨g, 0, none⟩) n n, .slice a2 n2 c2] w1 fun e w2 => e = .returned (.bool (wholeB es (atN zs))) ∧ ∃ m, w2 = w1.drewN m) := fun w1 g hb hr => by
    have := equal_ints (some ⟨g, 0, none⟩) a2 n n2 n c2 (rowI n (grown es (atN zs))) zs w1 (came_row hr hn6 fun p _ => grown_100 hv _ p) (hc.below hb) (by omega)
    rwa [whole_by hv hcc] at this
  generalize wholeB es (atN zs) = bw at HQ ⊢
  clear h hc hz hcc hv
  go_enter Try.func7, Try.ntmps7
  go_wp2_with (first | (go_at_call 15; refine (HQ.out _ g hB1 hr).mono ?_; rintro e w2 ⟨rfl, m, hw2⟩) | (go_at_call 10; refine (HS.out).mono ?_; rintro e w1 ⟨⟨g, rfl, hr⟩, hB1⟩))
  go_ret2
  exact ⟨rfl, below_from hB1 (drew_below _ m)⟩

set_option maxHeartbeats 1000000 in
theorem whole_err (N : Int) (a : Option Addr) (len cap : Nat) (es : List Ev) (w : World) (h : CameEv w a len cap es) (a2 : Option Addr) (n2 c2 : Nat) (zs : List Int) (hc : CameI w a2 n2 c2 zs) (hE : wholeE N es zs ≠ 0) :
    Calls Try.prog 7 #[.int .i64 N, .slice a len cap, .slice a2 n2 c2] w fun e W2 => e = .returned (.tuple #[.bool false, .int .i64 (wholeE N es zs)]) ∧ Below w.heap.size w W2 := by
  have HS := hidMk (grow_err N a len cap es w h a2 n2 c2 zs hc hE)
  have hne : (wholeE N es zs == 0) = false := by simpa using hE
  clear h hc hE
  generalize wholeE N es zs = c at HS hne
  go_enter Try.func7, Try.ntmps7
  go_wp2_with (go_at_call 10; refine (HS.out).mono ?_; rintro e w1 ⟨rfl, hB1⟩)
  go_ret2
  exact ⟨rfl, hB1⟩
theorem whole_any (N : Int) (a : Option Addr) (len cap : Nat) (es : List Ev) (w : World) (h : CameEv w a len cap es) (a2 : Option Addr) (n2 c2 : Nat) (zs : List Int) (hc : CameI w a2 n2 c2 zs) :
    Calls Try.prog 7 #[.int .i64 N, .slice a len cap, .slice a2 n2 c2] w fun e W2 => e = .returned (.tuple #[.bool (wholeA N es zs), .int .i64 (wholeE N es zs)]) ∧ Below w.heap.size w W2 := by
  unfold wholeA
  by_cases hE : wholeE N es zs ≠ 0
  · rw [if_pos hE]
    exact whole_err N a len cap es w h a2 n2 c2 zs hc hE
  · rw [if_neg hE]
    have hE0 : wholeE N es zs = 0 := Classical.not_not.1 hE
    obtain ⟨h1, h2⟩ := wholeE_zero.1 hE0
    have hv := valid_of h1
    obtain ⟨n, rfl⟩ : ∃ n : Nat, N = n := ⟨N.toNat, by have := hv.1; omega⟩
    rw [hE0]
    exact whole_ok n a len cap es w h a2 n2 c2 zs hc h1 h2
end Go.Proofs.Ytjglbjiekndpeab
