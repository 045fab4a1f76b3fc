/- Contracts of cuts.check, Grow, Shrink, Whole. -/
import Derived.Test.YtjglbjiekndpeabN2
namespace Go.Proofs.Ytjglbjiekndpeab
open Go.RowKit Go.Shelf
set_option linter.unusedVariables false

theorem cut_low {n : Nat} {es : List Ev} {zs : List Int} (hl : zs.length = n) (hn : 1 ≤ n) (h : lowTo (fun p => zs.getD p 0) (n - 1) < 0) : cutCode (n : Int) es zs = 2 := by
  obtain ⟨p, hp, h2⟩ := lowTo_neg.1 h
  refine cutCode_bad (p := p) (by omega) (by omega) ?_
  unfold badAt
  simp only [Bool.or_eq_true, decide_eq_true_eq]
  exact .inl h2
theorem cut_high {n : Nat} {es : List Ev} {zs : List Int} (hl : zs.length = n) (h : leZ n (fun p => zs.getD p 0) (fun p => ((pc es p es.length : Nat) : Int)) = false) : cutCode (n : Int) es zs = 2 := by
  rcases cutCode_two (n : Int) es zs with h0 | h0
  · obtain ⟨_, h2⟩ := cut_of h0
    have : leZ n (fun p => zs.getD p 0) (fun p => ((pc es p es.length : Nat) : Int)) = true := leZ_iff.2 fun p hp => by
      obtain ⟨h3, h4⟩ := h2 p (by omega)
      rw [List.getD_eq_getElem?_getD, h3, Option.getD_some]
      omega
    rw [this] at h; cases h
  · exact h0
theorem cut_good {n : Nat} {es : List Ev} {zs : List Int} (hl : zs.length = n) (h1 : ¬ lowTo (fun p => zs.getD p 0) (n - 1) < 0) (h : leZ n (fun p => zs.getD p 0) (fun p => ((pc es p es.length : Nat) : Int)) = true) : cutCode (n : Int) es zs = 0 := by
  refine cutCode_ok (by omega) fun p hp => ?_
  have h2 := leZ_iff.1 h p (by omega)
  have h3 : ¬ zs.getD p 0 < 0 := fun hx => h1 (lowTo_neg.2 ⟨p, by omega, hx⟩)
  unfold badAt
  simp only [Bool.or_eq_false_iff, decide_eq_false_iff_not]
  omega
theorem IRow.getD {w : World} {b off : Nat} {zs : List Int} (h : IRow w b off zs) {p : Nat} (hp : p < zs.length) : w.cell? ⟨b, off + p, none⟩ = some (.int .i64 (zs.getD p 0)) := by
  obtain ⟨z, hz, _, hc⟩ := h.at hp
  rw [List.getD_eq_getElem?_getD, hz]
  exact hc
theorem rowI_cell {w : World} {base g n : Nat} {f : Nat → Nat} (h : RowI w base g n f) {p : Nat} (hp : p < n) : w.cell? ⟨g, p, none⟩ = some (.int .i64 ((f p : Nat) : Int)) := by
  rw [World.ownsRow.cellAt h p (by omega), List.getElem?_map, rowN_at hp]; simp [encN]
theorem rowI_same {w : World} {base g n : Nat} {f f2 : Nat → Nat} (h : RowI w base g n f) (e : ∀ p, p < n → f p = f2 p) : RowI w base g n f2 := by
  unfold RowI at h ⊢
  rw [← rowN_congr e]; exact h
theorem rowI_made (w : World) {base n : Nat} (hb : base ≤ w.heap.size) (hn : n ≤ 100) : RowI (w.alloc (.cells (madeCells #[.int .i64 0] n) 3)) base w.heap.size n (fun _ => 0) := by
  have h0 := World.ownsRow_lit (e := 3) (size := 1) (base := base) w (madeCells #[.int .i64 0] n) n hb (by unfold maxLen; omega) (by rw [size_madeCells]; omega)
  rw [made_zero] at h0
  exact h0

set_option maxHeartbeats 4000000 in
theorem ccheck_main (n : Nat) (a : Option Addr) (len cap : Nat) (es : List Ev) (w : World) (h : CameEv w a len cap es) (hz : evsCode (n : Int) es = 0) (b off c2 : Nat) (zs : List Int) (hl : zs.length = n) (hq : IRow w b off zs) :
    Calls Try.prog 16 #[.int .i64 (n : Int), .slice a len cap, .slice (some ⟨b, off, none⟩) n c2] w fun e W2 =>
      ((cutCode (n : Int) es zs = 2 ∧ e = .returned (.tuple #[.slice none 0 0, .int .i64 2])) ∨ (cutCode (n : Int) es zs = 0 ∧ ∃ O R, e = .returned (.tuple #[.slice (some ⟨O, 0, none⟩) len len, .int .i64 0]) ∧ Rows2 es w.heap.size len n W2 O R)) ∧ Below w.heap.size w W2 := by
  have HS := hidMk (Vectors_ok n a len cap es w h hz)
  have hv := valid_of hz
  have hel : es.length = len := h.1
  have hmx' : (len : Int) ≤ 60 := by have := hv.2.2.1; omega
  have hn6 : n ≤ 6 := by have := hv.2.1; omega
  have hn1 : 1 ≤ n := by have := hv.1; omega
  have hn6' : (n : Int) ≤ 6 := by omega
  have hmi := make_ints n (by omega)
  have hne : ((n : Int) != (n : Int)) = false := by simp
  have HV := hidMk hv
  have HL := hidMk hl
  have HQ := hidMk hq
  have HEL := hidMk hel
  clear h hz hv hl hq hel
  go_enter Try.func16, Try.ntmps16
  go_wp2_with (go_at_call 19; refine (HS.out).mono ?_; rintro e w1 ⟨⟨O, R, rfl, hO⟩, hB1⟩)
  have hr0 := rowI_made w1 (base := w1.heap.size) (Nat.le_refl _) (show n ≤ 100 by omega)
  have HO := hidMk hO
  have HB1 := hidMk hB1
  clear hO hB1
  go_loopw [30] (fun i wr => ∃ k : Nat, k ≤ len ∧ i = .int .i64 (k : Int) ∧ RowI wr w1.heap.size w1.heap.size n (fun p => mx es (fun _ => true) p k) ∧ Hid (Below w1.heap.size w1 wr)) (fun i _ => len - (intOf i).toNat)
  case atStart => exact ⟨0, Nat.zero_le _, rfl, hr0, (Below.refl _ _).alloc (Nat.le_refl _) _⟩
  case round =>
    clear hr0 hmi
    obtain ⟨k, hk, rfl, hrow, HB⟩ := hrel
    by_cases hlt : k < len
    · have hlt' : (k : Int) < (len : Int) := by omega
      have hci := rows2_out (rows2_below HO.out HB.out) hlt
      have HRA : Hid (Calls Try.prog 18 #[.slice (some ⟨w1.heap.size, 0, none⟩) n n, .slice (some ⟨R k, 0, none⟩) n n] wr fun e w2 => (∃ v, e = .returned v) ∧ RowI w2 w1.heap.size w1.heap.size n (fun p => mx es (fun _ => true) p (k + 1)) ∧ wr.grownBy w2 (some w1.heap.size)) :=
        (craise_any w1.heap.size (R k) n w1.heap.size w.heap.size _ _ wr hn6 (by have := (World.ownsRow.lt (HO.out.2 k hlt) (R k) rfl).2; omega) hrow ((rows2_below HO.out HB.out).2 k hlt)).mono fun e w2 ⟨h1, h2, h3⟩ => ⟨h1, rowI_same h2 fun p _ => (mx_yes rfl).symm, h3⟩
      clear hrow
      go_wp2_with (go_at_call 18; refine (HRA.out).mono ?_; rintro e w2 ⟨⟨v, rfl⟩, hrow2, hg2⟩)
      have HB2 : Hid (Below w1.heap.size w1 w2) := HB.out.grown hg2 HB.out.size (fun k e => by cases e; exact Nat.le_refl _)
      clear hg2
      go_roundw
      case rel => exact ⟨k + 1, by omega, by go_num, hrow2, HB2⟩
      case measure => simp [intOf]; omega
    · obtain rfl : k = len := by omega
      have hB3 := below_from HB1.out HB.out
      have HBB := hidMk hB3
      have hq2 := HQ.out.below HQ.out.1 hB3
      have HMI : Hid (Calls Try.prog 20 #[.slice (some ⟨b, off, none⟩) n c2] wr fun e w2 => e = .returned (.int .i64 (lowTo (fun p => zs.getD p 0) (n - 1))) ∧ w2 = wr) :=
        min_any b off n c2 (fun p => zs.getD p 0) wr (fun p hp => hq2.getD (by rw [HL.out]; exact hp)) (by omega) hn1
      have HLI : Hid (Calls Try.prog 17 #[.slice (some ⟨b, off, none⟩) n c2, .slice (some ⟨w1.heap.size, 0, none⟩) n n] wr fun e w2 => e = .returned (.bool (leZ n (fun p => zs.getD p 0) (fun p => ((pc es p es.length : Nat) : Int)))) ∧ ∃ m, w2 = wr.drewN m) :=
        liesIn_any b off w1.heap.size 0 n c2 n (fun p => zs.getD p 0) (fun p => ((pc es p es.length : Nat) : Int)) wr (fun p hp => hq2.getD (by rw [HL.out]; exact hp)) (fun p hp => by
          have := rowI_cell hrow hp
          rw [mx_all HV.out p (by rw [HEL.out]; exact Nat.le_refl _), ← HEL.out] at this
          rw [Nat.zero_add]; exact this) (by omega)
      have hO3 := hidMk (rows2_below HO.out HB.out)
      clear hB3 hq2 hrow
      by_cases hlow : lowTo (fun p => zs.getD p 0) (n - 1) < 0
      · have HCC := hidMk (cut_low (es := es) HL.out hn1 hlow)
        generalize lowTo (fun p => zs.getD p 0) (n - 1) = lo at HMI hlow
        go_wp2_with (go_at_call 20; refine (HMI.out).mono ?_; rintro e w2 ⟨rfl, hw2⟩; obtain rfl := hw2.symm)
        go_ret2
        exact ⟨.inl ⟨HCC.out, rfl⟩, HBB.out⟩
      · cases hle : leZ n (fun p => zs.getD p 0) (fun p => ((pc es p es.length : Nat) : Int)) with
        | false =>
          rw [hle] at HLI
          have HCC := hidMk (cut_high HL.out hle)
          have hlow' : 0 ≤ lowTo (fun p => zs.getD p 0) (n - 1) := by omega
          clear hle hlow
          generalize lowTo (fun p => zs.getD p 0) (n - 1) = lo at HMI hlow'
          go_wp2_with (first | (go_at_call 20; refine (HMI.out).mono ?_; rintro e w2 ⟨rfl, hw2⟩; obtain rfl := hw2.symm) | (go_at_call 17; refine (HLI.out).mono ?_; rintro e w3 ⟨rfl, m, hw3⟩))
          go_ret2
          exact ⟨.inl ⟨HCC.out, rfl⟩, below_from HBB.out (drew_below _ m)⟩
        | true =>
          rw [hle] at HLI
          have HCC := hidMk (cut_good HL.out hlow hle)
          have hlow' : 0 ≤ lowTo (fun p => zs.getD p 0) (n - 1) := by omega
          clear hle hlow
          generalize lowTo (fun p => zs.getD p 0) (n - 1) = lo at HMI hlow'
          go_wp2_with (first | (go_at_call 20; refine (HMI.out).mono ?_; rintro e w2 ⟨rfl, hw2⟩; obtain rfl := hw2.symm) | (go_at_call 17; refine (HLI.out).mono ?_; rintro e w3 ⟨rfl, m, hw3⟩))
          go_ret2
          exact ⟨.inr ⟨HCC.out, O, R, rfl, rows2_below hO3.out (drew_below _ m)⟩, below_from HBB.out (drew_below _ m)⟩

set_option maxHeartbeats 1000000 in
theorem ccheck_evs (N : Int) (a : Option Addr) (len cap : Nat) (es : List Ev) (w : World) (h : CameEv w a len cap es) (hz : evsCode N es ≠ 0) (a2 : Option Addr) (n2 c2 : Nat) :
    Calls Try.prog 16 #[.int .i64 N, .slice a len cap, .slice a2 n2 c2] w fun e W2 => e = .returned (.tuple #[.slice none 0 0, .int .i64 (evsCode N es)]) ∧ Below w.heap.size w W2 := by
  have HS := hidMk (Vectors_err N a len cap es w h hz)
  have hne : (evsCode N es != 0) = true := by simpa using hz
  clear h hz
  generalize evsCode N es = c at HS hne
  go_enter Try.func16, Try.ntmps16
  go_wp2_with (go_at_call 19; refine (HS.out).mono ?_; rintro e w1 ⟨rfl, hB1⟩)
  go_ret2
  exact ⟨rfl, hB1⟩
set_option maxHeartbeats 1000000 in
theorem ccheck_len (n : Nat) (a : Option Addr) (len cap : Nat) (es : List Ev) (w : World) (h : CameEv w a len cap es) (hz : evsCode (n : Int) es = 0) (a2 : Option Addr) (n2 c2 : Nat) (hn2 : n2 ≤ 9223372036854775807) (hl : n2 ≠ n) :
    Calls Try.prog 16 #[.int .i64 (n : Int), .slice a len cap, .slice a2 n2 c2] w fun e W2 => e = .returned (.tuple #[.slice none 0 0, .int .i64 2]) ∧ Below w.heap.size w W2 := by
  have HS := hidMk (Vectors_ok n a len cap es w h hz)
  have hne : ((n2 : Int) != (n : Int)) = true := by simp; omega
  have hn2' : (n2 : Int) ≤ 9223372036854775807 := by omega
  clear h hz hl hn2
  go_enter Try.func16, Try.ntmps16
  go_wp2_with (go_at_call 19; refine (HS.out).mono ?_; rintro e w1 ⟨⟨O, R, rfl, hO⟩, hB1⟩)
  go_ret2
  exact ⟨rfl, hB1⟩

theorem ccheck_err (N : Int) (a : Option Addr) (len cap : Nat) (es : List Ev) (w : World) (h : CameEv w a len cap es) (a2 : Option Addr) (n2 c2 : Nat) (zs : List Int) (hc : CameI w a2 n2 c2 zs) (hE : wholeE N es zs ≠ 0) :
    Calls Try.prog 16 #[.int .i64 N, .slice a len cap, .slice a2 n2 c2] w fun e W2 => e = .returned (.tuple #[.slice none 0 0, .int .i64 (wholeE N es zs)]) ∧ Below w.heap.size w W2 := by
  unfold wholeE at hE ⊢
  by_cases hz : evsCode N es ≠ 0
  · rw [if_pos hz]
    exact ccheck_evs N a len cap es w h hz a2 n2 c2
  · rw [if_neg hz] at hE ⊢
    have hz0 : evsCode N es = 0 := Classical.not_not.1 hz
    have hv := valid_of hz0
    obtain ⟨n, rfl⟩ : ∃ n : Nat, N = n := ⟨N.toNat, by have := hv.1; omega⟩
    by_cases hl : zs.length = n
    · obtain ⟨h1, h2, h3, h4⟩ := hc
      have hn2 : n2 = n := by omega
      subst hn2
      rcases h4 with h4 | ⟨b, off, rfl, hq⟩
      · have := hv.1; omega
      · refine (ccheck_main n2 a len cap es w h hz0 b off c2 zs hl hq).mono fun e W2 ⟨h5, h6⟩ => ⟨?_, h6⟩
        rcases h5 with ⟨h7, h8⟩ | ⟨h7, _⟩
        · rw [h7]; exact h8
        · exact absurd h7 hE
    · rw [cutCode_len (by omega)]
      refine ccheck_len n a len cap es w h hz0 a2 n2 c2 ?_ (by have := hc.1; omega)
      have := hc.2.2.1
      unfold maxLen at this
      omega
theorem ccheck_ok (n : Nat) (a : Option Addr) (len cap : Nat) (es : List Ev) (w : World) (h : CameEv w a len cap es) (a2 : Option Addr) (n2 c2 : Nat) (zs : List Int) (hc : CameI w a2 n2 c2 zs) (hz : evsCode (n : Int) es = 0) (hcc : cutCode (n : Int) es zs = 0) :
    Calls Try.prog 16 #[.int .i64 (n : Int), .slice a len cap, .slice a2 n2 c2] w fun e W2 => (∃ O R, e = .returned (.tuple #[.slice (some ⟨O, 0, none⟩) len len, .int .i64 0]) ∧ Rows2 es w.heap.size len n W2 O R) ∧ Below w.heap.size w W2 := by
  have hl : zs.length = n := by have := (cut_of hcc).1; omega
  have hv := valid_of hz
  obtain ⟨h1, h2, h3, h4⟩ := hc
  have hn2 : n2 = n := by omega
  subst hn2
  rcases h4 with h4 | ⟨b, off, rfl, hq⟩
  · have := hv.1; omega
  · refine (ccheck_main n2 a len cap es w h hz b off c2 zs hl hq).mono fun e W2 ⟨h5, h6⟩ => ⟨?_, h6⟩
    rcases h5 with ⟨h7, _⟩ | ⟨_, h8⟩
    · omega
    · exact h8
end Go.Proofs.Ytjglbjiekndpeab
