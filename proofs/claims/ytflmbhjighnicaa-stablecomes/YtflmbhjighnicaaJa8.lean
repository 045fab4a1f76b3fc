/- Machines in a ring: StableTurns, walked. -/
import Derived.Test.YtflmbhjighnicaaJa7
namespace Go.Proofs.Ytflmbhjighnicaa
open Go.RowKit
set_option linter.unusedVariables false

set_option maxRecDepth 100000 in
set_option maxHeartbeats 4000000 in
theorem sturns_bad {W : World} {a : Option Addr} {n c : Nat} {zs : List Int} {k : Int} (h : RowI W a n c zs) (hz : codeJ k zs ≠ 0) :
    Calls Try.prog 8 #[.int .i64 k, .slice a n c] W fun e W2 => e = .returned (.bool true) ∧ Below W.heap.size W W2 := by
  have HC := hidMk (free_bad h hz)
  have HR : Hid (∀ w1, Stil W w1 → Calls Try.prog 16 #[.int .i64 k, .slice a n c] w1 fun e w2 => e = .returned (.bool false) ∧ w2 = w1) := hidMk (fun w1 hs => by
    have := states_any (h.still hs) k
    rw [show (codeJ k zs == 0) = false by simpa using hz] at this
    exact this)
  generalize codeJ k zs = rc at *
  have q1 : (rc != 0) = true := by simpa using hz
  clear h hz
  go_enter Try.func8, Try.ntmps8
  go_wp2_with (first | (go_at_call 11; refine (HC.out).mono ?_; rintro e w1 ⟨rfl, hk1⟩) | (go_at_call 16; refine (HR.out _ hk1).mono ?_; rintro e w2 ⟨rfl, hw⟩; obtain rfl := hw.symm))
  go_ret
  exact ⟨rfl, Stil.below hk1⟩

def tnL (n i m : Nat) : List Nat := (List.range m).map (tnJ n i)
theorem tnL_succ (n i m : Nat) : natsL (tnL n i (m + 1)) = natsL (tnL n i m) ++ [.int .i64 ((tnJ n i m : Nat) : Int)] := by simp [tnL, natsL, List.range_succ]
theorem tnL_nat (n i m : Nat) : natsI (tnL n i m) = (List.range m).map fun t => ((tnJ n i t : Nat) : Int) := by simp [natsI, tnL]
theorem tnL_in {n i : Nat} (hi : i < n) (m : Nat) : ∀ x ∈ natsI (tnL n i m), 0 ≤ x ∧ x < (n : Int) := by
  intro x hx
  obtain ⟨y, hy, rfl⟩ := natsI_mem hx
  simp only [tnL, List.mem_map, List.mem_range] at hy
  obtain ⟨t, _, rfl⟩ := hy
  have := tn_lt hi t
  omega
theorem app_turn {w wr w9 : World} {v v9 : Value} {t i n : Nat} {y : Int} (hy : ((tnJ n i t : Nat) : Int) = y) {o : Obj} (HS : Stil w wr) (HG : Seg wr (fun g => w.heap.size ≤ g) 3 1 v t (natsL (tnL n i t)))
    (hs9 : Seg w9 (fun g => (v.ownBlock = some g ∧ w.heap.size ≤ g) ∨ g = wr.heap.size + 1) 3 1 v9 (t + 1) (natsL (tnL n i t) ++ [.int .i64 y])) (hg9 : (wr.alloc o).grownBy w9 v.ownBlock) :
    Seg w9 (fun g => w.heap.size ≤ g) 3 1 v9 (t + 1) (natsL (tnL n i (t + 1))) ∧ Stil w w9 ∧ Stil (wr.alloc o) (wr.alloc o) := by
  refine ⟨?_, ?_, Keep.refl _ _⟩
  · rw [tnL_succ, hy]
    refine hs9.mono (fun g _ h => ?_)
    rcases h with ⟨_, h⟩ | h
    · exact h
    · have h9 := HS.size; rw [h]; omega
  · exact (HS.alloc _).grown hg9 (fun g e hg => by
      have := (HG.block e).1
      omega)
/-- What an append to a slice of the call's own leaves of a row elsewhere. -/
theorem row_app {wr w9 : World} {o : Obj} {v : Value} {a : Option Addr} {n c : Nat} {xs : List Int} (h : RowI wr a n c xs) (hg9 : (wr.alloc o).grownBy w9 v.ownBlock) (hne : ∀ g, v.ownBlock = some g → ∀ x, a = some x → x.block ≠ g) : RowI w9 a n c xs := by
  obtain ⟨h1, h2, h3, h4⟩ := h
  refine ⟨h1, h2, h3, ?_⟩
  rcases h4 with h4 | ⟨b, off, e, hr, hc⟩
  · exact .inl h4
  · have hb : w9.heap[b]? = wr.heap[b]? := (hg9.block b (by simp; omega) (fun e2 => hne b e2.symm _ e rfl)).trans (al_old _ _ _ hr)
    exact .inr ⟨b, off, e, by have := hg9.size; simp at this; omega, fun j x hx => (World.cell?_of_block hb).trans (hc j x hx)⟩

set_option maxRecDepth 100000 in
set_option maxHeartbeats 4000000 in
theorem sturns_more {W : World} {a : Option Addr} {n c : Nat} {s : Nat → Int} {k : Int} (h : RowI W a n c (rwJ n s)) (h2 : 2 ≤ n) (h6 : n ≤ 6) (k2 : 2 ≤ k) (k3 : k ≤ 1000) (hv : OkJ k n s) (h1 : cnJ n s ≠ 1) :
    Calls Try.prog 8 #[.int .i64 k, .slice a n c] W fun e W2 => e = .returned (.bool true) ∧ Below W.heap.size W W2 := by
  have HC := hidMk (free_ok h h2 h6 k2 k3 hv)
  have HR : Hid (∀ w1, Stil W w1 → Calls Try.prog 16 #[.int .i64 k, .slice a n c] w1 fun e w2 => e = .returned (.bool true) ∧ w2 = w1) := hidMk (fun w1 hs => by
    have := states_any (h.still hs) k
    rw [codeJ_ok h2 h6 k2 k3 hv] at this
    exact this)
  have hlen := frL_le n s n
  have hpos := cn_pos h2 s
  rw [← frL_len] at hpos h1
  obtain ⟨L, hL⟩ : ∃ L, (frL n s n).length = L := ⟨_, rfl⟩
  rw [hL] at HC hlen hpos h1
  have g1 : ((L : Int) == 0) = false := by rw [beq_eq_false_iff_ne]; omega
  have g2 : (L == 0) = false := by rw [beq_eq_false_iff_ne]; omega
  have g3 : decide ((1 : Int) < (L : Int)) = true := decide_eq_true (by omega)
  have g4 : 1 < L := by omega
  clear h hv hL h1
  go_enter Try.func8, Try.ntmps8
  go_wp2_with (first | (go_at_call 11; refine (HC.out).mono ?_; rintro e w1 ⟨a2, c2, rfl, hr1, hk1⟩; have HR1 := hidMk hr1; clear hr1) | (go_at_call 16; refine (HR.out _ hk1).mono ?_; rintro e w2 ⟨rfl, hw⟩; obtain rfl := hw.symm))
  go_ret
  exact ⟨rfl, Stil.below hk1⟩

set_option maxRecDepth 100000 in
set_option maxHeartbeats 8000000 in
theorem sturns_one {W : World} {a : Option Addr} {n c : Nat} {s : Nat → Int} {k : Int} (h : RowI W a n c (rwJ n s)) (h2 : 2 ≤ n) (h6 : n ≤ 6) (k2 : 2 ≤ k) (k3 : k ≤ 1000) (hv : OkJ k n s) (h1 : cnJ n s = 1) {i : Nat} (hi : i < n) (hf : frJ n s i = true) :
    Calls Try.prog 8 #[.int .i64 k, .slice a n c] W fun e W2 => e = .returned (.bool true) ∧ Below W.heap.size W W2 := by
  have HC := hidMk (free_ok h h2 h6 k2 k3 hv)
  have HR : Hid (∀ w1, Stil W w1 → Calls Try.prog 16 #[.int .i64 k, .slice a n c] w1 fun e w2 => e = .returned (.bool true) ∧ w2 = w1) := hidMk (fun w1 hs => by
    have := states_any (h.still hs) k
    rw [codeJ_ok h2 h6 k2 k3 hv] at this
    exact this)
  have hL1 : (frL n s n).length = 1 := by rw [frL_len]; exact h1
  rw [hL1] at HC
  have HSe := hidMk (se_ok hv h2 k2 h1 hi hf)
  have HW := hidMk h
  have hn6 : (n : Int) ≤ 6 := by omega
  obtain ⟨i0, hit, hz0, hz1, hz2⟩ := info_parts cInfoInt
  have HND := hidMk (tn_nodup hi)
  have HIN := hidMk (tnL_in hi)
  clear h hv hL1 h1 hf
  go_enter Try.func8, Try.ntmps8
  go_wp2_with (first | (go_at_call 11; refine (HC.out).mono ?_; rintro e w1 ⟨a2, c2, rfl, hr1, hk1⟩; have HR1 := hidMk hr1; clear hr1) | (go_at_call 16; refine (HR.out _ hk1).mono ?_; rintro e w2 ⟨rfl, hw⟩; obtain rfl := hw.symm))
  have HK := hidMk hk1
  clear hk1 HC HR HR1
  go_loopw [7, 8, 9] (fun v x u wr => ∃ (t : Nat) (sa : Option Addr) (sc : Nat) (aa : Option Addr) (ac : Nat), t ≤ n ∧ u = .int .i64 (t : Int) ∧ v = .slice sa t sc ∧ x = .slice aa n ac ∧ Hid (Seg wr (fun g => w1.heap.size ≤ g) 3 1 (.slice sa t sc) t (natsL (tnL n i t))) ∧ Hid (Stil w1 wr) ∧ Hid (RowI wr aa n ac (rwJ n (seJ k n s i t))) ∧ Hid (∀ g, (Value.slice sa t sc).ownBlock = some g → ∀ y, aa = some y → y.block ≠ g)) (fun _ _ u _ => n - (intOf u).toNat)
  case atStart => exact ⟨0, none, 0, a, c, Nat.zero_le _, rfl, rfl, rfl, Seg.nil _ _ _ _, Keep.refl _ _, HW.out.still HK.out, hidMk (fun g e => by simp [Value.ownBlock] at e)⟩
  case round =>
    obtain ⟨t, sa, scp, aa, ac, ht, rfl, rfl, rfl, HG, HS, HRo, HNe⟩ := hrel
    by_cases hlt : t < n
    · have hlt' : (t : Int) < (n : Int) := by omega
      obtain ⟨v1, v2, v3⟩ := HSe.out t
      have HV1 := hidMk v1
      have HE2 : Hid (seJ k n s i (t + 1) = mvJ k (seJ k n s i t) (tnJ n i t)) := rfl
      have hfl := fr_one v2 (tn_lt hi t) v3
      have htl := tn_lt hi t
      generalize hse : seJ k n s i t = s1 at *
      generalize htn : tnJ n i t = i1 at *
      have hF := free_okf HRo.out h2 h6 k2 k3 HV1.out
      rw [hfl] at hF
      have HF := hidMk hF
      have HV3 := hidMk v3
      have HTN := hidMk htn
      clear hF hfl hse v1 v2 v3 htn
      go_wp2_with (fail)
      go_at_call 11
      refine (HF.out).mono ?_
      rintro e w3 ⟨a3, c3, rfl, hr3, hk3, hfr3⟩
      obtain ⟨b3, o3, rfl⟩ : ∃ b3 o3, a3 = some ⟨b3, o3, none⟩ := by
        obtain ⟨y1, y2, y3, y4⟩ := hr3
        rcases y4 with y4 | ⟨b3, o3, e3, _⟩
        · simp at y4
        · exact ⟨b3, o3, e3⟩
      have hfr := hfr3 _ rfl
      have HRF : Hid (RowI w3 (some ⟨b3, o3, none⟩) 1 c3 [(i1 : Int)]) := by
        have : natsI [i1] = [(i1 : Int)] := rfl
        rw [this] at hr3
        exact hr3
      have d3 : w3.cell? ⟨b3, o3, none⟩ = some (.int .i64 (i1 : Int)) := by
        obtain ⟨_, _, _, y4⟩ := HRF.out
        rcases y4 with y4 | ⟨b4, o4, e4, _, hc4⟩
        · simp at y4
        · cases e4
          have := hc4 0 (i1 : Int) rfl
          rw [Nat.add_zero] at this
          exact this
      have y2' : (1 : Int) ≤ (c3 : Int) := by have := hr3.2.1; simp at this; omega
      have HK3 := hidMk hk3
      have hG3 : Hid (Seg w3 (fun g => w1.heap.size ≤ g) 3 1 (.slice sa t scp) t (natsL (tnL n i t))) := HG.out.keep hk3 (fun _ _ _ e => e)
      have hRo3 : Hid (RowI w3 aa n ac (rwJ n s1)) := HRo.out.still hk3
      have HFr : Hid (∀ g, (Value.slice sa t scp).ownBlock = some g → ∀ y, some (⟨b3, o3, none⟩ : Addr) = some y → y.block ≠ g) := hidMk (fun g e y ey => by
        cases ey
        have := (HG.out.block e).2
        have h5 : wr.heap.size ≤ b3 := hfr
        show b3 ≠ g
        omega)
      clear hk3 hr3 hfr3 hfr HF
      simp only [List.length_singleton]
      have d3b : (w3.alloc (.cells #[.int .i64 (i1 : Int)] 3)).cell? ⟨b3, o3, none⟩ = some (.int .i64 (i1 : Int)) := (Stil.new w3 _).cell d3
      go_wp2_with (at_builtin; refine wpList_append_seg _ rfl _ _ 22 rfl 3 i0 (.int .i64 0) 1 8 Try.underlying22 hit hz0 hz1 hz2 rfl (by decide) _ _ _ rfl (segAlloc hG3.out _) ⟨_, 0, none⟩ 1 1 [.int .i64 (i1 : Int)] rfl rfl (cCell1 _ _ _ _ (by simp)) (cOne _) (by unfold maxLen; omega) (by omega) ?_)
      intro v9 w9 hs9 hg9
      have hRo9 := row_app hRo3.out hg9 HNe.out
      have hrf9 := row_app HRF.out hg9 HFr.out
      obtain ⟨q1, q2, _⟩ := app_turn (by rw [HTN.out]) (HS.out.tr HK3.out) hG3.out hs9 hg9
      have HG9 := hidMk q1
      have HS9 := hidMk q2
      have d9 : w9.cell? ⟨b3, o3, none⟩ = some (.int .i64 (i1 : Int)) := by
        obtain ⟨_, _, _, y4⟩ := hrf9
        rcases y4 with y4 | ⟨b4, o4, e4, _, hc4⟩
        · simp at y4
        · cases e4
          have := hc4 0 (i1 : Int) rfl
          rw [Nat.add_zero] at this
          exact this
      have HM := hidMk (move_okf hRo9 h2 h6 k2 k3 HV1.out htl HV3.out)
      obtain ⟨sa3, sc3, hv3⟩ := segForm hs9
      subst hv3
      clear hs9 hg9 HG HS hG3 HK3 q1 q2 hrf9 hRo9 d3 d3b HRF HFr hRo3 HNe HRo
      go_wp2_with (go_at_call 14; refine (HM.out).mono ?_; rintro e w10 ⟨a10, c10, rfl, hr10, hk10, hf10⟩; have HR10 := hidMk hr10; have HK10 := hidMk hk10; have HF10 := hidMk hf10; clear hr10 hk10 hf10)
      go_roundw
      case rel => exact ⟨t + 1, sa3, sc3, a10, c10, by omega, by go_num, rfl, rfl, HG9.out.keep HK10.out (fun _ _ _ e => e), HS9.out.tr HK10.out, hidMk (by rw [HE2.out]; exact HR10.out), hidMk (fun g e y ey => by
        have h4 := (HG9.out.block e).2
        have h5 := HF10.out y ey
        omega)⟩
      case measure => simp [intOf]; omega
    · obtain rfl : t = n := by omega
      have hsr := seg_row HG.out
      have hon := hidMk (once_true hsr (by omega) (by rw [tnL_nat]; exact HND.out))
      have hin := hidMk (inside_true (t : Int) hsr (by omega) (HIN.out t))
      clear hsr HG HRo HNe
      go_wp2_with (first | (go_at_call 18; refine (hon.out).mono ?_; rintro e w4 ⟨rfl, hw4⟩; obtain rfl := hw4.symm) | (go_at_call 17; refine (hin.out).mono ?_; rintro e w5 ⟨rfl, hw5⟩; obtain rfl := hw5.symm))
      go_ret
      exact ⟨rfl, Stil.below (HK.out.tr HS.out)⟩
theorem sturns_walk {W : World} {a : Option Addr} {n c : Nat} {zs : List Int} (k : Int) (h : CameI W a n c zs) :
    Calls Try.prog 8 #[.int .i64 k, .slice a n c] W fun e W2 => e = .returned (.bool true) ∧ Below W.heap.size W W2 := by
  by_cases hz : codeJ k zs = 0
  · obtain ⟨s, _, h1, h2, h3, h4, h5, h6⟩ := stJ h hz
    by_cases hc : cnJ n s = 1
    · obtain ⟨i, hi, hf⟩ := fr_some h2 s
      exact sturns_one h1 h2 h3 h4 h5 h6 hc hi hf
    · exact sturns_more h1 h2 h3 h4 h5 h6 hc
  · exact sturns_bad h hz
end Go.Proofs.Ytflmbhjighnicaa
