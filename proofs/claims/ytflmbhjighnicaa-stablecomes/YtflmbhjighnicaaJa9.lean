/- Machines in a ring: StableComes, walked. -/
import Derived.Test.YtflmbhjighnicaaJa8
namespace Go.Proofs.Ytflmbhjighnicaa
open Go.RowKit
set_option linter.unusedVariables false

theorem u8_inJ {z : Int} (hz : (Lit.int .u8 z).wf = true) : 0 ≤ z ∧ z ≤ 255 := by
  have h2 : IntKind.u8.min ≤ z ∧ z ≤ IntKind.u8.max := by simpa [Lit.wf] using hz
  have e1 : IntKind.u8.min = 0 := by decide
  have e2 : IntKind.u8.max = 255 := by decide
  omega
/-- Picks as they come in. -/
def CameB (w : World) (a : Option Addr) (len cap : Nat) (us : List Int) : Prop :=
  us.length = len ∧ len ≤ cap ∧ len ≤ maxLen ∧ (len = 0 ∨ ∃ b off, a = some ⟨b, off, none⟩ ∧ b < w.heap.size ∧ ∀ (j : Nat) (x : Int), us[j]? = some x → w.cell? ⟨b, off + j, none⟩ = some (.int .u8 x) ∧ 0 ≤ x ∧ x ≤ 255)
theorem came_bytes {w : World} {a : Option Addr} {len cap : Nat} {zs : List Int}
    (h : (a = none ∧ len = 0 ∧ cap = 0 ∧ zs = []) ∨
      ∃ x, a = some x ∧ len ≤ cap ∧ cap ≤ maxLen ∧ zs.length = cap ∧ (∀ i, i < zs.length → w.cell? (x.add i) = some (.int .u8 (zs.getD i 0))) ∧ ∀ n ∈ zs, (Lit.int .u8 n).wf = true) :
    CameB w a len cap (zs.take len) := by
  rcases h with ⟨rfl, rfl, rfl, rfl⟩ | ⟨⟨b, off, spot⟩, rfl, hl, hm, hz, hcell, hwz⟩
  · exact ⟨rfl, Nat.le_refl _, Nat.zero_le _, .inl rfl⟩
  · refine ⟨by simp; omega, hl, Nat.le_trans hl hm, ?_⟩
    by_cases h0 : len = 0
    · exact .inl h0
    · have hc := hcell 0 (by omega)
      have hspot : spot = none := by simpa [Addr.add] using World.cell?_spot hc
      subst hspot
      refine .inr ⟨b, off, rfl, ?_, ?_⟩
      · have hc' : w.cell? ⟨b, off + 0, none⟩ = some (.int .u8 (zs.getD 0 0)) := by simpa [Addr.add] using hc
        exact World.block_lt_of_cell? _ _ hc'
      · intro j x hn
        have hjl : j < (zs.take len).length := (List.getElem?_eq_some_iff.1 hn).1
        rw [List.length_take] at hjl
        have e : zs[j]? = some x := by rw [List.getElem?_take] at hn; split at hn <;> simp_all
        have hj' := hcell j (by omega)
        rw [List.getD_eq_getElem?_getD, e, Option.getD_some, addr_add] at hj'
        exact ⟨hj', u8_inJ (hwz x (List.mem_of_getElem? e))⟩

set_option maxRecDepth 100000 in
set_option maxHeartbeats 4000000 in
theorem scomes_bad {W : World} {a pa : Option Addr} {n c pl pc : Nat} {zs : List Int} {k : Int} (h : RowI W a n c zs) (hz : codeJ k zs ≠ 0) :
    Calls Try.prog 7 #[.int .i64 k, .slice a n c, .slice pa pl pc] W fun e W2 => e = .returned (.bool true) ∧ Below W.heap.size W W2 := by
  have HC : Hid (∀ w1, Stil W w1 → Calls Try.prog 11 #[.int .i64 k, .slice a n c] w1 fun e w2 => e = .returned (.tuple #[.slice none 0 0, .int .i64 (codeJ k zs)]) ∧ Stil w1 w2) := hidMk (fun w1 hs => free_bad (h.still hs) hz)
  have HR : Hid (∀ w1, Stil W w1 → Calls Try.prog 16 #[.int .i64 k, .slice a n c] w1 fun e w2 => e = .returned (.bool false) ∧ w2 = w1) := hidMk (fun w1 hs => by
    have := states_any (h.still hs) k
    rw [show (codeJ k zs == 0) = false by simpa using hz] at this
    exact this)
  generalize codeJ k zs = rc at *
  have q1 : (rc != 0) = true := by simpa using hz
  clear h hz
  go_enter Try.func7, Try.ntmps7
  go_wp2_with (first | (go_at_call 16; refine (HR.out _ (Keep.refl _ _)).mono ?_; rintro e w2 ⟨rfl, hw⟩; obtain rfl := hw.symm) | (go_at_call 11; refine (HC.out _ (Keep.refl _ _)).mono ?_; rintro e w1 ⟨rfl, hk1⟩) | (go_at_call 16; refine (HR.out _ hk1).mono ?_; rintro e w2 ⟨rfl, hw⟩; obtain rfl := hw.symm))
  go_ret
  exact ⟨rfl, Stil.below hk1⟩

set_option maxRecDepth 100000 in
set_option maxHeartbeats 4000000 in
theorem scomes_out {W : World} {a pa : Option Addr} {n c pl pc : Nat} {s : Nat → Int} {k : Int} (h : RowI W a n c (rwJ n s)) (h2 : 2 ≤ n) (h6 : n ≤ 6) (k2 : 2 ≤ k) (k3 : k ≤ 1000) (hv : OkJ k n s) (ho : k < (n : Int) ∨ 12 < k) :
    Calls Try.prog 7 #[.int .i64 k, .slice a n c, .slice pa pl pc] W fun e W2 => e = .returned (.bool true) ∧ Below W.heap.size W W2 := by
  have HC : Hid (∀ w1, Stil W w1 → Calls Try.prog 11 #[.int .i64 k, .slice a n c] w1 fun e w2 => ∃ a2 c2, e = .returned (.tuple #[.slice a2 (frL n s n).length c2, .int .i64 0]) ∧ RowI w2 a2 (frL n s n).length c2 (natsI (frL n s n)) ∧ Stil w1 w2) := hidMk (fun w1 hs => free_ok (h.still hs) h2 h6 k2 k3 hv)
  have HR : Hid (∀ w1, Stil W w1 → Calls Try.prog 16 #[.int .i64 k, .slice a n c] w1 fun e w2 => e = .returned (.bool true) ∧ w2 = w1) := hidMk (fun w1 hs => by
    have := states_any (h.still hs) k
    rw [codeJ_ok h2 h6 k2 k3 hv] at this
    exact this)
  generalize (frL n s n).length = L at *
  clear h hv
  by_cases o1 : k < (n : Int)
  · clear ho
    go_enter Try.func7, Try.ntmps7
    go_wp2_with (first | (go_at_call 16; refine (HR.out _ (Keep.refl _ _)).mono ?_; rintro e w2 ⟨rfl, hw⟩; obtain rfl := hw.symm) | (go_at_call 11; refine (HC.out _ (Keep.refl _ _)).mono ?_; rintro e w1 ⟨a2, c2, rfl, hr1, hk1⟩; clear hr1) | (go_at_call 16; refine (HR.out _ hk1).mono ?_; rintro e w2 ⟨rfl, hw⟩; obtain rfl := hw.symm))
    go_ret
    exact ⟨rfl, Stil.below hk1⟩
  · have o2 : 12 < k := by omega
    have o3 : (n : Int) ≤ k := by omega
    clear ho o1
    go_enter Try.func7, Try.ntmps7
    go_wp2_with (first | (go_at_call 16; refine (HR.out _ (Keep.refl _ _)).mono ?_; rintro e w2 ⟨rfl, hw⟩; obtain rfl := hw.symm) | (go_at_call 11; refine (HC.out _ (Keep.refl _ _)).mono ?_; rintro e w1 ⟨a2, c2, rfl, hr1, hk1⟩; clear hr1) | (go_at_call 16; refine (HR.out _ hk1).mono ?_; rintro e w2 ⟨rfl, hw⟩; obtain rfl := hw.symm))
    go_ret
    exact ⟨rfl, Stil.below hk1⟩

set_option maxRecDepth 100000 in
set_option maxHeartbeats 8000000 in
theorem scomes_2 {W : World} {a pa : Option Addr} {c pl pc : Nat} {s : Nat → Int} {k : Int} {us : List Int} (h : RowI W a 2 c (rwJ 2 s)) (k2 : 2 ≤ k) (k12 : k ≤ 12) (hv : OkJ k 2 s) (hp : CameB W pa pl pc us) :
    Calls Try.prog 7 #[.int .i64 k, .slice a 2 c, .slice pa pl pc] W fun e W2 => e = .returned (.bool true) ∧ Below W.heap.size W W2 := by
  have HR : Hid (Calls Try.prog 16 #[.int .i64 k, .slice a 2 c] W fun e w2 => e = .returned (.bool true) ∧ w2 = W) := hidMk (by
    have := states_any h k
    rw [codeJ_ok (by omega) (by omega) (by omega) (by omega) hv] at this
    exact this)
  have hst : RtJ k 2 ((k.toNat + 1) * 2) s := rt_start hv (by omega) (by omega) k2
  obtain ⟨T, hT⟩ : ∃ T, T = (k.toNat + 1) * 2 := ⟨_, rfl⟩
  rw [← hT] at hst
  have HSt := hidMk hst
  have HV0 := hidMk hv
  have HW := hidMk h
  have hT2 : (T : Int) = (k + 1) * 2 := by omega
  have hTb : T ≤ 1000 := by omega
  have hw1 : IntKind.i64.wrap (k + 1) = k + 1 := wrapJ ⟨by omega, by omega⟩
  have hw2 : IntKind.i64.wrap ((k + 1) * 2) = (T : Int) := by rw [← hT2]; exact wrapJ ⟨by omega, by omega⟩
  obtain ⟨p1, p2, p3, p4⟩ := hp
  have p3' : (pl : Int) ≤ 9223372036854775807 := by unfold maxLen at p3; omega
  have HP4 := hidMk p4
  have HP1 := hidMk p1
  clear h hv hst hT hT2 p1 p2 p3 p4
  go_enter Try.func7, Try.ntmps7
  go_wp2_with (go_at_call 16; refine (HR.out).mono ?_; rintro e w2 ⟨rfl, hw⟩; obtain rfl := hw.symm)
  go_loopw [10, 11] (fun x u wr => ∃ (t : Nat) (s1 : Nat → Int) (aa : Option Addr) (ac : Nat), t ≤ T ∧ u = .int .i64 (t : Int) ∧ x = .slice aa 2 ac ∧ Hid (RowI wr aa 2 ac (rwJ 2 s1)) ∧ Hid (OkJ k 2 s1) ∧ Hid (RtJ k 2 (T - t) s1) ∧ Hid (Stil W wr)) (fun _ u _ => T - (intOf u).toNat)
  case atStart => exact ⟨0, s, a, c, Nat.zero_le _, rfl, rfl, HW, HV0, HSt, Keep.refl _ _⟩
  case round =>
    obtain ⟨t, s1, aa, ac, ht, rfl, rfl, HRo, HV, HRt, HS⟩ := hrel
    by_cases hlt : t < T
    · have hlt' : (t : Int) < (T : Int) := by omega
      have hF := free_ok HRo.out (by omega) (by omega) (by omega) (by omega) HV.out
      have hlen := frL_le 2 s1 2
      have hpos := cn_pos (n := 2) (by omega) s1
      rw [← frL_len] at hpos
      obtain ⟨L, hL⟩ : ∃ L, (frL 2 s1 2).length = L := ⟨_, rfl⟩
      rw [hL] at hF hlen hpos
      have HF := hidMk hF
      have g1 : ((L : Int) == 0) = false := by rw [beq_eq_false_iff_ne]; omega
      have g2 : (L == 0) = false := by rw [beq_eq_false_iff_ne]; omega
      have HL := hidMk hL
      clear hF hL
      have hpick : ∀ p, p < L → ∃ i1 : Nat, (natsI (frL 2 s1 2))[p]? = some (i1 : Int) ∧ i1 < 2 ∧ frJ 2 s1 i1 = true := fun p hp => by
        have hx : (natsI (frL 2 s1 2))[p]? = some ((natsI (frL 2 s1 2))[p]'(by rw [natsI_len, HL.out]; exact hp)) := List.getElem?_eq_getElem _
        obtain ⟨i1, e1, e2, e3⟩ := natsI_frL hx
        exact ⟨i1, by rw [hx, e1], e2, e3⟩
      by_cases hp0 : pl = 0
      · obtain ⟨p, hp⟩ : ∃ p, p = 0 := ⟨0, rfl⟩
        obtain ⟨i1, e1, e2, e3⟩ := hpick p (by omega)
        have HI1 := hidMk e1
        have HI2 := hidMk e2
        have HI3 := hidMk e3
        have z1 : decide ((0 : Int) < (pl : Int)) = false := decide_eq_false (by omega)
        have z2 : decide (0 < pl) = false := decide_eq_false (by omega)
        have z3 : ¬ 0 < pl := by omega
        have HPp := hidMk hp
        clear hpick e1 e2 e3 hp0 hp HL
        go_wp2_with (first | (go_at_call 11; refine (HF.out).mono ?_; rintro e w3 ⟨a3, c3, rfl, hr3, hk3⟩; have HK3 := hidMk hk3; obtain ⟨y1, y2, y3, y4⟩ := hr3; obtain ⟨b3, o3, rfl, hb3, hc3⟩ : ∃ b off, a3 = some ⟨b, off, none⟩ ∧ b < w3.heap.size ∧ ∀ (j : Nat) (x : Int), (natsI (frL 2 s1 2))[j]? = some x → w3.cell? ⟨b, off + j, none⟩ = some (.int .i64 x) := (y4.resolve_left (by omega)); have d3 := hc3 p (i1 : Int) HI1.out; rw [HPp.out, Nat.add_zero] at d3; clear y1 y3 y4 hb3 hc3; have y2' : (L : Int) ≤ (c3 : Int) := (by omega);  clear hk3) | (go_at_call 14; refine (move_ok (HRo.out.still HK3.out) (by omega) (by omega) (by omega) (by omega) HV.out HI2.out HI3.out).mono ?_; rintro e w4 ⟨a4, c4, rfl, hr4, hk4⟩; have HR4 := hidMk hr4; have HK4 := hidMk hk4; clear hr4 hk4))
        go_roundw
        case rel => exact ⟨t + 1, mvJ k s1 i1, a4, c4, by omega, by go_num, rfl, HR4.out, hidMk (mv_ok HV.out (by omega) HI2.out), hidMk (by
          have := rt_step HV.out (by omega) (by omega) (by omega) HRt.out HI2.out HI3.out
          rw [show T - (t + 1) = T - t - 1 by omega]
          exact this), (HS.out.tr HK3.out).tr HK4.out⟩
        case measure => simp [intOf]; omega
      · obtain ⟨r, hr⟩ : ∃ r, r = t % pl := ⟨_, rfl⟩
        have hrl : r < pl := by rw [hr]; exact Nat.mod_lt _ (by omega)
        obtain ⟨pb, po, epa, hpb, hpc⟩ := (HP4.out).resolve_left hp0
        have hu : us[r]? = some (us[r]'(by rw [HP1.out]; exact hrl)) := List.getElem?_eq_getElem _
        generalize us[r]'(by rw [HP1.out]; exact hrl) = u at hu
        obtain ⟨d1, u0, u1⟩ := hpc r u hu
        obtain ⟨p, hp⟩ : ∃ p, p = u.toNat % L := ⟨_, rfl⟩
        have hpl : p < L := by rw [hp]; exact Nat.mod_lt _ (by omega)
        obtain ⟨i1, e1, e2, e3⟩ := hpick p hpl
        have HI1 := hidMk e1
        have HI2 := hidMk e2
        have HI3 := hidMk e3
        have m2 : (t : Int) % (pl : Int) = (r : Int) := by rw [hr]; rfl
        have m1 : (t : Int).tmod (pl : Int) = (r : Int) := by rw [Int.tmod_eq_emod_of_nonneg (by omega)]; exact m2
        have m4 : u % (L : Int) = (p : Int) := by
          obtain ⟨un, rfl⟩ : ∃ un : Nat, u = (un : Int) := ⟨u.toNat, by omega⟩
          rw [hp]; simp
        have m3 : u.tmod (L : Int) = (p : Int) := by rw [Int.tmod_eq_emod_of_nonneg u0]; exact m4
        have m5 : IntKind.i64.wrap u = u := wrapJ ⟨by omega, by omega⟩
        have m6 : IntKind.i64.wrap (r : Int) = (r : Int) := wrapJ ⟨by omega, by omega⟩
        have m7 : IntKind.i64.wrap (p : Int) = (p : Int) := wrapJ ⟨by omega, by omega⟩
        have z1 : decide ((0 : Int) < (pl : Int)) = true := decide_eq_true (by omega)
        have z2 : decide (0 < pl) = true := decide_eq_true (by omega)
        have z3 : 0 < pl := by omega
        have z4 : ((pl : Int) == 0) = false := by rw [beq_eq_false_iff_ne]; omega
        have z5 : (pl == 0) = false := by rw [beq_eq_false_iff_ne]; omega
        have z6 : (r : Int) < (pl : Int) := by omega
        have z7 : (p : Int) < (L : Int) := by omega
        have HD := hidMk (HS.out.cell d1)
        clear hpick e1 e2 e3 hp0 hp HL hr hu hpc hpb d1
        subst epa
        go_wp2_with (first | (go_at_call 11; refine (HF.out).mono ?_; rintro e w3 ⟨a3, c3, rfl, hr3, hk3⟩; have HK3 := hidMk hk3; obtain ⟨y1, y2, y3, y4⟩ := hr3; obtain ⟨b3, o3, rfl, hb3, hc3⟩ : ∃ b off, a3 = some ⟨b, off, none⟩ ∧ b < w3.heap.size ∧ ∀ (j : Nat) (x : Int), (natsI (frL 2 s1 2))[j]? = some x → w3.cell? ⟨b, off + j, none⟩ = some (.int .i64 x) := (y4.resolve_left (by omega)); have d3 := hc3 p (i1 : Int) HI1.out;  clear y1 y3 y4 hb3 hc3; have y2' : (L : Int) ≤ (c3 : Int) := (by omega); have d1 := Stil.cell hk3 HD.out; clear hk3) | (go_at_call 14; refine (move_ok (HRo.out.still HK3.out) (by omega) (by omega) (by omega) (by omega) HV.out HI2.out HI3.out).mono ?_; rintro e w4 ⟨a4, c4, rfl, hr4, hk4⟩; have HR4 := hidMk hr4; have HK4 := hidMk hk4; clear hr4 hk4))
        go_roundw
        case rel => exact ⟨t + 1, mvJ k s1 i1, a4, c4, by omega, by go_num, rfl, HR4.out, hidMk (mv_ok HV.out (by omega) HI2.out), hidMk (by
          have := rt_step HV.out (by omega) (by omega) (by omega) HRt.out HI2.out HI3.out
          rw [show T - (t + 1) = T - t - 1 by omega]
          exact this), (HS.out.tr HK3.out).tr HK4.out⟩
        case measure => simp [intOf]; omega
    · obtain rfl : t = T := by omega
      have h1 : cnJ 2 s1 = 1 := rt_zero (k := k) (by omega) (by have := HRt.out; rw [Nat.sub_self] at this; exact this)
      have hF := free_ok HRo.out (by omega) (by omega) (by omega) (by omega) HV.out
      rw [frL_len, h1] at hF
      have HF := hidMk hF
      clear hF h1
      go_wp2_with (go_at_call 11; refine (HF.out).mono ?_; rintro e w3 ⟨a3, c3, rfl, hr3, hk3⟩; clear hr3)
      go_ret
      exact ⟨rfl, Stil.below (HS.out.tr hk3)⟩

set_option maxRecDepth 100000 in
set_option maxHeartbeats 8000000 in
theorem scomes_3 {W : World} {a pa : Option Addr} {c pl pc : Nat} {s : Nat → Int} {k : Int} {us : List Int} (h : RowI W a 3 c (rwJ 3 s)) (k2 : 3 ≤ k) (k12 : k ≤ 12) (hv : OkJ k 3 s) (hp : CameB W pa pl pc us) :
    Calls Try.prog 7 #[.int .i64 k, .slice a 3 c, .slice pa pl pc] W fun e W2 => e = .returned (.bool true) ∧ Below W.heap.size W W2 := by
  have HR : Hid (Calls Try.prog 16 #[.int .i64 k, .slice a 3 c] W fun e w2 => e = .returned (.bool true) ∧ w2 = W) := hidMk (by
    have := states_any h k
    rw [codeJ_ok (by omega) (by omega) (by omega) (by omega) hv] at this
    exact this)
  have hst : RtJ k 3 ((k.toNat + 1) * 4) s := rt_start hv (by omega) (by omega) k2
  obtain ⟨T, hT⟩ : ∃ T, T = (k.toNat + 1) * 4 := ⟨_, rfl⟩
  rw [← hT] at hst
  have HSt := hidMk hst
  have HV0 := hidMk hv
  have HW := hidMk h
  have hT2 : (T : Int) = (k + 1) * 4 := by omega
  have hTb : T ≤ 1000 := by omega
  have hw1 : IntKind.i64.wrap (k + 1) = k + 1 := wrapJ ⟨by omega, by omega⟩
  have hw2 : IntKind.i64.wrap ((k + 1) * 4) = (T : Int) := by rw [← hT2]; exact wrapJ ⟨by omega, by omega⟩
  obtain ⟨p1, p2, p3, p4⟩ := hp
  have p3' : (pl : Int) ≤ 9223372036854775807 := by unfold maxLen at p3; omega
  have HP4 := hidMk p4
  have HP1 := hidMk p1
  clear h hv hst hT hT2 p1 p2 p3 p4
  go_enter Try.func7, Try.ntmps7
  go_wp2_with (go_at_call 16; refine (HR.out).mono ?_; rintro e w2 ⟨rfl, hw⟩; obtain rfl := hw.symm)
  go_loopw [10, 11] (fun x u wr => ∃ (t : Nat) (s1 : Nat → Int) (aa : Option Addr) (ac : Nat), t ≤ T ∧ u = .int .i64 (t : Int) ∧ x = .slice aa 3 ac ∧ Hid (RowI wr aa 3 ac (rwJ 3 s1)) ∧ Hid (OkJ k 3 s1) ∧ Hid (RtJ k 3 (T - t) s1) ∧ Hid (Stil W wr)) (fun _ u _ => T - (intOf u).toNat)
  case atStart => exact ⟨0, s, a, c, Nat.zero_le _, rfl, rfl, HW, HV0, HSt, Keep.refl _ _⟩
  case round =>
    obtain ⟨t, s1, aa, ac, ht, rfl, rfl, HRo, HV, HRt, HS⟩ := hrel
    by_cases hlt : t < T
    · have hlt' : (t : Int) < (T : Int) := by omega
      have hF := free_ok HRo.out (by omega) (by omega) (by omega) (by omega) HV.out
      have hlen := frL_le 3 s1 3
      have hpos := cn_pos (n := 3) (by omega) s1
      rw [← frL_len] at hpos
      obtain ⟨L, hL⟩ : ∃ L, (frL 3 s1 3).length = L := ⟨_, rfl⟩
      rw [hL] at hF hlen hpos
      have HF := hidMk hF
      have g1 : ((L : Int) == 0) = false := by rw [beq_eq_false_iff_ne]; omega
      have g2 : (L == 0) = false := by rw [beq_eq_false_iff_ne]; omega
      have HL := hidMk hL
      clear hF hL
      have hpick : ∀ p, p < L → ∃ i1 : Nat, (natsI (frL 3 s1 3))[p]? = some (i1 : Int) ∧ i1 < 3 ∧ frJ 3 s1 i1 = true := fun p hp => by
        have hx : (natsI (frL 3 s1 3))[p]? = some ((natsI (frL 3 s1 3))[p]'(by rw [natsI_len, HL.out]; exact hp)) := List.getElem?_eq_getElem _
        obtain ⟨i1, e1, e2, e3⟩ := natsI_frL hx
        exact ⟨i1, by rw [hx, e1], e2, e3⟩
      by_cases hp0 : pl = 0
      · obtain ⟨p, hp⟩ : ∃ p, p = 0 := ⟨0, rfl⟩
        obtain ⟨i1, e1, e2, e3⟩ := hpick p (by omega)
        have HI1 := hidMk e1
        have HI2 := hidMk e2
        have HI3 := hidMk e3
        have z1 : decide ((0 : Int) < (pl : Int)) = false := decide_eq_false (by omega)
        have z2 : decide (0 < pl) = false := decide_eq_false (by omega)
        have z3 : ¬ 0 < pl := by omega
        have HPp := hidMk hp
        clear hpick e1 e2 e3 hp0 hp HL
        go_wp2_with (first | (go_at_call 11; refine (HF.out).mono ?_; rintro e w3 ⟨a3, c3, rfl, hr3, hk3⟩; have HK3 := hidMk hk3; obtain ⟨y1, y2, y3, y4⟩ := hr3; obtain ⟨b3, o3, rfl, hb3, hc3⟩ : ∃ b off, a3 = some ⟨b, off, none⟩ ∧ b < w3.heap.size ∧ ∀ (j : Nat) (x : Int), (natsI (frL 3 s1 3))[j]? = some x → w3.cell? ⟨b, off + j, none⟩ = some (.int .i64 x) := (y4.resolve_left (by omega)); have d3 := hc3 p (i1 : Int) HI1.out; rw [HPp.out, Nat.add_zero] at d3; clear y1 y3 y4 hb3 hc3; have y2' : (L : Int) ≤ (c3 : Int) := (by omega);  clear hk3) | (go_at_call 14; refine (move_ok (HRo.out.still HK3.out) (by omega) (by omega) (by omega) (by omega) HV.out HI2.out HI3.out).mono ?_; rintro e w4 ⟨a4, c4, rfl, hr4, hk4⟩; have HR4 := hidMk hr4; have HK4 := hidMk hk4; clear hr4 hk4))
        go_roundw
        case rel => exact ⟨t + 1, mvJ k s1 i1, a4, c4, by omega, by go_num, rfl, HR4.out, hidMk (mv_ok HV.out (by omega) HI2.out), hidMk (by
          have := rt_step HV.out (by omega) (by omega) (by omega) HRt.out HI2.out HI3.out
          rw [show T - (t + 1) = T - t - 1 by omega]
          exact this), (HS.out.tr HK3.out).tr HK4.out⟩
        case measure => simp [intOf]; omega
      · obtain ⟨r, hr⟩ : ∃ r, r = t % pl := ⟨_, rfl⟩
        have hrl : r < pl := by rw [hr]; exact Nat.mod_lt _ (by omega)
        obtain ⟨pb, po, epa, hpb, hpc⟩ := (HP4.out).resolve_left hp0
        have hu : us[r]? = some (us[r]'(by rw [HP1.out]; exact hrl)) := List.getElem?_eq_getElem _
        generalize us[r]'(by rw [HP1.out]; exact hrl) = u at hu
        obtain ⟨d1, u0, u1⟩ := hpc r u hu
        obtain ⟨p, hp⟩ : ∃ p, p = u.toNat % L := ⟨_, rfl⟩
        have hpl : p < L := by rw [hp]; exact Nat.mod_lt _ (by omega)
        obtain ⟨i1, e1, e2, e3⟩ := hpick p hpl
        have HI1 := hidMk e1
        have HI2 := hidMk e2
        have HI3 := hidMk e3
        have m2 : (t : Int) % (pl : Int) = (r : Int) := by rw [hr]; rfl
        have m1 : (t : Int).tmod (pl : Int) = (r : Int) := by rw [Int.tmod_eq_emod_of_nonneg (by omega)]; exact m2
        have m4 : u % (L : Int) = (p : Int) := by
          obtain ⟨un, rfl⟩ : ∃ un : Nat, u = (un : Int) := ⟨u.toNat, by omega⟩
          rw [hp]; simp
        have m3 : u.tmod (L : Int) = (p : Int) := by rw [Int.tmod_eq_emod_of_nonneg u0]; exact m4
        have m5 : IntKind.i64.wrap u = u := wrapJ ⟨by omega, by omega⟩
        have m6 : IntKind.i64.wrap (r : Int) = (r : Int) := wrapJ ⟨by omega, by omega⟩
        have m7 : IntKind.i64.wrap (p : Int) = (p : Int) := wrapJ ⟨by omega, by omega⟩
        have z1 : decide ((0 : Int) < (pl : Int)) = true := decide_eq_true (by omega)
        have z2 : decide (0 < pl) = true := decide_eq_true (by omega)
        have z3 : 0 < pl := by omega
        have z4 : ((pl : Int) == 0) = false := by rw [beq_eq_false_iff_ne]; omega
        have z5 : (pl == 0) = false := by rw [beq_eq_false_iff_ne]; omega
        have z6 : (r : Int) < (pl : Int) := by omega
        have z7 : (p : Int) < (L : Int) := by omega
        have HD := hidMk (HS.out.cell d1)
        clear hpick e1 e2 e3 hp0 hp HL hr hu hpc hpb d1
        subst epa
        go_wp2_with (first | (go_at_call 11; refine (HF.out).mono ?_; rintro e w3 ⟨a3, c3, rfl, hr3, hk3⟩; have HK3 := hidMk hk3; obtain ⟨y1, y2, y3, y4⟩ := hr3; obtain ⟨b3, o3, rfl, hb3, hc3⟩ : ∃ b off, a3 = some ⟨b, off, none⟩ ∧ b < w3.heap.size ∧ ∀ (j : Nat) (x : Int), (natsI (frL 3 s1 3))[j]? = some x → w3.cell? ⟨b, off + j, none⟩ = some (.int .i64 x) := (y4.resolve_left (by omega)); have d3 := hc3 p (i1 : Int) HI1.out;  clear y1 y3 y4 hb3 hc3; have y2' : (L : Int) ≤ (c3 : Int) := (by omega); have d1 := Stil.cell hk3 HD.out; clear hk3) | (go_at_call 14; refine (move_ok (HRo.out.still HK3.out) (by omega) (by omega) (by omega) (by omega) HV.out HI2.out HI3.out).mono ?_; rintro e w4 ⟨a4, c4, rfl, hr4, hk4⟩; have HR4 := hidMk hr4; have HK4 := hidMk hk4; clear hr4 hk4))
        go_roundw
        case rel => exact ⟨t + 1, mvJ k s1 i1, a4, c4, by omega, by go_num, rfl, HR4.out, hidMk (mv_ok HV.out (by omega) HI2.out), hidMk (by
          have := rt_step HV.out (by omega) (by omega) (by omega) HRt.out HI2.out HI3.out
          rw [show T - (t + 1) = T - t - 1 by omega]
          exact this), (HS.out.tr HK3.out).tr HK4.out⟩
        case measure => simp [intOf]; omega
    · obtain rfl : t = T := by omega
      have h1 : cnJ 3 s1 = 1 := rt_zero (k := k) (by omega) (by have := HRt.out; rw [Nat.sub_self] at this; exact this)
      have hF := free_ok HRo.out (by omega) (by omega) (by omega) (by omega) HV.out
      rw [frL_len, h1] at hF
      have HF := hidMk hF
      clear hF h1
      go_wp2_with (go_at_call 11; refine (HF.out).mono ?_; rintro e w3 ⟨a3, c3, rfl, hr3, hk3⟩; clear hr3)
      go_ret
      exact ⟨rfl, Stil.below (HS.out.tr hk3)⟩

set_option maxRecDepth 100000 in
set_option maxHeartbeats 8000000 in
theorem scomes_4 {W : World} {a pa : Option Addr} {c pl pc : Nat} {s : Nat → Int} {k : Int} {us : List Int} (h : RowI W a 4 c (rwJ 4 s)) (k2 : 4 ≤ k) (k12 : k ≤ 12) (hv : OkJ k 4 s) (hp : CameB W pa pl pc us) :
    Calls Try.prog 7 #[.int .i64 k, .slice a 4 c, .slice pa pl pc] W fun e W2 => e = .returned (.bool true) ∧ Below W.heap.size W W2 := by
  have HR : Hid (Calls Try.prog 16 #[.int .i64 k, .slice a 4 c] W fun e w2 => e = .returned (.bool true) ∧ w2 = W) := hidMk (by
    have := states_any h k
    rw [codeJ_ok (by omega) (by omega) (by omega) (by omega) hv] at this
    exact this)
  have hst : RtJ k 4 ((k.toNat + 1) * 7) s := rt_start hv (by omega) (by omega) k2
  obtain ⟨T, hT⟩ : ∃ T, T = (k.toNat + 1) * 7 := ⟨_, rfl⟩
  rw [← hT] at hst
  have HSt := hidMk hst
  have HV0 := hidMk hv
  have HW := hidMk h
  have hT2 : (T : Int) = (k + 1) * 7 := by omega
  have hTb : T ≤ 1000 := by omega
  have hw1 : IntKind.i64.wrap (k + 1) = k + 1 := wrapJ ⟨by omega, by omega⟩
  have hw2 : IntKind.i64.wrap ((k + 1) * 7) = (T : Int) := by rw [← hT2]; exact wrapJ ⟨by omega, by omega⟩
  obtain ⟨p1, p2, p3, p4⟩ := hp
  have p3' : (pl : Int) ≤ 9223372036854775807 := by unfold maxLen at p3; omega
  have HP4 := hidMk p4
  have HP1 := hidMk p1
  clear h hv hst hT hT2 p1 p2 p3 p4
  go_enter Try.func7, Try.ntmps7
  go_wp2_with (go_at_call 16; refine (HR.out).mono ?_; rintro e w2 ⟨rfl, hw⟩; obtain rfl := hw.symm)
  go_loopw [10, 11] (fun x u wr => ∃ (t : Nat) (s1 : Nat → Int) (aa : Option Addr) (ac : Nat), t ≤ T ∧ u = .int .i64 (t : Int) ∧ x = .slice aa 4 ac ∧ Hid (RowI wr aa 4 ac (rwJ 4 s1)) ∧ Hid (OkJ k 4 s1) ∧ Hid (RtJ k 4 (T - t) s1) ∧ Hid (Stil W wr)) (fun _ u _ => T - (intOf u).toNat)
  case atStart => exact ⟨0, s, a, c, Nat.zero_le _, rfl, rfl, HW, HV0, HSt, Keep.refl _ _⟩
  case round =>
    obtain ⟨t, s1, aa, ac, ht, rfl, rfl, HRo, HV, HRt, HS⟩ := hrel
    by_cases hlt : t < T
    · have hlt' : (t : Int) < (T : Int) := by omega
      have hF := free_ok HRo.out (by omega) (by omega) (by omega) (by omega) HV.out
      have hlen := frL_le 4 s1 4
      have hpos := cn_pos (n := 4) (by omega) s1
      rw [← frL_len] at hpos
      obtain ⟨L, hL⟩ : ∃ L, (frL 4 s1 4).length = L := ⟨_, rfl⟩
      rw [hL] at hF hlen hpos
      have HF := hidMk hF
      have g1 : ((L : Int) == 0) = false := by rw [beq_eq_false_iff_ne]; omega
      have g2 : (L == 0) = false := by rw [beq_eq_false_iff_ne]; omega
      have HL := hidMk hL
      clear hF hL
      have hpick : ∀ p, p < L → ∃ i1 : Nat, (natsI (frL 4 s1 4))[p]? = some (i1 : Int) ∧ i1 < 4 ∧ frJ 4 s1 i1 = true := fun p hp => by
        have hx : (natsI (frL 4 s1 4))[p]? = some ((natsI (frL 4 s1 4))[p]'(by rw [natsI_len, HL.out]; exact hp)) := List.getElem?_eq_getElem _
        obtain ⟨i1, e1, e2, e3⟩ := natsI_frL hx
        exact ⟨i1, by rw [hx, e1], e2, e3⟩
      by_cases hp0 : pl = 0
      · obtain ⟨p, hp⟩ : ∃ p, p = 0 := ⟨0, rfl⟩
        obtain ⟨i1, e1, e2, e3⟩ := hpick p (by omega)
        have HI1 := hidMk e1
        have HI2 := hidMk e2
        have HI3 := hidMk e3
        have z1 : decide ((0 : Int) < (pl : Int)) = false := decide_eq_false (by omega)
        have z2 : decide (0 < pl) = false := decide_eq_false (by omega)
        have z3 : ¬ 0 < pl := by omega
        have HPp := hidMk hp
        clear hpick e1 e2 e3 hp0 hp HL
        go_wp2_with (first | (go_at_call 11; refine (HF.out).mono ?_; rintro e w3 ⟨a3, c3, rfl, hr3, hk3⟩; have HK3 := hidMk hk3; obtain ⟨y1, y2, y3, y4⟩ := hr3; obtain ⟨b3, o3, rfl, hb3, hc3⟩ : ∃ b off, a3 = some ⟨b, off, none⟩ ∧ b < w3.heap.size ∧ ∀ (j : Nat) (x : Int), (natsI (frL 4 s1 4))[j]? = some x → w3.cell? ⟨b, off + j, none⟩ = some (.int .i64 x) := (y4.resolve_left (by omega)); have d3 := hc3 p (i1 : Int) HI1.out; rw [HPp.out, Nat.add_zero] at d3; clear y1 y3 y4 hb3 hc3; have y2' : (L : Int) ≤ (c3 : Int) := (by omega);  clear hk3) | (go_at_call 14; refine (move_ok (HRo.out.still HK3.out) (by omega) (by omega) (by omega) (by omega) HV.out HI2.out HI3.out).mono ?_; rintro e w4 ⟨a4, c4, rfl, hr4, hk4⟩; have HR4 := hidMk hr4; have HK4 := hidMk hk4; clear hr4 hk4))
        go_roundw
        case rel => exact ⟨t + 1, mvJ k s1 i1, a4, c4, by omega, by go_num, rfl, HR4.out, hidMk (mv_ok HV.out (by omega) HI2.out), hidMk (by
          have := rt_step HV.out (by omega) (by omega) (by omega) HRt.out HI2.out HI3.out
          rw [show T - (t + 1) = T - t - 1 by omega]
          exact this), (HS.out.tr HK3.out).tr HK4.out⟩
        case measure => simp [intOf]; omega
      · obtain ⟨r, hr⟩ : ∃ r, r = t % pl := ⟨_, rfl⟩
        have hrl : r < pl := by rw [hr]; exact Nat.mod_lt _ (by omega)
        obtain ⟨pb, po, epa, hpb, hpc⟩ := (HP4.out).resolve_left hp0
        have hu : us[r]? = some (us[r]'(by rw [HP1.out]; exact hrl)) := List.getElem?_eq_getElem _
        generalize us[r]'(by rw [HP1.out]; exact hrl) = u at hu
        obtain ⟨d1, u0, u1⟩ := hpc r u hu
        obtain ⟨p, hp⟩ : ∃ p, p = u.toNat % L := ⟨_, rfl⟩
        have hpl : p < L := by rw [hp]; exact Nat.mod_lt _ (by omega)
        obtain ⟨i1, e1, e2, e3⟩ := hpick p hpl
        have HI1 := hidMk e1
        have HI2 := hidMk e2
        have HI3 := hidMk e3
        have m2 : (t : Int) % (pl : Int) = (r : Int) := by rw [hr]; rfl
        have m1 : (t : Int).tmod (pl : Int) = (r : Int) := by rw [Int.tmod_eq_emod_of_nonneg (by omega)]; exact m2
        have m4 : u % (L : Int) = (p : Int) := by
          obtain ⟨un, rfl⟩ : ∃ un : Nat, u = (un : Int) := ⟨u.toNat, by omega⟩
          rw [hp]; simp
        have m3 : u.tmod (L : Int) = (p : Int) := by rw [Int.tmod_eq_emod_of_nonneg u0]; exact m4
        have m5 : IntKind.i64.wrap u = u := wrapJ ⟨by omega, by omega⟩
        have m6 : IntKind.i64.wrap (r : Int) = (r : Int) := wrapJ ⟨by omega, by omega⟩
        have m7 : IntKind.i64.wrap (p : Int) = (p : Int) := wrapJ ⟨by omega, by omega⟩
        have z1 : decide ((0 : Int) < (pl : Int)) = true := decide_eq_true (by omega)
        have z2 : decide (0 < pl) = true := decide_eq_true (by omega)
        have z3 : 0 < pl := by omega
        have z4 : ((pl : Int) == 0) = false := by rw [beq_eq_false_iff_ne]; omega
        have z5 : (pl == 0) = false := by rw [beq_eq_false_iff_ne]; omega
        have z6 : (r : Int) < (pl : Int) := by omega
        have z7 : (p : Int) < (L : Int) := by omega
        have HD := hidMk (HS.out.cell d1)
        clear hpick e1 e2 e3 hp0 hp HL hr hu hpc hpb d1
        subst epa
        go_wp2_with (first | (go_at_call 11; refine (HF.out).mono ?_; rintro e w3 ⟨a3, c3, rfl, hr3, hk3⟩; have HK3 := hidMk hk3; obtain ⟨y1, y2, y3, y4⟩ := hr3; obtain ⟨b3, o3, rfl, hb3, hc3⟩ : ∃ b off, a3 = some ⟨b, off, none⟩ ∧ b < w3.heap.size ∧ ∀ (j : Nat) (x : Int), (natsI (frL 4 s1 4))[j]? = some x → w3.cell? ⟨b, off + j, none⟩ = some (.int .i64 x) := (y4.resolve_left (by omega)); have d3 := hc3 p (i1 : Int) HI1.out;  clear y1 y3 y4 hb3 hc3; have y2' : (L : Int) ≤ (c3 : Int) := (by omega); have d1 := Stil.cell hk3 HD.out; clear hk3) | (go_at_call 14; refine (move_ok (HRo.out.still HK3.out) (by omega) (by omega) (by omega) (by omega) HV.out HI2.out HI3.out).mono ?_; rintro e w4 ⟨a4, c4, rfl, hr4, hk4⟩; have HR4 := hidMk hr4; have HK4 := hidMk hk4; clear hr4 hk4))
        go_roundw
        case rel => exact ⟨t + 1, mvJ k s1 i1, a4, c4, by omega, by go_num, rfl, HR4.out, hidMk (mv_ok HV.out (by omega) HI2.out), hidMk (by
          have := rt_step HV.out (by omega) (by omega) (by omega) HRt.out HI2.out HI3.out
          rw [show T - (t + 1) = T - t - 1 by omega]
          exact this), (HS.out.tr HK3.out).tr HK4.out⟩
        case measure => simp [intOf]; omega
    · obtain rfl : t = T := by omega
      have h1 : cnJ 4 s1 = 1 := rt_zero (k := k) (by omega) (by have := HRt.out; rw [Nat.sub_self] at this; exact this)
      have hF := free_ok HRo.out (by omega) (by omega) (by omega) (by omega) HV.out
      rw [frL_len, h1] at hF
      have HF := hidMk hF
      clear hF h1
      go_wp2_with (go_at_call 11; refine (HF.out).mono ?_; rintro e w3 ⟨a3, c3, rfl, hr3, hk3⟩; clear hr3)
      go_ret
      exact ⟨rfl, Stil.below (HS.out.tr hk3)⟩

set_option maxRecDepth 100000 in
set_option maxHeartbeats 8000000 in
theorem scomes_5 {W : World} {a pa : Option Addr} {c pl pc : Nat} {s : Nat → Int} {k : Int} {us : List Int} (h : RowI W a 5 c (rwJ 5 s)) (k2 : 5 ≤ k) (k12 : k ≤ 12) (hv : OkJ k 5 s) (hp : CameB W pa pl pc us) :
    Calls Try.prog 7 #[.int .i64 k, .slice a 5 c, .slice pa pl pc] W fun e W2 => e = .returned (.bool true) ∧ Below W.heap.size W W2 := by
  have HR : Hid (Calls Try.prog 16 #[.int .i64 k, .slice a 5 c] W fun e w2 => e = .returned (.bool true) ∧ w2 = W) := hidMk (by
    have := states_any h k
    rw [codeJ_ok (by omega) (by omega) (by omega) (by omega) hv] at this
    exact this)
  have hst : RtJ k 5 ((k.toNat + 1) * 11) s := rt_start hv (by omega) (by omega) k2
  obtain ⟨T, hT⟩ : ∃ T, T = (k.toNat + 1) * 11 := ⟨_, rfl⟩
  rw [← hT] at hst
  have HSt := hidMk hst
  have HV0 := hidMk hv
  have HW := hidMk h
  have hT2 : (T : Int) = (k + 1) * 11 := by omega
  have hTb : T ≤ 1000 := by omega
  have hw1 : IntKind.i64.wrap (k + 1) = k + 1 := wrapJ ⟨by omega, by omega⟩
  have hw2 : IntKind.i64.wrap ((k + 1) * 11) = (T : Int) := by rw [← hT2]; exact wrapJ ⟨by omega, by omega⟩
  obtain ⟨p1, p2, p3, p4⟩ := hp
  have p3' : (pl : Int) ≤ 9223372036854775807 := by unfold maxLen at p3; omega
  have HP4 := hidMk p4
  have HP1 := hidMk p1
  clear h hv hst hT hT2 p1 p2 p3 p4
  go_enter Try.func7, Try.ntmps7
  go_wp2_with (go_at_call 16; refine (HR.out).mono ?_; rintro e w2 ⟨rfl, hw⟩; obtain rfl := hw.symm)
  go_loopw [10, 11] (fun x u wr => ∃ (t : Nat) (s1 : Nat → Int) (aa : Option Addr) (ac : Nat), t ≤ T ∧ u = .int .i64 (t : Int) ∧ x = .slice aa 5 ac ∧ Hid (RowI wr aa 5 ac (rwJ 5 s1)) ∧ Hid (OkJ k 5 s1) ∧ Hid (RtJ k 5 (T - t) s1) ∧ Hid (Stil W wr)) (fun _ u _ => T - (intOf u).toNat)
  case atStart => exact ⟨0, s, a, c, Nat.zero_le _, rfl, rfl, HW, HV0, HSt, Keep.refl _ _⟩
  case round =>
    obtain ⟨t, s1, aa, ac, ht, rfl, rfl, HRo, HV, HRt, HS⟩ := hrel
    by_cases hlt : t < T
    · have hlt' : (t : Int) < (T : Int) := by omega
      have hF := free_ok HRo.out (by omega) (by omega) (by omega) (by omega) HV.out
      have hlen := frL_le 5 s1 5
      have hpos := cn_pos (n := 5) (by omega) s1
      rw [← frL_len] at hpos
      obtain ⟨L, hL⟩ : ∃ L, (frL 5 s1 5).length = L := ⟨_, rfl⟩
      rw [hL] at hF hlen hpos
      have HF := hidMk hF
      have g1 : ((L : Int) == 0) = false := by rw [beq_eq_false_iff_ne]; omega
      have g2 : (L == 0) = false := by rw [beq_eq_false_iff_ne]; omega
      have HL := hidMk hL
      clear hF hL
      have hpick : ∀ p, p < L → ∃ i1 : Nat, (natsI (frL 5 s1 5))[p]? = some (i1 : Int) ∧ i1 < 5 ∧ frJ 5 s1 i1 = true := fun p hp => by
        have hx : (natsI (frL 5 s1 5))[p]? = some ((natsI (frL 5 s1 5))[p]'(by rw [natsI_len, HL.out]; exact hp)) := List.getElem?_eq_getElem _
        obtain ⟨i1, e1, e2, e3⟩ := natsI_frL hx
        exact ⟨i1, by rw [hx, e1], e2, e3⟩
      by_cases hp0 : pl = 0
      · obtain ⟨p, hp⟩ : ∃ p, p = 0 := ⟨0, rfl⟩
        obtain ⟨i1, e1, e2, e3⟩ := hpick p (by omega)
        have HI1 := hidMk e1
        have HI2 := hidMk e2
        have HI3 := hidMk e3
        have z1 : decide ((0 : Int) < (pl : Int)) = false := decide_eq_false (by omega)
        have z2 : decide (0 < pl) = false := decide_eq_false (by omega)
        have z3 : ¬ 0 < pl := by omega
        have HPp := hidMk hp
        clear hpick e1 e2 e3 hp0 hp HL
        go_wp2_with (first | (go_at_call 11; refine (HF.out).mono ?_; rintro e w3 ⟨a3, c3, rfl, hr3, hk3⟩; have HK3 := hidMk hk3; obtain ⟨y1, y2, y3, y4⟩ := hr3; obtain ⟨b3, o3, rfl, hb3, hc3⟩ : ∃ b off, a3 = some ⟨b, off, none⟩ ∧ b < w3.heap.size ∧ ∀ (j : Nat) (x : Int), (natsI (frL 5 s1 5))[j]? = some x → w3.cell? ⟨b, off + j, none⟩ = some (.int .i64 x) := (y4.resolve_left (by omega)); have d3 := hc3 p (i1 : Int) HI1.out; rw [HPp.out, Nat.add_zero] at d3; clear y1 y3 y4 hb3 hc3; have y2' : (L : Int) ≤ (c3 : Int) := (by omega);  clear hk3) | (go_at_call 14; refine (move_ok (HRo.out.still HK3.out) (by omega) (by omega) (by omega) (by omega) HV.out HI2.out HI3.out).mono ?_; rintro e w4 ⟨a4, c4, rfl, hr4, hk4⟩; have HR4 := hidMk hr4; have HK4 := hidMk hk4; clear hr4 hk4))
        go_roundw
        case rel => exact ⟨t + 1, mvJ k s1 i1, a4, c4, by omega, by go_num, rfl, HR4.out, hidMk (mv_ok HV.out (by omega) HI2.out), hidMk (by
          have := rt_step HV.out (by omega) (by omega) (by omega) HRt.out HI2.out HI3.out
          rw [show T - (t + 1) = T - t - 1 by omega]
          exact this), (HS.out.tr HK3.out).tr HK4.out⟩
        case measure => simp [intOf]; omega
      · obtain ⟨r, hr⟩ : ∃ r, r = t % pl := ⟨_, rfl⟩
        have hrl : r < pl := by rw [hr]; exact Nat.mod_lt _ (by omega)
        obtain ⟨pb, po, epa, hpb, hpc⟩ := (HP4.out).resolve_left hp0
        have hu : us[r]? = some (us[r]'(by rw [HP1.out]; exact hrl)) := List.getElem?_eq_getElem _
        generalize us[r]'(by rw [HP1.out]; exact hrl) = u at hu
        obtain ⟨d1, u0, u1⟩ := hpc r u hu
        obtain ⟨p, hp⟩ : ∃ p, p = u.toNat % L := ⟨_, rfl⟩
        have hpl : p < L := by rw [hp]; exact Nat.mod_lt _ (by omega)
        obtain ⟨i1, e1, e2, e3⟩ := hpick p hpl
        have HI1 := hidMk e1
        have HI2 := hidMk e2
        have HI3 := hidMk e3
        have m2 : (t : Int) % (pl : Int) = (r : Int) := by rw [hr]; rfl
        have m1 : (t : Int).tmod (pl : Int) = (r : Int) := by rw [Int.tmod_eq_emod_of_nonneg (by omega)]; exact m2
        have m4 : u % (L : Int) = (p : Int) := by
          obtain ⟨un, rfl⟩ : ∃ un : Nat, u = (un : Int) := ⟨u.toNat, by omega⟩
          rw [hp]; simp
        have m3 : u.tmod (L : Int) = (p : Int) := by rw [Int.tmod_eq_emod_of_nonneg u0]; exact m4
        have m5 : IntKind.i64.wrap u = u := wrapJ ⟨by omega, by omega⟩
        have m6 : IntKind.i64.wrap (r : Int) = (r : Int) := wrapJ ⟨by omega, by omega⟩
        have m7 : IntKind.i64.wrap (p : Int) = (p : Int) := wrapJ ⟨by omega, by omega⟩
        have z1 : decide ((0 : Int) < (pl : Int)) = true := decide_eq_true (by omega)
        have z2 : decide (0 < pl) = true := decide_eq_true (by omega)
        have z3 : 0 < pl := by omega
        have z4 : ((pl : Int) == 0) = false := by rw [beq_eq_false_iff_ne]; omega
        have z5 : (pl == 0) = false := by rw [beq_eq_false_iff_ne]; omega
        have z6 : (r : Int) < (pl : Int) := by omega
        have z7 : (p : Int) < (L : Int) := by omega
        have HD := hidMk (HS.out.cell d1)
        clear hpick e1 e2 e3 hp0 hp HL hr hu hpc hpb d1
        subst epa
        go_wp2_with (first | (go_at_call 11; refine (HF.out).mono ?_; rintro e w3 ⟨a3, c3, rfl, hr3, hk3⟩; have HK3 := hidMk hk3; obtain ⟨y1, y2, y3, y4⟩ := hr3; obtain ⟨b3, o3, rfl, hb3, hc3⟩ : ∃ b off, a3 = some ⟨b, off, none⟩ ∧ b < w3.heap.size ∧ ∀ (j : Nat) (x : Int), (natsI (frL 5 s1 5))[j]? = some x → w3.cell? ⟨b, off + j, none⟩ = some (.int .i64 x) := (y4.resolve_left (by omega)); have d3 := hc3 p (i1 : Int) HI1.out;  clear y1 y3 y4 hb3 hc3; have y2' : (L : Int) ≤ (c3 : Int) := (by omega); have d1 := Stil.cell hk3 HD.out; clear hk3) | (go_at_call 14; refine (move_ok (HRo.out.still HK3.out) (by omega) (by omega) (by omega) (by omega) HV.out HI2.out HI3.out).mono ?_; rintro e w4 ⟨a4, c4, rfl, hr4, hk4⟩; have HR4 := hidMk hr4; have HK4 := hidMk hk4; clear hr4 hk4))
        go_roundw
        case rel => exact ⟨t + 1, mvJ k s1 i1, a4, c4, by omega, by go_num, rfl, HR4.out, hidMk (mv_ok HV.out (by omega) HI2.out), hidMk (by
          have := rt_step HV.out (by omega) (by omega) (by omega) HRt.out HI2.out HI3.out
          rw [show T - (t + 1) = T - t - 1 by omega]
          exact this), (HS.out.tr HK3.out).tr HK4.out⟩
        case measure => simp [intOf]; omega
    · obtain rfl : t = T := by omega
      have h1 : cnJ 5 s1 = 1 := rt_zero (k := k) (by omega) (by have := HRt.out; rw [Nat.sub_self] at this; exact this)
      have hF := free_ok HRo.out (by omega) (by omega) (by omega) (by omega) HV.out
      rw [frL_len, h1] at hF
      have HF := hidMk hF
      clear hF h1
      go_wp2_with (go_at_call 11; refine (HF.out).mono ?_; rintro e w3 ⟨a3, c3, rfl, hr3, hk3⟩; clear hr3)
      go_ret
      exact ⟨rfl, Stil.below (HS.out.tr hk3)⟩

set_option maxRecDepth 100000 in
set_option maxHeartbeats 8000000 in
theorem scomes_6 {W : World} {a pa : Option Addr} {c pl pc : Nat} {s : Nat → Int} {k : Int} {us : List Int} (h : RowI W a 6 c (rwJ 6 s)) (k2 : 6 ≤ k) (k12 : k ≤ 12) (hv : OkJ k 6 s) (hp : CameB W pa pl pc us) :
    Calls Try.prog 7 #[.int .i64 k, .slice a 6 c, .slice pa pl pc] W fun e W2 => e = .returned (.bool true) ∧ Below W.heap.size W W2 := by
  have HR : Hid (Calls Try.prog 16 #[.int .i64 k, .slice a 6 c] W fun e w2 => e = .returned (.bool true) ∧ w2 = W) := hidMk (by
    have := states_any h k
    rw [codeJ_ok (by omega) (by omega) (by omega) (by omega) hv] at this
    exact this)
  have hst : RtJ k 6 ((k.toNat + 1) * 16) s := rt_start hv (by omega) (by omega) k2
  obtain ⟨T, hT⟩ : ∃ T, T = (k.toNat + 1) * 16 := ⟨_, rfl⟩
  rw [← hT] at hst
  have HSt := hidMk hst
  have HV0 := hidMk hv
  have HW := hidMk h
  have hT2 : (T : Int) = (k + 1) * 16 := by omega
  have hTb : T ≤ 1000 := by omega
  have hw1 : IntKind.i64.wrap (k + 1) = k + 1 := wrapJ ⟨by omega, by omega⟩
  have hw2 : IntKind.i64.wrap ((k + 1) * 16) = (T : Int) := by rw [← hT2]; exact wrapJ ⟨by omega, by omega⟩
  obtain ⟨p1, p2, p3, p4⟩ := hp
  have p3' : (pl : Int) ≤ 9223372036854775807 := by unfold maxLen at p3; omega
  have HP4 := hidMk p4
  have HP1 := hidMk p1
  clear h hv hst hT hT2 p1 p2 p3 p4
  go_enter Try.func7, Try.ntmps7
  go_wp2_with (go_at_call 16; refine (HR.out).mono ?_; rintro e w2 ⟨rfl, hw⟩; obtain rfl := hw.symm)
  go_loopw [10, 11] (fun x u wr => ∃ (t : Nat) (s1 : Nat → Int) (aa : Option Addr) (ac : Nat), t ≤ T ∧ u = .int .i64 (t : Int) ∧ x = .slice aa 6 ac ∧ Hid (RowI wr aa 6 ac (rwJ 6 s1)) ∧ Hid (OkJ k 6 s1) ∧ Hid (RtJ k 6 (T - t) s1) ∧ Hid (Stil W wr)) (fun _ u _ => T - (intOf u).toNat)
  case atStart => exact ⟨0, s, a, c, Nat.zero_le _, rfl, rfl, HW, HV0, HSt, Keep.refl _ _⟩
  case round =>
    obtain ⟨t, s1, aa, ac, ht, rfl, rfl, HRo, HV, HRt, HS⟩ := hrel
    by_cases hlt : t < T
    · have hlt' : (t : Int) < (T : Int) := by omega
      have hF := free_ok HRo.out (by omega) (by omega) (by omega) (by omega) HV.out
      have hlen := frL_le 6 s1 6
      have hpos := cn_pos (n := 6) (by omega) s1
      rw [← frL_len] at hpos
      obtain ⟨L, hL⟩ : ∃ L, (frL 6 s1 6).length = L := ⟨_, rfl⟩
      rw [hL] at hF hlen hpos
      have HF := hidMk hF
      have g1 : ((L : Int) == 0) = false := by rw [beq_eq_false_iff_ne]; omega
      have g2 : (L == 0) = false := by rw [beq_eq_false_iff_ne]; omega
      have HL := hidMk hL
      clear hF hL
      have hpick : ∀ p, p < L → ∃ i1 : Nat, (natsI (frL 6 s1 6))[p]? = some (i1 : Int) ∧ i1 < 6 ∧ frJ 6 s1 i1 = true := fun p hp => by
        have hx : (natsI (frL 6 s1 6))[p]? = some ((natsI (frL 6 s1 6))[p]'(by rw [natsI_len, HL.out]; exact hp)) := List.getElem?_eq_getElem _
        obtain ⟨i1, e1, e2, e3⟩ := natsI_frL hx
        exact ⟨i1, by rw [hx, e1], e2, e3⟩
      by_cases hp0 : pl = 0
      · obtain ⟨p, hp⟩ : ∃ p, p = 0 := ⟨0, rfl⟩
        obtain ⟨i1, e1, e2, e3⟩ := hpick p (by omega)
        have HI1 := hidMk e1
        have HI2 := hidMk e2
        have HI3 := hidMk e3
        have z1 : decide ((0 : Int) < (pl : Int)) = false := decide_eq_false (by omega)
        have z2 : decide (0 < pl) = false := decide_eq_false (by omega)
        have z3 : ¬ 0 < pl := by omega
        have HPp := hidMk hp
        clear hpick e1 e2 e3 hp0 hp HL
        go_wp2_with (first | (go_at_call 11; refine (HF.out).mono ?_; rintro e w3 ⟨a3, c3, rfl, hr3, hk3⟩; have HK3 := hidMk hk3; obtain ⟨y1, y2, y3, y4⟩ := hr3; obtain ⟨b3, o3, rfl, hb3, hc3⟩ : ∃ b off, a3 = some ⟨b, off, none⟩ ∧ b < w3.heap.size ∧ ∀ (j : Nat) (x : Int), (natsI (frL 6 s1 6))[j]? = some x → w3.cell? ⟨b, off + j, none⟩ = some (.int .i64 x) := (y4.resolve_left (by omega)); have d3 := hc3 p (i1 : Int) HI1.out; rw [HPp.out, Nat.add_zero] at d3; clear y1 y3 y4 hb3 hc3; have y2' : (L : Int) ≤ (c3 : Int) := (by omega);  clear hk3) | (go_at_call 14; refine (move_ok (HRo.out.still HK3.out) (by omega) (by omega) (by omega) (by omega) HV.out HI2.out HI3.out).mono ?_; rintro e w4 ⟨a4, c4, rfl, hr4, hk4⟩; have HR4 := hidMk hr4; have HK4 := hidMk hk4; clear hr4 hk4))
        go_roundw
        case rel => exact ⟨t + 1, mvJ k s1 i1, a4, c4, by omega, by go_num, rfl, HR4.out, hidMk (mv_ok HV.out (by omega) HI2.out), hidMk (by
          have := rt_step HV.out (by omega) (by omega) (by omega) HRt.out HI2.out HI3.out
          rw [show T - (t + 1) = T - t - 1 by omega]
          exact this), (HS.out.tr HK3.out).tr HK4.out⟩
        case measure => simp [intOf]; omega
      · obtain ⟨r, hr⟩ : ∃ r, r = t % pl := ⟨_, rfl⟩
        have hrl : r < pl := by rw [hr]; exact Nat.mod_lt _ (by omega)
        obtain ⟨pb, po, epa, hpb, hpc⟩ := (HP4.out).resolve_left hp0
        have hu : us[r]? = some (us[r]'(by rw [HP1.out]; exact hrl)) := List.getElem?_eq_getElem _
        generalize us[r]'(by rw [HP1.out]; exact hrl) = u at hu
        obtain ⟨d1, u0, u1⟩ := hpc r u hu
        obtain ⟨p, hp⟩ : ∃ p, p = u.toNat % L := ⟨_, rfl⟩
        have hpl : p < L := by rw [hp]; exact Nat.mod_lt _ (by omega)
        obtain ⟨i1, e1, e2, e3⟩ := hpick p hpl
        have HI1 := hidMk e1
        have HI2 := hidMk e2
        have HI3 := hidMk e3
        have m2 : (t : Int) % (pl : Int) = (r : Int) := by rw [hr]; rfl
        have m1 : (t : Int).tmod (pl : Int) = (r : Int) := by rw [Int.tmod_eq_emod_of_nonneg (by omega)]; exact m2
        have m4 : u % (L : Int) = (p : Int) := by
          obtain ⟨un, rfl⟩ : ∃ un : Nat, u = (un : Int) := ⟨u.toNat, by omega⟩
          rw [hp]; simp
        have m3 : u.tmod (L : Int) = (p : Int) := by rw [Int.tmod_eq_emod_of_nonneg u0]; exact m4
        have m5 : IntKind.i64.wrap u = u := wrapJ ⟨by omega, by omega⟩
        have m6 : IntKind.i64.wrap (r : Int) = (r : Int) := wrapJ ⟨by omega, by omega⟩
        have m7 : IntKind.i64.wrap (p : Int) = (p : Int) := wrapJ ⟨by omega, by omega⟩
        have z1 : decide ((0 : Int) < (pl : Int)) = true := decide_eq_true (by omega)
        have z2 : decide (0 < pl) = true := decide_eq_true (by omega)
        have z3 : 0 < pl := by omega
        have z4 : ((pl : Int) == 0) = false := by rw [beq_eq_false_iff_ne]; omega
        have z5 : (pl == 0) = false := by rw [beq_eq_false_iff_ne]; omega
        have z6 : (r : Int) < (pl : Int) := by omega
        have z7 : (p : Int) < (L : Int) := by omega
        have HD := hidMk (HS.out.cell d1)
        clear hpick e1 e2 e3 hp0 hp HL hr hu hpc hpb d1
        subst epa
        go_wp2_with (first | (go_at_call 11; refine (HF.out).mono ?_; rintro e w3 ⟨a3, c3, rfl, hr3, hk3⟩; have HK3 := hidMk hk3; obtain ⟨y1, y2, y3, y4⟩ := hr3; obtain ⟨b3, o3, rfl, hb3, hc3⟩ : ∃ b off, a3 = some ⟨b, off, none⟩ ∧ b < w3.heap.size ∧ ∀ (j : Nat) (x : Int), (natsI (frL 6 s1 6))[j]? = some x → w3.cell? ⟨b, off + j, none⟩ = some (.int .i64 x) := (y4.resolve_left (by omega)); have d3 := hc3 p (i1 : Int) HI1.out;  clear y1 y3 y4 hb3 hc3; have y2' : (L : Int) ≤ (c3 : Int) := (by omega); have d1 := Stil.cell hk3 HD.out; clear hk3) | (go_at_call 14; refine (move_ok (HRo.out.still HK3.out) (by omega) (by omega) (by omega) (by omega) HV.out HI2.out HI3.out).mono ?_; rintro e w4 ⟨a4, c4, rfl, hr4, hk4⟩; have HR4 := hidMk hr4; have HK4 := hidMk hk4; clear hr4 hk4))
        go_roundw
        case rel => exact ⟨t + 1, mvJ k s1 i1, a4, c4, by omega, by go_num, rfl, HR4.out, hidMk (mv_ok HV.out (by omega) HI2.out), hidMk (by
          have := rt_step HV.out (by omega) (by omega) (by omega) HRt.out HI2.out HI3.out
          rw [show T - (t + 1) = T - t - 1 by omega]
          exact this), (HS.out.tr HK3.out).tr HK4.out⟩
        case measure => simp [intOf]; omega
    · obtain rfl : t = T := by omega
      have h1 : cnJ 6 s1 = 1 := rt_zero (k := k) (by omega) (by have := HRt.out; rw [Nat.sub_self] at this; exact this)
      have hF := free_ok HRo.out (by omega) (by omega) (by omega) (by omega) HV.out
      rw [frL_len, h1] at hF
      have HF := hidMk hF
      clear hF h1
      go_wp2_with (go_at_call 11; refine (HF.out).mono ?_; rintro e w3 ⟨a3, c3, rfl, hr3, hk3⟩; clear hr3)
      go_ret
      exact ⟨rfl, Stil.below (HS.out.tr hk3)⟩

theorem scomes_walk {W : World} {a pa : Option Addr} {n c pl pc : Nat} {zs us : List Int} (k : Int) (h : CameI W a n c zs) (hp : CameB W pa pl pc us) :
    Calls Try.prog 7 #[.int .i64 k, .slice a n c, .slice pa pl pc] W fun e W2 => e = .returned (.bool true) ∧ Below W.heap.size W W2 := by
  by_cases hz : codeJ k zs = 0
  · obtain ⟨s, _, h1, h2, h3, h4, h5, h6⟩ := stJ h hz
    by_cases ho : k < (n : Int) ∨ 12 < k
    · exact scomes_out h1 h2 h3 h4 h5 h6 ho
    · have e : n = 2 ∨ n = 3 ∨ n = 4 ∨ n = 5 ∨ n = 6 := by omega
      rcases e with rfl | rfl | rfl | rfl | rfl
      · exact scomes_2 h1 (by omega) (by omega) h6 hp
      · exact scomes_3 h1 (by omega) (by omega) h6 hp
      · exact scomes_4 h1 (by omega) (by omega) h6 hp
      · exact scomes_5 h1 (by omega) (by omega) h6 hp
      · exact scomes_6 h1 (by omega) (by omega) h6 hp
  · exact scomes_bad h hz
end Go.Proofs.Ytflmbhjighnicaa
