/- folkmootkeep.TotalAll, walked. -/
import Derived.Test.YtgidgdnldiahkaaTb1
import Derived.Test.YtgidgdnldiahkaaCb3
namespace Go.Proofs.Ytgidgdnldiahkaa
open Go.RowKit
set_option linter.unusedVariables false

theorem tat_push {n : Nat} (l : List Cst) (p : Cst) : tsAt n (l ++ [p]) (l.length + 1) = stepT n (tsAt n l l.length) p := by
  show (match (l ++ [p])[l.length]? with | some q => stepT n (tsAt n (l ++ [p]) l.length) q | none => tsAt n (l ++ [p]) l.length) = _
  rw [List.getElem?_append_right (Nat.le_refl _), Nat.sub_self]
  simp only [List.getElem?_cons_zero]
  rw [tat_same (l ++ [p]) l l.length (fun j hj => app_same l [p] j hj)]
/-- What is done so far, of what all do. -/
def TkDone (n many : Nat) (F : TS → Nat → Nat → Prop) (A : TS → Prop) (l : List Cst) (d p : Nat) : Prop :=
  (tsAt n l l.length).sent = many ∧ A (tsAt n l l.length) ∧ ∀ q m, q < n → m < many → (many ≤ m + d ∨ (m + d + 1 = many ∧ q < p)) → F (tsAt n l l.length) q m
variable {n many : Nat} {F : TS → Nat → Nat → Prop} {A : TS → Prop} {kd : Int}
/-- What one step of a kind does. -/
def TkStep (n many : Nat) (F : TS → Nat → Nat → Prop) (A : TS → Prop) (kd : Int) : Prop :=
  ∀ s : TS, All n s → s.sent = many → A s → ∀ p m : Nat, p < n → m < many → (stepT n s ⟨kd, p, m⟩).sent = many ∧ A (stepT n s ⟨kd, p, m⟩) ∧ F (stepT n s ⟨kd, p, m⟩) p m ∧ ∀ q x, F s q x → F (stepT n s ⟨kd, p, m⟩) q x
theorem tk_step (hn : n ≤ 1000) (hs : TkStep n many F A kd) {d p : Nat} {l : List Cst} (hd : d < many) (hp : p < n) (h : TkDone n many F A l d p) : TkDone n many F A (l ++ [⟨kd, (p : Int), ((many - 1 - d : Nat) : Int)⟩]) d (p + 1) := by
  obtain ⟨h1, h2, h3⟩ := h
  obtain ⟨s1, s2, s3, s4⟩ := hs _ (tat_all hn l l.length) h1 h2 p (many - 1 - d) hp (by omega)
  unfold TkDone
  rw [List.length_append, List.length_singleton, tat_push]
  refine ⟨s1, s2, fun q m hq hm hor => ?_⟩
  by_cases e : q = p ∧ m = many - 1 - d
  · rw [e.1, e.2]; exact s3
  · exact s4 q m (h3 q m hq hm (by omega))
theorem tk_rows (hn : n ≤ 1000) (hs : TkStep n many F A kd) (ps : List Cst) (h0 : (tsAt n ps ps.length).sent = many) (hA : A (tsAt n ps ps.length)) : ∀ d, d ≤ many → TkDone n many F A (scrC kd ps n many d 0) d 0
  | 0, _ => by
    rw [scrC_zero]
    exact ⟨h0, hA, fun q m hq hm hor => by omega⟩
  | d + 1, hd => by
    have ih := tk_rows hn hs ps h0 hA d (by omega)
    have key : ∀ p, p ≤ n → TkDone n many F A (scrC kd ps n many d p) d p := by
      intro p
      induction p with
      | zero => intro _; exact ih
      | succ p ihp =>
        intro hp
        rw [scrC_more]
        exact tk_step hn hs (by omega) (by omega) (ihp (by omega))
    have hk := key n (Nat.le_refl _)
    rw [scrC_row]
    exact ⟨hk.1, hk.2.1, fun q m hq hm hor => hk.2.2 q m hq hm (by omega)⟩
theorem tk_take (hn : n ≤ 1000) : TkStep n many (fun s q m => (s.ent q m).isSome = true) (fun _ => True) 2 := fun s hal hs _ p m hp hm => by
  obtain ⟨h1, h2⟩ := took2 hal hn hp (by omega : m < s.sent)
  exact ⟨h1.trans hs, trivial, h2, (gone_step hal hn _).got⟩
theorem tk_tell (hn : n ≤ 1000) : TkStep n many (fun s q m => toldB s q m = true) (fun s => ∀ q m, q < n → m < many → (s.ent q m).isSome = true) 3 := fun s hal hs hA p m hp hm => by
  obtain ⟨h1, h2⟩ := told3 hal hn hp (by omega : m < s.sent) (by
    unfold allB
    rw [List.all_eq_true]
    intro q hq
    exact hA q m (List.mem_range.1 hq) hm)
  have hg := gone_step hal hn ⟨3, (p : Int), (m : Int)⟩
  exact ⟨h1.trans hs, fun q x hq hx => hg.got q x (hA q x hq hx), h2, hg.told⟩
/-- The script: as it was, then all take all, then all are told of all. -/
def scrs (ps : List Cst) (n many : Nat) : Nat → List Cst
  | 0 => ps
  | q + 1 => scrC (2 + (q : Int)) (scrs ps n many q) n many many 0
theorem scrs_len (ps : List Cst) (n many : Nat) : ∀ q, (scrs ps n many q).length = ps.length + q * (many * n)
  | 0 => by simp [scrs]
  | q + 1 => by rw [scrs, scrC_len, scrs_len, Nat.add_mul, Nat.one_mul]; omega
theorem tk_all (hn : n ≤ 1000) (ps : List Cst) (h0 : (tsAt n ps ps.length).sent = many) {p : Nat} (hp : p < n) : ((tsAt n (scrs ps n many 2) (scrs ps n many 2).length).ls p).length = many := by
  have h1 := tk_rows hn (tk_take (many := many) hn) ps h0 trivial many (Nat.le_refl _)
  have h2 := tk_rows hn (tk_tell (many := many) hn) (scrC 2 ps n many many 0) h1.1 (fun q m hq hm => h1.2.2 q m hq hm (by omega)) many (Nat.le_refl _)
  have e : scrs ps n many 2 = scrC 3 (scrC 2 ps n many many 0) n many many 0 := rfl
  rw [e, told_all (tat_all hn _ _) hn (p := p) (fun m hm => h2.2.2 p m hp (by rw [h2.1] at hm; exact hm) (by rw [h2.1] at hm; omega))]
  exact h2.1

set_option maxRecDepth 100000 in
set_option maxHeartbeats 4000000 in
theorem all_bad {W : World} {pa : Option Addr} {pl pc : Nat} {z : Int} (hz : castCode z pl ≠ 0) (hpl : pl ≤ maxLen) :
    Calls Try.prog 5 #[.int .i64 z, .slice pa pl pc] W fun e W2 => e = .returned (.bool true) ∧ Below W.heap.size W W2 := by
  have HP := hidMk (play_badT (W := W) (pa := pa) (pc := pc) hz hpl)
  clear hz hpl
  go_enter Try.func5, Try.ntmps5
  go_wp2_with (go_at_call 8; refine (HP.out).mono ?_; rintro e w1 ⟨rfl, hk1⟩)
  go_ret
  exact ⟨rfl, Stil.below (hk1.alloc _)⟩

abbrev SegCs (w : World) (lo hi : Nat) (v : Value) (l : List Cst) : Prop := Seg w (fun g => lo ≤ g ∧ g ≠ hi) 39 3 v l.length (flatC l)

set_option maxRecDepth 100000 in
set_option maxHeartbeats 8000000 in
theorem all_ok {W : World} {pa : Option Addr} {n pl pc : Nat} {ps : List Cst} (hp : CameC W pa pl pc ps) (h0 : 0 < n) (h6 : n ≤ 6) (hpl : pl ≤ 120) :
    Calls Try.prog 5 #[.int .i64 (n : Int), .slice pa pl pc] W fun e W2 => e = .returned (.bool true) ∧ Below W.heap.size W W2 := by
  have HP := hidMk (play_seenT hp h0 h6 hpl)
  have hlp := hp.1
  have hs1 := sent_count (n := n) (by omega) ps pl (by omega)
  have HCm := hidMk hp
  have hpl' : (pl : Int) ≤ 120 := by omega
  have hSl : (sentTo ps (tcAt n ps) pl).length ≤ 120 := by have := sentTo_len ps (tcAt n ps) pl; omega
  have HSn := hidMk (fun (w1 : World) (C : Nat) (hw1 : Stil W w1) (hc : RowI w1 (some ⟨C, 0, none⟩) pl pl ((List.range pl).map (tcAt n ps))) => sent_any (hp.keep hw1 (fun _ _ e => e)) (by omega) hc)
  have HTk := hidMk (fun (p : Nat) (hpn : p < n) => tk_all (n := n) (many := (sentTo ps (tcAt n ps) pl).length) (by omega) ps (by rw [hlp]; exact hs1) hpn)
  obtain ⟨i0, hi, hz0, hz1, hz2⟩ := info_parts cInfoCast
  generalize hsn : (sentTo ps (tcAt n ps) pl).length = sl at *
  have hnm : n * sl ≤ 720 := Nat.mul_le_mul h6 hSl
  have enn : ((n * sl : Nat) : Int) = (n : Int) * (sl : Int) := Int.natCast_mul n sl
  have enn2 : (2 * (n : Int)) * (sl : Int) = 2 * ((n : Int) * (sl : Int)) := Int.mul_assoc _ _ _
  have hwr : IntKind.i64.wrap (2 * (n : Int)) = 2 * (n : Int) := wrap_of ⟨by omega, by omega⟩
  have hwr2 : IntKind.i64.wrap (2 * (n : Int) * (sl : Int)) = 2 * (n : Int) * (sl : Int) := wrap_of ⟨by omega, by omega⟩
  clear hp hs1
  go_enter Try.func5, Try.ntmps5
  go_wp2_with (fail)
  go_at_call 8
  refine (HP.out).mono ?_
  rintro e w1 ⟨⟨C, L, rfl, hS⟩, hk1⟩
  have HK2 : Hid (Stil W (w1.alloc (.cells #[.slice (some ⟨C, 0, none⟩) pl pl, .slice (some ⟨L, 0, none⟩) n n] 26))) := hk1.alloc _
  have HSe := hidMk (hS.still (Stil.new w1 (.cells #[.slice (some ⟨C, 0, none⟩) pl pl, .slice (some ⟨L, 0, none⟩) n n] 26)))
  clear hk1 hS HP
  go_wp2_with (fail)
  go_at_call 14
  refine (HSn.out _ C HK2.out HSe.out.codes).mono ?_
  rintro e w3 ⟨sa, scp, rfl, _, _, hk3⟩
  have HK3 := hidMk (HK2.out.tr hk3)
  clear hk3 HK2 HSe HSn hsn
  by_cases hbig : 120 < pl + 2 * (n * sl)
  · have hbig' : (120 : Int) < (pl : Int) + 2 * (n : Int) * (sl : Int) := by omega
    go_wp2
    go_ret
    exact ⟨rfl, Stil.below HK3.out⟩
  · have hbig' : (pl : Int) + 2 * (n : Int) * (sl : Int) ≤ 120 := by omega
    have hbig2 : decide (120 < (pl : Int) + 2 * (n : Int) * (sl : Int)) = false := decide_eq_false (by omega)
    have hw3 : W.heap.size ≤ w3.heap.size := HK3.out.size
    have HS0 : Hid (Seg (w3.alloc (.cells #[] 39)) (fun g => W.heap.size ≤ g) 39 3 (.slice (some ⟨w3.heap.size, 0, none⟩) 0 0) 0 []) :=
      ⟨by simp, .inr ⟨_, 0, 0, #[], rfl, hw3, al_new _ _, Nat.le_refl _, Nat.zero_le _, by simp, by simp⟩⟩
    have HP2 := hidMk (HCm.out.keep (HK3.out.alloc (.cells #[] 39)) (fun _ _ e => e))
    go_wp2_with (at_builtin; refine wpList_append_cast rfl _ _ rfl (fun g => W.heap.size ≤ g) w3.heap.size 0 0 0 [] rfl HS0.out pa pl pc ps rfl HP2.out (by omega) ?_)
    intro v4 w4 hs4 hg4
    have hs4b : Seg w4 (fun g => W.heap.size ≤ g ∧ g ≠ w4.heap.size) 39 3 v4 pl (flatC ps) := hs4.mono (fun g hg e => by
      rcases e with ⟨_, e⟩ | e
      · exact ⟨e, by omega⟩
      · refine ⟨?_, by omega⟩
        (try simp at e); omega)
    have HK4 : Hid (Stil W (w4.alloc (.cells #[.int .i64 2, .int .i64 3] 3))) := Stil.tr ((HK3.out.alloc _).grown hg4 (fun k e hk => by cases e; omega)) (Stil.new w4 _)
    have HS4 : Hid (SegCs (w4.alloc (.cells #[.int .i64 2, .int .i64 3] 3)) W.heap.size w4.heap.size v4 (scrs ps n sl 0)) := by
      have h1 := hs4b.keep (Stil.new w4 (.cells #[.int .i64 2, .int .i64 3] 3)) (fun _ _ _ e => e)
      show Seg _ _ _ 3 v4 _ _
      rw [scrs, hlp]
      simpa using h1
    have HKb : Hid ((w4.alloc (.cells #[.int .i64 2, .int .i64 3] 3)).heap[w4.heap.size]? = some (.cells #[.int .i64 2, .int .i64 3] 3 (0, 0))) := al_new _ _
    clear hs4 hs4b hg4 HS0 HP2 HK3
    have HLen : Hid (∀ q d p : Nat, q < 2 → d < sl → p ≤ n → (scrC (2 + (q : Int)) (scrs ps n sl q) n sl d p).length ≤ 2000) := fun q d p hq hd hp => by
      rw [scrC_len, scrs_len, hlp]
      have : d * n ≤ 120 * 6 := Nat.mul_le_mul (by omega) h6
      have h3 : q * (sl * n) ≤ 1 * (120 * 6) := Nat.mul_le_mul (by omega) (Nat.mul_le_mul hSl h6)
      omega
    have hlenAll : (scrs ps n sl 2).length ≤ 120 := by rw [scrs_len, hlp, Nat.mul_comm sl n]; omega
    obtain ⟨a4, c4, hv4⟩ := segForm HS4.out
    subst hv4
    go_wp2
    generalize w4.alloc (.cells #[.int .i64 2, .int .i64 3] 3) = wb at *
    generalize w4.heap.size = Kb at *
    go_loopw [8, 52] (fun v u wr => ∃ q : Nat, q ≤ 2 ∧ u = .int .i64 (q : Int) ∧ Hid (SegCs wr W.heap.size Kb v (scrs ps n sl q)) ∧ Hid (wr.heap[Kb]? = some (.cells #[.int .i64 2, .int .i64 3] 3 (0, 0))) ∧ Hid (Stil W wr)) (fun _ u _ => 2 - (intOf u).toNat)
    case atStart => exact ⟨0, by omega, rfl, HS4, HKb, HK4⟩
    case round =>
      obtain ⟨q, hq, rfl, HS5, HKb5, HK5⟩ := hrel
      by_cases hq2 : q < 2
      · have hq3 : (q : Int) < 2 := by omega
        have dk : wr.cell? ⟨Kb, q, none⟩ = some (.int .i64 (2 + (q : Int))) := by
          rw [cell_of_row _ _ _ _ _ _ HKb5.out]
          obtain e | e : q = 0 ∨ q = 1 := by omega
          all_goals subst e; rfl
        obtain ⟨a5, c5, hv5⟩ := segForm HS5.out
        generalize hsq : scrs ps n sl q = l5 at *
        have HSQ : Hid (scrs ps n sl (q + 1) = scrC (2 + (q : Int)) l5 n sl sl 0) := by show _ = _; rw [← hsq]; rfl
        have HLq := hidMk (fun d p => HLen.out q d p hq2)
        rw [hsq] at HLq
        clear hsq
        rw [← scrC_zero (2 + (q : Int)) l5 n sl] at HS5
        generalize hkd : 2 + (q : Int) = kd at *
        clear hkd
        generalize hww : wr = w5 at *
        clear hww hv5
        go_wp2
        go_loopw [8, 11] (fun v u wr => ∃ (d : Nat) (m : Int), d ≤ sl ∧ u = .int .i64 m ∧ Hid (m = (sl : Int) - 1 - (d : Int)) ∧ Hid (SegCs wr W.heap.size Kb v (scrC kd l5 n sl d 0)) ∧ Hid (wr.heap[Kb]? = some (.cells #[.int .i64 2, .int .i64 3] 3 (0, 0))) ∧ Hid (Stil W wr)) (fun _ u _ => ((intOf u) + 1).toNat)
        case atStart => exact ⟨0, _, Nat.zero_le _, rfl, by show _ = _; omega, HS5, HKb5, HK5⟩
        case round =>
          obtain ⟨d, m, hd, rfl, HM, HS6, HKb6, HK6⟩ := hrel
          by_cases hdl : d < sl
          · have hm0 : 0 ≤ m := by have := HM.out; omega
            have hm1 : m < 1000 := by have := HM.out; omega
            generalize hww : wr = w6 at *
            clear hww
            go_wp2
            go_loopw [8, 12] (fun v u wr => ∃ p : Nat, p ≤ n ∧ u = .int .i64 (p : Int) ∧ Hid (SegCs wr W.heap.size Kb v (scrC kd l5 n sl d p)) ∧ Hid (wr.heap[Kb]? = some (.cells #[.int .i64 2, .int .i64 3] 3 (0, 0))) ∧ Hid (Stil W wr)) (fun _ u _ => n - (intOf u).toNat)
            case atStart => exact ⟨0, Nat.zero_le _, rfl, HS6, HKb6, HK6⟩
            case round =>
              obtain ⟨p, hp2, rfl, HS7, HKb7, HK7⟩ := hrel
              by_cases hpl2 : p < n
              · have hpl3 : (p : Int) < (n : Int) := by omega
                obtain ⟨a6, c6, hv6⟩ := segForm HS7.out
                subst hv6
                have hsl := HLq.out d p hdl hp2
                have HM6 := hidMk (scrC_more kd l5 n sl d p)
                have hme : ((sl - 1 - d : Nat) : Int) = m := by have := HM.out; omega
                rw [hme] at HM6
                clear hme
                generalize hscr : scrC kd l5 n sl d p = l6 at *
                clear hscr
                go_wp2_with (at_builtin; refine wpList_append_seg _ rfl _ _ 22 rfl 39 i0 (.agg #[.int .i64 0, .int .i64 0, .int .i64 0]) 3 24 Try.underlying22 hi hz0 hz1 hz2 rfl (by decide) _ _ _ rfl (segAlloc HS7.out _) ⟨wr.heap.size, 0, none⟩ 1 1 (cellsC ⟨kd, (p : Int), m⟩) rfl rfl (cells_cast_at _ _ _ _ _ _ rfl) (castCells _ _ _) (by unfold maxLen; omega) (by omega) ?_)
                intro v7 w7 hs7 hg7
                have hKl := (Array.getElem?_eq_some_iff.1 HKb7.out).1
                have HS8 : Hid (SegCs w7 W.heap.size Kb v7 (scrC kd l5 n sl d (p + 1))) := by
                  have h1 := hs7.mono (ok2 := fun g => W.heap.size ≤ g ∧ g ≠ Kb) (fun g _ e => by
                    rcases e with ⟨_, e⟩ | e
                    · exact e
                    · have := HK7.out.size; (try simp at e); omega)
                  show Seg w7 _ _ 3 v7 _ _
                  rw [HM6.out, flatC_append, flatC_one, List.length_append]
                  exact h1
                have hkk : Keep (fun g => (Value.slice a6 l6.length c6).ownBlock = some g) wr w7 := ((Keep.refl (fun _ => False) wr).alloc _).mono (fun _ _ e => e.elim) |>.grown hg7 (fun q e hq => e)
                have HKb8 : Hid (w7.heap[Kb]? = some (.cells #[.int .i64 2, .int .i64 3] 3 (0, 0))) := (hkk.block Kb hKl (fun e => (HS7.out.block e).1.2 rfl)).trans HKb7.out
                have HK8 : Hid (Stil W w7) := (HK7.out.alloc _).grown hg7 (fun q e hq => by have := (HS7.out.block e).1.1; omega)
                clear hs7 hg7 HS7 HK7 hkk hKl HKb7
                go_wp2
                go_roundw
                case rel => exact ⟨p + 1, by omega, by go_num, HS8, HKb8, HK8⟩
                case measure => simp [intOf]; omega
              · obtain rfl : p = n := by omega
                have HS8 := HS7
                rw [← scrC_row] at HS8
                clear HS7
                go_wp2
                go_roundw
                case rel => exact ⟨d + 1, m - 1, by omega, by go_num, by have := HM.out; show _ = _; omega, HS8, HKb7, HK7⟩
                case measure => simp [intOf]; omega
          · obtain rfl : d = sl := by omega
            have hm0 : m < 0 := by have := HM.out; omega
            have hm0' : decide (0 ≤ m) = false := decide_eq_false (by omega)
            rw [← HSQ.out] at HS6
            go_wp2
            go_roundw
            case rel => exact ⟨q + 1, by omega, by go_num, HS6, HKb6, HK6⟩
            case measure => simp [intOf]; omega
      · obtain rfl : q = 2 := by omega
        obtain ⟨a5, c5, hv5, hca⟩ := segC_came HS5.out
        subst hv5
        have HPl := hidMk (play_seenT (n := n) hca h0 h6 hlenAll)
        have HND : Hid (∀ i j, i < n → j < n → (tsAt n (scrs ps n sl 2) (scrs ps n sl 2).length).ls i = (tsAt n (scrs ps n sl 2) (scrs ps n sl 2).length).ls j) := fun i j hi hj => by
          obtain ⟨g, hv⟩ := (tat_all (n := n) (by omega) (scrs ps n sl 2) (scrs ps n sl 2).length).inv
          have l1 := HTk.out i hi
          have l2 := HTk.out j hj
          rcases lists_pre hv (by omega) i j with ⟨r, e⟩ | ⟨r, e⟩
          · have := congrArg List.length e
            rw [List.length_append] at this
            have hr := List.eq_nil_of_length_eq_zero (show r.length = 0 by omega)
            rw [e, hr, List.append_nil]
          · have := congrArg List.length e
            rw [List.length_append] at this
            have hr := List.eq_nil_of_length_eq_zero (show r.length = 0 by omega)
            rw [e, hr, List.append_nil]
        generalize tsAt n (scrs ps n sl 2) (scrs ps n sl 2).length = S at *
        generalize tcAt n (scrs ps n sl 2) = cdd at *
        clear hca HS5
        generalize (scrs ps n sl 2).length = al at *
        go_wp2_with (fail)
        go_at_call 8
        refine (HPl.out).mono ?_
        rintro e w6 ⟨⟨C2, L2, rfl, hS6⟩, hk6⟩
        have HS7 := hidMk (hS6.still (Stil.new w6 (.cells #[.slice (some ⟨C2, 0, none⟩) al al, .slice (some ⟨L2, 0, none⟩) n n] 26)))
        have HK7 : Hid (Stil W (w6.alloc (.cells #[.slice (some ⟨C2, 0, none⟩) al al, .slice (some ⟨L2, 0, none⟩) n n] 26))) := (Stil.tr HK5.out hk6).alloc _
        have HB7 : Hid ((w6.alloc (.cells #[.slice (some ⟨C2, 0, none⟩) al al, .slice (some ⟨L2, 0, none⟩) n n] 26)).cell? ⟨w6.heap.size, 1, none⟩ = some (.slice (some ⟨L2, 0, none⟩) n n)) := by
          show _ = _
          rw [cell_of_row _ _ _ _ _ _ (al_new w6 _)]; rfl
        clear hS6 hk6 HPl HK5
        go_wp2
        generalize w6.alloc (.cells #[.slice (some ⟨C2, 0, none⟩) al al, .slice (some ⟨L2, 0, none⟩) n n] 26) = w7 at *
        generalize w6.heap.size = b7 at *
        go_loopw [93] (fun u wr => ∃ k q : Nat, k ≤ n ∧ u = .int .i64 (k : Int) ∧ wr = w7.drewN q) (fun u _ => n - (intOf u).toNat)
        case atStart => exact ⟨0, 0, Nat.zero_le _, rfl, rfl⟩
        case round =>
          obtain ⟨k, q, hk, rfl, hwr⟩ := hrel
          by_cases hlt : k < n
          · have hlt' : (k : Int) < (n : Int) := by omega
            obtain ⟨la, lc, e1, e2⟩ := (HS7.out.still (Stil.drewN w7 q)).lists k hlt
            obtain ⟨ma, mc, f1, f2⟩ := (HS7.out.still (Stil.drewN w7 q)).lists 0 h0
            have b7 := (Stil.drewN w7 q).cell HB7.out
            rw [← hwr] at e1 e2 f1 f2 b7
            have hll := HTk.out k hlt
            have hl0 := HTk.out 0 h0
            rw [hll] at e1 e2
            rw [hl0] at f1 f2
            rw [HND.out 0 k h0 hlt] at f2
            have HI := hidMk (intsI_same e2 f2 (by omega))
            have h0' : (0 : Int) < (n : Int) := by omega
            have HW := hidMk hwr
            clear e2 f2 hll hl0 hwr
            go_wp2_with (go_at_call 15; refine (HI.out).mono ?_; rintro e w8 ⟨rfl, q8, hw⟩; subst hw)
            go_roundw
            case rel => exact ⟨k + 1, q + q8, by omega, by go_num, by rw [HW.out, drewN_plus]⟩
            case measure => simp [intOf]; omega
          · obtain rfl : k = n := by omega
            go_wp2
            go_ret
            exact ⟨rfl, by first | exact Stil.below (by rw [hwr]; exact HK7.out.tr (Stil.drewN _ _)) | exact Stil.below (HK7.out.tr (Stil.drewN _ _))⟩

theorem all_walk {W : World} {z : Int} {pa : Option Addr} {pl pc : Nat} {ps : List Cst} (hp : CameC W pa pl pc ps) :
    Calls Try.prog 5 #[.int .i64 z, .slice pa pl pc] W fun e W2 => e = .returned (.bool true) ∧ Below W.heap.size W W2 := by
  by_cases hz : castCode z pl = 0
  · obtain ⟨n, rfl, h0, h6, h120⟩ := castCode_zero hz
    exact all_ok hp h0 h6 h120
  · exact all_bad hz hp.2.2.1
end Go.Proofs.Ytgidgdnldiahkaa
