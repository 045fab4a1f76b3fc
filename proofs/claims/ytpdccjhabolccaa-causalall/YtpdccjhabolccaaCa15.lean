/- folkmootkeep.CausalAll, walked. -/
import Derived.Test.YtpdccjhabolccaaCa11
import Derived.Test.YtpdccjhabolccaaCb3
namespace Go.Proofs.Ytpdccjhabolccaa
open Go.RowKit
set_option linter.unusedVariables false

theorem cat_push {n : Nat} (l : List Cst) (p : Cst) : csAt n (l ++ [p]) (l.length + 1) = stepC n (csAt n l l.length) p := by
  show (match (l ++ [p])[l.length]? with | some q => stepC n (csAt n (l ++ [p]) l.length) q | none => csAt n (l ++ [p]) l.length) = _
  rw [List.getElem?_append_right (Nat.le_refl _), Nat.sub_self]
  simp only [List.getElem?_cons_zero]
  rw [cat_same (l ++ [p]) l l.length (fun j hj => app_same l [p] j hj)]
/-- What has come, so far. -/
def TkDone (n many : Nat) (l : List Cst) (d p : Nat) : Prop :=
  (csAt n l l.length).msgs.length = many ∧ ∀ q m, q < n → m < many → (many ≤ m + d ∨ (m + d + 1 = many ∧ q < p)) → (csAt n l l.length).came q m ≠ 0
theorem tk_step {n many d p : Nat} {l : List Cst} (hd : d < many) (hp : p < n) (h : TkDone n many l d p) : TkDone n many (l ++ [⟨2, (p : Int), ((many - 1 - d : Nat) : Int)⟩]) d (p + 1) := by
  obtain ⟨h1, h2⟩ := h
  have hi := cat_inv (n := n) l l.length
  have ht := took (n := n) hi hp (m := many - 1 - d) (by omega)
  have hc := (cstep_any hi ⟨2, (p : Int), ((many - 1 - d : Nat) : Int)⟩).came
  unfold TkDone
  rw [List.length_append, List.length_singleton, cat_push]
  refine ⟨by rw [ht.1]; exact h1, fun q m hq hm hor => ?_⟩
  by_cases e : q = p ∧ m = many - 1 - d
  · rw [e.1, e.2]; exact ht.2
  · exact hc q m (h2 q m hq hm (by omega))
theorem tk_rows {n many : Nat} (ps : List Cst) (h0 : (csAt n ps ps.length).msgs.length = many) : ∀ d, d ≤ many → TkDone n many (scrC 2 ps n many d 0) d 0
  | 0, _ => by
    rw [scrC_zero]
    exact ⟨h0, fun q m hq hm hor => by omega⟩
  | d + 1, hd => by
    have ih := tk_rows ps h0 d (by omega)
    have key : ∀ p, p ≤ n → TkDone n many (scrC 2 ps n many d p) d p := by
      intro p
      induction p with
      | zero => intro _; exact ih
      | succ p ihp =>
        intro hp
        rw [scrC_more]
        exact tk_step (by omega) (by omega) (ihp (by omega))
    have hn := key n (Nat.le_refl _)
    rw [scrC_row]
    exact ⟨hn.1, fun q m hq hm hor => hn.2 q m hq hm (by omega)⟩
theorem tk_all {n many : Nat} (ps : List Cst) (h0 : (csAt n ps ps.length).msgs.length = many) {p : Nat} (hp : p < n) : ((csAt n (scrC 2 ps n many many 0) (scrC 2 ps n many many 0).length).ls p).length = many := by
  obtain ⟨h1, h2⟩ := tk_rows ps h0 many (Nat.le_refl _)
  have := all_heard (cat_inv (n := n) _ _) (cat_still (n := n) (scrC 2 ps n many many 0) (scrC 2 ps n many many 0).length) (p := p) (fun m hm => h2 p m hp (by omega) (by omega))
  rw [this, h1]

set_option maxRecDepth 100000 in
set_option maxHeartbeats 4000000 in
theorem all_bad {W : World} {pa : Option Addr} {pl pc : Nat} {z : Int} (hz : castCode z pl ≠ 0) (hpl : pl ≤ maxLen) :
    Calls Try.prog 6 #[.int .i64 z, .slice pa pl pc] W fun e W2 => e = .returned (.bool true) ∧ Below W.heap.size W W2 := by
  have HP := hidMk (play_badC (W := W) (pa := pa) (pc := pc) hz hpl)
  clear hz hpl
  go_enter Try.func6, Try.ntmps6
  go_wp2_with (go_at_call 12; refine (HP.out).mono ?_; rintro e w1 ⟨rfl, hk1⟩)
  go_ret
  exact ⟨rfl, Stil.below (hk1.alloc _)⟩

abbrev SegCs (w : World) (lo : Nat) (v : Value) (l : List Cst) : Prop := Seg w (fun g => lo ≤ g) 47 3 v l.length (flatC l)

set_option maxRecDepth 100000 in
set_option maxHeartbeats 8000000 in
theorem all_ok {W : World} {pa : Option Addr} {n pl pc : Nat} {ps : List Cst} (hp : CameC W pa pl pc ps) (h0 : 0 < n) (h6 : n ≤ 6) (hpl : pl ≤ 120) :
    Calls Try.prog 6 #[.int .i64 (n : Int), .slice pa pl pc] W fun e W2 => e = .returned (.bool true) ∧ Below W.heap.size W W2 := by
  have HP := hidMk (play_seenC hp h0 h6 hpl)
  have hlp := hp.1
  obtain ⟨hs1, _⟩ := sent_msgs (n := n) ps pl (by omega)
  have hml := cat_msgs_len (n := n) ps pl
  have HCm := hidMk hp
  have hpl' : (pl : Int) ≤ 120 := by omega
  have hSl : (sentTo ps (ccAt n ps) pl).length ≤ 120 := by omega
  have HSn := hidMk (fun (w1 : World) (C : Nat) (hw1 : Stil W w1) (hc : RowI w1 (some ⟨C, 0, none⟩) pl pl ((List.range pl).map (ccAt n ps))) => sent_any (hp.keep hw1 (fun _ _ e => e)) (by omega) hc)
  have HTk := hidMk (fun (p : Nat) (hpn : p < n) => tk_all (n := n) (many := (sentTo ps (ccAt n ps) pl).length) ps (by rw [hlp]; exact hs1) hpn)
  obtain ⟨i0, hi, hz0, hz1, hz2⟩ := info_parts cInfoCast
  generalize hsn : (sentTo ps (ccAt n ps) pl).length = sl at *
  have hnm : n * sl ≤ 720 := Nat.mul_le_mul h6 hSl
  have enn : ((n * sl : Nat) : Int) = (n : Int) * (sl : Int) := Int.natCast_mul n sl
  have hwr : IntKind.i64.wrap ((n : Int) * (sl : Int)) = (n : Int) * (sl : Int) := wrap_of ⟨by omega, by omega⟩
  clear hp hs1 hml
  go_enter Try.func6, Try.ntmps6
  go_wp2_with (fail)
  go_at_call 12
  refine (HP.out).mono ?_
  rintro e w1 ⟨⟨C, L, rfl, hS⟩, hk1⟩
  have HK2 : Hid (Stil W (w1.alloc (.cells #[.slice (some ⟨C, 0, none⟩) pl pl, .slice (some ⟨L, 0, none⟩) n n] 36))) := hk1.alloc _
  have HSe := hidMk (hS.still (Stil.new w1 (.cells #[.slice (some ⟨C, 0, none⟩) pl pl, .slice (some ⟨L, 0, none⟩) n n] 36)))
  clear hk1 hS HP
  go_wp2_with (fail)
  go_at_call 16
  refine (HSn.out _ C HK2.out HSe.out.codes).mono ?_
  rintro e w3 ⟨sa, scp, rfl, _, _, hk3⟩
  have HK3 := hidMk (HK2.out.tr hk3)
  clear hk3 HK2 HSe HSn hsn
  by_cases hbig : 120 < pl + n * sl
  · have hbig' : (120 : Int) < (pl : Int) + (n : Int) * (sl : Int) := by omega
    go_wp2
    go_ret
    exact ⟨rfl, Stil.below HK3.out⟩
  · have hbig' : (pl : Int) + (n : Int) * (sl : Int) ≤ 120 := by omega
    have hw3 : W.heap.size ≤ w3.heap.size := HK3.out.size
    have HS0 : Hid (Seg (w3.alloc (.cells #[] 47)) (fun g => W.heap.size ≤ g) 47 3 (.slice (some ⟨w3.heap.size, 0, none⟩) 0 0) 0 []) :=
      ⟨by simp, .inr ⟨_, 0, 0, #[], rfl, hw3, al_new _ _, Nat.le_refl _, Nat.zero_le _, by simp, by simp⟩⟩
    have HP2 := hidMk (HCm.out.keep (HK3.out.alloc (.cells #[] 47)) (fun _ _ e => e))
    go_wp2_with (at_builtin; refine wpList_append_cast rfl _ _ rfl (fun g => W.heap.size ≤ g) w3.heap.size 0 0 0 [] rfl HS0.out pa pl pc ps rfl HP2.out (by omega) ?_)
    intro v4 w4 hs4 hg4
    have HS4 : Hid (SegCs w4 W.heap.size v4 (scrC 2 ps n sl 0 0)) := by
      have h1 := hs4.mono (ok2 := fun g => W.heap.size ≤ g) (fun g _ e => by
        rcases e with ⟨_, e⟩ | e
        · exact e
        · (try simp at e); omega)
      show Seg w4 _ _ 3 v4 _ _
      rw [scrC_zero, hlp]
      simpa using h1
    have HK4 : Hid (Stil W w4) := (HK3.out.alloc _).grown hg4 (fun k e hk => by cases e; omega)
    clear hs4 hg4 HS0 HP2 HK3
    have hlenAll : (scrC 2 ps n sl sl 0).length ≤ 120 := by rw [scrC_len, hlp, Nat.mul_comm sl n]; omega
    have HLen : Hid (∀ d p, d < sl → p ≤ n → (scrC 2 ps n sl d p).length ≤ 1000) := fun d p hd hp => by
      rw [scrC_len, hlp]
      have : d * n ≤ 120 * 6 := Nat.mul_le_mul (by omega) h6
      omega
    obtain ⟨a4, c4, hv4⟩ := segForm HS4.out
    subst hv4
    go_wp2
    go_loopw [8, 9] (fun v u wr => ∃ (d : Nat) (m : Int), d ≤ sl ∧ u = .int .i64 m ∧ Hid (m = (sl : Int) - 1 - (d : Int)) ∧ Hid (SegCs wr W.heap.size v (scrC 2 ps n sl d 0)) ∧ Hid (Stil W wr)) (fun _ u _ => ((intOf u) + 1).toNat)
    case atStart => exact ⟨0, _, Nat.zero_le _, rfl, by show _ = _; omega, HS4, HK4⟩
    case round =>
      obtain ⟨d, m, hd, rfl, HM, HS5, HK5⟩ := hrel
      by_cases hdl : d < sl
      · have hm0 : 0 ≤ m := by have := HM.out; omega
        have hm1 : m < 1000 := by have := HM.out; omega
        obtain ⟨a5, c5, hv5⟩ := segForm HS5.out
        generalize hww : wr = w5 at *
        clear hww
        go_wp2
        go_loopw [8, 10] (fun v u wr => ∃ p : Nat, p ≤ n ∧ u = .int .i64 (p : Int) ∧ Hid (SegCs wr W.heap.size v (scrC 2 ps n sl d p)) ∧ Hid (Stil W wr)) (fun _ u _ => n - (intOf u).toNat)
        case atStart => exact ⟨0, Nat.zero_le _, rfl, HS5, HK5⟩
        case round =>
          obtain ⟨p, hp2, rfl, HS6, HK6⟩ := hrel
          by_cases hpl2 : p < n
          · have hpl3 : (p : Int) < (n : Int) := by omega
            obtain ⟨a6, c6, hv6⟩ := segForm HS6.out
            subst hv6
            have hsl := HLen.out d p hdl hp2
            have HM6 := hidMk (scrC_more 2 ps n sl d p)
            have hme : ((sl - 1 - d : Nat) : Int) = m := by have := HM.out; omega
            rw [hme] at HM6
            clear hme
            generalize hscr : scrC 2 ps n sl d p = l6 at *
            clear hscr
            go_wp2_with (at_builtin; refine wpList_append_seg _ rfl _ _ 34 rfl 47 i0 (.agg #[.int .i64 0, .int .i64 0, .int .i64 0]) 3 24 Try.underlying34 hi hz0 hz1 hz2 rfl (by decide) _ _ _ rfl (segAlloc HS6.out _) ⟨wr.heap.size, 0, none⟩ 1 1 (cellsC ⟨2, (p : Int), m⟩) rfl rfl (cells_cast_at _ _ _ _ _ _ rfl) (castCells _ _ _) (by unfold maxLen; omega) (by omega) ?_)
            intro v7 w7 hs7 hg7
            have HS7 : Hid (SegCs w7 W.heap.size v7 (scrC 2 ps n sl d (p + 1))) := by
              have h1 := hs7.mono (ok2 := fun g => W.heap.size ≤ g) (fun g _ e => by
                rcases e with ⟨_, e⟩ | e
                · exact e
                · have := HK6.out.size; (try simp at e); omega)
              show Seg w7 _ _ 3 v7 _ _
              rw [HM6.out, flatC_append, flatC_one, List.length_append]
              exact h1
            have HK7 : Hid (Stil W w7) := (HK6.out.alloc _).grown hg7 (fun q e hq => by have := (HS6.out.block e).1; omega)
            clear hs7 hg7 HS6 HK6
            go_wp2
            go_roundw
            case rel => exact ⟨p + 1, by omega, by go_num, HS7, HK7⟩
            case measure => simp [intOf]; omega
          · obtain rfl : p = n := by omega
            have HS7 := HS6
            rw [← scrC_row] at HS7
            clear HS6
            go_wp2
            go_roundw
            case rel => exact ⟨d + 1, m - 1, by omega, by go_num, by have := HM.out; show _ = _; omega, HS7, HK6⟩
            case measure => simp [intOf]; omega
      · obtain rfl : d = sl := by omega
        have hm0 : m < 0 := by have := HM.out; omega
        have hm0' : decide (0 ≤ m) = false := decide_eq_false (by omega)
        obtain ⟨a5, c5, hv5, hca⟩ := segC_came HS5.out
        subst hv5
        have HPl := hidMk (play_seenC (n := n) hca h0 h6 hlenAll)
        have HI := hidMk (cat_inv (n := n) (scrC 2 ps n d d 0) (scrC 2 ps n d d 0).length)
        generalize csAt n (scrC 2 ps n d d 0) (scrC 2 ps n d d 0).length = S at *
        generalize ccAt n (scrC 2 ps n d d 0) = cdd at *
        clear hca HS5
        generalize (scrC 2 ps n d d 0).length = al at *
        go_wp2_with (fail)
        go_at_call 12
        refine (HPl.out).mono ?_
        rintro e w6 ⟨⟨C2, L2, rfl, hS6⟩, hk6⟩
        have HS7 := hidMk (hS6.still (Stil.new w6 (.cells #[.slice (some ⟨C2, 0, none⟩) al al, .slice (some ⟨L2, 0, none⟩) n n] 36)))
        have HK7 : Hid (Stil W (w6.alloc (.cells #[.slice (some ⟨C2, 0, none⟩) al al, .slice (some ⟨L2, 0, none⟩) n n] 36))) := (HK5.out.tr hk6).alloc _
        clear hS6 hk6 HPl HK5
        go_wp2
        generalize w6.alloc (.cells #[.slice (some ⟨C2, 0, none⟩) al al, .slice (some ⟨L2, 0, none⟩) n n] 36) = w7 at *
        go_loop [82] (fun u => ∃ k : Nat, k ≤ n ∧ u = .int .i64 (k : Int)) (fun u => n - (intOf u).toNat)
        case atStart => exact ⟨0, Nat.zero_le _, rfl⟩
        case round =>
          obtain ⟨k, hk, rfl⟩ := hrel
          by_cases hlt : k < n
          · have hlt' : (k : Int) < (n : Int) := by omega
            obtain ⟨la, lc, e1, e2⟩ := HS7.out.lists k hlt
            have hll := HTk.out k hlt
            rw [hll] at e1 e2
            have HO := hidMk (once_true e2 (by omega) (natsI_nodup (HI.out.i3 k)))
            clear e2 hll
            go_wp2_with (go_at_call 17; refine (HO.out).mono ?_; rintro e w' ⟨rfl, hw⟩; obtain rfl := hw.symm)
            go_round
            case rel => exact ⟨k + 1, by omega, by go_num⟩
            case measure => simp [intOf]; omega
          · obtain rfl : k = n := by omega
            go_wp2
            go_ret
            exact ⟨rfl, Stil.below HK7.out⟩

theorem all_walk {W : World} {z : Int} {pa : Option Addr} {pl pc : Nat} {ps : List Cst} (hp : CameC W pa pl pc ps) :
    Calls Try.prog 6 #[.int .i64 z, .slice pa pl pc] W fun e W2 => e = .returned (.bool true) ∧ Below W.heap.size W W2 := by
  by_cases hz : castCode z pl = 0
  · obtain ⟨n, rfl, h0, h6, h120⟩ := castCode_zero hz
    exact all_ok hp h0 h6 h120
  · exact all_bad hz hp.2.2.1
end Go.Proofs.Ytpdccjhabolccaa
