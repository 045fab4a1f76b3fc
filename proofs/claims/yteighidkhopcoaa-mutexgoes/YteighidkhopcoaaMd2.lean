/- folkmootkeep.MutexGoes, walked. -/
import Derived.Test.YteighidkhopcoaaMb4
import Derived.Test.YteighidkhopcoaaMb5
namespace Go.Proofs.Yteighidkhopcoaa
open Go.RowKit
set_option linter.unusedVariables false

abbrev SegMs (w : World) (lo : Nat) (v : Value) (l : List Cst) : Prop := Seg w (fun g => lo ≤ g) 38 3 v l.length (flatC l)
def sliceLen : Value → Nat
  | .slice _ n _ => n
  | _ => 0
set_option maxRecDepth 100000 in
set_option maxHeartbeats 4000000 in
theorem goes_bad {W : World} {pa : Option Addr} {pl pc : Nat} {z : Int} (hz : z < 1 ∨ 4 < z ∨ 40 < pl) (hpl : pl ≤ maxLen) :
    Calls Try.prog 5 #[.int .i64 z, .slice pa pl pc] W fun e W2 => e = .returned (.bool true) ∧ Below W.heap.size W W2 := by
  have h9 : maxLen ≤ 9223372036854775807 := by decide
  have hpl' : (pl : Int) ≤ 9223372036854775807 := by omega
  clear h9
  by_cases hb : z < 1
  · have q1 : decide (z < 1) = true := decide_eq_true hb
    clear hz hpl
    go_enter Try.func5, Try.ntmps5
    go_wp2
    go_ret
    exact ⟨rfl, Stil.below (Keep.refl _ W)⟩
  by_cases hb2 : 4 < z
  · have q1 : decide (z < 1) = false := decide_eq_false hb
    have q2 : decide (4 < z) = true := decide_eq_true hb2
    clear hz hpl
    go_enter Try.func5, Try.ntmps5
    go_wp2
    go_ret
    exact ⟨rfl, Stil.below (Keep.refl _ W)⟩
  · have q1 : decide (z < 1) = false := decide_eq_false hb
    have q2 : decide (4 < z) = false := decide_eq_false hb2
    have q3 : decide (40 < (pl : Int)) = true := decide_eq_true (by omega)
    clear hz hpl
    go_enter Try.func5, Try.ntmps5
    go_wp2
    go_ret
    exact ⟨rfl, Stil.below (Keep.refl _ W)⟩

set_option maxRecDepth 100000 in
set_option maxHeartbeats 16000000 in
theorem goes_ok {W : World} {pa : Option Addr} {n pl pc : Nat} {ps : List Cst} (hp : CameC W pa pl pc ps) (h0 : 0 < n) (h4 : n ≤ 4) (hpl : pl ≤ 40) :
    Calls Try.prog 5 #[.int .i64 (n : Int), .slice pa pl pc] W fun e W2 => e = .returned (.bool true) ∧ Below W.heap.size W W2 := by
  have h6 : n ≤ 6 := by omega
  have q1 : decide ((n : Int) < 1) = false := decide_eq_false (by omega)
  have q2 : decide (4 < (n : Int)) = false := decide_eq_false (by omega)
  have q3 : decide (40 < (pl : Int)) = false := decide_eq_false (by omega)
  have hlp := hp.1
  obtain ⟨i0, hi, hz0, hz1, hz2⟩ := info_parts cInfoMove
  have HCm0 := hidMk hp
  have hnn : n * n ≤ 16 := Nat.mul_le_mul h4 h4
  have enn : ((n * n : Nat) : Int) = (n : Int) * (n : Int) := Int.natCast_mul n n
  have HNN := hidMk (rfl : n * n = n * n)
  have hw1 : IntKind.i64.wrap ((n : Int) * (n : Int)) = ((n * n : Nat) : Int) := by rw [enn]; exact wrap_of ⟨by omega, by omega⟩
  have HSub : Hid (∀ i, i < n → (n - i) * n = (n - (i + 1)) * n + n) := fun i hi => by rw [show n - i = (n - (i + 1)) + 1 by omega, Nat.succ_mul]
  clear hp enn
  generalize hnv : n * n = nn at *
  have HSub0 : Hid ((n - 0) * n = nn) := by show _ = _; rw [Nat.sub_zero]; exact hnv
  clear hnv
  have HS0 : Hid (Seg (W.alloc (.cells #[] 38)) (fun g => W.heap.size ≤ g) 38 3 (.slice (some ⟨W.heap.size, 0, none⟩) 0 0) 0 []) :=
    ⟨by simp, .inr ⟨_, 0, 0, #[], rfl, Nat.le_refl _, al_new _ _, Nat.le_refl _, Nat.zero_le _, by simp, by simp⟩⟩
  have HP2 := hidMk (HCm0.out.keep ((Keep.refl (fun _ => False) W).alloc (.cells #[] 38)) (fun _ _ e => e))
  go_enter Try.func5, Try.ntmps5
  go_wp2_with (at_builtin; refine wpList_append_cast rfl _ _ rfl (fun g => W.heap.size ≤ g) W.heap.size 0 0 0 [] rfl HS0.out pa pl pc ps rfl HP2.out (by omega) ?_)
  intro v4 w4 hs4 hg4
  have HS4 : Hid (SegMs w4 W.heap.size v4 ps) := by
    have h1 := hs4.mono (ok2 := fun g => W.heap.size ≤ g) (fun g hg e => by
      rcases e with ⟨_, e⟩ | e
      · exact e
      · (try simp at e); omega)
    show Seg _ _ _ 3 v4 _ _
    rw [hlp]
    simpa using h1
  have HKw4 : Hid (Stil W w4) := ((Stil.new W _).grown hg4 (fun k e hk => by cases e; omega))
  have HLp := hidMk hlp
  clear hs4 hg4 HS0 HP2 q1 q2 q3 hlp
  obtain ⟨a4, c4, hv4⟩ := segForm HS4.out
  subst hv4
  go_wp2_with (fail)
  go_loopw [5, 6] (fun v u wr => ∃ (ls : List Cst) (t : Nat), u = .int .i64 (t : Int) ∧ t ≤ ls.length ∧ Hid (ls.length ≤ 120) ∧ Hid (SegMs wr W.heap.size v ls) ∧ Hid (Stil W wr) ∧ Hid (n = 1 → ls.length ≤ 40)) (fun v _ _ => 121 - sliceLen v)
  case atStart => exact ⟨ps, 0, rfl, Nat.zero_le _, by have := HLp.out; show _ ≤ _; omega, HS4, HKw4, fun _ => by have := HLp.out; omega⟩
  case round =>
    obtain ⟨ls, t, rfl, ht, HLn, HS5, HKw, HN1⟩ := hrel
    obtain ⟨a5, c5, hv5⟩ := segForm HS5.out
    subst hv5
    have hl120 := HLn.out
    have htl : t ≤ 120 := by omega
    by_cases hbig : ls.length + nn ≤ 120
    · have hbig' : (ls.length : Int) + (nn : Int) ≤ 120 := by omega
      generalize hL0 : ls.length = L0 at *
      have HL0 := hidMk hL0
      have hme0 : sliceLen (.slice a5 L0 c5) = L0 := rfl
      clear hL0
      generalize hww : wr = w5 at *
      clear hww
      have HRel0 : Hid (SegMs w5 W.heap.size (.slice a5 L0 c5) ls) := HS5
      clear HS5
      go_wp2_with (fail)
      go_loopw [5, 7] (fun v u wr => ∃ (i : Nat) (l2 : List Cst), i ≤ n ∧ u = .int .i64 (i : Int) ∧ Hid (SegMs wr W.heap.size v l2) ∧ Hid (l2.length + (n - i) * n ≤ 120) ∧ Hid (2 ≤ n → L0 + i ≤ l2.length) ∧ Hid (n = 1 → l2 = ls) ∧ Hid (Stil W wr)) (fun _ u _ => n - (intOf u).toNat)
      case atStart => exact ⟨0, ls, Nat.zero_le _, rfl, HRel0, by show _ ≤ _; rw [HSub0.out, HL0.out]; exact hbig, fun _ => by rw [HL0.out]; exact Nat.le_refl _, fun _ => rfl, HKw⟩
      case round =>
        obtain ⟨i, l2, hin, rfl, HSa, HUp, HLo, HE1, HKa⟩ := hrel
        by_cases hilt : i < n
        · have hilt' : (i : Int) < (n : Int) := by omega
          have hsub := HSub.out i hilt
          have HUp2 : Hid (l2.length + n + (n - (i + 1)) * n ≤ 120) := by have := HUp.out; show _ ≤ _; omega
          generalize hww : wr = w6 at *
          clear hww hsub
          go_wp2_with (fail)
          go_loopw [5, 8] (fun v u wr => ∃ (j : Nat) (l3 : List Cst), j ≤ n ∧ u = .int .i64 (j : Int) ∧ Hid (SegMs wr W.heap.size v l3) ∧ l3.length ≤ l2.length + j ∧ Hid (l2.length + j ≤ l3.length + (if i < j then 1 else 0)) ∧ Hid (n = 1 → l3 = ls) ∧ Hid (Stil W wr)) (fun _ u _ => n - (intOf u).toNat)
          case atStart => exact ⟨0, l2, Nat.zero_le _, rfl, HSa, Nat.le_refl _, by show _ ≤ _; rw [if_neg (by omega)]; exact Nat.le_refl _, HE1, HKa⟩
          case round =>
            obtain ⟨j, l3, hjn, rfl, HSb, hup3, HLo3, HE3, HKb⟩ := hrel
            by_cases hjlt : j < n
            · have hjlt' : (j : Int) < (n : Int) := by omega
              have hl3 : l3.length ≤ 200 := by have := HUp2.out; omega
              obtain ⟨a6, c6, hv6⟩ := segForm HSb.out
              subst hv6
              by_cases hij : i = j
              · subst hij
                have HLo4 : Hid (l2.length + (i + 1) ≤ l3.length + (if i < i + 1 then 1 else 0)) := by
                  have := HLo3.out
                  rw [if_neg (by omega)] at this
                  show _ ≤ _
                  rw [if_pos (by omega)]; omega
                go_wp2
                go_roundw
                case rel => exact ⟨i + 1, l3, by omega, by go_num, HSb, by omega, HLo4, HE3, HKb⟩
                case measure => simp [intOf]; omega
              · have hij' : ((i : Int) != (j : Int)) = true := by simp; omega
                have HN2 : Hid (n ≠ 1) := fun e => by omega
                have HLo4 : Hid (l2.length + (j + 1) ≤ (l3.length + 1) + (if i < j + 1 then 1 else 0)) := by
                  have := HLo3.out
                  show _ ≤ _
                  split at this
                  · rw [if_pos (by omega)]; omega
                  · omega
                clear hij
                go_wp2_with (at_builtin; refine wpList_append_seg _ rfl _ _ 22 rfl 38 i0 (.agg #[.int .i64 0, .int .i64 0, .int .i64 0]) 3 24 Try.underlying22 hi hz0 hz1 hz2 rfl (by decide) _ _ _ rfl (segAlloc HSb.out _) ⟨wr.heap.size, 0, none⟩ 1 1 (cellsC ⟨2, (i : Int), (j : Int)⟩) rfl rfl (cells_cast_at _ _ _ _ _ _ rfl) (castCells _ _ _) (by unfold maxLen; omega) (by omega) ?_)
                intro v7 w7 hs7 hg7
                have HSc : Hid (SegMs w7 W.heap.size v7 (l3 ++ [⟨2, (i : Int), (j : Int)⟩])) := by
                  have h1 := hs7.mono (ok2 := fun g => W.heap.size ≤ g) (fun g _ e => by
                    rcases e with ⟨_, e⟩ | e
                    · exact e
                    · have := HKb.out.size; (try simp at e); omega)
                  show Seg w7 _ _ 3 v7 _ _
                  rw [flatC_append, flatC_one, List.length_append]
                  exact h1
                have HKc : Hid (Stil W w7) := (HKb.out.alloc _).grown hg7 (fun q e hq => by have := (HSb.out.block e).1; omega)
                obtain ⟨a7, c7, hv7⟩ := segForm HSc.out
                subst hv7
                clear hs7 hg7 HSb HKb
                go_wp2
                go_roundw
                case rel => exact ⟨j + 1, l3 ++ [⟨2, (i : Int), (j : Int)⟩], by omega, by go_num, HSc, by rw [List.length_append, List.length_singleton]; omega, hidMk (by rw [List.length_append, List.length_singleton]; exact HLo4.out), fun e => absurd e HN2.out, HKc⟩
                case measure => simp [intOf]; omega
            · obtain rfl : j = n := by omega
              have HUp4 : Hid (l3.length + (j - (i + 1)) * j ≤ 120) := by have := HUp2.out; show _ ≤ _; omega
              have HLo5 : Hid (2 ≤ j → L0 + (i + 1) ≤ l3.length) := fun h2 => by
                have h7 := HLo3.out
                have h8 := HLo.out h2
                rw [if_pos hilt] at h7
                omega
              clear HLo3 HUp2
              go_wp2
              go_roundw
              case rel => exact ⟨i + 1, l3, by omega, by go_num, HSb, HUp4, HLo5, HE3, HKb⟩
              case measure => simp [intOf]; omega
        · obtain rfl : i = n := by omega
          have hup : l2.length ≤ 120 := by have := HUp.out; omega
          obtain ⟨a8, c8, hv8⟩ := segForm HSa.out
          subst hv8
          by_cases hn1 : i = 1
          · have hn1' : ((i : Int) == 1) = true := by rw [beq_iff_eq]; omega
            have e2 := HE1.out hn1
            subst e2
            have HLn9 : Hid (l2.length ≤ 120) := hup
            have HS5 := HSa
            have HKw := HKa
            clear HSa HKa HRel0 HE1 HLo HUp hn1
            go_wp2_with (fail)
            obtain ⟨xa, xc, hxv, hcm⟩ := segC_came HS5.out
            rw [hxv]
            have HSg := HS5
            clear HS5
            have HP := hidMk (play_seenM hcm (by omega) (by omega) HLn9.out)
            have HCm := hidMk hcm
            have hgp := goes_plain (n := i) (by omega) l2
            have hia := fun iw hiw => inside_asks (n := i) (by omega) l2 (i := iw) hiw
            have HGp := hidMk hgp
            have HIa := hidMk hia
            have hfew : (insideM i (msAt i l2 l2.length)).length ≤ 1 := inside_few (mb_at (n := i) (by omega) l2 l2.length).inv
            have HCd : Hid (∀ (w9 : World) (C : Nat), Stil wr w9 → RowI w9 (some ⟨C, 0, none⟩) l2.length l2.length ((List.range l2.length).map (mcAt i l2)) → Calls Try.prog 13 #[.slice xa l2.length xc, .slice (some ⟨C, 0, none⟩) l2.length l2.length] w9 fun e w2 => ∃ a c, e = .returned (.slice a (askTo l2 (mcAt i l2) l2.length).length c) ∧ RowI w2 a (askTo l2 (mcAt i l2) l2.length).length c (askTo l2 (mcAt i l2) l2.length) ∧ Stil w9 w2) := fun w9 C h9 hc => asking_any (HCm.out.keep h9 (fun _ _ e => e)) (by have := HLn9.out; omega) hc
            have hal := askTo_len l2 (mcAt i l2) l2.length
            have hln := HLn9.out
            clear hgp hia hcm hxv
            generalize hS : msAt i l2 l2.length = S at *
            generalize hfl : (insideM i S).length = fl at *
            generalize haw : awayM i S = aw at *
            generalize hil : S.ins.length = il at *
            generalize hA : askTo l2 (mcAt i l2) l2.length = A at *
            generalize hall : A.length = al at *
            have HFl := hidMk hfl
            have HAl := hidMk hall
            clear hS hfl haw hil hA hall
            go_wp2_with (fail)
            go_at_call 7
            refine (HP.out).mono ?_
            rintro e w1 ⟨⟨C, va, vc, ia, ic, rfl, hS1⟩, hk1⟩
            try rw [HFl.out]
            have HK1 : Hid (Stil wr (w1.alloc (.cells #[.slice (some ⟨C, 0, none⟩) l2.length l2.length, .slice va il vc, .slice ia fl ic, .int .i64 (aw : Int)] 26))) := hidMk (hk1.alloc _)
            have HS1 := hidMk (hS1.still (Stil.new w1 (.cells #[.slice (some ⟨C, 0, none⟩) l2.length l2.length, .slice va il vc, .slice ia fl ic, .int .i64 (aw : Int)] 26)))
            have a0 : (w1.alloc (.cells #[.slice (some ⟨C, 0, none⟩) l2.length l2.length, .slice va il vc, .slice ia fl ic, .int .i64 (aw : Int)] 26)).cell? ⟨w1.heap.size, 0, none⟩ = some (.slice (some ⟨C, 0, none⟩) l2.length l2.length) := by rw [cell_of_row _ _ _ _ _ _ (al_new _ _)]; rfl
            have a2 : (w1.alloc (.cells #[.slice (some ⟨C, 0, none⟩) l2.length l2.length, .slice va il vc, .slice ia fl ic, .int .i64 (aw : Int)] 26)).cell? ⟨w1.heap.size, 2, none⟩ = some (.slice ia fl ic) := by rw [cell_of_row _ _ _ _ _ _ (al_new _ _)]; rfl
            have a3 : (w1.alloc (.cells #[.slice (some ⟨C, 0, none⟩) l2.length l2.length, .slice va il vc, .slice ia fl ic, .int .i64 (aw : Int)] 26)).cell? ⟨w1.heap.size, 3, none⟩ = some (.int .i64 (aw : Int)) := by rw [cell_of_row _ _ _ _ _ _ (al_new _ _)]; rfl
            clear hk1 hS1 HP
            go_wp2_with (fail)
            go_at_call 13
            refine (HCd.out _ C HK1.out HS1.out.codes).mono ?_
            rintro e w2 ⟨la, lc, rfl, hrow, hk2⟩
            have HRow := hidMk hrow
            have HK2 := hidMk (HK1.out.tr hk2)
            have b2 := hk2.cell a2
            have b3 := hk2.cell a3
            have HIn := hidMk (HS1.out.inside.still hk2)
            rw [HFl.out] at HIn
            clear hrow hk2 a0 a2 a3 HK1 HS1 HCd
            generalize w1.heap.size = Lb at *
            go_wp2_with (fail)
            go_loopw [81] (fun u wz => ∃ k : Nat, k ≤ fl ∧ u = .int .i64 (k : Int) ∧ Hid (Stil w2 wz)) (fun u _ => fl - (intOf u).toNat)
            case atStart => exact ⟨0, Nat.zero_le _, rfl, Keep.refl _ _⟩
            case round =>
              obtain ⟨k, hk, rfl, HKz⟩ := hrel
              by_cases hlt : k < fl
              · have hlt' : (k : Int) < (fl : Int) := by omega
                obtain ⟨t1, t2, _, t4⟩ := HIn.out.still HKz.out
                rcases t4 with t4 | ⟨gi, oi, rfl, _, t5⟩
                · omega
                have hx : (insideM i S)[k]? = some ((insideM i S)[k]'(by rw [HFl.out]; exact hlt)) := List.getElem?_eq_getElem _
                generalize (insideM i S)[k]'(by rw [HFl.out]; exact hlt) = x at hx
                have x3 := t5 k (x : Int) (natsI_at hx)
                have hpos := posI_ge (HIa.out x (List.mem_of_getElem? hx))
                have hpos2 : decide (posI A (x : Int) < 0) = false := decide_eq_false (by omega)
                have HPo := hidMk (position_any (HRow.out.still HKz.out) (by omega) (x : Int))
                clear t1 t5 hx
                generalize posI A (x : Int) = px at *
                go_wp2_with (go_at_call 14; refine (HPo.out).mono ?_; rintro e w' ⟨rfl, hw⟩; obtain rfl := hw.symm)
                go_roundw
                case rel => exact ⟨k + 1, by omega, by go_num, HKz⟩
                case measure => simp [intOf]; omega
              · obtain rfl : k = fl := by omega
                have c2 := HKz.out.cell b2
                have c3 := HKz.out.cell b3
                have HKf := hidMk (HKw.out.tr (HK2.out.tr HKz.out))
                by_cases ea : aw = 0
                · by_cases el : al = 0
                  · subst ea
                    subst el
                    go_wp2
                    go_ret
                    exact ⟨rfl, Stil.below HKf.out⟩
                  · have hf1 := HGp.out ea (fun e => el (by rw [← HAl.out, e]; rfl))
                    subst ea
                    have hf1' : k = 1 := by omega
                    subst hf1'
                    have el' : ((al : Int) == 0) = false := by rw [beq_eq_false_iff_ne]; omega
                    go_wp2
                    go_ret
                    exact ⟨rfl, Stil.below HKf.out⟩
                · have ea' : decide (0 < (aw : Int)) = true := decide_eq_true (by omega)
                  have ea2 : (0 : Int) < (aw : Int) := by omega
                  go_wp2
                  go_ret
                  exact ⟨rfl, Stil.below HKf.out⟩
          · have hn1' : ((i : Int) == 1) = false := by rw [beq_eq_false_iff_ne]; omega
            have hlo := HLo.out (by omega)
            have hmeas : 121 - sliceLen (.slice a8 l2.length c8) < 121 - sliceLen (.slice a5 L0 c5) := by
              show 121 - l2.length < 121 - L0
              omega
            have HN9 : Hid (i = 1 → l2.length ≤ 40) := fun e => absurd e hn1
            clear hn1
            go_wp2
            go_roundw
            case rel => exact ⟨l2, t + 1, by go_num, by omega, hup, HSa, HKa, HN9⟩
            case measure => first | exact hmeas | (simp [sliceLen]; omega)
    · have hbig' : decide ((ls.length : Int) + (nn : Int) ≤ 120) = false := decide_eq_false (by omega)
      have hbig2 : ¬ (ls.length : Int) + (nn : Int) ≤ 120 := by omega
      clear hbig
      go_wp2_with (fail)
      obtain ⟨xa, xc, hxv, hcm⟩ := segC_came HS5.out
      rw [hxv]
      have HSg := HS5
      clear HS5
      have HP := hidMk (play_seenM hcm h0 h6 HLn.out)
      have HCm := hidMk hcm
      have hgp := goes_plain (n := n) (by omega) ls
      have hia := fun iw hiw => inside_asks (n := n) (by omega) ls (i := iw) hiw
      have HGp := hidMk hgp
      have HIa := hidMk hia
      have hfew : (insideM n (msAt n ls ls.length)).length ≤ 1 := inside_few (mb_at (n := n) (by omega) ls ls.length).inv
      have HCd : Hid (∀ (w9 : World) (C : Nat), Stil wr w9 → RowI w9 (some ⟨C, 0, none⟩) ls.length ls.length ((List.range ls.length).map (mcAt n ls)) → Calls Try.prog 13 #[.slice xa ls.length xc, .slice (some ⟨C, 0, none⟩) ls.length ls.length] w9 fun e w2 => ∃ a c, e = .returned (.slice a (askTo ls (mcAt n ls) ls.length).length c) ∧ RowI w2 a (askTo ls (mcAt n ls) ls.length).length c (askTo ls (mcAt n ls) ls.length) ∧ Stil w9 w2) := fun w9 C h9 hc => asking_any (HCm.out.keep h9 (fun _ _ e => e)) (by have := HLn.out; omega) hc
      have hal := askTo_len ls (mcAt n ls) ls.length
      have hln := HLn.out
      clear hgp hia hcm hxv
      generalize hS : msAt n ls ls.length = S at *
      generalize hfl : (insideM n S).length = fl at *
      generalize haw : awayM n S = aw at *
      generalize hil : S.ins.length = il at *
      generalize hA : askTo ls (mcAt n ls) ls.length = A at *
      generalize hall : A.length = al at *
      have HFl := hidMk hfl
      have HAl := hidMk hall
      clear hS hfl haw hil hA hall
      go_wp2_with (fail)
      go_at_call 7
      refine (HP.out).mono ?_
      rintro e w1 ⟨⟨C, va, vc, ia, ic, rfl, hS1⟩, hk1⟩
      try rw [HFl.out]
      have HK1 : Hid (Stil wr (w1.alloc (.cells #[.slice (some ⟨C, 0, none⟩) ls.length ls.length, .slice va il vc, .slice ia fl ic, .int .i64 (aw : Int)] 26))) := hidMk (hk1.alloc _)
      have HS1 := hidMk (hS1.still (Stil.new w1 (.cells #[.slice (some ⟨C, 0, none⟩) ls.length ls.length, .slice va il vc, .slice ia fl ic, .int .i64 (aw : Int)] 26)))
      have a0 : (w1.alloc (.cells #[.slice (some ⟨C, 0, none⟩) ls.length ls.length, .slice va il vc, .slice ia fl ic, .int .i64 (aw : Int)] 26)).cell? ⟨w1.heap.size, 0, none⟩ = some (.slice (some ⟨C, 0, none⟩) ls.length ls.length) := by rw [cell_of_row _ _ _ _ _ _ (al_new _ _)]; rfl
      have a2 : (w1.alloc (.cells #[.slice (some ⟨C, 0, none⟩) ls.length ls.length, .slice va il vc, .slice ia fl ic, .int .i64 (aw : Int)] 26)).cell? ⟨w1.heap.size, 2, none⟩ = some (.slice ia fl ic) := by rw [cell_of_row _ _ _ _ _ _ (al_new _ _)]; rfl
      have a3 : (w1.alloc (.cells #[.slice (some ⟨C, 0, none⟩) ls.length ls.length, .slice va il vc, .slice ia fl ic, .int .i64 (aw : Int)] 26)).cell? ⟨w1.heap.size, 3, none⟩ = some (.int .i64 (aw : Int)) := by rw [cell_of_row _ _ _ _ _ _ (al_new _ _)]; rfl
      clear hk1 hS1 HP
      go_wp2_with (fail)
      go_at_call 13
      refine (HCd.out _ C HK1.out HS1.out.codes).mono ?_
      rintro e w2 ⟨la, lc, rfl, hrow, hk2⟩
      have HRow := hidMk hrow
      have HK2 := hidMk (HK1.out.tr hk2)
      have b2 := hk2.cell a2
      have b3 := hk2.cell a3
      have HIn := hidMk (HS1.out.inside.still hk2)
      rw [HFl.out] at HIn
      clear hrow hk2 a0 a2 a3 HK1 HS1 HCd
      generalize w1.heap.size = Lb at *
      go_wp2_with (fail)
      go_loopw [81] (fun u wz => ∃ k : Nat, k ≤ fl ∧ u = .int .i64 (k : Int) ∧ Hid (Stil w2 wz)) (fun u _ => fl - (intOf u).toNat)
      case atStart => exact ⟨0, Nat.zero_le _, rfl, Keep.refl _ _⟩
      case round =>
        obtain ⟨k, hk, rfl, HKz⟩ := hrel
        by_cases hlt : k < fl
        · have hlt' : (k : Int) < (fl : Int) := by omega
          obtain ⟨t1, t2, _, t4⟩ := HIn.out.still HKz.out
          rcases t4 with t4 | ⟨gi, oi, rfl, _, t5⟩
          · omega
          have hx : (insideM n S)[k]? = some ((insideM n S)[k]'(by rw [HFl.out]; exact hlt)) := List.getElem?_eq_getElem _
          generalize (insideM n S)[k]'(by rw [HFl.out]; exact hlt) = x at hx
          have x3 := t5 k (x : Int) (natsI_at hx)
          have hpos := posI_ge (HIa.out x (List.mem_of_getElem? hx))
          have hpos2 : decide (posI A (x : Int) < 0) = false := decide_eq_false (by omega)
          have HPo := hidMk (position_any (HRow.out.still HKz.out) (by omega) (x : Int))
          clear t1 t5 hx
          generalize posI A (x : Int) = px at *
          go_wp2_with (go_at_call 14; refine (HPo.out).mono ?_; rintro e w' ⟨rfl, hw⟩; obtain rfl := hw.symm)
          go_roundw
          case rel => exact ⟨k + 1, by omega, by go_num, HKz⟩
          case measure => simp [intOf]; omega
        · obtain rfl : k = fl := by omega
          have c2 := HKz.out.cell b2
          have c3 := HKz.out.cell b3
          have HKf := hidMk (HKw.out.tr (HK2.out.tr HKz.out))
          by_cases ea : aw = 0
          · by_cases el : al = 0
            · subst ea
              subst el
              go_wp2
              go_ret
              exact ⟨rfl, Stil.below HKf.out⟩
            · have hf1 := HGp.out ea (fun e => el (by rw [← HAl.out, e]; rfl))
              subst ea
              have hf1' : k = 1 := by omega
              subst hf1'
              have el' : ((al : Int) == 0) = false := by rw [beq_eq_false_iff_ne]; omega
              go_wp2
              go_ret
              exact ⟨rfl, Stil.below HKf.out⟩
          · have ea' : decide (0 < (aw : Int)) = true := decide_eq_true (by omega)
            have ea2 : (0 : Int) < (aw : Int) := by omega
            go_wp2
            go_ret
            exact ⟨rfl, Stil.below HKf.out⟩

theorem goes_walk {W : World} {z : Int} {pa : Option Addr} {pl pc : Nat} {ps : List Cst} (hp : CameC W pa pl pc ps) :
    Calls Try.prog 5 #[.int .i64 z, .slice pa pl pc] W fun e W2 => e = .returned (.bool true) ∧ Below W.heap.size W W2 := by
  by_cases hz : z < 1 ∨ 4 < z ∨ 40 < pl
  · exact goes_bad hz hp.2.2.1
  · obtain ⟨n, rfl⟩ : ∃ n : Nat, z = (n : Int) := ⟨z.toNat, by omega⟩
    exact goes_ok hp (by omega) (by omega) (by omega)
end Go.Proofs.Yteighidkhopcoaa
