/- folkmootlaw.SnapPlays, walked. -/
import Derived.Test.YthadhhconkjpmaaY1
namespace Go.Proofs.Ythadhhconkjpmaa
open Go.RowKit Go.WideMaps
set_option linter.unusedVariables false

abbrev snpZ : Array Value := #[.slice none 0 0, .slice none 0 0, .slice none 0 0, .slice none 0 0, .bool false]
def badZ (z : Int) : Bool := decide (z < 0) || decide (1000 < z)
/-- The law's own check, k moneys looked at. -/
def xTo (zs : List Int) (pl k : Nat) : Int := if zs.length = 0 ∨ 6 < zs.length ∨ 120 < pl then 1 else if (zs.take k).any badZ then 2 else 0
theorem xTo_all (zs : List Int) (pl : Nat) : xTo zs pl zs.length = snapCode zs pl := by
  unfold xTo snapCode
  rw [List.take_length]
  rfl
theorem xTo_succ {zs : List Int} {pl k : Nat} {z : Int} (h : zs[k]? = some z) : xTo zs pl (k + 1) = if xTo zs pl k = 0 ∧ badZ z = true then 2 else xTo zs pl k := by
  unfold xTo
  by_cases h1 : zs.length = 0 ∨ 6 < zs.length ∨ 120 < pl
  · rw [if_pos h1, if_pos h1, if_neg (by simp)]
  · rw [if_neg h1, if_neg h1, List.take_add_one, h, List.any_append]
    cases h2 : (zs.take k).any badZ <;> cases h3 : badZ z <;> simp [h3]
theorem xTo_zero (zs : List Int) (pl : Nat) : xTo zs pl 0 = if zs.length = 0 ∨ 6 < zs.length ∨ 120 < pl then 1 else 0 := by
  unfold xTo
  simp
theorem cell_kept {w w' : World} {o : Nat → Prop} {g j : Nat} {cs : Array Value} {t : TypeId} {fr : Nat × Nat} {v : Value} (kk : Keep o w w') (h : w.heap[g]? = some (.cells cs t fr)) (ho : ¬ o g) (hv : cs[j]? = some v) : w'.cell? ⟨g, j, none⟩ = some v :=
  (cell_of_row w' g j cs t fr ((kk.block g (Array.getElem?_eq_some_iff.1 h).1 ho).trans h)).trans hv
theorem cell_is {w : World} {g j : Nat} {cs : Array Value} {t : TypeId} {fr : Nat × Nat} {v : Value} (h : w.heap[g]? = some (.cells cs t fr)) (hv : cs[j]? = some v) : w.cell? ⟨g, j, none⟩ = some v :=
  (cell_of_row w g j cs t fr h).trans hv
theorem rowI_keepB {w w' : World} {o : Nat → Prop} {a : Option Addr} {len cap : Nat} {xs : List Int} (h : RowI w a len cap xs) (hs : Keep o w w') (ho : ∀ x, a = some x → x.block < w.heap.size → ¬ o x.block) : RowI w' a len cap xs := by
  obtain ⟨h1, h2, h3, h4⟩ := h
  refine ⟨h1, h2, h3, ?_⟩
  rcases h4 with h4 | ⟨b, off, e, hr, hc⟩
  · exact .inl h4
  · exact .inr ⟨b, off, e, Nat.lt_of_lt_of_le hr hs.size, fun j x hx => (World.cell?_of_block (hs.block b hr (ho _ e hr))).trans (hc j x hx)⟩
theorem rowI_none (w : World) : RowI w none 0 0 [] := ⟨rfl, Nat.le_refl _, Nat.zero_le _, .inl rfl⟩

set_option maxRecDepth 100000 in
set_option maxHeartbeats 8000000 in
theorem splays_bad {W : World} {ma pa : Option Addr} {n mc pl pc : Nat} {zs : List Int} (hm : CameI W ma n mc zs) (hpl : pl ≤ maxLen) (hz : snapCode zs pl ≠ 0) :
    Calls Try.prog 3 #[.slice ma n mc, .slice pa pl pc] W fun e W2 => e = .returned (.bool true) ∧ Below W.heap.size W W2 := by
  have HP := hidMk (play_bad (pa := pa) (pc := pc) hm hz)
  have HMi := hidMk hm
  have HL : Hid (zs.length = n) := hm.1
  have HSm := hidMk (fun w => snaps_same (a3 := none) (b3 := none) (N := 0) (c3 := 0) (d3 := 0) false (rowI_none w) (rowI_none w) (rowI_none w) (rowI_none w) (rowI_none w) (rowI_none w) (fun w1 _ => lists_none) (Nat.zero_le _) (Nat.zero_le _))
  have HX0' := xTo_zero zs pl
  rw [hm.1] at HX0'
  have q9 : (snapCode zs pl == snapCode zs pl) = true := by simp
  have q8 : (snapCode zs pl == 0) = false := by rw [beq_eq_false_iff_ne]; exact hz
  have h9 : maxLen ≤ 9223372036854775807 := by decide
  have hpl' : (pl : Int) ≤ 9223372036854775807 := by omega
  have hn9 : (n : Int) ≤ 9223372036854775807 := by have := hm.2.2.1; omega
  unfold zeroSnapped at HP
  have q3 : (((n : Int) == 0) = true ∧ xTo zs pl 0 = 1) ∨ (((n : Int) == 0) = false ∧ decide (6 < (n : Int)) = true ∧ xTo zs pl 0 = 1) ∨ (((n : Int) == 0) = false ∧ decide (6 < (n : Int)) = false ∧ decide (120 < (pl : Int)) = true ∧ xTo zs pl 0 = 1) ∨ (((n : Int) == 0) = false ∧ decide (6 < (n : Int)) = false ∧ decide (120 < (pl : Int)) = false ∧ xTo zs pl 0 = 0) := by
    by_cases a : n = 0
    · exact .inl ⟨by rw [beq_iff_eq]; omega, by rw [HX0', if_pos (.inl a)]⟩
    · by_cases b : 6 < n
      · exact .inr (.inl ⟨by rw [beq_eq_false_iff_ne]; omega, decide_eq_true (by omega), by rw [HX0', if_pos (.inr (.inl b))]⟩)
      · by_cases c : 120 < pl
        · exact .inr (.inr (.inl ⟨by rw [beq_eq_false_iff_ne]; omega, decide_eq_false (by omega), decide_eq_true (by omega), by rw [HX0', if_pos (.inr (.inr c))]⟩))
        · exact .inr (.inr (.inr ⟨by rw [beq_eq_false_iff_ne]; omega, decide_eq_false (by omega), decide_eq_false (by omega), by rw [HX0', if_neg (by omega)]⟩))
  clear hm hz HX0' h9
  go_enter Try.func3, Try.ntmps3
  go_upto_region 2 with (go_at_call 4; refine (HP.out).mono ?_; rintro e w1 ⟨rfl, hk1⟩)
  have HK2 : Hid (Stil W (w1.alloc (.cells snpZ 27))) := hk1.alloc _
  have HLa := hidMk (al_new w1 (.cells snpZ 27))
  have l0 := cell_is (j := 0) (v := .slice none 0 0) HLa.out rfl
  have l1 := cell_is (j := 1) (v := .slice none 0 0) HLa.out rfl
  have l2 := cell_is (j := 2) (v := .slice none 0 0) HLa.out rfl
  have l3 := cell_is (j := 3) (v := .slice none 0 0) HLa.out rfl
  have l4 := cell_is (j := 4) (v := .bool false) HLa.out rfl
  clear hk1 HP HLa
  generalize w1.alloc (.cells snpZ 27) = w2 at *
  generalize w1.heap.size = La at *
  rcases q3 with ⟨q1, x1⟩ | ⟨q1, q2, x1⟩ | ⟨q1, q2, q3, x1⟩ | ⟨q1, q2, q3, x1⟩
  all_goals
    have HX0 := hidMk x1
    clear x1
    go_wp2_with (fail)
    go_loopw [7, 32] (fun v u wr => ∃ k : Nat, k ≤ n ∧ u = .int .i64 (k : Int) ∧ v = .int .i64 (xTo zs pl k) ∧ wr = w2) (fun _ u _ => n - (intOf u).toNat)
    case atStart => exact ⟨0, Nat.zero_le _, rfl, by rw [HX0.out], rfl⟩
    case round =>
      obtain ⟨k, hk, rfl, rfl, hwr⟩ := hrel
      subst hwr
      by_cases hlt : k < n
      · have hlt' : (k : Int) < (n : Int) := by omega
        obtain ⟨y1, y2, y3, y4⟩ := HMi.out
        rcases y4 with y4 | ⟨b, off, rfl, hbW, y4⟩
        · omega
        have hz : zs[k]? = some (zs[k]'(by omega)) := List.getElem?_eq_getElem (by omega)
        generalize zs[k]'(by omega) = z at hz
        have d0 := HK2.out.cell (y4 k z hz)
        have HX : Hid (xTo zs pl (k + 1) = if xTo zs pl k = 0 ∧ badZ z = true then 2 else xTo zs pl k) := xTo_succ hz
        clear y1 y3 y4 hz
        by_cases h1 : xTo zs pl k = 0
        · have q1 : (xTo zs pl k == 0) = true := by rw [beq_iff_eq]; exact h1
          by_cases h2 : z < 0
          · have q2 : decide (z < 0) = true := decide_eq_true h2
            have HX2 : Hid (xTo zs pl (k + 1) = 2) := by show _ = _; rw [HX.out, if_pos ⟨h1, by unfold badZ; rw [q2]; rfl⟩]
            clear h1 h2 HX
            go_wp2
            go_roundw
            case rel => exact ⟨k + 1, by omega, by go_num, by rw [HX2.out], by first | rfl | trivial⟩
            case measure => simp [intOf]; omega
          · have q2 : decide (z < 0) = false := decide_eq_false h2
            by_cases h3 : 1000 < z
            · have q3 : decide (1000 < z) = true := decide_eq_true h3
              have HX2 : Hid (xTo zs pl (k + 1) = 2) := by show _ = _; rw [HX.out, if_pos ⟨h1, by unfold badZ; rw [q2, q3]; rfl⟩]
              clear h1 h2 h3 HX
              go_wp2
              go_roundw
              case rel => exact ⟨k + 1, by omega, by go_num, by rw [HX2.out], by first | rfl | trivial⟩
              case measure => simp [intOf]; omega
            · have q3 : decide (1000 < z) = false := decide_eq_false h3
              have HX2 : Hid (xTo zs pl (k + 1) = xTo zs pl k) := by show _ = _; rw [HX.out, if_neg (fun e => by have := e.2; unfold badZ at this; rw [q2, q3] at this; cases this)]
              clear h1 h2 h3 HX
              go_wp2
              go_roundw
              case rel => exact ⟨k + 1, by omega, by go_num, by rw [HX2.out], by first | rfl | trivial⟩
              case measure => simp [intOf]; omega
        · have q1 : (xTo zs pl k == 0) = false := by rw [beq_eq_false_iff_ne]; exact h1
          have HX2 : Hid (xTo zs pl (k + 1) = xTo zs pl k) := by show _ = _; rw [HX.out, if_neg (fun e => h1 e.1)]
          clear h1 HX
          go_wp2
          go_roundw
          case rel => exact ⟨k + 1, by omega, by go_num, by rw [HX2.out], by first | rfl | trivial⟩
          case measure => simp [intOf]; omega
      · obtain rfl : k = n := by omega
        have hxe : xTo zs pl k = snapCode zs pl := by rw [← HL.out]; exact xTo_all zs pl
        rw [hxe]
        clear hxe hlt hk
        generalize snapCode zs pl = rc at *
        have HK3 := hidMk (HK2.out.alloc (.cells snpZ 27))
        have hN : Stil wr (wr.alloc (.cells snpZ 27)) := Stil.new _ _
        have m0 := hN.cell l0
        have m1 := hN.cell l1
        have m2 := hN.cell l2
        have m3 := hN.cell l3
        have m4 := hN.cell l4
        have hb := al_new wr (.cells snpZ 27)
        have p0 := cell_is (j := 0) (v := .slice none 0 0) hb rfl
        have p1 := cell_is (j := 1) (v := .slice none 0 0) hb rfl
        have p2 := cell_is (j := 2) (v := .slice none 0 0) hb rfl
        have p3 := cell_is (j := 3) (v := .slice none 0 0) hb rfl
        have p4 := cell_is (j := 4) (v := .bool false) hb rfl
        clear hN hb l0 l1 l2 l3 l4
        go_upto_region 12 with fail
        generalize wr.alloc (.cells snpZ 27) = w4 at *
        generalize wr.heap.size = Lb at *
        go_wp2_with (fail)
        go_at_call 6
        refine (HSm.out _).mono ?_
        rintro e w5 ⟨rfl, hk5⟩
        have HK5 := hidMk (Stil.tr HK3.out hk5)
        clear hk5
        go_wp2
        go_ret
        exact ⟨rfl, Stil.below HK5.out⟩
end Go.Proofs.Ythadhhconkjpmaa
