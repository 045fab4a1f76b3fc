/- folkmootlaw.SnapPlays, where it is played. -/
import Derived.Test.YthadhhconkjpmaaY2
namespace Go.Proofs.Ythadhhconkjpmaa
open Go.RowKit Go.WideMaps
set_option linter.unusedVariables false

theorem rowsZ_keep {w w' : World} {o : Nat → Prop} {L o1 N : Nat} {S : Nat → List Int} (hs : Keep o w w') (h : ∀ i, i < N → ∃ a c, w.cell? ⟨L, o1 + i, none⟩ = some (.slice a (S i).length c) ∧ RowI w a (S i).length c (S i) ∧ ∀ x, a = some x → x.block < w.heap.size → ¬ o x.block) (hL : L < w.heap.size → ¬ o L) : RowsZ w' L o1 N S := by
  intro i hi
  obtain ⟨a, c, h1, h2, h3⟩ := h i hi
  have hB : L < w.heap.size := World.block_lt_of_cell? _ _ h1
  exact ⟨a, c, (World.cell?_of_block (a := ⟨L, o1 + i, none⟩) (hs.block L hB (hL hB))).trans h1, rowI_keepB h2 hs h3⟩
set_option maxRecDepth 100000 in
set_option maxHeartbeats 4000000 in
theorem snap_end {W w1 wr w4 w5 : World} {La n pl C B gm om cm go' oo co cc gc oc B2 bo bc : Nat} {ca ga oa : Option Addr} {S : St} {R : Rf} {cd : Nat → Int} {dn : Bool} {CR : List Int}
    (hWl : W.heap.size ≤ w1.heap.size) (hLaE : w1.heap.size = La) (hKa : Stil w1 wr) (hKb : Stil wr w4) (hK4 : Stil W w4) (hsz : wr.heap.size = La + 1)
    (hLa : wr.heap[La]? = some (.cells #[.slice (some ⟨C, 0, none⟩) pl pl, .slice (some ⟨gm, om, none⟩) n cm, .slice (some ⟨go', oo, none⟩) n co, .slice (some ⟨B, 0, none⟩) (n * n) (n * n), .bool dn] 27 (0, 0)))
    (hLb : w4.heap[La + 1]? = some (.cells snpZ 27 (0, 0)))
    (hRw : RowI w1 (some ⟨C, 0, none⟩) pl pl ((List.range pl).map cd) ∧ RowI w1 (some ⟨gm, om, none⟩) n cm ((List.range n).map S.money) ∧ RowI w1 (some ⟨go', oo, none⟩) n co ((List.range n).map S.own) ∧ RowsZ w1 B 0 (n * n) (fun t => (S.ways (t / n) (t % n)).noted))
    (hS : SnapS w5 w4.heap.size n pl R CR ca cc ga gc oa oc B2 bo) (hk5 : Stil w4 w5)
    (hTl : ∀ t, t < n * n → tlF n R t = (S.ways (t / n) (t % n)).noted) (hCd : CR = (List.range pl).map cd) (hMn : (List.range n).map R.money = (List.range n).map S.money) (hOw : (List.range n).map R.own = (List.range n).map S.own)
    (h0 : 0 < n) (h6 : n ≤ 6) (hpl : pl ≤ 120) (hl9 : ∀ t, t < n * n → (S.ways (t / n) (t % n)).noted.length ≤ 200) :
    ∀ w6, w6 = ((((w5.setCell ⟨La + 1, 0, none⟩ (.slice ca pl cc)).setCell ⟨La + 1, 1, none⟩ (.slice ga n gc)).setCell ⟨La + 1, 2, none⟩ (.slice oa n oc)).setCell ⟨La + 1, 3, none⟩ (.slice (some ⟨B2, bo, none⟩) (n * n) bc)).setCell ⟨La + 1, 4, none⟩ (.bool dn) →
      Calls Try.prog 6 #[.agg #[.slice (some ⟨C, 0, none⟩) pl pl, .slice (some ⟨gm, om, none⟩) n cm, .slice (some ⟨go', oo, none⟩) n co, .slice (some ⟨B, 0, none⟩) (n * n) (n * n), .bool dn], .agg #[.slice ca pl cc, .slice ga n gc, .slice oa n oc, .slice (some ⟨B2, bo, none⟩) (n * n) bc, .bool dn]] w6 (fun e W2 => e = .returned (.bool true) ∧ Stil w6 W2) ∧ Stil W w6 ∧ w6.heap[La]? = some (.cells #[.slice (some ⟨C, 0, none⟩) pl pl, .slice (some ⟨gm, om, none⟩) n cm, .slice (some ⟨go', oo, none⟩) n co, .slice (some ⟨B, 0, none⟩) (n * n) (n * n), .bool dn] 27 (0, 0)) ∧ w6.heap[La + 1]? = some (.cells #[.slice ca pl cc, .slice ga n gc, .slice oa n oc, .slice (some ⟨B2, bo, none⟩) (n * n) bc, .bool dn] 27 (0, 0)) := by
  intro w6 e6
  have hw4 : La + 1 < w4.heap.size := (Array.getElem?_eq_some_iff.1 hLb).1
  have hLb := (hk5.block _ hw4 (fun e => e)).trans hLb
  have hLa5 := (hk5.block La (by omega) (fun e => e)).trans ((hKb.block La (by rw [hsz]; omega) (fun e => e)).trans hLa)
  have kk := (((((Keep.refl (fun g => g = La + 1) w5).setCell (La + 1) 0 (.slice ca pl cc) (fun _ => rfl)).setCell (La + 1) 1 (.slice ga n gc) (fun _ => rfl)).setCell (La + 1) 2 (.slice oa n oc) (fun _ => rfl)).setCell (La + 1) 3 (.slice (some ⟨B2, bo, none⟩) (n * n) bc) (fun _ => rfl)).setCell (La + 1) 4 (.bool dn) (fun _ => rfl)
  have b1 := heap_setCell_same w5 (La + 1) 0 _ _ (.slice ca pl cc) hLb
  have b2 := heap_setCell_same _ (La + 1) 1 _ _ (.slice ga n gc) b1
  have b3 := heap_setCell_same _ (La + 1) 2 _ _ (.slice oa n oc) b2
  have b4 := heap_setCell_same _ (La + 1) 3 _ _ (.slice (some ⟨B2, bo, none⟩) (n * n) bc) b3
  have b5 := heap_setCell_same _ (La + 1) 4 _ _ (.bool dn) b4
  rw [← e6] at kk b5
  have hLa6 := (kk.block La (Array.getElem?_eq_some_iff.1 hLa5).1 (by show ¬ La = La + 1; omega)).trans hLa5
  have k14 := (((Stil.tr (Stil.tr hKa hKb) hk5)).mono (q := fun g => g = La + 1) (fun _ _ e => e.elim)).trans kk (fun _ _ e => e) (fun _ _ e => e)
  clear b1 b2 b3 b4
  obtain ⟨g0, g1, g2, g3⟩ := hRw
  have hx1 : ∀ g, g < w1.heap.size → ¬ (fun g => g = La + 1) g := fun g hg e => by have e2 : g = La + 1 := e; omega
  have hx2 : ∀ g, w4.heap.size ≤ g → ¬ (fun g => g = La + 1) g := fun g hg e => by have e2 : g = La + 1 := e; omega
  have c0 := rowI_keepB g0 k14 (fun x hx hb => hx1 _ hb)
  have c1 := rowI_keepB g1 k14 (fun x hx hb => hx1 _ hb)
  have c2 := rowI_keepB g2 k14 (fun x hx hb => hx1 _ hb)
  have s0 := rowI_keepB hS.codes kk (fun x hx _ => hx2 _ (hS.cL x hx))
  have s1 := rowI_keepB hS.money kk (fun x hx _ => hx2 _ (hS.gL x hx))
  have s2 := rowI_keepB hS.own kk (fun x hx _ => hx2 _ (hS.oL x hx))
  rw [hCd] at s0
  rw [hMn] at s1
  rw [hOw] at s2
  have hkk : n * n ≤ 36 := Nat.mul_le_mul h6 h6
  have c3 : RowsZ w6 B 0 (n * n) (fun t => (S.ways (t / n) (t % n)).noted) := rowsZ_keep k14 (fun t ht => by
    obtain ⟨a, c, e1, e2⟩ := g3 t ht
    exact ⟨a, c, e1, e2, fun x _ hb => hx1 _ hb⟩) (hx1 B)
  have s3 : RowsZ w6 B2 bo (n * n) (fun t => (S.ways (t / n) (t % n)).noted) := rowsZ_keep kk (fun t ht => by
    obtain ⟨a, c, e1, e2, e3⟩ := hS.rows t ht
    rw [hTl t ht] at e1 e2
    exact ⟨a, c, e1, e2, fun x hx _ => hx2 _ (e3 x hx)⟩) (fun _ => hx2 B2 hS.bL)
  have hKf : Keep (fun g => g = La + 1) W w6 := ((Stil.tr hK4 hk5).mono (q := fun g => g = La + 1) (fun _ _ e => e.elim)).trans kk (fun _ _ e => e) (fun _ _ e => e)
  exact ⟨snaps_same dn c0 c1 c2 s0 s1 s2 (fun w9 hw => listsZ_same (c3.still hw) (s3.still hw) hkk hl9) (by omega) (by omega), hKf.mono (q := fun _ => False) (fun g hg e => by have e2 : g = La + 1 := e; omega), hLa6, b5⟩

set_option maxRecDepth 100000 in
set_option maxHeartbeats 8000000 in
theorem splays_ok {W : World} {ma pa : Option Addr} {n mc pl pc : Nat} {zs : List Int} {ps : List Pass} (hm : CameI W ma n mc zs) (hp : CameP W pa pl pc ps) (hz : snapCode zs pl = 0) (h0 : 0 < n) (h6 : n ≤ 6) (hpl : pl ≤ 120) (hzs : ∀ z ∈ zs, 0 ≤ z ∧ z ≤ 1000) :
    Calls Try.prog 3 #[.slice ma n mc, .slice pa pl pc] W fun e W2 => e = .returned (.bool true) ∧ Below W.heap.size W W2 := by
  have HP := hidMk (play_seen hm hp hz h0 h6 hpl hzs)
  have HMi := hidMk hm
  have HL : Hid (zs.length = n) := hm.1
  have hlp := hp.1
  have HX0 : Hid (xTo zs pl 0 = 0) := by show _ = _; rw [xTo_zero, hm.1, if_neg (by omega)]
  have HRf := hidMk (fun (w' : World) (hw : Stil W w') => ref_snap (hm.keep hw (fun _ _ e => e)) (hp.keep hw (fun _ _ e => e)) h0 h6 hpl hzs)
  have hm0 : ∀ i, i < n → 0 ≤ monF zs i := fun i _ => (mon_ok hzs i).1
  have HTl := hidMk (fun t (ht : t < n * n) => tlF_same (n := n) hm0 ps pl ht)
  have HDn := hidMk (dF_same h0 hm0 ps pl)
  have HCd := hidMk (cdR_same (n := n) hm0 ps (k := pl) (by omega))
  have HMn := hidMk (money_same (n := n) hm0 ps pl)
  have HOw := hidMk (own_same (n := n) hm0 ps pl)
  have HLn := hidMk (at_len (n := n) (monF zs) ps pl)
  have q1 : ((n : Int) == 0) = false := by rw [beq_eq_false_iff_ne]; omega
  have q2 : decide (6 < (n : Int)) = false := decide_eq_false (by omega)
  have q3 : decide (120 < (pl : Int)) = false := decide_eq_false (by omega)
  have q4 : ((0 : Int) == 0) = true := rfl
  have hpl' : (pl : Int) ≤ 120 := by omega
  have hn6 : (n : Int) ≤ 6 := by omega
  have HZ := hidMk hz
  generalize stAt n (st0 (monF zs)) ps pl = S at *
  generalize codeAt n (st0 (monF zs)) ps = cd at *
  generalize rfAt n (rf0 (monF zs)) ps pl = R at *
  generalize cdR n (rf0 (monF zs)) ps pl = CR at *
  clear hm hp hz hzs hm0
  go_enter Try.func3, Try.ntmps3
  go_upto_region 2 with (go_at_call 4; refine (HP.out).mono ?_; rintro e w1 ⟨⟨C, B, gm, om, cm, go', oo, co, rfl, hS1, hcm, hco⟩, hk1⟩)
  generalize doneB n S = dn at *
  have HWl : Hid (W.heap.size ≤ w1.heap.size) := hk1.size
  have HK2 : Hid (Stil W (w1.alloc (.cells #[.slice (some ⟨C, 0, none⟩) pl pl, .slice (some ⟨gm, om, none⟩) n cm, .slice (some ⟨go', oo, none⟩) n co, .slice (some ⟨B, 0, none⟩) (n * n) (n * n), .bool dn] 27))) := hk1.alloc _
  have HLa := hidMk (al_new w1 (.cells #[.slice (some ⟨C, 0, none⟩) pl pl, .slice (some ⟨gm, om, none⟩) n cm, .slice (some ⟨go', oo, none⟩) n co, .slice (some ⟨B, 0, none⟩) (n * n) (n * n), .bool dn] 27))
  have HKa : Hid (Stil w1 (w1.alloc (.cells #[.slice (some ⟨C, 0, none⟩) pl pl, .slice (some ⟨gm, om, none⟩) n cm, .slice (some ⟨go', oo, none⟩) n co, .slice (some ⟨B, 0, none⟩) (n * n) (n * n), .bool dn] 27))) := Stil.new _ _
  have HLsz : Hid ((w1.alloc (.cells #[.slice (some ⟨C, 0, none⟩) pl pl, .slice (some ⟨gm, om, none⟩) n cm, .slice (some ⟨go', oo, none⟩) n co, .slice (some ⟨B, 0, none⟩) (n * n) (n * n), .bool dn] 27)).heap.size = w1.heap.size + 1) := by show _ = _; simp
  have HRw := hidMk (seen_rows hS1 hpl h0 h6 hcm hco (fun t ht => by have := (HLn.out (t / n) (t % n) (Nat.div_lt_of_lt_mul ht) (Nat.mod_lt t h0)).2; omega) (by omega))
  clear hk1 HP hS1 hcm hco
  generalize w1.alloc (.cells #[.slice (some ⟨C, 0, none⟩) pl pl, .slice (some ⟨gm, om, none⟩) n cm, .slice (some ⟨go', oo, none⟩) n co, .slice (some ⟨B, 0, none⟩) (n * n) (n * n), .bool dn] 27) = w2 at *
  generalize hLaE : w1.heap.size = La at *
  go_wp2_with (fail)
  go_loopw [7, 32] (fun v u wr => ∃ k : Nat, k ≤ n ∧ u = .int .i64 (k : Int) ∧ v = .int .i64 (xTo zs pl k) ∧ wr = w2) (fun _ u _ => n - (intOf u).toNat)
  case atStart => exact ⟨0, Nat.zero_le _, rfl, by rw [HX0.out], rfl⟩
  case round =>
    obtain ⟨k, hk, rfl, rfl, hwr⟩ := hrel
    subst hwr
    by_cases hlt : k < n
    · have hlt' : (k : Int) < (n : Int) := by omega
      obtain ⟨y1, y2, y3, y4⟩ := HMi.out
      rcases y4 with y4 | ⟨b, off, rfl, hbW, y4⟩
      · omega
      have hz : zs[k]? = some (zs[k]'(by omega)) := List.getElem?_eq_getElem (by omega)
      generalize zs[k]'(by omega) = z at hz
      have d0 := HK2.out.cell (y4 k z hz)
      have HX : Hid (xTo zs pl (k + 1) = if xTo zs pl k = 0 ∧ badZ z = true then 2 else xTo zs pl k) := xTo_succ hz
      clear y1 y3 y4 hz
      by_cases h1 : xTo zs pl k = 0
      · have q1 : (xTo zs pl k == 0) = true := by rw [beq_iff_eq]; exact h1
        by_cases h2 : z < 0
        · have q2 : decide (z < 0) = true := decide_eq_true h2
          have HX2 : Hid (xTo zs pl (k + 1) = 2) := by show _ = _; rw [HX.out, if_pos ⟨h1, by unfold badZ; rw [q2]; rfl⟩]
          clear h1 h2 HX
          go_wp2
          go_roundw
          case rel => exact ⟨k + 1, by omega, by go_num, by rw [HX2.out], by first | rfl | trivial⟩
          case measure => simp [intOf]; omega
        · have q2 : decide (z < 0) = false := decide_eq_false h2
          by_cases h3 : 1000 < z
          · have q3 : decide (1000 < z) = true := decide_eq_true h3
            have HX2 : Hid (xTo zs pl (k + 1) = 2) := by show _ = _; rw [HX.out, if_pos ⟨h1, by unfold badZ; rw [q2, q3]; rfl⟩]
            clear h1 h2 h3 HX
            go_wp2
            go_roundw
            case rel => exact ⟨k + 1, by omega, by go_num, by rw [HX2.out], by first | rfl | trivial⟩
            case measure => simp [intOf]; omega
          · have q3 : decide (1000 < z) = false := decide_eq_false h3
            have HX2 : Hid (xTo zs pl (k + 1) = xTo zs pl k) := by show _ = _; rw [HX.out, if_neg (fun e => by have := e.2; unfold badZ at this; rw [q2, q3] at this; cases this)]
            clear h1 h2 h3 HX
            go_wp2
            go_roundw
            case rel => exact ⟨k + 1, by omega, by go_num, by rw [HX2.out], by first | rfl | trivial⟩
            case measure => simp [intOf]; omega
      · have q1 : (xTo zs pl k == 0) = false := by rw [beq_eq_false_iff_ne]; exact h1
        have HX2 : Hid (xTo zs pl (k + 1) = xTo zs pl k) := by show _ = _; rw [HX.out, if_neg (fun e => h1 e.1)]
        clear h1 HX
        go_wp2
        go_roundw
        case rel => exact ⟨k + 1, by omega, by go_num, by rw [HX2.out], by first | rfl | trivial⟩
        case measure => simp [intOf]; omega
    · obtain rfl : k = n := by omega
      have hxe : xTo zs pl k = snapCode zs pl := by rw [← HL.out]; exact xTo_all zs pl
      rw [hxe]
      clear hxe hlt hk
      rw [HZ.out]
      have hwsz : wr.heap.size = La + 1 := HLsz.out
      have HKb : Hid (Stil wr (wr.alloc (.cells snpZ 27))) := Stil.new _ _
      have HLb : Hid ((wr.alloc (.cells snpZ 27)).heap[La + 1]? = some (.cells snpZ 27 (0, 0))) := by
        have := al_new wr (.cells snpZ 27)
        rw [hwsz] at this
        exact this
      have HK4 : Hid (Stil W (wr.alloc (.cells snpZ 27))) := HK2.out.alloc _
      clear hwsz
      go_upto_region 13 with fail
      generalize wr.alloc (.cells snpZ 27) = w4 at *
      rw [HLsz.out]
      go_wp2_with (fail)
      go_at_call 5
      refine (HRf.out _ HK4.out).mono ?_
      rintro e w5 ⟨⟨ca, cc, ga, gc, oa, oc, B2, bo, bc, rfl, hS⟩, hk5⟩
      rw [HDn.out]
      have HE := hidMk (snap_end (dn := dn) (gc := gc) (oc := oc) (by rw [hLaE]; exact HWl.out) hLaE HKa.out HKb.out HK4.out HLsz.out HLa.out HLb.out HRw.out hS hk5 HTl.out HCd.out HMn.out HOw.out h0 h6 hpl (fun t ht => by have := (HLn.out (t / k) (t % k) (Nat.div_lt_of_lt_mul ht) (Nat.mod_lt t h0)).2; omega) (bc := bc))
      have hw4 : La + 1 < w4.heap.size := (Array.getElem?_eq_some_iff.1 HLb.out).1
      have hLb := (hk5.block _ hw4 (fun e => e)).trans HLb.out
      have r0 : w5.cell? ⟨La + 1, 0, none⟩ = some (.slice none 0 0) := by rw [cell_of_row w5 _ _ _ _ _ hLb]; rfl
      have r1 : w5.cell? ⟨La + 1, 1, none⟩ = some (.slice none 0 0) := by rw [cell_of_row w5 _ _ _ _ _ hLb]; rfl
      have r2 : w5.cell? ⟨La + 1, 2, none⟩ = some (.slice none 0 0) := by rw [cell_of_row w5 _ _ _ _ _ hLb]; rfl
      have r3 : w5.cell? ⟨La + 1, 3, none⟩ = some (.slice none 0 0) := by rw [cell_of_row w5 _ _ _ _ _ hLb]; rfl
      have r4 : w5.cell? ⟨La + 1, 4, none⟩ = some (.bool false) := by rw [cell_of_row w5 _ _ _ _ _ hLb]; rfl
      have f0 : w5.frozen? ⟨La + 1, 0, none⟩ = false := frozen_of_row w5 _ _ _ _ hLb
      have f1 : w5.frozen? ⟨La + 1, 1, none⟩ = false := frozen_of_row w5 _ _ _ _ hLb
      have f2 : w5.frozen? ⟨La + 1, 2, none⟩ = false := frozen_of_row w5 _ _ _ _ hLb
      have f3 : w5.frozen? ⟨La + 1, 3, none⟩ = false := frozen_of_row w5 _ _ _ _ hLb
      have f4 : w5.frozen? ⟨La + 1, 4, none⟩ = false := frozen_of_row w5 _ _ _ _ hLb
      clear hLb hw4 hS hk5 HRw HRf HKa HKb HK2 HK4 HLa HLb HTl HDn HCd HMn HOw HLn
      go_upto_region 14 with fail
      obtain ⟨w6, e6⟩ : ∃ w' : World, w' = ((((w5.setCell ⟨La + 1, 0, none⟩ (.slice ca pl cc)).setCell ⟨La + 1, 1, none⟩ (.slice ga k gc)).setCell ⟨La + 1, 2, none⟩ (.slice oa k oc)).setCell ⟨La + 1, 3, none⟩ (.slice (some ⟨B2, bo, none⟩) (k * k) bc)).setCell ⟨La + 1, 4, none⟩ (.bool dn) := ⟨_, rfl⟩
      rw [← e6]
      obtain ⟨e1, e2, e3, e4⟩ := HE.out w6 e6
      have HSm := hidMk e1
      have HKf := hidMk e2
      have x0 := cell_is (j := 0) (v := .slice (some ⟨C, 0, none⟩) pl pl) e3 rfl
      have x1 := cell_is (j := 1) (v := .slice (some ⟨gm, om, none⟩) k cm) e3 rfl
      have x2 := cell_is (j := 2) (v := .slice (some ⟨go', oo, none⟩) k co) e3 rfl
      have x3 := cell_is (j := 3) (v := .slice (some ⟨B, 0, none⟩) (k * k) (k * k)) e3 rfl
      have x4 := cell_is (j := 4) (v := .bool dn) e3 rfl
      have y0 := cell_is (j := 0) (v := .slice ca pl cc) e4 rfl
      have y1 := cell_is (j := 1) (v := .slice ga k gc) e4 rfl
      have y2 := cell_is (j := 2) (v := .slice oa k oc) e4 rfl
      have y3 := cell_is (j := 3) (v := .slice (some ⟨B2, bo, none⟩) (k * k) bc) e4 rfl
      have y4 := cell_is (j := 4) (v := .bool dn) e4 rfl
      clear e1 e2 e3 e4 e6 HE
      clear r0 r1 r2 r3 r4 f0 f1 f2 f3 f4
      go_wp2_with (fail)
      go_at_call 6
      refine (HSm.out).mono ?_
      rintro e w7 ⟨rfl, hk7⟩
      have HK7 := hidMk (Stil.tr HKf.out hk7)
      clear hk7
      go_wp2
      go_ret
      exact ⟨rfl, Stil.below HK7.out⟩

theorem splays_walk {W : World} {ma pa : Option Addr} {n mc pl pc : Nat} {zs : List Int} {ps : List Pass} (hm : CameI W ma n mc zs) (hp : CameP W pa pl pc ps) :
    Calls Try.prog 3 #[.slice ma n mc, .slice pa pl pc] W fun e W2 => e = .returned (.bool true) ∧ Below W.heap.size W W2 := by
  by_cases hz : snapCode zs pl = 0
  · have h := hz
    unfold snapCode at h
    split at h
    · omega
    · rename_i h1
      split at h
      · omega
      · rename_i h2
        have hl := hm.1
        refine splays_ok hm hp hz (by omega) (by omega) (by omega) (fun z hzm => ?_)
        have h3 : ¬ ((decide (z < 0) || decide (1000 < z)) = true) := fun e => h2 (List.any_eq_true.2 ⟨z, hzm, e⟩)
        simp at h3
        exact h3
  · exact splays_bad hm hp.2.2.1 hz
end Go.Proofs.Ythadhhconkjpmaa
