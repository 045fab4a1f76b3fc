/- The ring: Play. -/
import Derived.Test.YtadanpghmfhhkaaRg7
namespace Go.Proofs.Ytadanpghmfhhkaa
open Go.RowKit
set_option linter.unusedVariables false

theorem rowI_keep {w w' : World} {o : Nat → Prop} {a : Option Addr} {len cap : Nat} {xs : List Int} (h : RowI w a len cap xs) (hs : Keep o w w') (ho : ∀ x, a = some x → ¬ o x.block) : RowI w' a len cap xs := by
  obtain ⟨h1, h2, h3, h4⟩ := h
  refine ⟨h1, h2, h3, ?_⟩
  rcases h4 with h4 | ⟨b, off, e, hr, hc⟩
  · exact .inl h4
  · exact .inr ⟨b, off, e, Nat.lt_of_lt_of_le hr hs.size, fun j x hx => (World.cell?_of_block (hs.block b hr (ho _ e))).trans (hc j x hx)⟩
abbrev ringZ : Array Value := #[.slice none 0 0, .slice none 0 0, .int .i64 0, .int .i64 0]
/-- A play, as laws see it. -/
structure SeenG (w : World) (C pl : Nat) (s : GS) (cd : Nat → Int) (va : Option Addr) (vc : Nat) : Prop where
  codes : RowI w (some ⟨C, 0, none⟩) pl pl ((List.range pl).map cd)
  ch : RowI w va s.ch.length vc (natsI s.ch)
theorem SeenG.still {w w' : World} {C pl : Nat} {s : GS} {cd : Nat → Int} {va : Option Addr} {vc : Nat} (h : SeenG w C pl s cd va vc) (hs : Stil w w') : SeenG w' C pl s cd va vc :=
  ⟨h.codes.still hs, h.ch.still hs⟩

set_option maxRecDepth 100000 in
set_option maxHeartbeats 8000000 in
theorem play_seenG {W : World} {pa qa : Option Addr} {n pc pl qc : Nat} {zs : List Int} {ps : List Tu} (hp : RowI W pa n pc zs) (hq : CameT W qa pl qc ps) (hz : ringCode zs pl = 0) :
    Calls Try.prog 8 #[.slice pa n pc, .slice qa pl qc] W fun e W2 => (∃ C va vc, e = .returned (.tuple #[.agg #[.slice (some ⟨C, 0, none⟩) pl pl, .slice va (gsAt n (nmL zs) ps pl).ch.length vc, .int .i64 ((gsAt n (nmL zs) ps pl).sent : Int), .int .i64 (awayG (gsAt n (nmL zs) ps pl) n : Int)], .int .i64 0]) ∧ SeenG W2 C pl (gsAt n (nmL zs) ps pl) (gcAt n (nmL zs) ps) va vc) ∧ Stil W W2 := by
  obtain ⟨z1, z2, z3, z4⟩ := ringCode_zero hz
  have hzl := hp.1
  rw [hzl] at z1 z2
  have HD := hidMk (check_any (qa := qa) (qc := qc) (pl := pl) (hp.still (Stil.new W (.cells ringZ 26))))
  rw [hz] at HD
  rcases hp.2.2.2 with hp4 | ⟨ng, no, rfl, hnb, hnc⟩
  · omega
  have HP : Hid (∀ i, i < n → W.cell? ⟨ng, no + i, none⟩ = some (.int .i64 (nmL zs i))) := fun i hi => hnc i _ (nmL_at (by rw [hzl]; exact hi))
  have HQ := hidMk hq
  have hpl' : (pl : Int) ≤ 120 := by omega
  have hn6 : (n : Int) ≤ 6 := by omega
  have hmk := mMakeCodes pl (by omega)
  rw [mMadeCodes (gcAt n (nmL zs) ps) pl] at hmk
  have hmr := mMakeProcs n (by omega)
  rw [mMadeProcs n] at hmr
  have HR0 : Hid ((W.alloc (.cells ringZ 26)).heap[W.heap.size]? = some (.cells ringZ 26 (0, 0))) := al_new _ _
  have HK0 : Hid (Stil W (W.alloc (.cells ringZ 26))) := Stil.new _ _
  have HZ0 : Hid (W.heap.size < (W.alloc (.cells ringZ 26)).heap.size) := by show _ < _; simp
  have q0 : ((0 : Int) != 0) = false := rfl
  have HZL := hidMk hzl
  clear hp hq hz z4 hzl hnc hnb
  go_enter Try.func8, Try.ntmps8
  go_upto_region 4 with (go_at_call 15; refine (HD.out).mono ?_; rintro e w1 ⟨rfl, hw⟩; obtain rfl := hw.symm)
  clear HD
  generalize W.alloc (.cells ringZ 26) = w0 at *
  generalize hr : W.heap.size = r at *
  obtain ⟨h5, hP5, M5, hl5⟩ := gmv_start w0 n z2
  have hK1 : Stil w0 ((w0.alloc (.cells (procS n) 45)).alloc (.cells #[.slice (some ⟨w0.heap.size, 0, none⟩) n n, .slice none 0 0, .int .i64 0] 43)) := ((Keep.refl _ w0).alloc _).alloc _
  have hR1 : ((w0.alloc (.cells (procS n) 45)).alloc (.cells #[.slice (some ⟨w0.heap.size, 0, none⟩) n n, .slice none 0 0, .int .i64 0] 43)).heap[r]? = some (.cells ringZ 26 (0, 0)) := (hK1.block r HZ0.out (fun e => e)).trans HR0.out
  have HM5 := hidMk M5
  have HK5 := hidMk (Stil.tr HK0.out hK1)
  have HR5 := hidMk hR1
  have HT5 : Hid (∀ g, h5.own (w0.heap.size + 1) g → r < g) := fun g hg => by have := hl5 g hg; have := HZ0.out; omega
  have hmb : w0.heap.size + 1 < ((w0.alloc (.cells (procS n) 45)).alloc (.cells #[.slice (some ⟨w0.heap.size, 0, none⟩) n n, .slice none 0 0, .int .i64 0] 43)).heap.size := by simp
  rw [← nmTo_zero zs] at HM5
  clear M5 hl5 hK1 hR1 HK0 HR0
  go_upto_region 5 with fail
  generalize ((w0.alloc (.cells (procS n) 45)).alloc (.cells #[.slice (some ⟨w0.heap.size, 0, none⟩) n n, .slice none 0 0, .int .i64 0] 43)) = w5 at *
  clear hmr
  generalize w0.heap.size + 1 = mb at *
  clear HZ0
  generalize w0.heap.size = P0 at *
  subst hP5
  go_wp2_with (fail)
  go_loopw [26] (fun u wr => ∃ k, k ≤ n ∧ u = .int .i64 (k : Int) ∧ Hid (Gmv wr mb n (nmTo zs k) gs0 h5) ∧ Hid (wr.heap[r]? = some (.cells ringZ 26 (0, 0))) ∧ Hid (Stil W wr)) (fun u _ => n - (intOf u).toNat)
  case atStart => exact ⟨0, Nat.zero_le _, rfl, HM5, HR5, HK5⟩
  case round =>
    obtain ⟨k, hk, rfl, HM, HR, HK⟩ := hrel
    by_cases hlt : k < n
    · have hlt' : (k : Int) < (n : Int) := by omega
      have d0 := HK.out.cell (HP.out k hlt)
      obtain ⟨c0, c1, c2, cf⟩ := HM.out.cells
      obtain ⟨p0, p1, p2, pf⟩ := HM.out.proc hlt
      have f0 := pf (k * 3)
      have HX : Hid (Gmv (wr.setCell ⟨h5.P, k * 3, none⟩ (.int .i64 (nmL zs k))) mb n (nmTo zs (k + 1)) gs0 h5 ∧ GStp mb wr h5 (wr.setCell ⟨h5.P, k * 3, none⟩ (.int .i64 (nmL zs k))) h5) := by
        show _ ∧ _
        rw [nmTo_succ]; exact HM.out.setNm hlt (nmL zs k)
      have HX2 : Hid ((wr.setCell ⟨h5.P, k * 3, none⟩ (.int .i64 (nmL zs k))).heap[r]? = some (.cells ringZ 26 (0, 0)) ∧ Stil W (wr.setCell ⟨h5.P, k * 3, none⟩ (.int .i64 (nmL zs k)))) := by
        refine ⟨HX.out.2.block (fun e => by have := HT5.out r e; omega) HR.out, HK.out.trans HX.out.2.keep (fun _ _ e => e) (fun g hg e => by have := HT5.out g e; omega)⟩
      clear c1 c2 cf p1 p2 pf
      go_wp2
      go_roundw
      case rel => exact ⟨k + 1, by omega, by go_num, HX.out.1, HX2.out.1, HX2.out.2⟩
      case measure => simp [intOf]; omega
    · obtain rfl : k = n := by omega
      have HM1 : Hid (Gmv wr mb k (nmL zs) gs0 h5) := by
        have := HM.out
        rw [nmTo_all HZL.out] at this
        exact this
      clear HM HM5 HR5 HK5
      have HMw := hidMk (HM1.out.alloc (Obj.cells (gcRow (gcAt k (nmL zs) ps) pl 0).toArray 27))
      have HKW : Hid (Stil W (wr.alloc (Obj.cells (gcRow (gcAt k (nmL zs) ps) pl 0).toArray 27))) := HK.out.alloc _
      have hrl : r < wr.heap.size := (Array.getElem?_eq_some_iff.1 HR.out).1
      have HRW : Hid ((wr.alloc (Obj.cells (gcRow (gcAt k (nmL zs) ps) pl 0).toArray 27)).heap[r]? = some (.cells ringZ 26 (0, 0))) := (al_old _ _ _ hrl).trans HR.out
      have HCW : Hid ((wr.alloc (Obj.cells (gcRow (gcAt k (nmL zs) ps) pl 0).toArray 27)).heap[wr.heap.size]? = some (Obj.cells (gcRow (gcAt k (nmL zs) ps) pl 0).toArray 27 (0, 0))) := al_new _ _
      have HTW : Hid (¬ h5.own mb wr.heap.size ∧ ∀ g, h5.own mb g → r < g) := ⟨HM1.out.fresh (Nat.le_refl _), HT5.out⟩
      clear HM1 HK HR
      go_wp2_with (fail)
      clear hmk
      generalize wr.alloc (Obj.cells (gcRow (gcAt k (nmL zs) ps) pl 0).toArray 27) = w6 at *
      generalize wr.heap.size = C at *
      clear hlt hk
      go_loopw [43] (fun u wr => ∃ q h, q ≤ pl ∧ u = .int .i64 (q : Int) ∧ Hid (Gmv wr mb k (nmL zs) (gsAt k (nmL zs) ps q) h) ∧ Hid (wr.heap[C]? = some (.cells (gcRow (gcAt k (nmL zs) ps) pl q).toArray 27 (0, 0))) ∧ Hid (wr.heap[r]? = some (.cells ringZ 26 (0, 0))) ∧
        Hid (¬ h.own mb C ∧ ∀ g, h.own mb g → r < g) ∧ Hid (Stil W wr)) (fun u _ => pl - (intOf u).toNat)
      case atStart => exact ⟨0, h5, Nat.zero_le _, rfl, HMw, HCW, HRW, HTW, HKW⟩
      case round =>
        obtain ⟨q, h, hq, rfl, HM, HC, HR, HT, HK⟩ := hrel
        clear HMw HCW HRW HTW HKW
        by_cases hlt : q < pl
        · have hlt' : (q : Int) < (pl : Int) := by omega
          obtain ⟨hpl1, hpl2, hpl3, hpr⟩ := HQ.out
          rcases hpr with hpr | ⟨b, off, rfl, hbW, hpr⟩
          · omega
          have hpk : ps[q]? = some (ps[q]'(by omega)) := List.getElem?_eq_getElem (by omega)
          generalize ps[q]'(by omega) = p at hpk
          have d0 := HK.out.cell (hpr q p hpk).1
          have d1 := HK.out.cell (hpr q p hpk).2
          have HEK : Hid (gsAt k (nmL zs) ps (q + 1) = stepG k (nmL zs) (gsAt k (nmL zs) ps q) p) := by show (match ps[q]? with | some p => _ | none => _) = _; rw [hpk]
          have HEC : Hid (gcAt k (nmL zs) ps q = codeG k (gsAt k (nmL zs) ps q) p) := by show _ = _; unfold gcAt; rw [hpk]
          have HGB := hidMk (gb_at k (nmL zs) ps q)
          clear hpk hpr
          have m1 := HM.out.alloc (.cells #[.int .i64 p.kind, .int .i64 p.who] 36)
          have HCk := hidMk (check_step m1 z2 p)
          rw [← HEC.out] at HCk
          have HM1 := hidMk m1
          have t1 := HT.out
          have hCl : C < wr.heap.size := (Array.getElem?_eq_some_iff.1 HC.out).1
          have hRl : r < wr.heap.size := (Array.getElem?_eq_some_iff.1 HR.out).1
          have HA1 : Hid (Stil wr (wr.alloc (.cells #[.int .i64 p.kind, .int .i64 p.who] 36))) := Stil.new _ _
          have HA2 : Hid ((wr.alloc (.cells #[.int .i64 p.kind, .int .i64 p.who] 36)).heap[wr.heap.size]? = some (.cells #[.int .i64 p.kind, .int .i64 p.who] 36 (0, 0))) := al_new _ _
          have HA3 : Hid (wr.heap.size < (wr.alloc (.cells #[.int .i64 p.kind, .int .i64 p.who] 36)).heap.size) := by show _ < _; simp
          clear hpl3 m1
          go_upto_region 14 with fail
          generalize wr.alloc (.cells #[.int .i64 p.kind, .int .i64 p.who] 36) = w7 at *
          generalize hbk : wr.heap.size = bk at *
          have b0 : w7.cell? ⟨bk, 0, none⟩ = some (.int .i64 p.kind) := by rw [cell_of_row _ _ _ _ _ _ HA2.out]; rfl
          have b1 : w7.cell? ⟨bk, 1, none⟩ = some (.int .i64 p.who) := by rw [cell_of_row _ _ _ _ _ _ HA2.out]; rfl
          clear d0 d1
          go_wp2_with (fail)
          go_at_call 16
          refine (HCk.out).mono ?_
          rintro e w8 ⟨rfl, hS8⟩
          have hS8' := Stil.tr HA1.out hS8
          have hC8 := (hS8'.block C (by rw [hbk]; exact hCl) (fun e => e)).trans HC.out
          have hR8 := (hS8'.block r (by rw [hbk]; exact hRl) (fun e => e)).trans HR.out
          have c8 : w8.cell? ⟨C, q, none⟩ = some (.int .i64 0) := by
            rw [cell_of_row w8 _ _ _ _ _ hC8]
            simp only [List.getElem?_toArray]
            rw [gcRow_at hlt, if_neg (by omega)]
          have f8 : w8.frozen? ⟨C, q, none⟩ = false := frozen_of_row w8 _ _ _ _ hC8
          have hsk : (gcRow (gcAt k (nmL zs) ps) pl q).toArray.setIfInBounds q (.int .i64 (gcAt k (nmL zs) ps q)) = (gcRow (gcAt k (nmL zs) ps) pl (q + 1)).toArray := by rw [← gcRow_set hlt]; simp
          have HC9 := hidMk (heap_setCell_same w8 C q _ _ (.int .i64 (gcAt k (nmL zs) ps q)) hC8)
          rw [hsk] at HC9
          have hne : r ≠ C := by omega
          have HR9 := hidMk ((Below.heap_setCell w8 ⟨C, q, none⟩ (.int .i64 (gcAt k (nmL zs) ps q)) _ hne).trans hR8)
          have HM9 : Hid (Gmv (w8.setCell ⟨C, q, none⟩ (.int .i64 (gcAt k (nmL zs) ps q))) mb k (nmL zs) (gsAt k (nmL zs) ps q) h) := (HM.out.still hS8').keep ((Keep.refl (fun g => g = C) w8).setCell _ _ _ (fun _ => rfl)) (fun g _ e => by subst e; exact t1.1)
          have HK9 : Hid (Stil W (w8.setCell ⟨C, q, none⟩ (.int .i64 (gcAt k (nmL zs) ps q)))) := (Stil.tr HK.out hS8').setCell _ _ _ (fun e => by omega)
          have b0' : (w8.setCell ⟨C, q, none⟩ (.int .i64 (gcAt k (nmL zs) ps q))).cell? ⟨bk, 0, none⟩ = some (.int .i64 p.kind) := (World.cell?_of_block (Below.heap_setCell w8 ⟨C, q, none⟩ _ bk (show bk ≠ C by omega))).trans (hS8.cell b0)
          have b1' : (w8.setCell ⟨C, q, none⟩ (.int .i64 (gcAt k (nmL zs) ps q))).cell? ⟨bk, 1, none⟩ = some (.int .i64 p.who) := (World.cell?_of_block (Below.heap_setCell w8 ⟨C, q, none⟩ _ bk (show bk ≠ C by omega))).trans (hS8.cell b1)
          have c9 : (w8.setCell ⟨C, q, none⟩ (.int .i64 (gcAt k (nmL zs) ps q))).cell? ⟨C, q, none⟩ = some (.int .i64 (gcAt k (nmL zs) ps q)) := by
            rw [cell_of_row _ _ _ _ _ _ HC9.out]
            simp only [List.getElem?_toArray]
            rw [gcRow_at hlt, if_pos (by omega)]
          clear hS8' hC8 hR8 hsk hS8 b0 b1 HA1 HA2 HA3 HM1 HCk HM HC HR HK
          go_upto_region 15 with fail
          clear c8 f8
          generalize w8.setCell ⟨C, q, none⟩ (.int .i64 (gcAt k (nmL zs) ps q)) = w9 at *
          by_cases hc0 : gcAt k (nmL zs) ps q = 0
          · have hst : Hid (gsAt k (nmL zs) ps (q + 1) = doG k (nmL zs) (gsAt k (nmL zs) ps q) p) := by
              show _ = _
              rw [HEK.out]; unfold stepG; rw [if_pos (by rw [← HEC.out]; exact hc0)]
            have HDo := hidMk (do_any HM9.out z2 HGB.out (by omega) p (by rw [← HEC.out]; exact hc0))
            rw [← hst.out] at HDo
            rw [hc0] at c9
            clear hc0 HEC HEK hst
            go_wp2_with (fail)
            go_at_call 17
            refine (HDo.out).mono ?_
            rintro e w10 ⟨rfl, h10, M10, S10⟩
            have hC10 := hidMk (S10.block t1.1 HC9.out)
            have hR10 := hidMk (S10.block (fun e => by have := t1.2 r e; omega) HR9.out)
            have hM10 := hidMk M10
            have hT10 : Hid (¬ h10.own mb C ∧ ∀ g, h10.own mb g → r < g) := by
              have hC9l : C < w9.heap.size := (Array.getElem?_eq_some_iff.1 HC9.out).1
              have hR9l : r < w9.heap.size := (Array.getElem?_eq_some_iff.1 HR9.out).1
              refine ⟨fun e => t1.1 ((S10.own hC9l).1 e), fun g hg => ?_⟩
              by_cases hgw : r < g
              · exact hgw
              · exact t1.2 g ((S10.own (by omega)).1 hg)
            have hK10 : Hid (Stil W w10) := HK9.out.trans S10.keep (fun _ _ e => e) (fun g hg e => by have := t1.2 g e; omega)
            clear M10 S10 HDo HM9 HR9 HC9 HK9 c9 b0' b1'
            go_wp2
            go_roundw
            case rel => exact ⟨q + 1, h10, by omega, by go_num, hM10, hC10, hR10, hT10, hK10⟩
            case measure => simp [intOf]; omega
          · have hst : Hid (gsAt k (nmL zs) ps (q + 1) = gsAt k (nmL zs) ps q) := by
              show _ = _
              rw [HEK.out]; unfold stepG; rw [if_neg (by rw [← HEC.out]; exact hc0)]
            have q1 : (gcAt k (nmL zs) ps q == 0) = false := by rw [beq_eq_false_iff_ne]; exact hc0
            rw [← hst.out] at HM9
            clear hc0 HEC HEK hst
            go_wp2
            go_roundw
            case rel => exact ⟨q + 1, h, by omega, by go_num, HM9, HC9, HR9, HT, HK9⟩
            case measure => simp [intOf]; omega
        · obtain rfl : q = pl := by omega
          have hS := HM.out.chosen
          obtain ⟨va, vc, hvv⟩ := segForm hS
          have HA := hidMk (fun (w9 : World) (hw : Stil wr w9) => away_any (HM.out.still hw) z2 (gb_at k (nmL zs) ps q) (by omega))
          obtain ⟨c0, c1, c2, cf⟩ := HM.out.cells
          rw [hvv] at c1 hS
          have HSg := hidMk hS
          have HCs : Hid (∀ w9, Stil wr w9 → w9.cell? ⟨mb, 1, none⟩ = some (.slice va (gsAt k (nmL zs) ps q).ch.length vc) ∧ w9.cell? ⟨mb, 2, none⟩ = some (.int .i64 ((gsAt k (nmL zs) ps q).sent : Int))) := fun w9 hw => ⟨hw.cell c1, hw.cell c2⟩
          have HC0 := hidMk (HCs.out _ (stilDrew wr))
          clear hS c0 c1 c2 cf hvv
          generalize hil : (gsAt k (nmL zs) ps q).ch.length = il at *
          generalize hse : (gsAt k (nmL zs) ps q).sent = se at *
          generalize haw : awayG (gsAt k (nmL zs) ps q) k = aw at *
          go_wp2_with (fail)
          refine wp_region_class (fun w' => w'.cell? ⟨mb, 1, none⟩ = some (.slice va il vc) ∧ w'.cell? ⟨mb, 2, none⟩ = some (.int .i64 (se : Int))) 9 (by kernel_rfl) ?_
          refine wpAnyC_take (i := 0) (fuel := 8) (v := .slice (some ⟨C, 0, none⟩) q q) rfl (by kernel_rfl) (by kernel_rfl) (by kernel_rfl) (by kernel_rfl) (fun _ _ _ h => h) (.inl ⟨by kernel_rfl, fun w' hC => by obtain ⟨y1, y2⟩ := hC; go_simp⟩) HC0.out ?_
          go_frame
          refine wpAnyC_take (i := 1) (fuel := 7) (v := .pointer (some ⟨mb, 1, none⟩)) rfl (by kernel_rfl) (by kernel_rfl) (by kernel_rfl) (by kernel_rfl) (fun _ _ _ h => h) (.inl ⟨by kernel_rfl, fun w' hC => by obtain ⟨y1, y2⟩ := hC; go_simp⟩) HC0.out ?_
          go_frame
          refine wpAnyC_take (i := 2) (fuel := 6) (v := .slice va il vc) rfl (by kernel_rfl) (by kernel_rfl) (by kernel_rfl) (by kernel_rfl) (fun _ _ _ h => h) (.inl ⟨by kernel_rfl, fun w' hC => by obtain ⟨y1, y2⟩ := hC; go_simp⟩) HC0.out ?_
          go_frame
          refine wpAnyC_take (i := 3) (fuel := 5) (v := .pointer (some ⟨mb, 2, none⟩)) rfl (by kernel_rfl) (by kernel_rfl) (by kernel_rfl) (by kernel_rfl) (fun _ _ _ h => h) (.inl ⟨by kernel_rfl, fun w' hC => by obtain ⟨y1, y2⟩ := hC; go_simp⟩) HC0.out ?_
          go_frame
          refine wpAnyC_take (i := 4) (fuel := 4) (v := .int .i64 (se : Int)) rfl (by kernel_rfl) (by kernel_rfl) (by kernel_rfl) (by kernel_rfl) (fun _ _ _ h => h) (.inl ⟨by kernel_rfl, fun w' hC => by obtain ⟨y1, y2⟩ := hC; go_simp⟩) HC0.out ?_
          go_frame
          have hmr2 : mb ≠ r := fun e => by have := HT.out.2 mb (.inr rfl); omega
          have hCl : C < wr.heap.size := (Array.getElem?_eq_some_iff.1 HC.out).1
          have hRl : r < wr.heap.size := (Array.getElem?_eq_some_iff.1 HR.out).1
          refine wpAnyC_one 5 (fuel := 3) (by kernel_rfl) rfl rfl (fun K5 hK5 => ?_)
          go_wp2_with (go_at_call 18; refine (HA.out _ (stilDrew wr)).mono ?_; rintro e w9 ⟨rfl, S9⟩)
          have HS9 := hidMk (Stil.tr (stilDrew wr) S9)
          clear S9 HA
          refine ⟨fun _ => HCs.out _ HS9.out, ?_⟩
          try go_frame
          refine wpAnyC_one 6 (fuel := 2) (by kernel_rfl) rfl rfl (fun K6 hK6 => ?_)
          go_wp2
          refine ⟨fun _ => HCs.out _ HS9.out, ?_⟩
          try go_frame
          have hb := (HS9.out.block r hRl (fun e => e)).trans HR.out
          have r0 : w9.cell? ⟨r, 0, none⟩ = some (.slice none 0 0) := by rw [cell_of_row w9 _ _ _ _ _ hb]; rfl
          have r1 : w9.cell? ⟨r, 1, none⟩ = some (.slice none 0 0) := by rw [cell_of_row w9 _ _ _ _ _ hb]; rfl
          have r2 : w9.cell? ⟨r, 2, none⟩ = some (.int .i64 0) := by rw [cell_of_row w9 _ _ _ _ _ hb]; rfl
          have r3 : w9.cell? ⟨r, 3, none⟩ = some (.int .i64 0) := by rw [cell_of_row w9 _ _ _ _ _ hb]; rfl
          have f0 : w9.frozen? ⟨r, 0, none⟩ = false := frozen_of_row w9 _ _ _ _ hb
          have f1 : w9.frozen? ⟨r, 1, none⟩ = false := frozen_of_row w9 _ _ _ _ hb
          have f2 : w9.frozen? ⟨r, 2, none⟩ = false := frozen_of_row w9 _ _ _ _ hb
          have f3 : w9.frozen? ⟨r, 3, none⟩ = false := frozen_of_row w9 _ _ _ _ hb
          have b1 := heap_setCell_same w9 r 0 _ _ (.slice (some ⟨C, 0, none⟩) q q) hb
          have b2 := heap_setCell_same _ r 1 _ _ (.slice va il vc) b1
          have b3 := heap_setCell_same _ r 2 _ _ (.int .i64 (se : Int)) b2
          have b4 := heap_setCell_same _ r 3 _ _ (.int .i64 (aw : Int)) b3
          have kk := ((((Keep.refl (fun g => g = r) w9).setCell r 0 (.slice (some ⟨C, 0, none⟩) q q) (fun _ => rfl)).setCell r 1 (.slice va il vc) (fun _ => rfl)).setCell r 2 (.int .i64 (se : Int)) (fun _ => rfl)).setCell r 3 (.int .i64 (aw : Int)) (fun _ => rfl)
          have HB4 := hidMk b4
          have HKK := hidMk kk
          have HCk : Hid (((((w9.setCell ⟨r, 0, none⟩ (.slice (some ⟨C, 0, none⟩) q q)).setCell ⟨r, 1, none⟩ (.slice va il vc)).setCell ⟨r, 2, none⟩ (.int .i64 (se : Int))).setCell ⟨r, 3, none⟩ (.int .i64 (aw : Int))).cell? ⟨mb, 1, none⟩ = some (.slice va il vc) ∧ ((((w9.setCell ⟨r, 0, none⟩ (.slice (some ⟨C, 0, none⟩) q q)).setCell ⟨r, 1, none⟩ (.slice va il vc)).setCell ⟨r, 2, none⟩ (.int .i64 (se : Int))).setCell ⟨r, 3, none⟩ (.int .i64 (aw : Int))).cell? ⟨mb, 2, none⟩ = some (.int .i64 (se : Int))) := by
            have hm9 := World.block_lt_of_cell? _ _ (HCs.out _ HS9.out).1
            exact ⟨(World.cell?_of_block (kk.block mb hm9 hmr2)).trans (HCs.out _ HS9.out).1, (World.cell?_of_block (kk.block mb hm9 hmr2)).trans (HCs.out _ HS9.out).2⟩
          have hC9 := (HS9.out.block C hCl (fun e => e)).trans HC.out
          have hCr : ¬ C = r := fun e => by have := hC9; rw [e, hb] at this; simp at this
          have HC9 := hidMk ((kk.block C (Nat.lt_of_lt_of_le hCl HS9.out.size) hCr).trans hC9)
          have HCsz : Hid (C < ((((w9.setCell ⟨r, 0, none⟩ (.slice (some ⟨C, 0, none⟩) q q)).setCell ⟨r, 1, none⟩ (.slice va il vc)).setCell ⟨r, 2, none⟩ (.int .i64 (se : Int))).setCell ⟨r, 3, none⟩ (.int .i64 (aw : Int))).heap.size) := Nat.lt_of_lt_of_le (Nat.lt_of_lt_of_le hCl HS9.out.size) kk.size
          clear hb b1 b2 b3 b4 kk hC9 HC0
          refine wpAnyC_one 7 (fuel := 1) (by kernel_rfl) rfl rfl (fun K7 hK7 => ?_)
          go_wp2
          refine ⟨fun _ => HCk.out, ?_⟩
          try go_frame
          refine wpAnyC_one 8 (fuel := 0) (by kernel_rfl) rfl rfl (fun K8 hK8 => ?_)
          go_wp2
          refine ⟨fun _ => HCk.out, ?_⟩
          refine wpAnyC_done (by kernel_rfl) ?_
          show Exit.then _ _ Exit.normal _ _
          go_wp2
          refine bodyPost_ret (results_cell_tmp_rowC (P := Try.prog) rfl _ _ r 26 #[.slice (some ⟨C, 0, none⟩) q q, .slice va il vc, .int .i64 (se : Int), .int .i64 (aw : Int)] (0, 0) _ rfl (by simpa using HB4.out) Try.underlying26 rfl (by kernel_rfl)) rfl ?_
          have hrow : RowI wr va il vc (natsI (gsAt k (nmL zs) ps q).ch) := by have := HSg.out; rw [← hil] at this ⊢; exact seg_row this
          subst hil
          subst hse
          subst haw
          refine ⟨⟨C, va, vc, rfl, ?_, rowI_keep (hrow.still HS9.out) HKK.out (fun x hx e => ?_)⟩, (HK.out.tr HS9.out).trans HKK.out (fun _ _ e => e) (fun g hg e => by omega)⟩
          · refine ⟨by simp, Nat.le_refl _, by unfold maxLen; omega, .inr ⟨C, 0, rfl, HCsz.out, fun j x hx => ?_⟩⟩
            rw [cell_of_row _ _ _ _ _ _ HC9.out]
            simp only [List.getElem?_toArray, Nat.zero_add]
            have hj := (List.getElem?_eq_some_iff.1 hx).1
            simp at hj
            rw [gcRow_at hj, if_pos hj]
            simp [hj] at hx
            rw [hx]
          · have := (HSg.out.block (k := x.block) (by rw [hx]; rfl)).1
            have h9 := HT.out.2 x.block (.inl (by rw [this]; simp))
            omega
end Go.Proofs.Ytadanpghmfhhkaa
