/- clocks.vectors, walked. -/
import Derived.Test.YtjglbjiekndpeabH9
namespace Go.Proofs.Ytjglbjiekndpeab
open Go.RowKit Go.Shelf
set_option linter.unusedVariables false

attribute [local go_sem] Oper.semAt_some

set_option maxRecDepth 100000 in
set_option maxHeartbeats 4000000 in
theorem vectors_ok (n : Nat) (a : Option Addr) (len cap : Nat) (es : List Ev) (w : World) (h : CameEv w a len cap es) (hv : Valid (n : Int) es) :
    Calls Try.prog 22 #[.int .i64 (n : Int), .slice a len cap] w fun e W2 => (∃ O R, e = .returned (.slice (some ⟨O, 0, none⟩) len len) ∧ RowV W2 w.heap.size O len n R len ∧ ∀ j, j < len → RowI W2 w.heap.size (R j) n (fun p => vc es p j)) ∧ Below w.heap.size w W2 := by
  have hl := h.1
  have hn6 : n ≤ 6 := by have := hv.2.1; omega
  have hn6' : (n : Int) ≤ 6 := by omega
  have hl2 : len ≤ 60 := by have := hv.2.2.1; omega
  have hl2' : (len : Int) ≤ 60 := by omega
  have hmk := make_rows len (by omega)
  have hmi := make_ints n (by omega)
  have HV := hidMk hv
  have HH := hidMk h
  have HL := hidMk hl
  clear hv h hl
  refine (callsIn_wide (n := 6)).1 ?_
  refine callsIn_of_wp_marks Try.func22 rfl trivial ?_ rfl
  simp only [Try.ntmps22, List.size_toArray, List.length_cons, List.length_nil, Nat.reduceAdd, Nat.reduceSub, Array.replicate_succ, Array.replicate_zero, List.push_toArray, List.append_toArray, List.nil_append, List.cons_append]
  gi_wp2_with (refine ⟨trivial, ?_⟩; gi_at_call 24; refine (nearest_in _ _ trivial rfl _ _ _ _).mono ?_; rintro e w2 ⟨rfl, rfl⟩)
  clear hmk
  obtain ⟨WL, hWL⟩ : ∃ WL, (((((w.alloc (.cells #[.int .i64 (n : Int)] 3)).alloc (.cells #[.slice a len cap] 22)).alloc (.cells (madeCells #[.slice none 0 0] len) 23)).alloc (.cells #[.slice (some ⟨w.heap.size + 1 + 1, 0, none⟩) len len] 36)).alloc (.cells #[.slice a len cap] 22)) = WL := ⟨_, rfl⟩
  have sL : WL.heap.size = w.heap.size + 5 := by rw [← hWL]; simp
  have gL : w.grownBy WL none := by rw [← hWL]; exact grown_none (grown_none (grown_none (grown_none (World.grownBy_alloc _ _ none) (World.grownBy_alloc _ _ none)) (World.grownBy_alloc _ _ none)) (World.grownBy_alloc _ _ none)) (World.grownBy_alloc _ _ none)
  have bL : Below w.heap.size w WL := ⟨gL.os, gL.tape, gL.output, gL.size, fun k hk => gL.block k hk (by simp)⟩
  have cL : WL.cell? ⟨w.heap.size + 1 + 1 + 1 + 1, 0, none⟩ = some (.slice a len cap) := by rw [← hWL]; simp [World.cell?_alloc_at]
  have vL : VM es w.heap.size a len cap n (fun _ => 0) 0 WL := by
    rw [← hWL]
    refine ⟨?_, ?_, ?_, ?_⟩
    · exact ((((Boxed.new w 3 (.int .i64 (n : Int))).alloc _).alloc _).alloc _).alloc _
    · have := (((Boxed.new (w.alloc (.cells #[.int .i64 (n : Int)] 3)) 22 (.slice a len cap)).alloc (.cells (madeCells #[.slice none 0 0] len) 23)).alloc (.cells #[.slice (some ⟨w.heap.size + 1 + 1, 0, none⟩) len len] 36)).alloc (.cells #[.slice a len cap] 22)
      simpa using this
    · have := (Boxed.new (((w.alloc (.cells #[.int .i64 (n : Int)] 3)).alloc (.cells #[.slice a len cap] 22)).alloc (.cells (madeCells #[.slice none 0 0] len) 23)) 36 (.slice (some ⟨w.heap.size + 1 + 1, 0, none⟩) len len)).alloc (.cells #[.slice a len cap] 22)
      simpa using this
    · have h0 := World.ownsRow_lit (e := 23) (size := 1) (base := w.heap.size) ((w.alloc (.cells #[.int .i64 (n : Int)] 3)).alloc (.cells #[.slice a len cap] 22)) (madeCells #[.slice none 0 0] len) len (by simp; omega) (by unfold maxLen; omega) (by rw [size_madeCells]; omega)
      rw [outRow_zero n len (fun _ => 0)] at h0
      have h1 := (h0.alloc (.cells #[.slice (some ⟨w.heap.size + 1 + 1, 0, none⟩) len len] 36)).alloc (.cells #[.slice a len cap] 22)
      simpa using h1
  have hq : len = 0 ∨ ∃ b off, a = some ⟨b, off, none⟩ ∧ b < w.heap.size ∧ EvRow WL b off es := by
    rcases HH.out.2.2.2 with h | ⟨b, off, h1, h2⟩
    · exact .inl h
    · exact .inr ⟨b, off, h1, h2.1, h2.below h2.1 bL⟩
  rw [hWL]
  clear hWL
  refine rangeFunc_told rfl (by decide) (gf := 27) (lb := #[.pointer (some ⟨w.heap.size + 1 + 1 + 1 + 1, 0, none⟩)]) rfl trivial (enters_of Try.func27 (by kernel_rfl) rfl)
    (nearest_tells Fence.wide _ trivial rfl (by decide) (w.heap.size + 1 + 1 + 1 + 1) w.heap.size len cap a (n : Int) es HL.out HV.out WL (by omega) (by omega) cL hq)
    kpN_t (kpN_b (by omega)) (told_own es _ _) (Below.refl _ _) (fun _ => rfl)
    (VI es w a len cap n) (vi_own es w a len cap n _ (by omega)) ⟨⟨_, vL, fun j hj => by cases hj⟩, bL⟩
    (fun x => { tmps := #[.int .i64 (n : Int), .slice a len cap, .pointer (some ⟨w.heap.size, 0, none⟩), .pointer (some ⟨w.heap.size + 1, 0, none⟩), .slice none 0 0, .pointer (some ⟨w.heap.size + 1 + 1 + 1, 0, none⟩), .int .i64 (x.1 : Int), x.2, undef, undef, .slice a len cap, .int .i64 (len : Int), .slice (some ⟨w.heap.size + 1 + 1, 0, none⟩) len len, .slice a len cap, .func (.func 27) #[] #[.pointer (some ⟨w.heap.size + 1 + 1 + 1 + 1, 0, none⟩)], .int .i64 (x.1 : Int), x.2, undef, undef, undef, undef, undef, undef, undef, undef, undef, undef, undef, undef, undef, undef, undef, undef, undef, undef, undef, undef, undef, undef, undef, undef, undef, undef, undef, undef, undef, undef, undef, undef, undef, undef, undef], defers := [] }) ?assign ?body ?done
  case assign =>
    intro l x W K hK
    gi_wp2
    exact hK
  case body =>
    rintro l pre ⟨i, v⟩ W ⟨⟨R, hvm, hvr⟩, hB⟩ ⟨hi, hilt, hnr⟩
    dsimp only at hi hilt hnr ⊢
    have HI := hidMk hi
    rw [← hi] at hvm hvr
    clear hi
    have hil : i < len := by have := HL.out; omega
    have hil' : (i : Int) < (len : Int) := by omega
    obtain ⟨av, cv, hvv, HCE⟩ := near_cells hnr
    subst hvv
    have hns := nearOf_len es i
    have HNL : Hid (∀ z ∈ nearOf es i, z < i) := fun z hz => nearOf_lt HV.out hz
    have HTO : Hid (∀ p m, topOf (vc es p) (nearOf es i) m ≤ 60) := fun p => topOf_le (fun z hz => by have := HNL.out z hz; have := vc_le HV.out p (z + 1) z (by omega); omega)
    have hWs := hB.size
    obtain ⟨hb1, hb2, hb3, hb4⟩ := id hvm
    have hc1 := hb1.cell
    have hc2 := hb2.cell
    have hc3 := hb3.cell
    have hfz := World.ownsRow.frozenAt hb4 i
    have hci : W.cell? ⟨w.heap.size + 1 + 1, i, none⟩ = some (.slice none 0 0) := by
      rw [World.ownsRow.cellAt hb4 i (by omega), outRow_at hil]; simp
    have ha4 := hb4.alloc (.cells (madeCells #[.int .i64 0] n) 3)
    have hfa := World.ownsRow.frozenAt ha4 i
    have hca : (W.alloc (.cells (madeCells #[.int .i64 0] n) 3)).cell? ⟨w.heap.size + 1 + 1, i, none⟩ = some (.slice none 0 0) := by
      rw [World.ownsRow.cellAt ha4 i (by omega), outRow_at hil]; simp
    have hmo : Try.prog.follows .mixedOrders = true := by kernel_rfl
    have hlt3 := hb3.lt
    have HVM := hidMk hvm
    have HVR := hidMk hvr
    clear hnr ha4 hb1 hb2 hb3 hb4 hvm hvr
    have HM1 := hidMk (made1 hn6 HVM.out HVR.out)
    gi_wp2
    refine wpIn_mono (Q := fun e a2 W2 => e = .normal ∧ a2 = { tmps := #[.int .i64 (n : Int), .slice a len cap, .pointer (some ⟨w.heap.size, 0, none⟩), .pointer (some ⟨w.heap.size + 1, 0, none⟩), .slice none 0 0, .pointer (some ⟨w.heap.size + 1 + 1 + 1, 0, none⟩), .int .i64 (i : Int), .slice av (nearOf es i).length cv, undef, undef, .slice a len cap, .int .i64 (len : Int), .slice (some ⟨w.heap.size + 1 + 1, 0, none⟩) len len, .slice a len cap, .func (.func 27) #[] #[.pointer (some ⟨w.heap.size + 1 + 1 + 1 + 1, 0, none⟩)], .int .i64 (i : Int), .slice av (nearOf es i).length cv, .slice (some ⟨w.heap.size + 1 + 1, 0, none⟩) len len, .int .i64 (i : Int), .int .i64 (n : Int), .slice (some ⟨W.heap.size, 0, none⟩) n n, .pointer (some ⟨w.heap.size + 1 + 1, i, none⟩), undef, undef, undef, undef, undef, undef, undef, undef, undef, undef, undef, undef, undef, undef, undef, undef, undef, undef, undef, undef, undef, undef, undef, undef, undef, undef, undef, undef, undef, undef], defers := [] } ∧ Made1 es w.heap.size a len cap n R i W W2) ?reg ?rest
    case reg =>
      gi_region_with_o (fail)
      all_goals exact ⟨rfl, rfl, made1_drew HM1.out⟩
    case rest =>
      rintro e a2 W1 ⟨rfl, rfl, hrow, hvm1, hvr1, hg1, hs1⟩
      clear hmi hc1 hc2 hc3 hfz hci HM1 hfa hca
      have hvr2 : ∀ j, j < i → RowI W1 (w.heap.size + 4) (R j) n (fun p => vc es p j) ∧ R j < W.heap.size := fun j hj => ⟨hvr1 j hj, (World.ownsRow.lt (HVR.out j hj) (R j) rfl).2⟩
      have HR2 := hidMk hvr2
      have HG1 := hidMk hg1
      have HVM1 := hidMk hvm1
      clear hvr1 hvr2 hg1 hvm1 HVM HVR
      gi_wp2
      gi_loopw [24] (fun u wr => ∃ m : Nat, m ≤ (nearOf es i).length ∧ u = .int .i64 (m : Int) ∧ RowI wr (w.heap.size + 4) W.heap.size n (fun p => topOf (vc es p) (nearOf es i) m) ∧ Hid (W1.grownBy wr (some W.heap.size))) (fun u _ => (nearOf es i).length - (intOf u).toNat)
      case atStart => exact ⟨0, Nat.zero_le _, rfl, hrow, grown_refl _ _⟩
      case round =>
        clear hrow
        obtain ⟨m, hm, rfl, hrow, HG⟩ := hrel
        obtain ⟨hb1, hb2, hb3, hb4⟩ := HVM1.out.kept HG.out (by omega)
        have hc1 := hb1.cell
        have hc2 := hb2.cell
        have hc3 := hb3.cell
        have hci : wr.cell? ⟨w.heap.size + 1 + 1, i, none⟩ = some (.slice (some ⟨W.heap.size, 0, none⟩) n n) := by
          rw [World.ownsRow.cellAt hb4 i (by omega), outRow_at hil]; simp [putR]
        by_cases hlt : m < (nearOf es i).length
        · rcases HCE.out with h | ⟨g, ha, hg1, hg2, hgc⟩
          · omega
          subst ha
          obtain ⟨z, hz⟩ : ∃ z, (nearOf es i)[m]? = some z := ⟨_, List.getElem?_eq_getElem hlt⟩
          have hzi : z < i := HNL.out z (List.mem_of_getElem? hz)
          have hzl : (z : Int) < (len : Int) := by omega
          have hzc : wr.cell? ⟨g, m, none⟩ = some (.int .i64 (z : Int)) :=
            (World.cell?_of_block (a := ⟨g, m, none⟩) (HG.out.block g (Nat.lt_of_lt_of_le hg2 HG1.out.size) (by intro e; cases e; omega))).trans ((World.cell?_of_block (a := ⟨g, m, none⟩) (HG1.out.block g hg2 (by intro e; cases e; omega))).trans (hgc m z hz))
          have hcz : wr.cell? ⟨w.heap.size + 1 + 1, z, none⟩ = some (.slice (some ⟨R z, 0, none⟩) n n) := by
            rw [World.ownsRow.cellAt hb4 z (by omega), outRow_at (by omega), if_pos (by omega)]; simp [putR, Nat.ne_of_lt hzi]
          obtain ⟨hrz, hrl⟩ := HR2.out z hzi
          have hrz2 := World.ownsRow.kept hrz HG.out (.inr (by simp [Value.ownBlock]; omega))
          have HRS : Hid (∀ k, Calls Try.prog 25 #[.slice (some ⟨W.heap.size, 0, none⟩) n n, .slice (some ⟨R z, 0, none⟩) n n] (wr.drewN k) fun e w2 => (∃ v, e = .returned v) ∧ RowI w2 (w.heap.size + 4) W.heap.size n (fun p => max (topOf (vc es p) (nearOf es i) m) (vc es p z)) ∧ (wr.drewN k).grownBy w2 (some W.heap.size)) :=
            fun k => raise_any W.heap.size (R z) n _ _ _ _ (wr.drewN k) hn6 (by omega) hrow hrz2
          have HSS : Hid (rowN n (fun p => max (topOf (vc es p) (nearOf es i) m) (vc es p z)) = rowN n (fun p => topOf (vc es p) (nearOf es i) (m + 1))) := rowN_congr fun p _ => (topOf_succ (vc es p) _ hz).symm
          clear hgc hz hrow hb1 hb2 hb3 hb4 hrz hrz2
          gi_wp2
          refine wpIn_region_tail rfl (by kernel_rfl) (by kernel_rfl) (by kernel_rfl) (by kernel_rfl) (by kernel_rfl) rfl ?_
          dsimp only [List.dropLast, List.getLast]
          repeat (quiet_step (fail))
          refine wpQuiet_nil ?_
          rintro _ ⟨nq, rfl⟩
          gi_wp2_with (first | (refine ⟨trivial, ?_⟩; gi_at_call 25; refine (CallsIn.inRound l (callsIn_wide.2 (HRS.out nq))).mono ?_; rintro e w3 ⟨⟨v, rfl⟩, hr3, hg3⟩) | (gi_at_call 25; refine (CallsIn.inRound l (callsIn_wide.2 (HRS.out nq))).mono ?_; rintro e w3 ⟨⟨v, rfl⟩, hr3, hg3⟩))
          refine ⟨⟨m + 1, by omega, by go_num, ?_, grown_same (grown_same HG.out (grown_drewN wr nq _)) hg3⟩, by simp [intOf]; omega⟩
          unfold RowI at hr3 ⊢
          rw [← HSS.out]; exact hr3
        · obtain rfl : m = (nearOf es i).length := by omega
          have hBr : Below w.heap.size w wr := by
            refine (hB.trans ⟨HG1.out.os, HG1.out.tape, HG1.out.output, HG1.out.size, fun k hk => HG1.out.block k (by omega) (by intro e; cases e; omega)⟩).trans ⟨HG.out.os, HG.out.tape, HG.out.output, HG.out.size, fun k hk => HG.out.block k (by omega) (by intro e; cases e; omega)⟩
          rcases HH.out.2.2.2 with h | ⟨b, off, ha, hev⟩
          · omega
          subst ha
          obtain ⟨ev, he, hme, hfe, hd1, hd2, hd3⟩ := (hev.below hev.1 hBr).at (k := i) hilt
          obtain ⟨_, hw0, hw1, _⟩ := HV.out.2.2.2 i ev he
          obtain ⟨p0, hp0⟩ : ∃ p0 : Nat, ev.who = (p0 : Int) := ⟨ev.who.toNat, by omega⟩
          rw [hp0] at hd2 hw1
          have hp0n : p0 < n := by omega
          have hcr : wr.cell? ⟨W.heap.size, p0, none⟩ = some (.int .i64 ((topOf (vc es p0) (nearOf es i) (nearOf es i).length : Nat) : Int)) := by
            rw [World.ownsRow.cellAt hrow p0 (by omega), List.getElem?_map, rowN_at hp0n]; simp [encN]
          have hfr := World.ownsRow.frozenAt hrow p0
          have hto : ((topOf (vc es p0) (nearOf es i) (nearOf es i).length : Nat) : Int) ≤ 60 := by have := HTO.out p0 (nearOf es i).length; omega
          have HVD := hidMk (vc_done HV.out (i := i) (p0 := p0) n ((whoAt_eq he).trans hp0))
          have HR := hidMk hrow
          have HBR := hidMk hBr
          clear hd1 hd3 hme hfe he hev hrow hb1 hb2 hb3 hb4 hw0 hp0 hBr
          gi_wp2
          refine wpIn_region_tail rfl (by kernel_rfl) (by kernel_rfl) (by kernel_rfl) (by kernel_rfl) (by kernel_rfl) rfl ?_
          dsimp only [List.dropLast, List.getLast]
          repeat (quiet_step (fail))
          refine wpQuiet_nil ?_
          rintro _ ⟨nq, rfl⟩
          gi_wp2
          have hst := World.ownsRow.stored (w := wr.drewN nq) HR.out p0 (encN (topOf (vc es p0) (nearOf es i) (nearOf es i).length + 1))
          rw [← map_set, HVD.out] at hst
          have hg2 : W1.grownBy ((wr.drewN nq).setCell ⟨W.heap.size, p0, none⟩ (encN (topOf (vc es p0) (nearOf es i) (nearOf es i).length + 1))) (some W.heap.size) := grown_same (grown_same HG.out (grown_drewN wr nq _)) hst.2
          have hg3 := grown_fresh HG1.out hg2 (Nat.le_refl _)
          have hk := round_keeps (n₀ := w.heap.size) (Bs := w.heap.size + 1 + 1 + 1 + 1) (B := w.heap.size + 5) hg3 (by omega) (by omega) (by omega) hWs
          refine ⟨hk.1, hk.2, ⟨putR R i W.heap.size, ?_, ?_⟩, ?_⟩
          · rw [List.length_append, ← HI.out]; exact HVM1.out.kept hg2 (by omega)
          · rw [List.length_append, ← HI.out]
            intro j hj
            unfold putR
            by_cases hji : j = i
            · subst hji; rw [if_pos rfl]; exact hst.1
            · rw [if_neg hji]
              obtain ⟨hrz, hrl⟩ := HR2.out j (by simp at hj; omega)
              exact World.ownsRow.kept hrz hg2 (.inr (by simp [Value.ownBlock]; omega))
          · exact hB.trans ⟨hg3.os, hg3.tape, hg3.output, hg3.size, fun k hk => hg3.block k (by omega) (by intro e; cases e; omega)⟩
  case done =>
    rintro D ys W hD hS ⟨⟨R, hvm, hvr⟩, hB⟩ hK
    have hc3 := hvm.2.2.1.cell
    gi_wp2
    refine ⟨by simp, .inl ⟨_, _, rfl, run_takeDeferred hK, ?_⟩⟩
    have hb2 : Below w.heap.size w (W.putObj D (.deferred none)) := hB.trans (belowK_b (w := w) (Nat.le_refl _) W D _ _ (by omega) hK rfl rfl)
    have hyl : ys.length = len := hS.trans HL.out
    rw [hyl] at hvm hvr
    refine ⟨_, results_tmp rfl _ _ _, ⟨_, R, rfl, ownsRow_putObj hvm.2.2.2 (.deferred none) hK rfl, fun j hj => ?_⟩, hb2⟩
    exact owns_le (ownsRow_putObj (hvr j hj) (.deferred none) hK rfl) (by omega)
end Go.Proofs.Ytjglbjiekndpeab
