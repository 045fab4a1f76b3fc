/- The closure of clocks.nearest, walked. -/
import Derived.Test.YtjglbjiekndpeabH2
namespace Go.Proofs.Ytjglbjiekndpeab
open Go.RowKit Go.Shelf
set_option linter.unusedVariables false

attribute [local go_sem] Oper.semAt_some

theorem grown_none_kpN {n₀ Bs : Nat} {A B : World} (hg : A.grownBy B none) (hn : n₀ ≤ A.heap.size) : KpN n₀ Bs A B :=
  ⟨⟨hg.os, hg.tape, hg.output, hg.size, fun k hk => hg.block k (by omega) (by simp)⟩, fun k o _ ho _ => (hg.block k (Array.getElem?_eq_some_iff.1 ho).1 (by simp)).trans ho⟩
theorem kpN_round {n₀ Bs : Nat} {W wr Wy W3 w4 : World} (hkp : KpN n₀ Bs W wr) (hg : wr.grownBy Wy none) (hk3 : KpN n₀ Bs Wy W3) (hg4 : W3.grownBy w4 (some W.heap.size)) (hn : n₀ ≤ W.heap.size) : KpN n₀ Bs W w4 := by
  have h1 : KpN n₀ Bs W W3 := kpN_t hkp (kpN_t (grown_none_kpN hg (Nat.le_trans hn hkp.1.size)) hk3)
  refine ⟨⟨hg4.os.trans h1.1.os, hg4.tape.trans h1.1.tape, hg4.output.trans h1.1.output, Nat.le_trans h1.1.size hg4.size, fun k hk => ?_⟩, fun k o hk ho hc => ?_⟩
  · exact (hg4.block k (by have := h1.1.size; omega) (by intro e; cases e; omega)).trans (h1.1.block k hk)
  · have h3 := h1.2 k o hk ho hc
    exact (hg4.block k (Array.getElem?_eq_some_iff.1 h3).1 (by intro e; cases e; have := (Array.getElem?_eq_some_iff.1 ho).1; omega)).trans h3
theorem map_kept {n₀ Bs M k : Nat} {D : DataW Unit} {A B : World} (h : A.ownsMap Try.prog 3 (plainElem Try.prog 3) M k D) (hk : KpN n₀ Bs A B) (hM : Bs ≤ M) : B.ownsMap Try.prog 3 (plainElem Try.prog 3) M k D ∧ ∃ o : Obj, B.heap[M]? = some o ∧ o.isWalk = true := by
  obtain ⟨m, clock, hb, r⟩ := h
  have := hk.2 M _ hM hb rfl
  exact ⟨⟨m, clock, this, r⟩, _, this, rfl⟩
theorem one_cell (z : Int) : ∀ u ∈ [Value.int .i64 z], u.oneCell' = true := by intro u hu; simp at hu; subst hu; rfl
theorem owns_le {w : World} {base base2 size n : Nat} {e : TypeId} {v : Value} {xs : List Value} (h : w.ownsRow base e size v n xs) (hb : base2 ≤ base) : w.ownsRow base2 e size v n xs := by
  obtain ⟨h1, h2 | ⟨g, cap, cur, h2, h3, h4⟩⟩ := h
  · exact ⟨h1, .inl h2⟩
  · exact ⟨h1, .inr ⟨g, cap, cur, h2, Nat.le_trans hb h3, h4⟩⟩
theorem cell_one_at (w : World) (t : TypeId) (v : Value) (b : Nat) (hb : b = w.heap.size) : ∀ j u, [v][j]? = some u → (w.alloc (.cells #[v] t)).cell? ((⟨b, 0, none⟩ : Addr).add j) = some u := by
  subst hb
  exact cell_one_new _ _ _
theorem grown_none {A B C : World} (h : A.grownBy B none) (k : B.grownBy C none) : A.grownBy C none := h.trans k
theorem grown_new {A B C : World} {r : Nat} (h : A.grownBy B none) (k : B.grownBy C (some r)) (hr : A.heap.size ≤ r) : A.grownBy C none :=
  ⟨k.os.trans h.os, k.tape.trans h.tape, k.output.trans h.output, Nat.le_trans h.size k.size, fun i hi _ => (k.block i (Nat.lt_of_lt_of_le hi h.size) (by intro e; cases e; omega)).trans (h.block i hi (by simp))⟩
theorem grown_cell {A B : World} (h : A.grownBy B none) {b i : Nat} {v : Value} (hc : A.cell? ⟨b, i, none⟩ = some v) : B.cell? ⟨b, i, none⟩ = some v :=
  (World.cell?_of_block (a := ⟨b, i, none⟩) (h.block b (World.block_lt_of_cell? _ _ hc) (by simp))).trans hc

set_option maxRecDepth 100000 in
set_option maxHeartbeats 4000000 in
theorem nearest1_in (F : Fence) (n : Nat) (hf : F.fn 27) (hro : F.round = none) (hn : 1 ≤ n) (l Bs n₀ n₁ len cap : Nat) (a : Option Addr) (N : Int) (es : List Ev) (hl : es.length = len) (hv : Valid N es)
    (J : List (Nat × Value) → World → Prop)
    (W : World) (hJ : AbidesFrom W.heap.size J)
    (hY : ∀ pre x W1, J pre W1 → Told es n₁ pre x W1 → YieldAt F (n - 1) Try.prog l #[.int .i64 (x.1 : Int), x.2] W1 fun e W2 =>
      e = .returned (.bool true) ∧ J (pre ++ [x]) W2 ∧ KpN n₀ Bs W1 W2)
    (hn0 : n₀ ≤ W.heap.size) (hn1 : n₁ ≤ W.heap.size) (hBs : Bs < W.heap.size) (hBc : W.cell? ⟨Bs, 0, none⟩ = some (.slice a len cap)) (hq : len = 0 ∨ ∃ b off, a = some ⟨b, off, none⟩ ∧ b < n₀ ∧ EvRow W b off es) (h0 : J [] W) :
    CallsIn F n Try.prog 27 #[.func (.yield l) #[] #[], .pointer (some ⟨Bs, 0, none⟩)] W fun e W2 => (∃ v, e = .returned v) ∧ ∃ ys : List (Nat × Value), ys.length = es.length ∧ J ys W2 := by
  have HL : Hid (es.length = len) := hl
  have hl2 : len ≤ 60 := by have := hv.2.2.1; omega
  have hl2' : (len : Int) ≤ 60 := by omega
  have HY := hidMk hY
  have HJ := hidMk hJ
  have HV := hidMk hv
  have HN0 := hidMk hn0
  clear hY hJ hl hv
  obtain ⟨i0, hi, hz0, hz1, hz2⟩ := info_parts Try.info3
  have hmm := @run_makeMap Try.prog
  refine callsIn_of_wp Try.func27 rfl hf ?_ hro
  simp only [Try.ntmps27, List.size_toArray, List.length_cons, List.length_nil, Nat.reduceAdd, Nat.reduceSub, Array.replicate_succ, Array.replicate_zero, List.push_toArray, List.append_toArray, List.nil_append, List.cons_append]
  gi_wp2
  gi_loopw [12] (fun i wr => ∃ (k : Nat) (pre : List (Nat × Value)) (D : DataW Unit), k ≤ len ∧ i = .int .i64 k ∧ J pre wr ∧ KpN n₀ Bs W wr ∧ wr.ownsMap Try.prog 3 (plainElem Try.prog 3) W.heap.size k D ∧ Hid (pre.length = k ∧ Lasts es k D ∧ W.heap.size < wr.heap.size))
    (fun i _ => len - (intOf i).toNat)
  case atStart =>
    refine ⟨0, [], .map [], Nat.zero_le _, rfl, HJ.out _ _ _ none h0 (World.grownBy_alloc W _ none) (fun r e => by cases e), grown_none_kpN (World.grownBy_alloc W _ none) HN0.out, World.ownsMap_made _ _ _ _, rfl, lasts_none es, ?_⟩
    simp
  case round =>
    obtain ⟨k, pre, D, hk, rfl, hJs, hkp, hown, HP⟩ := hrel
    by_cases hlt : k < len
    · rcases hq with h | ⟨b, off, ha, hb, hr⟩
      · omega
      subst ha
      obtain ⟨⟨kd, wh, of⟩, he, hm, hf, hc1, hc2, hc3⟩ := (hr.below hb hkp.1).at (k := k) (by rw [HL.out]; exact hlt)
      dsimp only at hc1 hc2 hc3
      obtain ⟨v1, v2, v3, v4⟩ := HV.out.2.2.2 k _ he
      dsimp only at v1 v2 v3 v4
      have v5 := HV.out.2.1
      have hwf : (Lit.int .i64 wh).wf = true := WalkArith.wf_i64 (by omega)
      have hwk : (Lit.int .i64 (k : Int)).wf = true := WalkArith.wf_i64 (by omega)
      have hkey := Maps.keyOf_int_mk (P := Try.prog) Try.underlying3 hwf
      obtain ⟨hh1, hh2⟩ := HP.out.2.1.2 wh
      have HNE := hidMk (nearOf_eq he)
      have HLN := hidMk (lasts_next HP.out.2.1 he)
      have HE := hidMk he
      have hWr : W.heap.size < wr.heap.size := HP.out.2.2
      have H4 := hidMk v4
      have HV1 := hidMk v1
      dsimp only at HNE HLN
      clear he hm hf v1 v2 v3 v4 v5
      obtain ⟨We, hWe⟩ : ∃ We, wr.alloc (.cells #[.int .i64 kd, .int .i64 wh, .int .i64 of] 35) = We := ⟨_, rfl⟩
      have hgE : wr.grownBy We none := by rw [← hWe]; exact World.grownBy_alloc wr _ none
      have hown1 := hown.kept hgE (by simp)
      have sE : We.heap.size = wr.heap.size + 1 := by rw [← hWe]; simp
      have e0 : We.cell? ⟨wr.heap.size, 0, none⟩ = some (.int .i64 kd) := by rw [← hWe]; simp [World.cell?_alloc_at]
      have e1 : We.cell? ⟨wr.heap.size, 1, none⟩ = some (.int .i64 wh) := by rw [← hWe]; simp [World.cell?_alloc_at]
      have e2 : We.cell? ⟨wr.heap.size, 2, none⟩ = some (.int .i64 of) := by rw [← hWe]; simp [World.cell?_alloc_at]
      subst hWe
      cases hla : lastAt es k wh with
      | none =>
        rw [hla] at hh1 HNE
        have hh1 : Maps.has D (.int .i64 wh) = false := hh1
        clear hh2 hla
        by_cases h3 : kd = 3
        · subst h3
          obtain ⟨j, hj, hjk⟩ := H4.out rfl
          subst hj
          have hNl : nearOf es k = [j] := by rw [HNE.out]; simp
          have HNL := hidMk hNl
          clear hNl HNE
          gi_wp2_with (first | (gi_at_lookup; refine wpListIn_lookup_own_ok_int _ rfl _ _ 51 rfl 3 3 .i64 (Maps.int_keyed Try.underlying3) Try.underlying51 Try.underlying3 (zeroI _) W.heap.size k D rfl hown1 _ _ rfl hkey ?_; intro c hat hwc) | (gi_at_builtin; refine wpListIn_append_own _ rfl _ _ 23 rfl (n₁) 3 i0 (.int .i64 0) 1 8 Try.underlying23 hi hz0 hz1 hz2 rfl (by decide) _ 0 [] rfl (World.ownsRow_nil _ _ _ _) ⟨wr.heap.size + 1, 0, none⟩ 1 1 [.int .i64 (j : Int)] rfl rfl (cell_one_at _ _ _ _ (by simp)) (one_cell _) (by unfold maxLen; omega) (by omega) (by first | (simp; done) | (simp; omega)) ?_))
          intro v1 w1 hv1 hg1 _
          have hgE2 := grown_none (World.grownBy_alloc _ _ none) hg1
          have hgY : wr.grownBy w1 none := grown_none hgE hgE2
          obtain ⟨g1, cap1, rfl⟩ := ownsRow_succ hv1
          have HOW : Hid (w1.ownsRow n₁ 3 1 (.slice (some ⟨g1, 0, none⟩) (0 + 1) cap1) [j].length ([j].map encN)) := hv1
          clear hv1 hg1
          have hJy : J pre w1 := HJ.out _ _ _ none hJs hgY (fun r e => by cases e)
          have htold : Told es n₁ pre (k, .slice (some ⟨g1, 0, none⟩) (0 + 1) cap1) w1 := ⟨HP.out.1.symm, by rw [HL.out]; exact hlt, by show World.ownsRow _ _ _ _ _ _ _; dsimp only; rw [HNL.out]; exact HOW.out⟩
          have hey : w1.cell? ⟨wr.heap.size, 1, none⟩ = some (.int .i64 wh) := grown_cell hgE2 e1
          have hmy : w1.ownsMap Try.prog 3 (plainElem Try.prog 3) W.heap.size k D := hown1.kept hgE2 (by simp)
          obtain ⟨fn, tmps, assign, body, hy, hR⟩ := HY.out pre (k, .slice (some ⟨g1, 0, none⟩) (0 + 1) cap1) w1 hJy htold
          dsimp only at hy
          have HJy := hidMk hJy
          have HMY := hidMk hmy
          clear hJy htold hmy
          gi_wp2
          refine hR.mono ?_
          rintro e W3 ⟨rfl, hJ3, hk3⟩
          have hBM : Bs ≤ W.heap.size := Nat.le_of_lt hBs
          obtain ⟨hown3, o3, ho3, hw3⟩ := map_kept HMY.out hk3 hBM
          have he3 : W3.cell? ⟨wr.heap.size, 1, none⟩ = some (.int .i64 wh) := kpN_cell hk3 (by omega) hey
          gi_wp2_with (gi_at_mapUpdate; refine wpListIn_mapUpdate_own _ rfl _ _ _ 51 rfl 3 3 (Maps.int_keyed Try.underlying3) Try.underlying51 _ W.heap.size k _ rfl hown3 (by unfold maxLen; omega) _ _ _ rfl rfl hkey _ [] (plainElem_int Try.underlying3 hwk) ?_; intro w4 hown4 hg4)
          go_roundw
          case rel => exact ⟨k + 1, pre ++ [(k, .slice (some ⟨g1, 0, none⟩) (0 + 1) cap1)], _, by omega, by go_num, HJ.out _ _ _ (some W.heap.size) hJ3 hg4 (fun r e => by cases e; exact ⟨Nat.le_refl _, o3, ho3, hw3⟩), kpN_round hkp hgY hk3 hg4 HN0.out, hown4, by simp [HP.out.1], HLN.out, by have := hg4.size; have := hk3.1.size; have := (hgY).size; omega⟩
          case measure => simp [intOf]; omega
        · have h3' : (kd == 3) = false := by simpa using h3
          have hNl : nearOf es k = [] := by rw [HNE.out]; simp [h3]
          have HNL := hidMk hNl
          clear hNl HNE h3
          have HOW : Hid ((wr.alloc (.cells #[.int .i64 kd, .int .i64 wh, .int .i64 of] 35)).ownsRow n₁ 3 1 (.slice none 0 0) ([] : List Nat).length (([] : List Nat).map encN)) := World.ownsRow_nil _ _ _ _
          have hJy : J pre (wr.alloc (.cells #[.int .i64 kd, .int .i64 wh, .int .i64 of] 35)) := HJ.out _ _ _ none hJs hgE (fun r e => by cases e)
          have htold : Told es n₁ pre (k, .slice none 0 0) (wr.alloc (.cells #[.int .i64 kd, .int .i64 wh, .int .i64 of] 35)) := ⟨HP.out.1.symm, by rw [HL.out]; exact hlt, by show World.ownsRow _ _ _ _ _ _ _; dsimp only; rw [HNL.out]; exact HOW.out⟩
          have hey : (wr.alloc (.cells #[.int .i64 kd, .int .i64 wh, .int .i64 of] 35)).cell? ⟨wr.heap.size, 1, none⟩ = some (.int .i64 wh) := e1
          have hmy : (wr.alloc (.cells #[.int .i64 kd, .int .i64 wh, .int .i64 of] 35)).ownsMap Try.prog 3 (plainElem Try.prog 3) W.heap.size k D := hown1
          obtain ⟨fn, tmps, assign, body, hy, hR⟩ := HY.out pre (k, .slice none 0 0) (wr.alloc (.cells #[.int .i64 kd, .int .i64 wh, .int .i64 of] 35)) hJy htold
          dsimp only at hy
          have HJy := hidMk hJy
          have HMY := hidMk hmy
          clear hJy htold hmy
          gi_wp2_with (gi_at_lookup; refine wpListIn_lookup_own_ok_int _ rfl _ _ 51 rfl 3 3 .i64 (Maps.int_keyed Try.underlying3) Try.underlying51 Try.underlying3 (zeroI _) W.heap.size k D rfl hown1 _ _ rfl hkey ?_; intro c hat hwc)
          refine hR.mono ?_
          rintro e W3 ⟨rfl, hJ3, hk3⟩
          have hBM : Bs ≤ W.heap.size := Nat.le_of_lt hBs
          obtain ⟨hown3, o3, ho3, hw3⟩ := map_kept HMY.out hk3 hBM
          have he3 : W3.cell? ⟨wr.heap.size, 1, none⟩ = some (.int .i64 wh) := kpN_cell hk3 (by omega) hey
          gi_wp2_with (gi_at_mapUpdate; refine wpListIn_mapUpdate_own _ rfl _ _ _ 51 rfl 3 3 (Maps.int_keyed Try.underlying3) Try.underlying51 _ W.heap.size k _ rfl hown3 (by unfold maxLen; omega) _ _ _ rfl rfl hkey _ [] (plainElem_int Try.underlying3 hwk) ?_; intro w4 hown4 hg4)
          go_roundw
          case rel => exact ⟨k + 1, pre ++ [(k, .slice none 0 0)], _, by omega, by go_num, HJ.out _ _ _ (some W.heap.size) hJ3 hg4 (fun r e => by cases e; exact ⟨Nat.le_refl _, o3, ho3, hw3⟩), kpN_round hkp hgE hk3 hg4 HN0.out, hown4, by simp [HP.out.1], HLN.out, by have := hg4.size; have := hk3.1.size; have := (hgE).size; omega⟩
          case measure => simp [intOf]; omega
      | some j0 =>
        rw [hla] at hh1 HNE
        have hh1 : Maps.has D (.int .i64 wh) = true := hh1
        have hh2 := hh2 j0 hla
        clear hla
        by_cases h3 : kd = 3
        · subst h3
          obtain ⟨j, hj, hjk⟩ := H4.out rfl
          subst hj
          have hNl : nearOf es k = [j0, j] := by rw [HNE.out]; simp
          have HNL := hidMk hNl
          clear hNl HNE
          gi_wp2_with (first | (gi_at_lookup; refine wpListIn_lookup_own_ok_int _ rfl _ _ 51 rfl 3 3 .i64 (Maps.int_keyed Try.underlying3) Try.underlying51 Try.underlying3 (zeroI _) W.heap.size k D rfl hown1 _ _ rfl hkey ?_; intro c hat hwc) | (gi_at_builtin; refine wpListIn_append_own _ rfl _ _ 23 rfl (wr.heap.size + 1) 3 i0 (.int .i64 0) 1 8 Try.underlying23 hi hz0 hz1 hz2 rfl (by decide) _ 0 [] rfl (World.ownsRow_nil _ _ _ _) ⟨wr.heap.size + 1, 0, none⟩ 1 1 [.int .i64 c] rfl rfl (cell_one_at _ _ _ _ (by simp)) (one_cell _) (by unfold maxLen; omega) (by omega) (by first | (simp; done) | (simp; omega)) ?_))
          intro v1 w1 hv1 hg1 _
          obtain rfl : c = (j0 : Int) := by rw [hh2] at hat; cases hat; rfl
          have hgE2 := grown_none (World.grownBy_alloc _ _ none) hg1
          obtain ⟨g1, cap1, rfl⟩ := ownsRow_succ hv1
          have sz1 := hg1.size
          simp at sz1
          have hv1' := hv1.alloc (.cells #[.int .i64 (j : Int)] 3)
          have e2' := grown_cell hgE2 e2
          have e0' := grown_cell hgE2 e0
          gi_wp2_with (gi_at_builtin; refine wpListIn_append_own _ rfl _ _ 23 rfl (wr.heap.size + 1) 3 i0 (.int .i64 0) 1 8 Try.underlying23 hi hz0 hz1 hz2 rfl (by decide) _ (0 + 1) _ rfl (hv1') ⟨w1.heap.size, 0, none⟩ 1 1 [.int .i64 (j : Int)] rfl rfl (cell_one_at _ _ _ _ (by simp)) (one_cell _) (by unfold maxLen; omega) (by omega) (by first | (simp; done) | (simp; omega)) ?_)
          intro v2 w2 hv2 hg2 _
          have hgE3 := grown_new (grown_none hgE2 (World.grownBy_alloc w1 _ none)) hg2 (by rw [sE]; exact (hv1.lt g1 rfl).1)
          have hgY : wr.grownBy w2 none := grown_none hgE hgE3
          obtain ⟨g2, cap2, rfl⟩ := ownsRow_succ hv2
          have HOW : Hid (w2.ownsRow n₁ 3 1 (.slice (some ⟨g2, 0, none⟩) (0 + 1 + 1) cap2) [j0, j].length ([j0, j].map encN)) := owns_le hv2 (by omega)
          have hgE2 := hgE3
          clear hv1 hg1 hv2 hg2 hv1' e2' e0' hgE3
          have hJy : J pre w2 := HJ.out _ _ _ none hJs hgY (fun r e => by cases e)
          have htold : Told es n₁ pre (k, .slice (some ⟨g2, 0, none⟩) (0 + 1 + 1) cap2) w2 := ⟨HP.out.1.symm, by rw [HL.out]; exact hlt, by show World.ownsRow _ _ _ _ _ _ _; dsimp only; rw [HNL.out]; exact HOW.out⟩
          have hey : w2.cell? ⟨wr.heap.size, 1, none⟩ = some (.int .i64 wh) := grown_cell hgE2 e1
          have hmy : w2.ownsMap Try.prog 3 (plainElem Try.prog 3) W.heap.size k D := hown1.kept hgE2 (by simp)
          obtain ⟨fn, tmps, assign, body, hy, hR⟩ := HY.out pre (k, .slice (some ⟨g2, 0, none⟩) (0 + 1 + 1) cap2) w2 hJy htold
          dsimp only at hy
          have HJy := hidMk hJy
          have HMY := hidMk hmy
          clear hJy htold hmy
          gi_wp2
          refine hR.mono ?_
          rintro e W3 ⟨rfl, hJ3, hk3⟩
          have hBM : Bs ≤ W.heap.size := Nat.le_of_lt hBs
          obtain ⟨hown3, o3, ho3, hw3⟩ := map_kept HMY.out hk3 hBM
          have he3 : W3.cell? ⟨wr.heap.size, 1, none⟩ = some (.int .i64 wh) := kpN_cell hk3 (by omega) hey
          gi_wp2_with (gi_at_mapUpdate; refine wpListIn_mapUpdate_own _ rfl _ _ _ 51 rfl 3 3 (Maps.int_keyed Try.underlying3) Try.underlying51 _ W.heap.size k _ rfl hown3 (by unfold maxLen; omega) _ _ _ rfl rfl hkey _ [] (plainElem_int Try.underlying3 hwk) ?_; intro w4 hown4 hg4)
          go_roundw
          case rel => exact ⟨k + 1, pre ++ [(k, .slice (some ⟨g2, 0, none⟩) (0 + 1 + 1) cap2)], _, by omega, by go_num, HJ.out _ _ _ (some W.heap.size) hJ3 hg4 (fun r e => by cases e; exact ⟨Nat.le_refl _, o3, ho3, hw3⟩), kpN_round hkp hgY hk3 hg4 HN0.out, hown4, by simp [HP.out.1], HLN.out, by have := hg4.size; have := hk3.1.size; have := (hgY).size; omega⟩
          case measure => simp [intOf]; omega
        · have h3' : (kd == 3) = false := by simpa using h3
          have hNl : nearOf es k = [j0] := by rw [HNE.out]; simp [h3]
          have HNL := hidMk hNl
          clear hNl HNE h3
          gi_wp2_with (first | (gi_at_lookup; refine wpListIn_lookup_own_ok_int _ rfl _ _ 51 rfl 3 3 .i64 (Maps.int_keyed Try.underlying3) Try.underlying51 Try.underlying3 (zeroI _) W.heap.size k D rfl hown1 _ _ rfl hkey ?_; intro c hat hwc) | (gi_at_builtin; refine wpListIn_append_own _ rfl _ _ 23 rfl (n₁) 3 i0 (.int .i64 0) 1 8 Try.underlying23 hi hz0 hz1 hz2 rfl (by decide) _ 0 [] rfl (World.ownsRow_nil _ _ _ _) ⟨wr.heap.size + 1, 0, none⟩ 1 1 [.int .i64 c] rfl rfl (cell_one_at _ _ _ _ (by simp)) (one_cell _) (by unfold maxLen; omega) (by omega) (by first | (simp; done) | (simp; omega)) ?_))
          intro v1 w1 hv1 hg1 _
          have hgE2 := grown_none (World.grownBy_alloc _ _ none) hg1
          have hgY : wr.grownBy w1 none := grown_none hgE hgE2
          obtain ⟨g1, cap1, rfl⟩ := ownsRow_succ hv1
          obtain rfl : c = (j0 : Int) := by rw [hh2] at hat; cases hat; rfl
          have HOW : Hid (w1.ownsRow n₁ 3 1 (.slice (some ⟨g1, 0, none⟩) (0 + 1) cap1) [j0].length ([j0].map encN)) := hv1
          have e0' := grown_cell hgE2 e0
          clear hv1 hg1
          have hJy : J pre w1 := HJ.out _ _ _ none hJs hgY (fun r e => by cases e)
          have htold : Told es n₁ pre (k, .slice (some ⟨g1, 0, none⟩) (0 + 1) cap1) w1 := ⟨HP.out.1.symm, by rw [HL.out]; exact hlt, by show World.ownsRow _ _ _ _ _ _ _; dsimp only; rw [HNL.out]; exact HOW.out⟩
          have hey : w1.cell? ⟨wr.heap.size, 1, none⟩ = some (.int .i64 wh) := grown_cell hgE2 e1
          have hmy : w1.ownsMap Try.prog 3 (plainElem Try.prog 3) W.heap.size k D := hown1.kept hgE2 (by simp)
          obtain ⟨fn, tmps, assign, body, hy, hR⟩ := HY.out pre (k, .slice (some ⟨g1, 0, none⟩) (0 + 1) cap1) w1 hJy htold
          dsimp only at hy
          have HJy := hidMk hJy
          have HMY := hidMk hmy
          clear hJy htold hmy
          gi_wp2
          refine hR.mono ?_
          rintro e W3 ⟨rfl, hJ3, hk3⟩
          have hBM : Bs ≤ W.heap.size := Nat.le_of_lt hBs
          obtain ⟨hown3, o3, ho3, hw3⟩ := map_kept HMY.out hk3 hBM
          have he3 : W3.cell? ⟨wr.heap.size, 1, none⟩ = some (.int .i64 wh) := kpN_cell hk3 (by omega) hey
          gi_wp2_with (gi_at_mapUpdate; refine wpListIn_mapUpdate_own _ rfl _ _ _ 51 rfl 3 3 (Maps.int_keyed Try.underlying3) Try.underlying51 _ W.heap.size k _ rfl hown3 (by unfold maxLen; omega) _ _ _ rfl rfl hkey _ [] (plainElem_int Try.underlying3 hwk) ?_; intro w4 hown4 hg4)
          go_roundw
          case rel => exact ⟨k + 1, pre ++ [(k, .slice (some ⟨g1, 0, none⟩) (0 + 1) cap1)], _, by omega, by go_num, HJ.out _ _ _ (some W.heap.size) hJ3 hg4 (fun r e => by cases e; exact ⟨Nat.le_refl _, o3, ho3, hw3⟩), kpN_round hkp hgY hk3 hg4 HN0.out, hown4, by simp [HP.out.1], HLN.out, by have := hg4.size; have := hk3.1.size; have := (hgY).size; omega⟩
          case measure => simp [intOf]; omega
    · obtain rfl : k = len := by omega
      gi_wp2
      go_end0
      exact ⟨⟨_, rfl⟩, pre, HP.out.1.trans HL.out.symm, hJs⟩
end Go.Proofs.Ytjglbjiekndpeab
