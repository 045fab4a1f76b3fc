/- Contract of clocks.Scalars. -/
import Derived.Test.YteahkegjekaanabH6
import Derived.Test.YteahkegjekaanabR1
namespace Go.Proofs.Yteahkegjekaanab
open Go.RowKit Go.Shelf
set_option linter.unusedVariables false

attribute [local go_sem] Oper.semAt_some

/-- A row of numbers that a call made. -/
abbrev RowI (W : World) (base g n : Nat) (f : Nat → Nat) : Prop := W.ownsRow base 3 1 (.slice (some ⟨g, 0, none⟩) n n) n ((rowN n f).map encN)

/-- The cells of what is near. -/
theorem near_cells {W : World} {n₁ : Nat} {v : Value} {ns : List Nat} (h : W.ownsRow n₁ 3 1 v ns.length (ns.map encN)) :
    ∃ av cv, v = .slice av ns.length cv ∧ Hid (ns.length = 0 ∨ ∃ g, av = some ⟨g, 0, none⟩ ∧ n₁ ≤ g ∧ g < W.heap.size ∧ ∀ (m z : Nat), ns[m]? = some z → W.cell? ⟨g, m, none⟩ = some (.int .i64 (z : Int))) := by
  have hlt := h.lt
  obtain ⟨h1, ⟨h2, h3⟩ | ⟨g, cap, cur, h2, h3, h4⟩⟩ := id h
  · exact ⟨none, 0, by rw [h2, h3], .inl h3⟩
  · subst h2
    refine ⟨_, _, rfl, .inr ⟨g, rfl, h3, (hlt g rfl).2, fun m z hm => ?_⟩⟩
    have hml : m < ns.length := (List.getElem?_eq_some_iff.1 hm).1
    rw [h.cellAt m (by omega), List.getElem?_map, hm]
    rfl

theorem map_set (l : List Nat) (k z : Nat) : (l.set k z).map encN = (l.map encN).set k (encN z) := List.map_set
/-- The numbers so far. -/
def scTo (es : List Ev) (k : Nat) (j : Nat) : Nat := if j < k then sc es j else 0
/-- And of the event at k the greatest of the first m that are before it. -/
def scAt (es : List Ev) (k m : Nat) (j : Nat) : Nat := if j = k then topOf (sc es) (nearOf es k) m else scTo es k j
def SI (es : List Ev) (w : World) (len : Nat) (pre : List (Nat × Value)) (W : World) : Prop :=
  (Boxed W (w.heap.size + 1) 32 (.slice (some ⟨w.heap.size, 0, none⟩) len len) ∧ RowI W w.heap.size w.heap.size len (scTo es pre.length)) ∧ Below w.heap.size w W

theorem si_own (es : List Ev) (w : World) (len B : Nat) (hB : w.heap.size ≤ B) : OwnFrom B (SI es w len) := by
  refine OwnFrom.and (OwnFrom.and (Own.from (boxed_own _ _ _) _) ?_) (ownFrom_below (Nat.le_refl _) hB)
  exact owns_own (β := List (Nat × Value)) B _ _ _ (fun _ => _) (fun _ => _) (fun pre => (rowN len (scTo es pre.length)).map encN)

theorem scAt_zero (es : List Ev) (k : Nat) : scAt es k 0 = scTo es k := by
  funext j
  unfold scAt
  by_cases h : j = k
  · subst h; simp [topOf_zero, scTo]
  · rw [if_neg h]
theorem scAt_set {es : List Ev} {k m z : Nat} (h : (nearOf es k)[m]? = some z) (n : Nat) : (rowN n (scAt es k m)).set k (max (topOf (sc es) (nearOf es k) m) (sc es z)) = rowN n (scAt es k (m + 1)) := by
  rw [rowN_set]
  apply rowN_congr
  intro j _
  unfold scAt
  by_cases hj : j = k
  · rw [if_pos hj, if_pos hj, topOf_succ _ _ h]
  · rw [if_neg hj, if_neg hj, if_neg hj]
theorem scAt_done {n : Int} {es : List Ev} (hv : Valid n es) (k len : Nat) : (rowN len (scAt es k (nearOf es k).length)).set k (topOf (sc es) (nearOf es k) (nearOf es k).length + 1) = rowN len (scTo es (k + 1)) := by
  rw [rowN_set]
  apply rowN_congr
  intro j _
  unfold scAt scTo
  by_cases hj : j = k
  · subst hj; rw [if_pos rfl, if_pos (Nat.lt_succ_self _), sc_top hv]
  · rw [if_neg hj, if_neg hj]
    by_cases h2 : j < k
    · rw [if_pos h2, if_pos (by omega)]
    · rw [if_neg h2, if_neg (by omega)]

set_option maxRecDepth 100000 in
set_option maxHeartbeats 4000000 in
theorem scalars_ok (N : Int) (a : Option Addr) (len cap : Nat) (es : List Ev) (w : World) (h : CameEv w a len cap es) (hz : evsCode N es = 0) :
    Calls Try.prog 14 #[.int .i64 N, .slice a len cap] w fun e W2 => (∃ O, e = .returned (.tuple #[.slice (some ⟨O, 0, none⟩) len len, .int .i64 0]) ∧ RowI W2 w.heap.size O len (sc es)) ∧ Below w.heap.size w W2 := by
  have hv := valid_of hz
  have HC := hidMk (check_any N a len cap es w h)
  rw [hz] at HC
  have hl := h.1
  have hl2 : len ≤ 60 := by have := hv.2.2.1; omega
  have hl2' : (len : Int) ≤ 60 := by omega
  have hmk := make_ints len (by omega)
  have HV := hidMk hv
  have HH := hidMk h
  have HL := hidMk hl
  clear hz hv h hl
  refine (callsIn_wide (n := 6)).1 ?_
  refine callsIn_of_wp_marks Try.func14 rfl trivial ?_ rfl
  simp only [Try.ntmps14, List.size_toArray, List.length_cons, List.length_nil, Nat.reduceAdd, Nat.reduceSub, Array.replicate_succ, Array.replicate_zero, List.push_toArray, List.append_toArray, List.nil_append, List.cons_append]
  gi_wp2_with (first
    | (refine ⟨trivial, ?_⟩; gi_at_call 8; refine (callsIn_wide.2 HC.out).mono ?_; rintro e w1 ⟨rfl, hB1⟩)
    | (refine ⟨trivial, ?_⟩; gi_at_call 20; refine (nearest_in _ _ trivial rfl _ _ _ _).mono ?_; rintro e w2 ⟨rfl, rfl⟩))
  clear hmk HC
  obtain ⟨WL, hWL⟩ : ∃ WL, (((w1.alloc (.cells (madeCells #[.int .i64 0] len) 3)).alloc (.cells #[.slice (some ⟨w1.heap.size, 0, none⟩) len len] 32)).alloc (.cells #[.slice a len cap] 22)) = WL := ⟨_, rfl⟩
  have sL : WL.heap.size = w1.heap.size + 3 := by rw [← hWL]; simp
  have gL : w1.grownBy WL none := by rw [← hWL]; exact grown_none (grown_none (World.grownBy_alloc _ _ none) (World.grownBy_alloc _ _ none)) (World.grownBy_alloc _ _ none)
  have bL : Below w1.heap.size w1 WL := ⟨gL.os, gL.tape, gL.output, gL.size, fun k hk => gL.block k hk (by simp)⟩
  have cL : WL.cell? ⟨w1.heap.size + 2, 0, none⟩ = some (.slice a len cap) := by rw [← hWL]; simp [World.cell?_alloc_at]
  have xL : Boxed WL (w1.heap.size + 1) 32 (.slice (some ⟨w1.heap.size, 0, none⟩) len len) := by
    rw [← hWL]
    have := (Boxed.new (w1.alloc (.cells (madeCells #[.int .i64 0] len) 3)) 32 (.slice (some ⟨w1.heap.size, 0, none⟩) len len)).alloc (.cells #[.slice a len cap] 22)
    simpa using this
  have oL : RowI WL w1.heap.size w1.heap.size len (scTo es 0) := by
    have h0 := World.ownsRow_lit (e := 3) (size := 1) (base := w1.heap.size) w1 (madeCells #[.int .i64 0] len) len (Nat.le_refl _) (by unfold maxLen; omega) (by rw [size_madeCells]; omega)
    rw [made_zero] at h0
    have h1 := (h0.alloc (.cells #[.slice (some ⟨w1.heap.size, 0, none⟩) len len] 32)).alloc (.cells #[.slice a len cap] 22)
    rw [hWL] at h1
    have e : rowN len (scTo es 0) = rowN len fun _ => 0 := rowN_congr fun k _ => by simp [scTo]
    unfold RowI
    rw [e]
    exact h1
  have hq : len = 0 ∨ ∃ b off, a = some ⟨b, off, none⟩ ∧ b < w1.heap.size ∧ EvRow WL b off es := by
    rcases HH.out.2.2.2 with h | ⟨b, off, h1, h2⟩
    · exact .inl h
    · exact .inr ⟨b, off, h1, Nat.lt_of_lt_of_le h2.1 hB1.size, (h2.below h2.1 hB1).below (Nat.lt_of_lt_of_le h2.1 hB1.size) bL⟩
  rw [hWL]
  clear hWL
  refine rangeFunc_told rfl (by decide) (gf := 23) (lb := #[.pointer (some ⟨w1.heap.size + 1 + 1, 0, none⟩)]) rfl trivial (enters_of Try.func23 (by kernel_rfl) rfl)
    (nearest_tells Fence.wide _ trivial rfl (by decide) (w1.heap.size + 1 + 1) w1.heap.size len cap a N es HL.out HV.out WL (by omega) (by omega) cL hq)
    kpN_t (kpN_b (by omega)) (told_own es _ _) (Below.refl _ _) (fun _ => rfl)
    (SI es w1 len) (si_own es w1 len _ (by omega)) ⟨⟨xL, oL⟩, bL⟩
    (fun x => { tmps := #[.int .i64 N, .slice a len cap, undef, undef, .slice none 0 0, .int .i64 0, .int .i64 0, .pointer (some ⟨w1.heap.size + 1, 0, none⟩), .int .i64 (x.1 : Int), x.2, undef, undef, .int .i64 N, .slice a len cap, .int .i64 0, .int .i64 0, .bool false, undef, .slice a len cap, .int .i64 len, .slice (some ⟨w1.heap.size, 0, none⟩) len len, .slice a len cap, .func (.func 23) #[] #[.pointer (some ⟨w1.heap.size + 1 + 1, 0, none⟩)], .int .i64 (x.1 : Int), x.2, undef, undef, undef, undef, undef, undef, undef, undef, undef, undef, undef, undef, undef, undef, undef, undef, undef, undef, undef, undef, undef, undef, undef, undef, undef, undef], defers := [] }) ?assign ?body ?done
  case assign =>
    intro l x W K hK
    gi_wp2
    exact hK
  case body =>
    rintro l pre ⟨i, v⟩ W ⟨⟨hbx, hrow⟩, hB⟩ ⟨hi, hilt, hnr⟩
    dsimp only at hi hilt hnr ⊢
    have HI := hidMk hi
    rw [← hi] at hrow
    clear hi
    have hil : i < len := by have := HL.out; omega
    obtain ⟨av, cv, hvv, HCE⟩ := near_cells hnr
    subst hvv
    have hns := nearOf_len es i
    have HNL : Hid (∀ z ∈ nearOf es i, z < i) := fun z hz => nearOf_lt HV.out hz
    have HTO : Hid (∀ m, topOf (sc es) (nearOf es i) m ≤ 60) := topOf_le (fun z hz => by have := HNL.out z hz; have := sc_le HV.out (z + 1) z (by omega); omega)
    have hWs := hB.size
    have HGW := hidMk (grown_refl W (some w1.heap.size))
    clear hnr
    gi_wp2
    gi_loopw [27] (fun u wr => ∃ m : Nat, m ≤ (nearOf es i).length ∧ u = .int .i64 (m : Int) ∧ RowI wr w1.heap.size w1.heap.size len (scAt es i m) ∧ Hid (W.grownBy wr (some w1.heap.size))) (fun u _ => (nearOf es i).length - (intOf u).toNat)
    case atStart => exact ⟨0, Nat.zero_le _, rfl, by rw [scAt_zero]; exact hrow, HGW⟩
    case round =>
      clear hrow HGW
      obtain ⟨m, hm, rfl, hrow, HG⟩ := hrel
      have hbw := hbx.kept HG.out (by simp)
      have hbc := hbw.cell
      have hlen' : (i : Int) < (len : Int) := by omega
      by_cases hlt : m < (nearOf es i).length
      · rcases HCE.out with h | ⟨g, ha, hg1, hg2, hgc⟩
        · omega
        subst ha
        obtain ⟨z, hz⟩ : ∃ z, (nearOf es i)[m]? = some z := ⟨_, List.getElem?_eq_getElem hlt⟩
        have hzi : z < i := HNL.out z (List.mem_of_getElem? hz)
        have hzc : wr.cell? ⟨g, m, none⟩ = some (.int .i64 (z : Int)) := (World.cell?_of_block (a := ⟨g, m, none⟩) (HG.out.block g hg2 (by intro e; cases e; omega))).trans (hgc m z hz)
        have hoi : wr.cell? ⟨w1.heap.size, i, none⟩ = some (.int .i64 ((topOf (sc es) (nearOf es i) m : Nat) : Int)) := by
          rw [World.ownsRow.cellAt hrow i (by omega), List.getElem?_map, rowN_at hil]; simp [encN, scAt]
        have hoz : wr.cell? ⟨w1.heap.size, z, none⟩ = some (.int .i64 ((sc es z : Nat) : Int)) := by
          rw [World.ownsRow.cellAt hrow z (by omega), List.getElem?_map, rowN_at (by omega)]; simp [encN, scAt, scTo, hzi, Nat.ne_of_lt hzi]
        have hfz := World.ownsRow.frozenAt hrow i
        have HR := hidMk hrow
        have HSS := hidMk (scAt_set hz len)
        have hzl : (z : Int) < (len : Int) := by omega
        clear hgc hz hrow
        gi_wp2
        refine wpIn_region_tail rfl (by kernel_rfl) (by kernel_rfl) (by kernel_rfl) (by kernel_rfl) (by kernel_rfl) rfl ?_
        dsimp only [List.dropLast]
        repeat (quiet_step (fail))
        refine wpQuiet_nil ?_
        rintro _ ⟨nq, rfl⟩
        gi_wp2
        have hmx : (if topOf (sc es) (nearOf es i) m < sc es z then ((sc es z : Nat) : Int) else ((topOf (sc es) (nearOf es i) m : Nat) : Int)) = ((max (topOf (sc es) (nearOf es i) m) (sc es z) : Nat) : Int) := by
          split <;> omega
        rw [hmx]
        have hst := World.ownsRow.stored (w := wr.drewN nq) HR.out i (encN (max (topOf (sc es) (nearOf es i) m) (sc es z)))
        rw [← map_set, HSS.out] at hst
        exact ⟨⟨m + 1, by omega, by go_num, hst.1, grown_same (grown_same HG.out (grown_drewN wr nq _)) hst.2⟩, by simp [intOf]; omega⟩
      · obtain rfl : m = (nearOf es i).length := by omega
        have hoi : wr.cell? ⟨w1.heap.size, i, none⟩ = some (.int .i64 ((topOf (sc es) (nearOf es i) (nearOf es i).length : Nat) : Int)) := by
          rw [World.ownsRow.cellAt hrow i (by omega), List.getElem?_map, rowN_at hil]; simp [encN, scAt]
        have hfz := World.ownsRow.frozenAt hrow i
        have hto : ((topOf (sc es) (nearOf es i) (nearOf es i).length : Nat) : Int) ≤ 60 := by have := HTO.out (nearOf es i).length; omega
        have hst := World.ownsRow.stored hrow i (encN (topOf (sc es) (nearOf es i) (nearOf es i).length + 1))
        rw [← map_set, scAt_done HV.out] at hst
        have HST := hidMk hst
        clear hst hrow
        gi_wp2
        have hg2 := grown_same HG.out HST.out.2
        have hk := round_keeps (n₀ := w1.heap.size) (Bs := w1.heap.size + 1 + 1) (B := WL.heap.size) hg2 (by omega) (by omega) (by omega) hWs
        refine ⟨hk.1, hk.2, ⟨hbx.kept hg2 (by simp), ?_⟩, ?_⟩
        · rw [List.length_append, ← HI.out]; exact HST.out.1
        · exact hB.trans ⟨hg2.os, hg2.tape, hg2.output, hg2.size, fun k hk => hg2.block k (by omega) (by intro e; cases e; omega)⟩
  case done =>
    rintro D ys W hD hS ⟨⟨hbx, hrow⟩, hB⟩ hK
    have hbc := hbx.cell
    gi_wp2
    refine ⟨by simp, .inl ⟨_, _, rfl, run_takeDeferred hK, ?_⟩⟩
    have hb2 : Below w1.heap.size w1 (W.putObj D (.deferred none)) := hB.trans (belowK_b (w := w1) (Nat.le_refl _) W D _ _ (by omega) hK rfl rfl)
    have e : rowN len (scTo es ys.length) = rowN len (sc es) := rowN_congr fun k hk => by unfold scTo; rw [if_pos (by have := HL.out; omega)]
    refine ⟨_, results_tmp2 rfl _ _ _, ⟨_, rfl, ?_⟩, hB1.trans (hb2.mono hB1.size)⟩
    have hr := ownsRow_putObj hrow (.deferred none) hK rfl
    rw [e] at hr
    exact owns_le hr hB1.size
end Go.Proofs.Yteahkegjekaanab
