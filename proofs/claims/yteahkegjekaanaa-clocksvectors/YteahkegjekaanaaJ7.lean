/- The numbers of an event by counting: plain facts; contract of folkmootref.Vectors; folkmootlaw.ClocksVectors, walked. -/
import Derived.Test.YteahkegjekaanaaJ6
namespace Go.Proofs.Yteahkegjekaanaa
open Go.RowKit Go.Shelf
set_option linter.unusedVariables false

/-- How many of the first i events are of process p, and the event at j or before it. -/
def cu (es : List Ev) (j p : Nat) : Nat → Nat
  | 0 => 0
  | i + 1 => cu es j p i + if upTo es i j = true ∧ whoAt es i = (p : Int) then 1 else 0
theorem cu_min {N : Int} {es : List Ev} (hv : Valid N es) {j : Nat} (hj : j < es.length) (p : Nat) : ∀ i, i ≤ es.length → cu es j p i = min (pc es p i) (vc es p j)
  | 0, _ => by simp [cu, pc]
  | i + 1, hi => by
    have ih := cu_min hv hj p i (by omega)
    show cu es j p i + _ = min (pc es p i + _) _
    by_cases hw : whoAt es i = (p : Int)
    · have hu := up_iff hv (i := i) (by omega) hw (j + 1) (by omega) hj
      rw [if_pos hw, ih]
      by_cases h2 : pc es p i < vc es p j
      · rw [if_pos ⟨hu.2 h2, hw⟩]; omega
      · rw [if_neg (fun h => h2 (hu.1 h.1))]; omega
    · rw [if_neg hw, if_neg (fun h => hw h.2), ih]; omega
theorem cu_is {N : Int} {es : List Ev} (hv : Valid N es) {j : Nat} (hj : j < es.length) (p : Nat) : cu es j p es.length = vc es p j := by
  rw [cu_min hv hj p _ (Nat.le_refl _)]
  have h1 := vc_pc hv p (j + 1) j (by omega)
  have h2 := pc_mono es p (show j + 1 ≤ es.length from hj)
  omega
theorem cu_le (es : List Ev) (j p : Nat) : ∀ i, cu es j p i ≤ i
  | 0 => Nat.le_refl _
  | i + 1 => by
    have := cu_le es j p i
    show cu es j p i + _ ≤ _
    split <;> omega
theorem cu_put {es : List Ev} {i j p0 : Nat} (n : Nat) (hu : upTo es i j = true) (hw : whoAt es i = (p0 : Int)) : (rowN n (fun p => cu es j p i)).set p0 (cu es j p0 i + 1) = rowN n (fun p => cu es j p (i + 1)) := by
  rw [rowN_set]
  apply rowN_congr
  intro p _
  show _ = cu es j p i + _
  by_cases hp : p = p0
  · subst hp; rw [if_pos rfl, if_pos ⟨hu, hw⟩]
  · rw [if_neg hp, if_neg (fun h => hp (by have := h.2; rw [hw] at this; omega))]
    rfl
theorem cu_skip {es : List Ev} {i j : Nat} (n : Nat) (hu : upTo es i j = false) : rowN n (fun p => cu es j p i) = rowN n (fun p => cu es j p (i + 1)) := by
  apply rowN_congr
  intro p _
  show _ = cu es j p i + _
  rw [if_neg (fun h => by rw [hu] at h; exact absurd h.1 (by decide))]
  rfl

/-- Blocks of different elements are not one. -/
theorem owns_apart {w : World} {b1 b2 s1 s2 n1 n2 : Nat} {e1 e2 : TypeId} {v1 v2 : Value} {x1 x2 : List Value} (h1 : w.ownsRow b1 e1 s1 v1 n1 x1) (h2 : w.ownsRow b2 e2 s2 v2 n2 x2) (he : e1 ≠ e2) : v1.ownBlock = none ∨ v1.ownBlock ≠ v2.ownBlock := by
  obtain ⟨_, ⟨h3, _⟩ | ⟨g, c, cur, h3, _, h4, _⟩⟩ := h1
  · left; rw [h3]; rfl
  · obtain ⟨_, ⟨h5, _⟩ | ⟨g2, c2, cur2, h5, _, h6, _⟩⟩ := h2
    · right; rw [h3, h5]; simp [Value.ownBlock]
    · right
      rw [h3, h5]
      simp only [Value.ownBlock, ne_eq, Option.some.injEq]
      intro e
      rw [e, h6] at h4
      simp at h4
      exact he h4.2.symm

/-- Rows one behind the other. -/
def rowsV (n : Nat) (R : Nat → Nat) (k : Nat) : List Value := (List.range k).map fun q => .slice (some ⟨R q, 0, none⟩) n n
theorem rowsV_succ (n : Nat) (R : Nat → Nat) (k g : Nat) : rowsV n (putR R k g) (k + 1) = rowsV n R k ++ [.slice (some ⟨g, 0, none⟩) n n] := by
  unfold rowsV
  rw [List.range_succ, List.map_append]
  congr 1
  · apply List.map_congr_left
    intro q hq
    have : q < k := List.mem_range.1 hq
    simp [putR, Nat.ne_of_lt this]
  · simp [putR]
theorem rowsV_at {n : Nat} {R : Nat → Nat} {k q : Nat} (h : q < k) : (rowsV n R k)[q]? = some (.slice (some ⟨R q, 0, none⟩) n n) := by simp [rowsV, h]

set_option maxRecDepth 100000 in
set_option maxHeartbeats 4000000 in
theorem refVectors_row (m n b off cap : Nat) (es : List Ev) (w : World) (hl : es.length = n) (hn0 : 0 < n) (hv : Valid (m : Int) es) (hq : EvRow w b off es) :
    Calls Try.prog 18 #[.int .i64 (m : Int), .slice (some ⟨b, off, none⟩) n cap] w fun e w2 => (∃ g c R, e = .returned (.slice (some ⟨g, 0, none⟩) n c) ∧ w2.ownsRow w.heap.size 31 1 (.slice (some ⟨g, 0, none⟩) n c) n (rowsV m R n) ∧ ∀ q, q < n → RowI w2 w.heap.size (R q) m (fun p => vc es p q)) ∧ Below w.heap.size w w2 := by
  obtain ⟨i0, hi, hz0, hz1, hz2⟩ := info_parts Try.info31
  have hn60 : n ≤ 60 := by have := hv.2.2.1; omega
  have hn60' : (n : Int) ≤ 60 := by omega
  have hm6 : m ≤ 6 := by have := hv.2.1; omega
  have hmi := make_ints m (by omega)
  have HR := hidMk (refBefore_row n b off cap es w (m : Int) hl hv hq)
  have HL := hidMk hl
  have HV := hidMk hv
  have HQ := hidMk hq
  clear hl hv hq
  go_enter Try.func18, Try.ntmps18
  go_wp2_with (go_at_call 12; refine (HR.out).mono ?_; rintro e w1 ⟨⟨g, rfl, hT⟩, hB1⟩)
  have hgl := (World.ownsRow.lt hT g rfl).2
  go_loopw [6, 7] (fun v u wr => ∃ (j : Nat) (R : Nat → Nat), j ≤ n ∧ u = .int .i64 (j : Int) ∧ wr.ownsRow w1.heap.size 31 1 v j (rowsV m R j) ∧ Hid (∀ q, q < j → RowI wr w1.heap.size (R q) m (fun p => vc es p q)) ∧ Hid (Below w1.heap.size w1 wr)) (fun _ u _ => n - (intOf u).toNat)
  case atStart => exact ⟨0, fun _ => 0, Nat.zero_le _, rfl, World.ownsRow_nil _ _ _ _, fun q hq => by omega, Below.refl _ _⟩
  case round =>
    obtain ⟨j, R, hj, rfl, hown, HRR, HB⟩ := hrel
    by_cases hjn : j < n
    · have hjn' : (j : Int) < (n : Int) := by omega
      have hsz := HB.out.size
      have h0 : RowI (wr.alloc (.cells (madeCells #[.int .i64 0] m) 3)) w1.heap.size wr.heap.size m (fun p => cu es j p 0) := by
        have h0 := World.ownsRow_lit (e := 3) (size := 1) (base := w1.heap.size) wr (madeCells #[.int .i64 0] m) m hsz (by unfold maxLen; omega) (by rw [size_madeCells]; omega)
        rw [made_zero] at h0
        exact h0
      have hT2 := owns_below (owns_below hT HB.out) ((Below.refl _ wr).alloc (Nat.le_refl _) (.cells (madeCells #[.int .i64 0] m) 3))
      have HOWN := hidMk (hown.alloc (.cells (madeCells #[.int .i64 0] m) 3))
      have HR2 : Hid (∀ q, q < j → RowI (wr.alloc (.cells (madeCells #[.int .i64 0] m) 3)) w1.heap.size (R q) m (fun p => vc es p q) ∧ R q < wr.heap.size) := fun q hq => ⟨(HRR.out q hq).alloc _, (World.ownsRow.lt (HRR.out q hq) (R q) rfl).2⟩
      have HBA : Hid (Below w1.heap.size w1 (wr.alloc (.cells (madeCells #[.int .i64 0] m) 3))) := HB.out.alloc HB.out.size _
      clear hown
      go_wp2
      generalize hWA : wr.alloc (.cells (madeCells #[.int .i64 0] m) 3) = WA at *
      have sA : WA.heap.size = wr.heap.size + 1 := by rw [← hWA]; simp
      clear hWA HRR HB
      generalize hgv : wr.heap.size = gv at *
      clear hgv
      go_loopw [9] (fun u wq => ∃ i : Nat, i ≤ n ∧ u = .int .i64 (i : Int) ∧ RowI wq w1.heap.size gv m (fun p => cu es j p i) ∧ Hid (WA.grownBy wq (some gv))) (fun u _ => n - (intOf u).toNat)
      case atStart => exact ⟨0, Nat.zero_le _, rfl, h0, grown_refl _ _⟩
      case round =>
        obtain ⟨i, hin, rfl, hrow, HG⟩ := hrel
        by_cases hlt : i < n
        · have hlt' : (i : Int) < (n : Int) := by omega
          have hBr : Below w.heap.size w wr := by
            have h1 := hB1.trans (HBA.out.mono hB1.size)
            exact h1.grown HG.out h1.size (fun k e => by cases e; have := hB1.size; omega)
          obtain ⟨ev, he, _, _, _, hwi, _⟩ := (HQ.out.below HQ.out.1 hBr).at (k := i) (by rw [HL.out]; exact hlt)
          obtain ⟨_, hw0, hw1, _⟩ := HV.out.2.2.2 i ev he
          obtain ⟨p0, hp0⟩ : ∃ p0 : Nat, ev.who = (p0 : Int) := ⟨ev.who.toNat, by omega⟩
          have HWA := hidMk ((whoAt_eq he).trans hp0)
          rw [hp0] at hwi hw1
          have hp0n : p0 < m := by omega
          have hcr : wr.cell? ⟨gv, p0, none⟩ = some (.int .i64 ((cu es j p0 i : Nat) : Int)) := by
            rw [World.ownsRow.cellAt hrow p0 (by omega), List.getElem?_map, rowN_at hp0n]; simp [encN]
          have hfr := World.ownsRow.frozenAt hrow p0
          have hcu : ((cu es j p0 i : Nat) : Int) ≤ 60 := by have := cu_le es j p0 i; omega
          have hT3 := World.ownsRow.kept hT2 HG.out (.inr (by simp [Value.ownBlock]; omega))
          have d1 := Tab.cell hT3 hlt hjn
          have hn1 : i * n ≤ 3540 := Nat.le_trans (Nat.mul_le_mul (show i ≤ 59 by omega) hn60) (by decide)
          have hc1 : ((i * n : Nat) : Int) = (i : Int) * (n : Int) := by simp
          have hc3 : ((n * n : Nat) : Int) = (n : Int) * (n : Int) := by simp
          have q0 : 0 ≤ (i : Int) * (n : Int) := by rw [← hc1]; omega
          have q1 : (i : Int) * (n : Int) ≤ 3540 := by rw [← hc1]; omega
          have q6 : (i : Int) * (n : Int) + (j : Int) < (n : Int) * (n : Int) := by have := at_lt hlt hjn; rw [← hc1, ← hc3]; omega
          have r3 : ((i : Int) * (n : Int) + (j : Int)).toNat = i * n + j := by rw [← hc1]; omega
          have HRW := hidMk hrow
          have HT2 := hidMk hT2
          have HT := hidMk hT
          clear hrow he hw0 hp0 hc1 hc3 hn1 hT3 hT2 hT hBr
          cases hu : upTo es i j with
          | true =>
            have HCP := hidMk (cu_put m hu HWA.out)
            by_cases hij : i = j
            · have hij' : ((i : Int) == (j : Int)) = true := by simp; omega
              clear hu hij
              go_wp2
              go_region
              have hst := World.ownsRow.stored HRW.out p0 (encN (cu es j p0 i + 1))
              rw [← map_set, HCP.out] at hst
              have HST := hidMk hst
              clear hst
              go_wp2
              go_roundw
              case rel => exact ⟨i + 1, by omega, by go_num, HST.out.1, grown_same (grown_same HG.out HST.out.2) (grown_drew _ _)⟩
              case measure => simp [intOf]; omega
            · have hij' : ((i : Int) == (j : Int)) = false := by simp; omega
              have hb : befB es i j = true := bef_iff.2 ⟨hij, hu⟩
              rw [hb] at d1
              clear hu hb
              go_wp2
              go_region
              have hst := World.ownsRow.stored HRW.out p0 (encN (cu es j p0 i + 1))
              rw [← map_set, HCP.out] at hst
              have HST := hidMk hst
              clear hst
              go_wp2
              go_roundw
              case rel => exact ⟨i + 1, by omega, by go_num, HST.out.1, grown_same (grown_same HG.out HST.out.2) (grown_drew _ _)⟩
              case measure => simp [intOf]; omega
          | false =>
            have HCP := hidMk (cu_skip m hu)
            have hij : i ≠ j := fun e => by rw [e, up_self HV.out j] at hu; cases hu
            have hij' : ((i : Int) == (j : Int)) = false := by simp; omega
            have hb : befB es i j = false := by unfold befB; rw [hu, Bool.and_false]
            rw [hb] at d1
            clear hu hb hij
            go_wp2
            go_roundw
            case rel => exact ⟨i + 1, by omega, by go_num, by have h := HRW.out; unfold RowI at h ⊢; rw [← HCP.out]; exact h, HG⟩
            case measure => simp [intOf]; omega
        · obtain rfl : i = n := by omega
          have hrow2 : RowI wr w1.heap.size gv m (fun p => vc es p j) := by
            have e : rowN m (fun p => cu es j p i) = rowN m (fun p => vc es p j) := rowN_congr fun p _ => by rw [← HL.out]; exact cu_is HV.out (by rw [HL.out]; exact hjn) p
            unfold RowI at hrow ⊢
            rw [← e]; exact hrow
          have hown2 := World.ownsRow.kept HOWN.out HG.out (by
            rcases owns_apart HOWN.out h0 (by decide) with h | h
            · exact .inl h
            · exact .inr h)
          have hsz2 := HG.out.size
          have HR3 : Hid (∀ q, q < j → RowI wr w1.heap.size (R q) m (fun p => vc es p q)) := fun q hq => World.ownsRow.kept (HR2.out q hq).1 HG.out (.inr (by have := (HR2.out q hq).2; simp [Value.ownBlock]; omega))
          have HB2 : Hid (Below w1.heap.size w1 wr) := HBA.out.grown HG.out HBA.out.size (fun k e => by cases e; exact hsz)
          clear hrow HR2 HG HBA
          go_wp2_with (at_builtin; refine wpList_append_own _ rfl _ _ 36 rfl w1.heap.size 31 i0 (.slice none 0 0) 1 24 Try.underlying36 hi hz0 hz1 hz2 rfl (by decide) _ _ _ rfl (World.ownsRow.alloc hown2 _) ⟨wr.heap.size, 0, none⟩ 1 1 [.slice (some ⟨gv, 0, none⟩) m m] rfl rfl (cell_one_at _ _ _ _ rfl) (by intro u hu; simp at hu; subst hu; rfl) (by unfold maxLen; omega) (by omega) (by simp; omega) ?_)
          intro v3 w3 hown3 hgrow3 _
          obtain ⟨g3, c3, rfl⟩ := ownsRow_succ hown3
          have HO3 : Hid (w3.ownsRow w1.heap.size 31 1 (.slice (some ⟨g3, 0, none⟩) (j + 1) c3) (j + 1) (rowsV m (putR R j gv) (j + 1))) := by
            show World.ownsRow _ _ _ _ _ _ _
            rw [rowsV_succ]
            exact hown3
          have HR4 : Hid (∀ q, q < j + 1 → RowI w3 w1.heap.size (putR R j gv q) m (fun p => vc es p q)) := fun q hq => by
            unfold putR
            by_cases hqj : q = j
            · subst hqj
              rw [if_pos rfl]
              have h2 := World.ownsRow.alloc hrow2 (.cells #[.slice (some ⟨gv, 0, none⟩) m m] 31)
              exact World.ownsRow.kept h2 hgrow3 (owns_apart h2 (World.ownsRow.alloc hown2 _) (by decide))
            · rw [if_neg hqj]
              have h2 := (HR3.out q (by omega)).alloc (.cells #[.slice (some ⟨gv, 0, none⟩) m m] 31)
              exact World.ownsRow.kept h2 hgrow3 (owns_apart h2 (World.ownsRow.alloc hown2 _) (by decide))
          have HB3 : Hid (Below w1.heap.size w1 w3) := (HB2.out.alloc HB2.out.size _).grown hgrow3 (by have := HB2.out.size; simp; omega) (fun k e => (World.ownsRow.lt hown2 k e).1)
          clear hown3 hgrow3 hown2 hrow2
          go_wp2
          go_roundw
          case rel => exact ⟨j + 1, putR R j gv, by omega, by go_num, HO3.out, HR4, HB3⟩
          case measure => simp [intOf]; omega
    · obtain rfl : j = n := by omega
      obtain ⟨k, hk⟩ : ∃ k, j = k + 1 := ⟨j - 1, by omega⟩
      have hsh : ∃ g2 c2, u6 = .slice (some ⟨g2, 0, none⟩) j c2 := by
        rw [hk] at hown
        obtain ⟨g2, c2, e⟩ := ownsRow_succ hown
        exact ⟨g2, c2, by rw [hk]; exact e⟩
      obtain ⟨g2, c2, rfl⟩ := hsh
      go_wp2
      go_ret
      exact ⟨⟨g2, c2, R, rfl, owns_le hown hB1.size, fun q hq => owns_le (HRR.out q hq) hB1.size⟩, hB1.trans (HB.out.mono hB1.size)⟩

set_option maxRecDepth 100000 in
set_option maxHeartbeats 2000000 in
theorem refVectors_none (m : Int) (a : Option Addr) (cap : Nat) (w : World) :
    Calls Try.prog 18 #[.int .i64 m, .slice a 0 cap] w fun e w2 => e = .returned (.slice none 0 0) ∧ Below w.heap.size w w2 := by
  have HR := hidMk (refBefore_none a cap w)
  go_enter Try.func18, Try.ntmps18
  go_wp2_with (go_at_call 12; refine (HR.out).mono ?_; rintro e w1 ⟨⟨g, rfl⟩, hB1⟩)
  refine wp_loop_rounds 1 ?_
  rw [rounds_succ]
  go_wp2
  go_ret
  exact ⟨rfl, hB1⟩

/-- The lists of numbers of all events. -/
def vecs (es : List Ev) (n len : Nat) : List (List Nat) := (List.range len).map fun j => rowN n (fun p => vc es p j)
theorem vecs_at {es : List Ev} {n len j : Nat} (h : j < len) : (vecs es n len)[j]? = some (rowN n (fun p => vc es p j)) := by simp [vecs, h]
theorem rowsZ_mk {es : List Ev} {w : World} {base g n len : Nat} {R : Nat → Nat} (hn : n ≤ 100) (hc : ∀ j, j < len → w.cell? ⟨g, j, none⟩ = some (.slice (some ⟨R j, 0, none⟩) n n)) (hr : ∀ j, j < len → RowI w base (R j) n (fun p => vc es p j)) :
    RowsZ w (some ⟨g, 0, none⟩) len (vecs es n len) := by
  refine ⟨by simp [vecs], .inr ⟨g, rfl, fun j zs hz => ?_⟩⟩
  have hj : j < len := by have := (List.getElem?_eq_some_iff.1 hz).1; simpa [vecs] using this
  rw [vecs_at hj] at hz
  cases hz
  rw [rowN_len]
  exact ⟨_, _, hc j hj, rowZ_of (hr j hj), hn⟩
theorem rows2_z {es : List Ev} {w : World} {base O n len : Nat} {R : Nat → Nat} (hn : n ≤ 100) (h : Rows2 es base len n w O R) : RowsZ w (some ⟨O, 0, none⟩) len (vecs es n len) :=
  rowsZ_mk hn (fun j hj => by rw [World.ownsRow.cellAt h.1 j (by omega), outRow_at hj, if_pos hj]) h.2
theorem rows2_below {es : List Ev} {w w2 : World} {base O n len : Nat} {R : Nat → Nat} (h : Rows2 es base len n w O R) (hb : Below w.heap.size w w2) : Rows2 es base len n w2 O R :=
  ⟨owns_below h.1 hb, fun j hj => owns_below (h.2 j hj) hb⟩

theorem refVectors_any (n : Nat) (a : Option Addr) (len cap : Nat) (es : List Ev) (w : World) (h : CameEv w a len cap es) (hv : Valid (n : Int) es) :
    Calls Try.prog 18 #[.int .i64 (n : Int), .slice a len cap] w fun e w2 => (∃ a2 c2, e = .returned (.slice a2 len c2) ∧ RowsZ w2 a2 len (vecs es n len)) ∧ Below w.heap.size w w2 := by
  by_cases h0 : len = 0
  · subst h0
    exact (refVectors_none (n : Int) a cap w).mono fun e w2 ⟨h1, h2⟩ => ⟨⟨none, 0, h1, rfl, .inl rfl⟩, h2⟩
  · obtain ⟨hl, _, _, hr⟩ := h
    rcases hr with h1 | ⟨b, off, rfl, hr⟩
    · exact absurd h1 h0
    · refine (refVectors_row n len b off cap es w hl (by omega) hv hr).mono fun e w2 ⟨⟨g, c, R, h1, h2, h3⟩, h4⟩ => ⟨⟨_, c, h1, ?_⟩, h4⟩
      exact rowsZ_mk (by have := hv.2.1; omega) (fun j hj => by rw [World.ownsRow.cellAt h2 j (by omega), rowsV_at hj]) h3

set_option maxHeartbeats 2000000 in
theorem clocksVectors_walk (N : Int) (a : Option Addr) (len cap : Nat) (es : List Ev) (w : World) (h : CameEv w a len cap es) :
    Calls Try.prog 6 #[.int .i64 N, .slice a len cap] w fun e w2 => e = .returned (.bool true) ∧ Below w.heap.size w w2 := by
  have HC : Hid (∀ w1, Below w.heap.size w w1 → Calls Try.prog 10 #[.int .i64 N, .slice a len cap] w1 fun e w2 => e = .returned (.int .i64 (evsCode N es)) ∧ Below w1.heap.size w1 w2) := fun w1 hb => refEvents_any N a len cap es w1 (h.below hb)
  by_cases hz : evsCode N es = 0
  · have hv := valid_of hz
    obtain ⟨n, rfl⟩ : ∃ n : Nat, N = n := ⟨N.toNat, by have := hv.1; omega⟩
    have HS := hidMk (Vectors_ok n a len cap es w h hz)
    rw [hz] at HC
    have HR : Hid (∀ w1, Below w.heap.size w w1 → Calls Try.prog 18 #[.int .i64 (n : Int), .slice a len cap] w1 fun e w2 => (∃ a2 c2, e = .returned (.slice a2 len c2) ∧ RowsZ w2 a2 len (vecs es n len)) ∧ Below w1.heap.size w1 w2) := fun w1 hb => refVectors_any n a len cap es w1 (h.below hb) hv
    have h60 : len ≤ 60 := by have := hv.2.2.1; have := h.1; omega
    have hn6 : n ≤ 6 := by have := hv.2.1; omega
    clear h hv hz
    go_enter Try.func6, Try.ntmps6
    go_wp2_with (first
      | (go_at_call 17; refine (lists_any _ _ len len _ _ (vecs es n len) (vecs es n len) _ (rows2_z (by omega) hO4) hZ (by omega) (by omega)).mono ?_; rintro e w4 ⟨rfl, m, hw4⟩)
      | (go_at_call 18; refine (HR.out _ hB2').mono ?_; rintro e w3 ⟨⟨a2, c2, rfl, hZ⟩, hB3⟩; have hO4 := rows2_below hO3 hB3; have hB3' := below_from hB2' hB3)
      | (go_at_call 10; refine (HC.out _ hB1).mono ?_; rintro e w2 ⟨rfl, hB2⟩; have hO3 := rows2_below hO hB2; have hB2' := below_from hB1 hB2)
      | (go_at_call 16; refine (HS.out).mono ?_; rintro e w1 ⟨⟨O, R, rfl, hO⟩, hB1⟩))
    go_ret
    exact ⟨by simp, below_from hB3' (drewN_zero_below (m := m) rfl)⟩
  · have HS := hidMk (Vectors_err N a len cap es w h hz)
    have hzn : (evsCode N es != 0) = true := by simpa using hz
    have hze : (evsCode N es == 0) = false := by simpa using hz
    generalize evsCode N es = c at HS HC hzn hze
    clear h hz
    go_enter Try.func6, Try.ntmps6
    go_wp2_with (first
      | (go_at_call 10; refine (HC.out _ hB1).mono ?_; rintro e w2 ⟨rfl, hB2⟩)
      | (go_at_call 16; refine (HS.out).mono ?_; rintro e w1 ⟨rfl, hB1⟩))
    go_ret
    exact ⟨by simp, below_from hB1 hB2⟩
end Go.Proofs.Yteahkegjekaanaa
