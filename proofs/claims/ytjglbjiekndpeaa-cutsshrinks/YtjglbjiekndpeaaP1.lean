/- Contracts of folkmootref.Grown and Shrunk. -/
import Derived.Test.YtjglbjiekndpeaaO2
namespace Go.Proofs.Ytjglbjiekndpeaa
open Go.RowKit Go.Shelf
set_option linter.unusedVariables false

theorem refBefore_any (N : Int) (a : Option Addr) (len cap : Nat) (es : List Ev) (w : World) (h : CameEv w a len cap es) (hv : Valid N es) :
    Calls Try.prog 29 #[.slice a len cap] w fun e w2 => (∃ g, e = .returned (.slice (some ⟨g, 0, none⟩) (len * len) (len * len)) ∧ (0 < len → Tab w2 w.heap.size g len (befB es))) ∧ Below w.heap.size w w2 := by
  by_cases h0 : len = 0
  · subst h0
    exact (refBefore_none a cap w).mono fun e w2 ⟨⟨g, h1⟩, h2⟩ => ⟨⟨g, h1, fun h => absurd h (by omega)⟩, h2⟩
  · obtain ⟨hl, _, _, hr⟩ := h
    rcases hr with h1 | ⟨b, off, rfl, hr⟩
    · exact absurd h1 h0
    · exact (refBefore_row len b off cap es w N hl hv hr).mono fun e w2 ⟨⟨g, h1, h2⟩, h3⟩ => ⟨⟨g, h1, fun _ => h2⟩, h3⟩

theorem cn_put {es : List Ev} {P : Nat → Bool} {k p0 : Nat} (n : Nat) (hw : whoAt es k = (p0 : Int)) (hP : P k = true) : (rowN n fun p => cn es P p k).set p0 (cn es P p0 k + 1) = rowN n fun p => cn es P p (k + 1) := by
  rw [rowN_set]
  apply rowN_congr
  intro p _
  show _ = cn es P p k + _
  rw [hw, hP]
  by_cases hp : p = p0
  · subst hp; simp
  · rw [if_neg hp, if_neg (by omega)]; rfl
theorem cn_skip {es : List Ev} {P : Nat → Bool} {k : Nat} (hP : P k = false) (p : Nat) : cn es P p (k + 1) = cn es P p k := by
  show cn es P p k + _ = _
  rw [hP]; simp

def gTo (es : List Ev) (c : Nat → Nat) (k j : Nat) : Bool := inC es c k || (List.range j).any fun j => inC es c j && befB es k j
theorem gTo_zero (es : List Ev) (c : Nat → Nat) (k : Nat) : gTo es c k 0 = inC es c k := by simp [gTo]
theorem gTo_succ (es : List Ev) (c : Nat → Nat) (k j : Nat) : gTo es c k (j + 1) = (gTo es c k j || (inC es c j && befB es k j)) := by simp [gTo, List.range_succ, Bool.or_assoc]
theorem gTo_end {N : Int} {es : List Ev} (hv : Valid N es) (c : Nat → Nat) {k : Nat} (hk : k < es.length) : gTo es c k es.length = gP es c k := (gP_eq hv c hk).symm
def sTo (es : List Ev) (c : Nat → Nat) (k j : Nat) : Bool := inC es c k && (List.range j).all fun j => inC es c j || !befB es j k
theorem sTo_zero (es : List Ev) (c : Nat → Nat) (k : Nat) : sTo es c k 0 = inC es c k := by simp [sTo]
theorem sTo_succ (es : List Ev) (c : Nat → Nat) (k j : Nat) : sTo es c k (j + 1) = (sTo es c k j && (inC es c j || !befB es j k)) := by simp [sTo, List.range_succ, Bool.and_assoc]
theorem sTo_end {N : Int} {es : List Ev} (hv : Valid N es) (c : Nat → Nat) {k : Nat} (hk : k < es.length) : sTo es c k es.length = sP es c k := (sP_eq hv c hk).symm

set_option maxRecDepth 100000 in
set_option maxHeartbeats 4000000 in
theorem refGrown_any (n : Nat) (a : Option Addr) (len cap : Nat) (es : List Ev) (w : World) (h : CameEv w a len cap es) (hz : evsCode (n : Int) es = 0) (a2 : Option Addr) (n2 c2 : Nat) (zs : List Int) (hc : CameI w a2 n2 c2 zs) (hcc : cutCode (n : Int) es zs = 0) :
    Calls Try.prog 14 #[.slice a len cap, .slice a2 n2 c2] w fun e W2 => (∃ g, e = .returned (.slice (some ⟨g, 0, none⟩) n n) ∧ RowI W2 w.heap.size g n (grown es (atN zs))) ∧ Below w.heap.size w W2 := by
  have hv := valid_of hz
  have HI := hidMk (refIn_any n a len cap es w h hz a2 n2 c2 zs hc hcc)
  have HBF : Hid (∀ w1, Below w.heap.size w w1 → Calls Try.prog 29 #[.slice a len cap] w1 fun e w2 => (∃ g, e = .returned (.slice (some ⟨g, 0, none⟩) (len * len) (len * len)) ∧ (0 < len → Tab w2 w1.heap.size g len (befB es))) ∧ Below w1.heap.size w1 w2) := fun w1 hb => refBefore_any (n : Int) a len cap es w1 (h.below hb) hv
  have hel : es.length = len := h.1
  obtain ⟨rfl, _⟩ := cut_row_of hv hc hcc
  have hmx' : (len : Int) ≤ 60 := by have := hv.2.2.1; omega
  have hn6 : n2 ≤ 6 := by have := hv.2.1; omega
  have hn6' : (n2 : Int) ≤ 6 := by omega
  have hmi := make_ints n2 (by omega)
  have HE : Hid (∀ k, k < len → ∃ be oe, a = some ⟨be, oe, none⟩ ∧ EvRow w be oe es) := fun k hk => by
    rcases h.2.2.2 with h0 | h0
    · omega
    · exact h0
  have HV := hidMk hv
  have HEL := hidMk hel
  have HM : Hid (∀ p k, k ≤ len → ((cn es (gP es (atN zs)) p k : Nat) : Int) ≤ 60) := fun p k hk => by have := cn_le (es := es) (gP es (atN zs)) p k; have := pc_bound es p k; omega
  clear h hz hv hel hc hcc
  go_enter Try.func14, Try.ntmps14
  go_wp2_with (first
    | (go_at_call 29; refine (HBF.out _ hB1).mono ?_; rintro e w2 ⟨⟨gT, rfl, hT⟩, hB2⟩)
    | (go_at_call 26; refine (HI.out).mono ?_; rintro e w1 ⟨⟨av, cv, rfl, hRB⟩, hB1⟩))
  have hr0 := rowI_made w2 (base := w2.heap.size) (Nat.le_refl _) (show n2 ≤ 100 by omega)
  have HRB := hidMk (hRB.below hB2)
  have HT := hidMk hT
  have HB2 := hidMk (below_from hB1 hB2)
  clear hRB hT hB1 hB2
  go_loopw [22] (fun i wr => ∃ k : Nat, k ≤ len ∧ i = .int .i64 (k : Int) ∧ RowI wr w2.heap.size w2.heap.size n2 (fun p => cn es (gP es (atN zs)) p k) ∧ Hid (Below w2.heap.size w2 wr)) (fun i _ => len - (intOf i).toNat)
  case atStart => exact ⟨0, Nat.zero_le _, rfl, hr0, (Below.refl _ _).alloc (Nat.le_refl _) _⟩
  case round =>
    clear hr0 hmi
    obtain ⟨k, hk, rfl, hrow, HB⟩ := hrel
    by_cases hkl : k < len
    · have hkl' : (k : Int) < (len : Int) := by omega
      obtain ⟨be, oe, rfl, hr⟩ := HE.out k hkl
      obtain ⟨⟨kd, wh, of⟩, he, _, _, hc1, hc2, hc3⟩ := (hr.below hr.1 (below_from HB2.out HB.out)).at (k := k) (by rw [HEL.out]; exact hkl)
      dsimp only at hc1 hc2 hc3
      obtain ⟨p0, hp0, hp0n⟩ := who_nat HV.out (i := k) (by rw [HEL.out]; exact hkl)
      have hwh : wh = (p0 : Int) := by rw [whoAt_at he] at hp0; exact hp0
      subst hwh
      have hp0m : p0 < n2 := by omega
      have hpm := HM.out p0 k hk
      obtain ⟨gi, rfl, _⟩ := HRB.out.at hkl
      have HPP : Hid (gP es (atN zs) k = true → (rowN n2 fun p => cn es (gP es (atN zs)) p k).set p0 (cn es (gP es (atN zs)) p0 k + 1) = rowN n2 fun p => cn es (gP es (atN zs)) p (k + 1)) := fun hP => cn_put n2 hp0 hP
      have HEND : Hid (gTo es (atN zs) k len = gP es (atN zs) k) := by show gTo es (atN zs) k len = gP es (atN zs) k; rw [← HEL.out]; exact gTo_end HV.out (atN zs) (by rw [HEL.out]; exact hkl)
      have hBA : Below w2.heap.size w2 (wr.alloc (.cells #[.int .i64 kd, .int .i64 (p0 : Int), .int .i64 of] 42)) := HB.out.alloc HB.out.size _
      have hrowA := World.ownsRow.alloc hrow (.cells #[.int .i64 kd, .int .i64 (p0 : Int), .int .i64 of] 42)
      have hce : (wr.alloc (.cells #[.int .i64 kd, .int .i64 (p0 : Int), .int .i64 of] 42)).cell? ⟨wr.heap.size, 1, none⟩ = some (.int .i64 (p0 : Int)) := by simp
      have hgA := (World.ownsRow.lt hrow w2.heap.size rfl).2
      have hIk : (wr.alloc (.cells #[.int .i64 kd, .int .i64 (p0 : Int), .int .i64 of] 42)).cell? ⟨gi, k, none⟩ = some (.bool (inC es (atN zs) k)) := by
        obtain ⟨g, e, _, _, hcell⟩ := (HRB.out.below hBA).at hkl
        cases e
        exact hcell
      have HROW := hidMk hrowA
      have HBA := hidMk hBA
      clear hrow he hp0 hr hrowA hBA
      go_wp2
      have HRB2 : Hid (∀ j, j < len → (wr.alloc (.cells #[.int .i64 kd, .int .i64 (p0 : Int), .int .i64 of] 42)).cell? ⟨gi, j, none⟩ = some (.bool (inC es (atN zs) j))) := fun j hj => by
        obtain ⟨g, e, _, _, hcell⟩ := (HRB.out.below HBA.out).at hj
        cases e
        exact hcell
      have HT2 : Hid (∀ i j, i < len → j < len → (wr.alloc (.cells #[.int .i64 kd, .int .i64 (p0 : Int), .int .i64 of] 42)).cell? ⟨gT, i * len + j, none⟩ = some (.bool (befB es i j))) := fun i j hi hj => Tab.cell (owns_below (HT.out (by omega)) HBA.out) hi hj
      generalize hWA : wr.alloc (.cells #[.int .i64 kd, .int .i64 (p0 : Int), .int .i64 of] 42) = WA at *
      have sA : WA.heap.size = wr.heap.size + 1 := by rw [← hWA]; simp
      clear hWA hc1 hc2 hc3 HB hIk
      generalize hge : wr.heap.size = ge at *
      clear hge
      clear HE HI HBF HRB HT
      go_loop [10, 11] (fun b i => ∃ j : Nat, j ≤ len ∧ i = .int .i64 (j : Int) ∧ b = .bool (gTo es (atN zs) k j)) (fun _ i => len - (intOf i).toNat)
      case atStart => exact ⟨0, Nat.zero_le _, rfl, by rw [gTo_zero]⟩
      case round =>
        obtain ⟨j, hj, rfl, rfl⟩ := hrel
        by_cases hjl : j < len
        · have hjl' : (j : Int) < (len : Int) := by omega
          have d1 := HRB2.out j hjl
          have d2 := HT2.out k j (by omega) (by omega)
          have hnn1 : k * len ≤ 3540 := Nat.le_trans (Nat.mul_le_mul (show k ≤ 59 by omega) (show len ≤ 60 by omega)) (by decide)
          have hnc : ((k * len : Nat) : Int) = (k : Int) * (len : Int) := by simp
          have hm0 : 0 ≤ (k : Int) * (len : Int) := by rw [← hnc]; omega
          have hm1 : (k : Int) * (len : Int) ≤ 3540 := by rw [← hnc]; omega
          have hat : (k : Int) * (len : Int) + (j : Int) < (len : Int) * (len : Int) := by
            have h1 := at_lt (n := len) (i := k) (j := j) (by omega) (by omega)
            have h2 : ((len * len : Nat) : Int) = (len : Int) * (len : Int) := by simp
            rw [← hnc, ← h2]; omega
          have htn : ((k : Int) * (len : Int) + (j : Int)).toNat = k * len + j := by rw [← hnc]; omega
          have HS := hidMk (gTo_succ es (atN zs) k j)
          generalize gTo es (atN zs) k j = b0 at HS ⊢
          generalize inC es (atN zs) j = b1 at HS d1
          generalize befB es k j = b2 at HS d2
          clear hnc hnn1
          cases b0 <;> cases b1 <;> cases b2
          all_goals
            go_wp2
            go_round
            case rel => exact ⟨j + 1, by omega, by go_num, by rw [HS.out]; rfl⟩
            case measure => simp [intOf]; omega
        · obtain rfl : j = len := by omega
          rw [HEND.out]
          clear HRB2 HT2
          cases hP : gP es (atN zs) k with
          | true =>
            have hcs := rowI_cell HROW.out hp0m
            have hfz := World.ownsRow.frozenAt HROW.out p0
            have HPP2 := hidMk (HPP.out hP)
            clear hP HPP HEND
            go_wp2
            go_region
            have hst := World.ownsRow.stored HROW.out p0 (encN (cn es (gP es (atN zs)) p0 k + 1))
            rw [← map_set, HPP2.out] at hst
            have hrow1 : RowI (WA.setCell ⟨w2.heap.size, p0, none⟩ (.int .i64 (((cn es (gP es (atN zs)) p0 k : Nat) : Int) + 1))).drew w2.heap.size w2.heap.size n2 (fun p => cn es (gP es (atN zs)) p (k + 1)) := hst.1
            have hg1 : WA.grownBy (WA.setCell ⟨w2.heap.size, p0, none⟩ (.int .i64 (((cn es (gP es (atN zs)) p0 k : Nat) : Int) + 1))).drew (some w2.heap.size) := grown_same hst.2 (grown_drew _ _)
            have HR1 := hidMk hrow1
            have HB1 := hidMk (HBA.out.grown hg1 HBA.out.size (fun k e => by cases e; exact Nat.le_refl _))
            clear hst hrow1 hg1 hcs hfz
            go_wp2
            go_roundw
            case rel => exact ⟨k + 1, by omega, by go_num, HR1.out, HB1⟩
            case measure => simp [intOf]; omega
          | false =>
            have HR1 := hidMk (rowI_same HROW.out fun p _ => (cn_skip hP p).symm)
            clear hP HPP HEND
            go_wp2
            go_roundw
            case rel => exact ⟨k + 1, by omega, by go_num, HR1.out, HBA⟩
            case measure => simp [intOf]; omega
    · obtain rfl : k = len := by omega
      have HR1 : Hid (RowI wr w2.heap.size w2.heap.size n2 (grown es (atN zs))) := rowI_same hrow fun p _ => by unfold grown; rw [HEL.out]
      clear hrow
      go_wp2
      go_ret
      exact ⟨⟨_, rfl, owns_le HR1.out HB2.out.size⟩, below_from HB2.out HB.out⟩
set_option maxRecDepth 100000 in
set_option maxHeartbeats 4000000 in
theorem refShrunk_any (n : Nat) (a : Option Addr) (len cap : Nat) (es : List Ev) (w : World) (h : CameEv w a len cap es) (hz : evsCode (n : Int) es = 0) (a2 : Option Addr) (n2 c2 : Nat) (zs : List Int) (hc : CameI w a2 n2 c2 zs) (hcc : cutCode (n : Int) es zs = 0) :
    Calls Try.prog 16 #[.slice a len cap, .slice a2 n2 c2] w fun e W2 => (∃ g, e = .returned (.slice (some ⟨g, 0, none⟩) n n) ∧ RowI W2 w.heap.size g n (shrunk es (atN zs))) ∧ Below w.heap.size w W2 := by
  have hv := valid_of hz
  have HI := hidMk (refIn_any n a len cap es w h hz a2 n2 c2 zs hc hcc)
  have HBF : Hid (∀ w1, Below w.heap.size w w1 → Calls Try.prog 29 #[.slice a len cap] w1 fun e w2 => (∃ g, e = .returned (.slice (some ⟨g, 0, none⟩) (len * len) (len * len)) ∧ (0 < len → Tab w2 w1.heap.size g len (befB es))) ∧ Below w1.heap.size w1 w2) := fun w1 hb => refBefore_any (n : Int) a len cap es w1 (h.below hb) hv
  have hel : es.length = len := h.1
  obtain ⟨rfl, _⟩ := cut_row_of hv hc hcc
  have hmx' : (len : Int) ≤ 60 := by have := hv.2.2.1; omega
  have hn6 : n2 ≤ 6 := by have := hv.2.1; omega
  have hn6' : (n2 : Int) ≤ 6 := by omega
  have hmi := make_ints n2 (by omega)
  have HE : Hid (∀ k, k < len → ∃ be oe, a = some ⟨be, oe, none⟩ ∧ EvRow w be oe es) := fun k hk => by
    rcases h.2.2.2 with h0 | h0
    · omega
    · exact h0
  have HV := hidMk hv
  have HEL := hidMk hel
  have HM : Hid (∀ p k, k ≤ len → ((cn es (sP es (atN zs)) p k : Nat) : Int) ≤ 60) := fun p k hk => by have := cn_le (es := es) (sP es (atN zs)) p k; have := pc_bound es p k; omega
  clear h hz hv hel hc hcc
  go_enter Try.func16, Try.ntmps16
  go_wp2_with (first
    | (go_at_call 29; refine (HBF.out _ hB1).mono ?_; rintro e w2 ⟨⟨gT, rfl, hT⟩, hB2⟩)
    | (go_at_call 26; refine (HI.out).mono ?_; rintro e w1 ⟨⟨av, cv, rfl, hRB⟩, hB1⟩))
  have hr0 := rowI_made w2 (base := w2.heap.size) (Nat.le_refl _) (show n2 ≤ 100 by omega)
  have HRB := hidMk (hRB.below hB2)
  have HT := hidMk hT
  have HB2 := hidMk (below_from hB1 hB2)
  clear hRB hT hB1 hB2
  go_loopw [22] (fun i wr => ∃ k : Nat, k ≤ len ∧ i = .int .i64 (k : Int) ∧ RowI wr w2.heap.size w2.heap.size n2 (fun p => cn es (sP es (atN zs)) p k) ∧ Hid (Below w2.heap.size w2 wr)) (fun i _ => len - (intOf i).toNat)
  case atStart => exact ⟨0, Nat.zero_le _, rfl, hr0, (Below.refl _ _).alloc (Nat.le_refl _) _⟩
  case round =>
    clear hr0 hmi
    obtain ⟨k, hk, rfl, hrow, HB⟩ := hrel
    by_cases hkl : k < len
    · have hkl' : (k : Int) < (len : Int) := by omega
      obtain ⟨be, oe, rfl, hr⟩ := HE.out k hkl
      obtain ⟨⟨kd, wh, of⟩, he, _, _, hc1, hc2, hc3⟩ := (hr.below hr.1 (below_from HB2.out HB.out)).at (k := k) (by rw [HEL.out]; exact hkl)
      dsimp only at hc1 hc2 hc3
      obtain ⟨p0, hp0, hp0n⟩ := who_nat HV.out (i := k) (by rw [HEL.out]; exact hkl)
      have hwh : wh = (p0 : Int) := by rw [whoAt_at he] at hp0; exact hp0
      subst hwh
      have hp0m : p0 < n2 := by omega
      have hpm := HM.out p0 k hk
      obtain ⟨gi, rfl, _⟩ := HRB.out.at hkl
      have HPP : Hid (sP es (atN zs) k = true → (rowN n2 fun p => cn es (sP es (atN zs)) p k).set p0 (cn es (sP es (atN zs)) p0 k + 1) = rowN n2 fun p => cn es (sP es (atN zs)) p (k + 1)) := fun hP => cn_put n2 hp0 hP
      have HEND : Hid (sTo es (atN zs) k len = sP es (atN zs) k) := by show sTo es (atN zs) k len = sP es (atN zs) k; rw [← HEL.out]; exact sTo_end HV.out (atN zs) (by rw [HEL.out]; exact hkl)
      have hBA : Below w2.heap.size w2 (wr.alloc (.cells #[.int .i64 kd, .int .i64 (p0 : Int), .int .i64 of] 42)) := HB.out.alloc HB.out.size _
      have hrowA := World.ownsRow.alloc hrow (.cells #[.int .i64 kd, .int .i64 (p0 : Int), .int .i64 of] 42)
      have hce : (wr.alloc (.cells #[.int .i64 kd, .int .i64 (p0 : Int), .int .i64 of] 42)).cell? ⟨wr.heap.size, 1, none⟩ = some (.int .i64 (p0 : Int)) := by simp
      have hgA := (World.ownsRow.lt hrow w2.heap.size rfl).2
      have hIk : (wr.alloc (.cells #[.int .i64 kd, .int .i64 (p0 : Int), .int .i64 of] 42)).cell? ⟨gi, k, none⟩ = some (.bool (inC es (atN zs) k)) := by
        obtain ⟨g, e, _, _, hcell⟩ := (HRB.out.below hBA).at hkl
        cases e
        exact hcell
      have HROW := hidMk hrowA
      have HBA := hidMk hBA
      clear hrow he hp0 hr hrowA hBA
      go_wp2
      have HRB2 : Hid (∀ j, j < len → (wr.alloc (.cells #[.int .i64 kd, .int .i64 (p0 : Int), .int .i64 of] 42)).cell? ⟨gi, j, none⟩ = some (.bool (inC es (atN zs) j))) := fun j hj => by
        obtain ⟨g, e, _, _, hcell⟩ := (HRB.out.below HBA.out).at hj
        cases e
        exact hcell
      have HT2 : Hid (∀ i j, i < len → j < len → (wr.alloc (.cells #[.int .i64 kd, .int .i64 (p0 : Int), .int .i64 of] 42)).cell? ⟨gT, i * len + j, none⟩ = some (.bool (befB es i j))) := fun i j hi hj => Tab.cell (owns_below (HT.out (by omega)) HBA.out) hi hj
      generalize hWA : wr.alloc (.cells #[.int .i64 kd, .int .i64 (p0 : Int), .int .i64 of] 42) = WA at *
      have sA : WA.heap.size = wr.heap.size + 1 := by rw [← hWA]; simp
      clear hWA hc1 hc2 hc3 HB hIk
      generalize hge : wr.heap.size = ge at *
      clear hge
      clear HE HI HBF HRB HT
      go_loop [10, 11] (fun b i => ∃ j : Nat, j ≤ len ∧ i = .int .i64 (j : Int) ∧ b = .bool (sTo es (atN zs) k j)) (fun _ i => len - (intOf i).toNat)
      case atStart => exact ⟨0, Nat.zero_le _, rfl, by rw [sTo_zero]⟩
      case round =>
        obtain ⟨j, hj, rfl, rfl⟩ := hrel
        by_cases hjl : j < len
        · have hjl' : (j : Int) < (len : Int) := by omega
          have d1 := HRB2.out j hjl
          have d2 := HT2.out j k (by omega) (by omega)
          have hnn1 : j * len ≤ 3540 := Nat.le_trans (Nat.mul_le_mul (show j ≤ 59 by omega) (show len ≤ 60 by omega)) (by decide)
          have hnc : ((j * len : Nat) : Int) = (j : Int) * (len : Int) := by simp
          have hm0 : 0 ≤ (j : Int) * (len : Int) := by rw [← hnc]; omega
          have hm1 : (j : Int) * (len : Int) ≤ 3540 := by rw [← hnc]; omega
          have hat : (j : Int) * (len : Int) + (k : Int) < (len : Int) * (len : Int) := by
            have h1 := at_lt (n := len) (i := j) (j := k) (by omega) (by omega)
            have h2 : ((len * len : Nat) : Int) = (len : Int) * (len : Int) := by simp
            rw [← hnc, ← h2]; omega
          have htn : ((j : Int) * (len : Int) + (k : Int)).toNat = j * len + k := by rw [← hnc]; omega
          have HS := hidMk (sTo_succ es (atN zs) k j)
          generalize sTo es (atN zs) k j = b0 at HS ⊢
          generalize inC es (atN zs) j = b1 at HS d1
          generalize befB es j k = b2 at HS d2
          clear hnc hnn1
          cases b0 <;> cases b1 <;> cases b2
          all_goals
            go_wp2
            go_round
            case rel => exact ⟨j + 1, by omega, by go_num, by rw [HS.out]; rfl⟩
            case measure => simp [intOf]; omega
        · obtain rfl : j = len := by omega
          rw [HEND.out]
          clear HRB2 HT2
          cases hP : sP es (atN zs) k with
          | true =>
            have hcs := rowI_cell HROW.out hp0m
            have hfz := World.ownsRow.frozenAt HROW.out p0
            have HPP2 := hidMk (HPP.out hP)
            clear hP HPP HEND
            go_wp2
            go_region
            have hst := World.ownsRow.stored HROW.out p0 (encN (cn es (sP es (atN zs)) p0 k + 1))
            rw [← map_set, HPP2.out] at hst
            have hrow1 : RowI (WA.setCell ⟨w2.heap.size, p0, none⟩ (.int .i64 (((cn es (sP es (atN zs)) p0 k : Nat) : Int) + 1))).drew w2.heap.size w2.heap.size n2 (fun p => cn es (sP es (atN zs)) p (k + 1)) := hst.1
            have hg1 : WA.grownBy (WA.setCell ⟨w2.heap.size, p0, none⟩ (.int .i64 (((cn es (sP es (atN zs)) p0 k : Nat) : Int) + 1))).drew (some w2.heap.size) := grown_same hst.2 (grown_drew _ _)
            have HR1 := hidMk hrow1
            have HB1 := hidMk (HBA.out.grown hg1 HBA.out.size (fun k e => by cases e; exact Nat.le_refl _))
            clear hst hrow1 hg1 hcs hfz
            go_wp2
            go_roundw
            case rel => exact ⟨k + 1, by omega, by go_num, HR1.out, HB1⟩
            case measure => simp [intOf]; omega
          | false =>
            have HR1 := hidMk (rowI_same HROW.out fun p _ => (cn_skip hP p).symm)
            clear hP HPP HEND
            go_wp2
            go_roundw
            case rel => exact ⟨k + 1, by omega, by go_num, HR1.out, HBA⟩
            case measure => simp [intOf]; omega
    · obtain rfl : k = len := by omega
      have HR1 : Hid (RowI wr w2.heap.size w2.heap.size n2 (shrunk es (atN zs))) := rowI_same hrow fun p _ => by unfold shrunk; rw [HEL.out]
      clear hrow
      go_wp2
      go_ret
      exact ⟨⟨_, rfl, owns_le HR1.out HB2.out.size⟩, below_from HB2.out HB.out⟩
end Go.Proofs.Ytjglbjiekndpeaa
