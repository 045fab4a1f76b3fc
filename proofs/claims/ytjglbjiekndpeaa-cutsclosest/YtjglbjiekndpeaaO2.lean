/- Contract of folkmootref.In: which events are in a cut. -/
import Derived.Test.YtjglbjiekndpeaaO1
import Derived.Test.YtjglbjiekndpeaaJ6
import Derived.Deep.RegionHeld3
import Derived.Deep.AppendLies
namespace Go.Proofs.Ytjglbjiekndpeaa
open Go.RowKit Go.Shelf
set_option linter.unusedVariables false

theorem rows_apart {w : World} {b1 b2 s1 s2 n1 n2 : Nat} {e1 e2 : TypeId} {v1 v2 : Value} {x1 x2 : List Value} (h1 : w.ownsRow b1 e1 s1 v1 n1 x1) (h2 : w.ownsRow b2 e2 s2 v2 n2 x2) (he : e1 ≠ e2) : v1.ownBlock = none ∨ v1.ownBlock ≠ v2.ownBlock := by
  obtain ⟨_, ⟨h3, _⟩ | ⟨g, c, cur, h3, _, h4, _⟩⟩ := h1
  · left; rw [h3]; rfl
  · obtain ⟨_, ⟨h5, _⟩ | ⟨g2, c2, cur2, h5, _, h6, _⟩⟩ := h2
    · right; rw [h3, h5]; simp [Value.ownBlock]
    · right
      rw [h3, h5]
      simp only [Value.ownBlock, ne_eq, Option.some.injEq]
      intro e
      rw [e, h6] at h4
      simp at h4
      exact he h4.2.symm

def boolsTo (P : Nat → Bool) (k : Nat) : List Value := (List.range k).map fun j => .bool (P j)
theorem boolsTo_succ (P : Nat → Bool) (k : Nat) : boolsTo P (k + 1) = boolsTo P k ++ [.bool (P k)] := by simp [boolsTo, List.range_succ]
theorem boolsTo_at {P : Nat → Bool} {k j : Nat} (h : j < k) : (boolsTo P k)[j]? = some (.bool (P j)) := by simp [boolsTo, h]
/-- Bools that a call made. -/
def RowB (w : World) (base : Nat) (a : Option Addr) (n : Nat) (P : Nat → Bool) : Prop :=
  n = 0 ∨ ∃ g, a = some ⟨g, 0, none⟩ ∧ base ≤ g ∧ g < w.heap.size ∧ ∀ j, j < n → w.cell? ⟨g, j, none⟩ = some (.bool (P j))
theorem RowB.at {w : World} {base n : Nat} {a : Option Addr} {P : Nat → Bool} (h : RowB w base a n P) {j : Nat} (hj : j < n) : ∃ g, a = some ⟨g, 0, none⟩ ∧ base ≤ g ∧ g < w.heap.size ∧ w.cell? ⟨g, j, none⟩ = some (.bool (P j)) := by
  rcases h with h | ⟨g, h1, h2, h3, h4⟩
  · omega
  · exact ⟨g, h1, h2, h3, h4 j hj⟩
theorem RowB.below {w w2 : World} {base n : Nat} {a : Option Addr} {P : Nat → Bool} (h : RowB w base a n P) (hb : Below w.heap.size w w2) : RowB w2 base a n P := by
  rcases h with h | ⟨g, h1, h2, h3, h4⟩
  · exact .inl h
  · exact .inr ⟨g, h1, h2, Nat.lt_of_lt_of_le h3 hb.size, fun j hj => (hb.cell (p := ⟨g, j, none⟩) h3).trans (h4 j hj)⟩
theorem bools_form {W : World} {base k : Nat} {v : Value} {P : Nat → Bool} (h : W.ownsRow base 4 1 v k (boolsTo P k)) : ∃ av cv, v = .slice av k cv ∧ RowB W base av k P := by
  have hlt := h.lt
  obtain ⟨h1, ⟨h2, h3⟩ | ⟨g, cap, cur, h2, h3, h4⟩⟩ := id h
  · exact ⟨none, 0, by rw [h2, h3], .inl h3⟩
  · subst h2
    refine ⟨_, _, rfl, .inr ⟨g, rfl, h3, (hlt g rfl).2, fun j hj => ?_⟩⟩
    rw [h.cellAt j (by omega), boolsTo_at hj]

theorem pc_put {es : List Ev} {k p0 : Nat} (n : Nat) (hw : whoAt es k = (p0 : Int)) : (rowN n fun p => pc es p k).set p0 (pc es p0 k + 1) = rowN n fun p => pc es p (k + 1) := by
  rw [rowN_set]
  apply rowN_congr
  intro p _
  show _ = pc es p k + _
  rw [hw]
  by_cases hp : p = p0
  · subst hp; simp
  · rw [if_neg hp, if_neg (by omega)]; rfl
theorem inC_here {es : List Ev} {c : Nat → Nat} {k p0 : Nat} (hw : whoAt es k = (p0 : Int)) : decide (((pc es p0 k : Nat) : Int) + 1 ≤ ((c p0 : Nat) : Int)) = inC es c k := by
  rw [Bool.eq_iff_iff, inC_iff hw, decide_eq_true_iff]
  omega

set_option maxRecDepth 100000 in
set_option maxHeartbeats 4000000 in
theorem refIn_any (n : Nat) (a : Option Addr) (len cap : Nat) (es : List Ev) (w : World) (h : CameEv w a len cap es) (hz : evsCode (n : Int) es = 0) (a2 : Option Addr) (n2 c2 : Nat) (zs : List Int) (hc : CameI w a2 n2 c2 zs) (hcc : cutCode (n : Int) es zs = 0) :
    Calls Try.prog 26 #[.slice a len cap, .slice a2 n2 c2] w fun e W2 => (∃ av cv, e = .returned (.slice av len cv) ∧ RowB W2 w.heap.size av len (inC es (atN zs))) ∧ Below w.heap.size w W2 := by
  obtain ⟨i0, hi, hz0, hz1, hz2⟩ := info_parts Try.info4
  have hv := valid_of hz
  have hel : es.length = len := h.1
  obtain ⟨rfl, b, off, rfl, hq⟩ := cut_row_of hv hc hcc
  have hmx' : (len : Int) ≤ 60 := by have := hv.2.2.1; omega
  have hn6 : n2 ≤ 6 := by have := hv.2.1; omega
  have hn6' : (n2 : Int) ≤ 6 := by omega
  have hmi := make_ints n2 (by omega)
  have HE : Hid (∀ k, k < len → ∃ be oe, a = some ⟨be, oe, none⟩ ∧ EvRow w be oe es) := fun k hk => by
    rcases h.2.2.2 with h0 | h0
    · omega
    · exact h0
  have HV := hidMk hv
  have HQ := hidMk hq
  have HCC := hidMk hcc
  have HEL := hidMk hel
  have HM : Hid (∀ p k, k ≤ len → ((pc es p k : Nat) : Int) ≤ 60) := fun p k hk => by have := pc_bound es p k; omega
  clear h hz hv hq hel hc hcc
  go_enter Try.func26, Try.ntmps26
  go_wp2
  have hr0 := rowI_made w (base := w.heap.size) (Nat.le_refl _) (show n2 ≤ 100 by omega)
  go_loopw [6, 14] (fun v i wr => ∃ k : Nat, k ≤ len ∧ i = .int .i64 (k : Int) ∧ RowI wr w.heap.size w.heap.size n2 (fun p => pc es p k) ∧ wr.ownsRow w.heap.size 4 1 v k (boolsTo (inC es (atN zs)) k) ∧ Hid (Below w.heap.size w wr)) (fun _ i _ => len - (intOf i).toNat)
  case atStart => exact ⟨0, Nat.zero_le _, rfl, hr0, World.ownsRow_nil _ _ _ _, (Below.refl _ _).alloc (Nat.le_refl _) _⟩
  case round =>
    clear hr0 hmi
    obtain ⟨k, hk, rfl, hrow, hown, HB⟩ := hrel
    by_cases hkl : k < len
    · have hkl' : (k : Int) < (len : Int) := by omega
      obtain ⟨be, oe, rfl, hr⟩ := HE.out k hkl
      obtain ⟨⟨kd, wh, of⟩, he, _, _, hc1, hc2, hc3⟩ := (hr.below hr.1 HB.out).at (k := k) (by rw [HEL.out]; exact hkl)
      dsimp only at hc1 hc2 hc3
      obtain ⟨p0, hp0, hp0n⟩ := who_nat HV.out (i := k) (by rw [HEL.out]; exact hkl)
      have hwh : wh = (p0 : Int) := by rw [whoAt_at he] at hp0; exact hp0
      subst hwh
      have hp0m : p0 < n2 := by omega
      have hpm := HM.out p0 k hk
      have HPP := hidMk (pc_put n2 hp0)
      have HIN := hidMk (inC_here (c := atN zs) hp0)
      have HP1 := hidMk (pc_succ_at hp0)
      have hAB := (Below.refl wr.heap.size wr).alloc (Nat.le_refl _) (.cells #[.int .i64 kd, .int .i64 (p0 : Int), .int .i64 of] 42)
      have hrowA := World.ownsRow.alloc hrow (.cells #[.int .i64 kd, .int .i64 (p0 : Int), .int .i64 of] 42)
      have hownA := World.ownsRow.alloc hown (.cells #[.int .i64 kd, .int .i64 (p0 : Int), .int .i64 of] 42)
      have hBA : Below w.heap.size w (wr.alloc (.cells #[.int .i64 kd, .int .i64 (p0 : Int), .int .i64 of] 42)) := HB.out.alloc HB.out.size _
      have hcz := cut_cell HCC.out (HQ.out.below HQ.out.1 hBA) hp0m
      have hcs := rowI_cell hrowA hp0m
      have hfz := World.ownsRow.frozenAt hrowA p0
      have hce : (wr.alloc (.cells #[.int .i64 kd, .int .i64 (p0 : Int), .int .i64 of] 42)).cell? ⟨wr.heap.size, 1, none⟩ = some (.int .i64 (p0 : Int)) := by simp
      have hgA := (World.ownsRow.lt hrow w.heap.size rfl).2
      have hqe : ∀ q, u6.ownBlock = some q → w.heap.size ≤ q ∧ q < wr.heap.size := fun q e => World.ownsRow.lt hown q e
      have hap := rows_apart hown hrow (by decide)
      have HROW := hidMk hrowA
      have HOWN := hidMk hownA
      have HBA := hidMk hBA
      clear hrow hown he hp0 hr hAB hrowA hownA hBA
      go_wp2
      generalize hWA : wr.alloc (.cells #[.int .i64 kd, .int .i64 (p0 : Int), .int .i64 of] 42) = WA at *
      have sA : WA.heap.size = wr.heap.size + 1 := by rw [← hWA]; simp
      clear hWA hc1 hc2 hc3 HB
      generalize hge : wr.heap.size = ge at *
      clear hge
      go_region
      have hst := World.ownsRow.stored HROW.out p0 (encN (pc es p0 k + 1))
      rw [← map_set, HPP.out] at hst
      have hrow1 : RowI (WA.setCell ⟨w.heap.size, p0, none⟩ (.int .i64 (((pc es p0 k : Nat) : Int) + 1))).drew w.heap.size w.heap.size n2 (fun p => pc es p (k + 1)) := hst.1
      have hg1 : WA.grownBy (WA.setCell ⟨w.heap.size, p0, none⟩ (.int .i64 (((pc es p0 k : Nat) : Int) + 1))).drew (some w.heap.size) := grown_same hst.2 (grown_drew _ _)
      clear hst hcz hcs hfz
      have hown1 := World.ownsRow.kept HOWN.out hg1 (rows_apart HOWN.out HROW.out (by decide))
      have hB1 := HBA.out.grown hg1 HBA.out.size (fun k e => by cases e; exact Nat.le_refl _)
      have hce1 := (hg1.cell_far ⟨ge, 1, none⟩ (by rw [sA]; show ge < ge + 1; omega) (by simp; omega)).trans hce
      have hs1 : WA.heap.size ≤ _ := hg1.size
      clear hce hg1
      generalize (WA.setCell ⟨w.heap.size, p0, none⟩ (.int .i64 (((pc es p0 k : Nat) : Int) + 1))).drew = W1 at *
      have hcz1 := cut_cell HCC.out (HQ.out.below HQ.out.1 hB1) hp0m
      have hcs1 := rowI_cell hrow1 hp0m
      rw [HP1.out] at hcs1
      have hcs1 : W1.cell? ⟨w.heap.size, p0, none⟩ = some (.int .i64 (((pc es p0 k : Nat) : Int) + 1)) := hcs1
      have hb0 := HQ.out.1
      have ag : u6.ownBlock ≠ some ge := fun e => by have := (hqe _ e).2; omega
      have ab : u6.ownBlock ≠ some b := fun e => by have := (hqe _ e).1; omega
      have aw : u6.ownBlock ≠ some w.heap.size := fun e => by
        rcases hap with h | h
        · rw [h] at e; cases e
        · exact h (by rw [e]; rfl)
      have HROW1 := hidMk hrow1
      have HB1 := hidMk hB1
      have hpp : (0 : Int) ≤ (p0 : Int) := by omega
      have hk60 : k + 1 ≤ 60 := by omega
      have hwb : w.heap.size ≤ W1.heap.size := hB1.size
      have HQE := hidMk hqe
      clear hrow1 hB1 HROW HOWN HBA hap hqe HE HCC HQ HPP HP1 HV
      go_wp2
      go_region_held3 (fun w' => w'.cell? ⟨ge, 1, none⟩ = some (.int .i64 (p0 : Int)) ∧ w'.cell? ⟨w.heap.size, p0, none⟩ = some (.int .i64 (((pc es p0 k : Nat) : Int) + 1)) ∧ w'.cell? ⟨b, off + p0, none⟩ = some (.int .i64 ((atN zs p0 : Nat) : Int)))
        (first
          | go_keep
          | (go_split_ands
             refine ⟨?_, ?_, ?_⟩
             · (rw [hgrow.cell_far _ (by simp; omega) (Ne.symm ag)]; assumption)
             · (rw [hgrow.cell_far _ (by simp; omega) (Ne.symm aw)]; assumption)
             · (rw [hgrow.cell_far _ (by simp; omega) (Ne.symm ab)]; assumption)))
        ((refine step_append_lies _ (by rfl) _ _ _ (by rfl) w.heap.size 4 i0 _ 1 1 Try.underlying45 hi hz0 hz1 hz2 rfl (by omega) u6 k (boolsTo (inC es (atN zs)) k) (by rfl) ((hown1.alloc _).drew)
            ⟨W1.heap.size, 0, none⟩ 1 1 [.bool (decide (((pc es p0 k : Nat) : Int) + 1 ≤ ((atN zs p0 : Nat) : Int)))] (by rfl) (by rfl) (World.news_of_block (cs := #[.bool (decide (((pc es p0 k : Nat) : Int) + 1 ≤ ((atN zs p0 : Nat) : Int)))]) (t := 4) (fr := (0, 0)) (heap_alloc_new W1 _)) (by simp [Value.oneCell'])
            (by omega) (by unfold maxLen; omega) (by omega) (by simp; omega) (W1.heap.size + 1) (by simp) ?_; intro gg cp w1 hown2 hgrow hat hlt))
      have HO2 : Hid (w1.ownsRow w.heap.size 4 1 (.slice (some ⟨gg, 0, none⟩) (k + 1) cp) (k + 1) (boolsTo (inC es (atN zs)) (k + 1))) := by
        show World.ownsRow _ _ _ _ _ _ _
        rw [boolsTo_succ, ← HIN.out]; exact hown2
      have HR2 : Hid (RowI w1 w.heap.size w.heap.size n2 (fun p => pc es p (k + 1))) := World.ownsRow.kept ((HROW1.out.alloc _).drew) hgrow (.inr (Ne.symm aw))
      have HB2 : Hid (Below w.heap.size w w1) := (HB1.out.alloc HB1.out.size _).drew.grown hgrow (by simp; omega) (fun q e => (HQE.out q e).1)
      clear hown1 hown2 hgrow hat hlt
      go_wp2
      go_roundw
      case rel => exact ⟨k + 1, by omega, by go_num, HR2.out, HO2.out, HB2⟩
      case measure => simp [intOf]; omega
    · obtain rfl : k = len := by omega
      obtain ⟨av, cv, rfl, hrb⟩ := bools_form hown
      have HRB := hidMk hrb
      clear hown hrow hrb
      go_wp2
      go_ret
      exact ⟨⟨av, cv, rfl, HRB.out⟩, HB.out⟩
end Go.Proofs.Ytjglbjiekndpeaa
