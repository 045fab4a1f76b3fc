/- Generals: votes are counted. -/
import Derived.Test.YtekbglmoibglnaaGf3
import Derived.Maps.RangeWalk
namespace Go.Proofs.Ytekbglmoibglnaa
open Go.RowKit Go.Maps
set_option linter.unusedVariables false

theorem i64_small {z : Int} (h : -100000 ≤ z ∧ z ≤ 100000) : I64 z := by unfold I64; omega
theorem getD_small {f : Int → Option Int} (h : ∀ z v, f z = some v → -1000 ≤ v ∧ v ≤ 1000) (x : Int) : -1000 ≤ (f x).getD 0 ∧ (f x).getD 0 ≤ 1000 := by
  cases e : f x with
  | none => exact ⟨by simp, by simp⟩
  | some v => simpa using h x v e
set_option maxRecDepth 100000 in
set_option maxHeartbeats 4000000 in
theorem count_any {w : World} {S V B cS cV : Nat} {f g : Int → Option Int} (hS : MapF w S cS f) (hV : MapF w V cV g) (hSV : S ≠ V) (hBV : B ≠ V) (hB : w.cell? ⟨B, 0, none⟩ = some (.map (some V)))
    (hf : ∀ z v, f z = some v → -1000 ≤ v ∧ v ≤ 1000) (hg : ∀ z v, g z = some v → -1000 ≤ v ∧ v ≤ 1000) (hc : cV + cS ≤ 1000) :
    Calls Try.prog 19 #[.map (some S), .pointer (some ⟨B, 0, none⟩)] w fun e w' => e = .returned (.tuple #[]) ∧ (∃ c2, c2 ≤ cV + cS ∧ MapF w' V c2 (addM g f)) ∧ Keep (fun b => b = V) w w' := by
  have hVl := hV.lt
  have hSl := hS.lt
  obtain ⟨D, hown, hat⟩ := hS
  have hcnt := hown.size_le
  have HAt := hidMk hat
  have HB := hidMk hB
  have HV := hidMk hV
  have HF := hidMk hf
  have HGs := hidMk hg
  clear hat hB hV hf hg
  go_enter Try.func19, Try.ntmps19
  go_wp2_with (first
    | (at_range; refine wpList_range_own _ rfl _ 40 rfl 3 42 lawG Try.underlying40 _ S cS D rfl hown ?_; intro w0 hrg0 hg0 hs0)
    | go_in)
  have HK0 : Hid (Keep (fun b => b = V) w w0) := (Keep.of_grown hg0).mono (fun _ _ e => by cases e)
  have HV0 := hidMk (HV.out.kept hg0 (by simp))
  clear hg0 hown
  go_frame
  go_loopw [3] (fun _ wr => ∃ (left : Lit → Bool) (cnt cv : Nat), wr.ranges Try.prog 3 (plainElem Try.prog 42) S w.heap.size cS D left cnt ∧ cv + cnt ≤ cV + cS ∧ Hid (MapF wr V cv (accM g f left)) ∧ Hid (Keep (fun b => b = V) w wr))
    (fun _ wr => wr.rangeLeft S w.heap.size)
  case atStart => exact ⟨_, _, cV, hrg0, by omega, by show MapF _ _ _ _; rw [accM_start g HAt.out]; exact HV0.out, HK0⟩
  case round =>
    obtain ⟨left, cnt, cv, hrg, hcv, HM, HK⟩ := hrel
    go_wp2_with (first
      | (at_next; refine wpList_next_ranges_ii _ rfl _ rfl 3 42 .i64 .i64 lawG Try.underlying3 Try.underlying42 S w.heap.size cS _ _ _ rfl hrg ?_ ?_)
      | go_in)
    · intro _ hl0
      go_wp2
      go_end0
      exact ⟨rfl, ⟨cv, by omega, by rw [← accM_end hl0]; exact HM.out⟩, HK.out⟩
    · intro x c w1 cnt1 hwx hwc hlx hat hrg1 hlt hg1 hs1 hen
      have hx := i64_of hwx
      have hfx := atG_hit HAt.out hat
      have hcb := HF.out x c hfx
      have hgb := getD_small HGs.out x
      have HK1 : Hid (Keep (fun b => b = V) w w1) := HK.out.grown hg1 (fun k e hk => by cases e; omega)
      have HM1 := hidMk (HM.out.kept hg1 (by simp; omega))
      have hB1 : w1.cell? ⟨B, 0, none⟩ = some (.map (some V)) := (World.cell?_of_block (HK1.out.block B (World.block_lt_of_cell? _ _ HB.out) hBV)).trans HB.out
      have hlook := HM1.out.look hx
      rw [accM_at hlx] at hlook
      have HS := hidMk (accM_step (g := g) (left := left) hfx)
      generalize (g x).getD 0 = gx at *
      obtain ⟨w2, hst, hM2, hg2⟩ := HM1.out.store (by unfold maxLen; omega) hx (v := gx + c) (i64_small (by omega))
      have HM2 := hidMk hM2
      have HG2 := hidMk hg2
      have HRg := hidMk hrg1
      clear hat hfx hg1 hM2 hg2 hwx hwc hrg1
      go_wp2
      go_roundw
      case rel => exact ⟨_, cnt1, cv + 1, HRg.out.kept HG2.out (by simp; omega) (by simp; omega), by omega, by show MapF _ _ _ _; rw [HS.out]; exact HM2.out, HK1.out.grown HG2.out (fun k e _ => by cases e; rfl)⟩
      case measure =>
        rw [(HRg.out.kept HG2.out (by simp; omega) (by simp; omega)).left_eq, hrg.left_eq]; exact hlt
end Go.Proofs.Ytekbglmoibglnaa
