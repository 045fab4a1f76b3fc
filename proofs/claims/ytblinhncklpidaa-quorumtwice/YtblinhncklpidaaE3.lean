/- Contract of quorum.leastSets: the least sets of a family, rising, in a new list. -/
import Derived.Test.YtblinhncklpidaaE2
import Derived.Laws.EntriesVeiled
namespace Go.Proofs.Ytblinhncklpidaa
open Go.RowKit

set_option maxHeartbeats 2000000 in
theorem leastSets_row (n b off len cap : Nat) (qs : List Nat) (w : World) (hl : qs.length = len) (hl1 : 1 ≤ len) (hl2 : len ≤ 64) (hx : ∀ x ∈ qs, x < 2 ^ n) (hq : Row w b off qs) :
    Calls Try.prog 25 #[.slice (some ⟨b, off, none⟩) len cap] w fun e w' => ∃ v, e = .returned v ∧ Made w' w.heap.size v (leastsTo qs (2 ^ n)) ∧ Below w.heap.size w w' := by
  obtain ⟨i0, hi, hz0, hz1, hz2⟩ := info_parts Try.info34
  have HL := hidMk hl
  have HX := hidMk hx
  have HP : Hid (1 ≤ (leastL qs len).length) := by have := leastL_pos (qs := qs) (by omega); rw [hl] at this; exact this
  clear hl hx
  have hl2' : (len : Int) ≤ 64 := by omega
  have HO := hidMk memberOutside_any
  go_enter Try.func25, Try.ntmps25
  go_wp2
  go_loopw [3, 10] (fun v i wr => ∃ k : Nat, k ≤ len ∧ i = .int .i64 (k : Int) ∧ Below w.heap.size w wr ∧ Made wr w.heap.size v (leastL qs k)) (fun _ i _ => len - (intOf i).toNat)
  case atStart => exact ⟨0, Nat.zero_le _, rfl, Below.refl _ _, World.ownsRow_nil _ _ _ _⟩
  case round =>
    obtain ⟨k, hk, rfl, hB, hown⟩ := hrel
    by_cases hlt : k < len
    · have hlt' : (k : Int) < (len : Int) := by omega
      obtain ⟨x, hx, hmem, hxb, hc⟩ := (hq.below rfl hB).at (k := k) (by rw [HL.out]; exact hlt)
      have HXX := hidMk hx
      clear hx
      have hkl := leastL_len qs k
      have hmf : ∀ (fn : Fn) (first cap : Array Value) (w : World), (Instr.makeFunc fn first cap).run Try.prog w = .ok (.func fn first cap) w := fun _ _ _ _ => rfl
      have bx0 := Boxed.new wr 34 (.int .u32 (x : Int))
      have bo0 : Boxed ((wr.alloc (.cells #[.int .u32 (x : Int)] 34)).alloc (.cells #[.int .u32 (x : Int)] 34)) (wr.heap.size + 1) 34 (.int .u32 (x : Int)) := by
        have h := Boxed.new (wr.alloc (.cells #[.int .u32 (x : Int)] 34)) 34 (.int .u32 (x : Int))
        simpa using h
      have bf : Boxed (((wr.alloc (.cells #[.int .u32 (x : Int)] 34)).alloc (.cells #[.int .u32 (x : Int)] 34)).alloc (.cells #[.nilFunc] 43)) (wr.heap.size + 1 + 1) 43 .nilFunc := by
        have h := Boxed.new ((wr.alloc (.cells #[.int .u32 (x : Int)] 34)).alloc (.cells #[.int .u32 (x : Int)] 34)) 43 .nilFunc
        simpa using h
      have hfc := bf.cell
      have hff := bf.frozen
      have bf2 : Boxed (((wr.alloc (.cells #[.int .u32 (x : Int)] 34)).alloc (.cells #[.int .u32 (x : Int)] 34)).alloc (.cells #[.func (.func 46) #[] #[.pointer (some ⟨wr.heap.size + 1, 0, none⟩)]] 43)) (wr.heap.size + 1 + 1) 43 (.func (.func 46) #[] #[.pointer (some ⟨wr.heap.size + 1, 0, none⟩)]) := by
        have h := Boxed.new ((wr.alloc (.cells #[.int .u32 (x : Int)] 34)).alloc (.cells #[.int .u32 (x : Int)] 34)) 43 (.func (.func 46) #[] #[.pointer (some ⟨wr.heap.size + 1, 0, none⟩)])
        simpa using h
      have hB2 : Below wr.heap.size wr (((wr.alloc (.cells #[.int .u32 (x : Int)] 34)).alloc (.cells #[.int .u32 (x : Int)] 34)).alloc (.cells #[.func (.func 46) #[] #[.pointer (some ⟨wr.heap.size + 1, 0, none⟩)]] 43)) :=
        (((Below.refl _ _).alloc (Nat.le_refl _) _).alloc (by simp) _).alloc (by simp; omega) _
      have bx2 := (bx0.alloc (.cells #[.int .u32 (x : Int)] 34)).alloc (.cells #[.func (.func 46) #[] #[.pointer (some ⟨wr.heap.size + 1, 0, none⟩)]] 43)
      have bo2 := bo0.alloc (.cells #[.func (.func 46) #[] #[.pointer (some ⟨wr.heap.size + 1, 0, none⟩)]] 43)
      have HCF := hidMk (containsFunc2_row 38 _ _ (partB x) b off len cap qs _ enters_smaller HL.out (by omega) ((hq.below rfl hB).below rfl hB2)
        (asks_smaller _ x wr.heap.size (wr.heap.size + 1 + 1) (wr.heap.size + 1) hxb bx2.lt bf2.lt bo2.lt bx2.cell bf2.cell bo2.cell))
      have HBX := hidMk bx2
      have HB2 := hidMk hB2
      clear bx0 bo0 bf bf2 bx2 bo2 hB2
      cases hp : leastB qs x
      · have ha : qs.any (partB x) = true := by unfold leastB at hp; simpa using hp
        rw [ha] at HCF
        have HM := hidMk (leastL_miss HXX.out hp)
        clear hp ha
        go_wp2_with (first | (go_at_call 34; refine (HO.out _ _).mono ?_; rintro e w1 ⟨rfl, rfl⟩) | (go_at_call 33; refine (HCF.out).mono ?_; rintro e w5 ⟨rfl, hB5⟩))
        have hB6 : Below wr.heap.size wr w5 := HB2.out.trans (hB5.mono HB2.out.size)
        go_roundw
        case rel => exact ⟨k + 1, by omega, by go_num, hB.trans (hB6.mono hB.size), by rw [HM.out]; exact hown.below hB6⟩
        case measure => simp [intOf]; omega
      · have ha : qs.any (partB x) = false := by unfold leastB at hp; simpa using hp
        rw [ha] at HCF
        have HM := hidMk (leastL_hit HXX.out hp)
        clear hp ha
        have c2 : ∀ u ∈ [Value.int .u32 (x : Int)], u.oneCell' = true := by intro u hu; simp at hu; subst hu; rfl
        have c3 : (leastL qs k).length + 1 ≤ maxLen := by unfold maxLen; omega
        have c4 : ((leastL qs k).length + 1) * 4 ≤ 140737488355328 := by omega
        go_wp2_with (first | (go_at_call 34; refine (HO.out _ _).mono ?_; rintro e w1 ⟨rfl, rfl⟩) | (go_at_call 33; refine (HCF.out).mono ?_; rintro e w5 ⟨rfl, hB5⟩; have hB6 : Below wr.heap.size wr w5 := HB2.out.trans (hB5.mono HB2.out.size); have hown2 := hown.below hB6; have hB3 := hB.trans (hB6.mono hB.size); have hbx := (hB5.cell (p := ⟨wr.heap.size, 0, none⟩) HBX.out.lt).trans HBX.out.cell; clear hB hB5 hB6 hown) | (at_builtin; refine wpList_append_own _ rfl _ _ 22 rfl w.heap.size 34 i0 (.int .u32 0) 1 4 Try.underlying22 hi hz0 hz1 hz2 rfl (by decide) _ _ _ rfl (World.ownsRow.alloc hown2 _) ⟨w5.heap.size, 0, none⟩ 1 1 [.int .u32 (x : Int)] rfl rfl (cell_one_new _ _ _) c2 c3 c4 (by have := hB3.size; simp; omega) ?_))
        intro v' w3 hown' hgrow _
        have hB4 : Below w.heap.size w w3 := (hB3.alloc hB3.size _).grown hgrow (by have := hB3.size; simp; omega) (fun j e => (World.ownsRow.lt hown2 j e).1)
        obtain ⟨g', cap', rfl⟩ := ownsRow_succ hown'
        have HM2 : Hid (Made w3 w.heap.size (.slice (some ⟨g', 0, none⟩) ((leastL qs k).length + 1) cap') (leastL qs (k + 1))) := by
          show w3.ownsRow _ _ _ _ _ _
          rw [HM.out, List.length_append, List.map_append]
          exact hown'
        clear hown' hgrow hown2 hB3 hbx hfc hff
        go_wp2
        go_roundw
        case rel => exact ⟨k + 1, by omega, by go_num, hB4, HM2.out⟩
        case measure => simp [intOf]; omega
    · obtain rfl : k = len := by omega
      have HE : Hid (∃ m g cap', u3 = .slice (some ⟨g, 0, none⟩) (m + 1) cap' ∧ m + 1 = (leastL qs k).length) := by
        obtain ⟨m, hm⟩ : ∃ m, (leastL qs k).length = m + 1 := ⟨(leastL qs k).length - 1, by have := HP.out; omega⟩
        have h' : wr.ownsRow w.heap.size 34 1 u3 (leastL qs k).length ((leastL qs k).map enc32) := hown
        rw [hm] at h'
        obtain ⟨g, cap', e⟩ := ownsRow_succ h'
        exact ⟨m, g, cap', e, hm.symm⟩
      obtain ⟨m, g, cap', rfl, hm⟩ := HE.out
      obtain ⟨hg, hcm, hmm, hA⟩ := made_arr hown
      clear hmm
      have hlen := leastL_len qs k
      have HSort := hidMk (sort_any g cap' (leastL qs k).toArray (m + 1) wr (by simpa using hm) (by simp; omega) hA)
      have HComp : Hid (∀ d' w1, (leastL qs k).toArray.size = d'.size → Arr w1 g cap' d' → Calls Try.prog 40 #[.slice (some ⟨g, 0, none⟩) (m + 1) cap'] w1 fun e w' => e = .returned (.slice (some ⟨g, 0, none⟩) (compTo d' d'.size).length cap') ∧ Arr w' g cap' (compTo d' d'.size).toArray ∧ w1.grownBy w' (some g)) :=
        fun d' w1 hs ha => compact_any g cap' d' (m + 1) w1 (by simp at hs; omega) (by simp at hs; omega) (by simp at hs; omega) ha
      have HCM := hidMk hcm
      clear hA hown hm hlen HE hcm
      go_wp2_with (first | (go_at_call 39; refine (HSort.out).mono ?_; rintro e w1 ⟨⟨v, rfl⟩, ⟨d', hA', hp, hs⟩, hG⟩; have HPm := hidMk hp; have HSm := hidMk hs; have HGm := hidMk hG; clear hp hs hG) | (go_at_call 40; refine (HComp.out d' _ HPm.out.1.symm hA').mono ?_; rintro e w2 ⟨rfl, hA2, hG2⟩))
      go_ret
      have hc := comp_leasts (n := n) HX.out (by rw [HL.out]) HPm.out HSm.out
      rw [hc] at hA2 ⊢
      refine ⟨_, rfl, arr_made hg HCM.out hA2, ?_⟩
      exact (hB.grown HGm.out hB.size (fun k e => by cases e; exact hg)).grown hG2 (Nat.le_trans hB.size HGm.out.size) (fun k e => by cases e; exact hg)
end Go.Proofs.Ytblinhncklpidaa
