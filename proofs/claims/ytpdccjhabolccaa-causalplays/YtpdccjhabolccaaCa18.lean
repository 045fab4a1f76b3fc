/- The document's hears, walked. -/
import Derived.Test.YtpdccjhabolccaaCa17
namespace Go.Proofs.Ytpdccjhabolccaa
open Go.RowKit
set_option linter.unusedVariables false

set_option maxRecDepth 100000 in
set_option maxHeartbeats 8000000 in
theorem hears_any {w : World} {ok : Nat → Prop} {v : Value} {heard come : List Nat} {cs : Nat → List Nat} {ca gk : Option Addr} {cc kl kc : Nat}
    (hv : Seg w ok 3 1 v heard.length (natsL heard)) (hrow : ∀ w1, Keep ok w w1 → HRows w1 ca gk cc kl come cs) (hlen : heard.length ≤ 400) (hcl : come.length ≤ 400) (hcs : ∀ m, m ∈ come → (cs m).length ≤ 400) (hkl : kl ≤ 400) :
    Calls Try.prog 34 #[v, .slice ca come.length cc, .slice gk kl kc] w fun e w2 => ∃ v2, e = .returned v2 ∧ Seg w2 (fun g => ok g ∨ w.heap.size ≤ g) 3 1 v2 (hearsTo heard cs come come.length).length (natsL (hearsTo heard cs come come.length)) ∧ Keep ok w w2 := by
  obtain ⟨i0, hit, hz0, hz1, hz2⟩ := info_parts cInfoInt
  have HV := hidMk hv
  have HR := hidMk hrow
  have HCs := hidMk hcs
  have hcl' : (come.length : Int) ≤ 400 := by omega
  have hkl' : (kl : Int) ≤ 400 := by omega
  clear hv hrow hcs
  generalize hcn : come.length = cl at *
  go_enter Try.func34, Try.ntmps34
  go_wp2
  go_loopw [0, 7] (fun x u wr => ∃ t : Nat, t ≤ cl ∧ u = .int .i64 (t : Int) ∧ Hid (Seg wr (fun g => ok g ∨ w.heap.size ≤ g) 3 1 x (hearsTo heard cs come t).length (natsL (hearsTo heard cs come t))) ∧ Hid (Keep ok w wr)) (fun _ u _ => cl - (intOf u).toNat)
  case atStart => exact ⟨0, Nat.zero_le _, rfl, HV.out.mono (fun g _ e => .inl e), Keep.refl _ _⟩
  case round =>
    obtain ⟨t, ht, rfl, HG, HK⟩ := hrel
    obtain ⟨va, vc, hve⟩ := segForm HG.out
    subst hve
    by_cases hlt : t < cl
    · have hlt' : (t : Int) < (cl : Int) := by omega
      have hhl := hearsTo_len heard cs come t
      have HE : Hid (hearsTo heard cs come (t + 1) = if 0 ≤ nxt (hearsTo heard cs come t) cs come cl then hearsTo heard cs come t ++ [(nxt (hearsTo heard cs come t) cs come cl).toNat] else hearsTo heard cs come t) := by
        show _ = _
        rw [hearsTo, hcn]
      generalize hHH : hearsTo heard cs come t = H at *
      have HHas := hidMk (fun x : Int => has_any (seg_row HG.out) (by omega) x)
      have HRw := hidMk (HR.out wr HK.out)
      generalize hHl : H.length = hl at *
      clear hHH
      go_wp2
      go_loop [8, 22] (fun x u => ∃ j : Nat, j ≤ cl ∧ u = .int .i64 (j : Int) ∧ x = .int .i64 (nxt H cs come j)) (fun _ u => cl - (intOf u).toNat)
      case atStart => exact ⟨0, Nat.zero_le _, rfl, rfl⟩
      case round =>
        obtain ⟨j, hj, rfl, rfl⟩ := hrel
        by_cases hjl : j < cl
        · have hjl' : (j : Int) < (cl : Int) := by omega
          have hm : come[j]? = some (come[j]'(by omega)) := List.getElem?_eq_getElem (by omega)
          generalize come[j]'(by omega) = m at hm
          have hmc := List.mem_of_getElem? hm
          generalize hq : nxt H cs come j = q at *
          have HN := hidMk (nxt_succ hm hq)
          clear hq
          have HRr := HRw.out
          obtain ⟨⟨_, _, _, hrr⟩, hcau⟩ := HRr
          rcases hrr with hrr | ⟨cb, co, rfl, _, hcc⟩
          · omega
          have d1 := hcc j _ (natsI_at hm)
          obtain ⟨hmk, kb, ko, ra, rc, rfl, d2, hra⟩ := hcau m hmc
          have hmk' : (m : Int) < (kl : Int) := by omega
          have hcl2 := HCs.out m hmc
          have HHm := hidMk (HHas.out (m : Int))
          rw [natsI_has] at HHm
          have HRa := hidMk hra
          clear hm hmc hcc hcau hra
          generalize hcsm : cs m = csm at *
          generalize hcsl : csm.length = csl at *
          have hcsl' : (csl : Int) ≤ 400 := by omega
          obtain ⟨r0, hr0⟩ : ∃ r0 : Bool, (!H.contains m && (decide (q < 0) || decide ((m : Int) < q))) = r0 := ⟨_, rfl⟩
          rw [hr0] at HN
          have hsplit : (H.contains m = true ∧ r0 = false) ∨ (H.contains m = false ∧ q < 0 ∧ r0 = true) ∨ (H.contains m = false ∧ ¬ q < 0 ∧ (m : Int) < q ∧ r0 = true) ∨ (H.contains m = false ∧ ¬ q < 0 ∧ ¬ (m : Int) < q ∧ r0 = false) := by
            rw [← hr0]
            cases H.contains m
            · by_cases h1 : q < 0
              · simp [h1]
              · by_cases h2 : (m : Int) < q
                · simp [h1, h2]
                · simp [h1, h2]
            · simp
          clear hr0
          generalize hb1 : H.contains m = b1 at *
          clear hb1
          rcases hsplit with ⟨rfl, rfl⟩ | ⟨rfl, h1, rfl⟩ | ⟨rfl, h1, h2, rfl⟩ | ⟨rfl, h1, h2, rfl⟩
          · skip
            go_wp2_with (go_at_call 33; refine (HHm.out).mono ?_; rintro e w' ⟨rfl, hw⟩; obtain rfl := hw.symm; clear hw)
            go_loop [11, 44] (fun r u => ∃ i : Nat, i ≤ csl ∧ u = .int .i64 (i : Int) ∧ r = .bool false) (fun _ u => csl - (intOf u).toNat)
            case atStart => exact ⟨0, Nat.zero_le _, rfl, rfl⟩
            case round =>
              obtain ⟨i, hi, rfl, rfl⟩ := hrel
              by_cases hil : i < csl
              · have hil' : (i : Int) < (csl : Int) := by omega
                obtain ⟨_, _, _, hrr⟩ := HRa.out
                rcases hrr with hrr | ⟨ab, ao, rfl, _, hac⟩
                · omega
                have hc : csm[i]? = some (csm[i]'(by omega)) := List.getElem?_eq_getElem (by omega)
                generalize csm[i]'(by omega) = c at hc
                have d3 := hac i _ (natsI_at hc)
                clear hac hc
                go_wp2
                go_round
                case rel => exact ⟨i + 1, by omega, by go_num, rfl⟩
                case measure => simp [intOf]; omega
              · obtain rfl : i = csl := by omega
                go_wp2
                go_round
                case rel => exact ⟨j + 1, by omega, by go_num, by rw [HN.out]; simp⟩
                case measure => simp [intOf]; omega
          · skip
            go_wp2_with (go_at_call 33; refine (HHm.out).mono ?_; rintro e w' ⟨rfl, hw⟩; obtain rfl := hw.symm; clear hw)
            go_loop [11, 44] (fun r u => ∃ i : Nat, i ≤ csl ∧ u = .int .i64 (i : Int) ∧ r = .bool ((csm.take i).all fun c => H.contains c)) (fun _ u => csl - (intOf u).toNat)
            case atStart => exact ⟨0, Nat.zero_le _, rfl, rfl⟩
            case round =>
              obtain ⟨i, hi, rfl, rfl⟩ := hrel
              by_cases hil : i < csl
              · have hil' : (i : Int) < (csl : Int) := by omega
                obtain ⟨_, _, _, hrr⟩ := HRa.out
                rcases hrr with hrr | ⟨ab, ao, rfl, _, hac⟩
                · omega
                have hc : csm[i]? = some (csm[i]'(by omega)) := List.getElem?_eq_getElem (by omega)
                generalize csm[i]'(by omega) = c at hc
                have d3 := hac i _ (natsI_at hc)
                have HAl := hidMk (all_take (fun c => H.contains c) csm hc)
                have HHc := hidMk (HHas.out (c : Int))
                rw [natsI_has] at HHc
                clear hac hc
                generalize hbc : H.contains c = bc at *
                clear hbc
                generalize hba : (csm.take i).all (fun c => H.contains c) = ba at *
                clear hba
                cases ba
                · go_wp2
                  go_round
                  case rel => exact ⟨i + 1, by omega, by go_num, by rw [HAl.out]; rfl⟩
                  case measure => simp [intOf]; omega
                · go_wp2_with (go_at_call 33; refine (HHc.out).mono ?_; rintro e w' ⟨rfl, hw⟩; obtain rfl := hw.symm; clear hw)
                  go_round
                  case rel => exact ⟨i + 1, by omega, by go_num, by rw [HAl.out]; rfl⟩
                  case measure => simp [intOf]; omega
              · obtain rfl : i = csl := by omega
                have htk : csm.take i = csm := List.take_of_length_le (by omega)
                rw [htk]
                clear htk
                generalize hba : csm.all (fun c => H.contains c) = ba at *
                clear hba
                cases ba
                · go_wp2
                  go_round
                  case rel => exact ⟨j + 1, by omega, by go_num, by rw [HN.out]; simp⟩
                  case measure => simp [intOf]; omega
                · go_wp2
                  go_round
                  case rel => exact ⟨j + 1, by omega, by go_num, by rw [HN.out]; simp⟩
                  case measure => simp [intOf]; omega
          · skip
            go_wp2_with (go_at_call 33; refine (HHm.out).mono ?_; rintro e w' ⟨rfl, hw⟩; obtain rfl := hw.symm; clear hw)
            go_loop [11, 44] (fun r u => ∃ i : Nat, i ≤ csl ∧ u = .int .i64 (i : Int) ∧ r = .bool ((csm.take i).all fun c => H.contains c)) (fun _ u => csl - (intOf u).toNat)
            case atStart => exact ⟨0, Nat.zero_le _, rfl, rfl⟩
            case round =>
              obtain ⟨i, hi, rfl, rfl⟩ := hrel
              by_cases hil : i < csl
              · have hil' : (i : Int) < (csl : Int) := by omega
                obtain ⟨_, _, _, hrr⟩ := HRa.out
                rcases hrr with hrr | ⟨ab, ao, rfl, _, hac⟩
                · omega
                have hc : csm[i]? = some (csm[i]'(by omega)) := List.getElem?_eq_getElem (by omega)
                generalize csm[i]'(by omega) = c at hc
                have d3 := hac i _ (natsI_at hc)
                have HAl := hidMk (all_take (fun c => H.contains c) csm hc)
                have HHc := hidMk (HHas.out (c : Int))
                rw [natsI_has] at HHc
                clear hac hc
                generalize hbc : H.contains c = bc at *
                clear hbc
                generalize hba : (csm.take i).all (fun c => H.contains c) = ba at *
                clear hba
                cases ba
                · go_wp2
                  go_round
                  case rel => exact ⟨i + 1, by omega, by go_num, by rw [HAl.out]; rfl⟩
                  case measure => simp [intOf]; omega
                · go_wp2_with (go_at_call 33; refine (HHc.out).mono ?_; rintro e w' ⟨rfl, hw⟩; obtain rfl := hw.symm; clear hw)
                  go_round
                  case rel => exact ⟨i + 1, by omega, by go_num, by rw [HAl.out]; rfl⟩
                  case measure => simp [intOf]; omega
              · obtain rfl : i = csl := by omega
                have htk : csm.take i = csm := List.take_of_length_le (by omega)
                rw [htk]
                clear htk
                generalize hba : csm.all (fun c => H.contains c) = ba at *
                clear hba
                cases ba
                · go_wp2
                  go_round
                  case rel => exact ⟨j + 1, by omega, by go_num, by rw [HN.out]; simp⟩
                  case measure => simp [intOf]; omega
                · go_wp2
                  go_round
                  case rel => exact ⟨j + 1, by omega, by go_num, by rw [HN.out]; simp⟩
                  case measure => simp [intOf]; omega
          · skip
            go_wp2_with (go_at_call 33; refine (HHm.out).mono ?_; rintro e w' ⟨rfl, hw⟩; obtain rfl := hw.symm; clear hw)
            go_loop [11, 44] (fun r u => ∃ i : Nat, i ≤ csl ∧ u = .int .i64 (i : Int) ∧ r = .bool false) (fun _ u => csl - (intOf u).toNat)
            case atStart => exact ⟨0, Nat.zero_le _, rfl, by simp [h1, h2]⟩
            case round =>
              obtain ⟨i, hi, rfl, rfl⟩ := hrel
              by_cases hil : i < csl
              · have hil' : (i : Int) < (csl : Int) := by omega
                obtain ⟨_, _, _, hrr⟩ := HRa.out
                rcases hrr with hrr | ⟨ab, ao, rfl, _, hac⟩
                · omega
                have hc : csm[i]? = some (csm[i]'(by omega)) := List.getElem?_eq_getElem (by omega)
                generalize csm[i]'(by omega) = c at hc
                have d3 := hac i _ (natsI_at hc)
                clear hac hc
                go_wp2
                go_round
                case rel => exact ⟨i + 1, by omega, by go_num, rfl⟩
                case measure => simp [intOf]; omega
              · obtain rfl : i = csl := by omega
                go_wp2
                go_round
                case rel => exact ⟨j + 1, by omega, by go_num, by rw [HN.out]; simp⟩
                case measure => simp [intOf]; omega
        · obtain rfl : j = cl := by omega
          generalize nxt H cs come j = q at *
          by_cases hq0 : 0 ≤ q
          · have hlen3 : (H ++ [q.toNat]).length = hl + 1 := by simp [hHl]
            go_wp2_with (at_builtin; refine wpList_append_seg _ rfl _ _ 22 rfl 3 i0 (.int .i64 0) 1 8 Try.underlying22 hit hz0 hz1 hz2 rfl (by decide) _ _ _ rfl (segAlloc HG.out _) ⟨wr.heap.size, 0, none⟩ 1 1 [.int .i64 q] rfl rfl (cCell1 _ _ _ _ rfl) (cOne _) (by unfold maxLen; omega) (by omega) ?_)
            intro v3 w3 hs3 hg3
            have HG3 : Hid (Seg w3 (fun g => ok g ∨ w.heap.size ≤ g) 3 1 v3 (hearsTo heard cs come (t + 1)).length (natsL (hearsTo heard cs come (t + 1)))) := by
              show Seg _ _ _ _ _ _ _
              rw [HE.out, if_pos hq0, hlen3]
              have e : natsL (H ++ [q.toNat]) = natsL H ++ [.int .i64 q] := by simp [natsL]; omega
              rw [e]
              refine hs3.mono (fun g _ h => ?_)
              rcases h with ⟨_, h⟩ | h
              · exact h
              · right; have := HK.out.size; omega
            have HK3 : Hid (Keep ok w w3) := (HK.out.alloc _).grown hg3 (fun g e hg => by
              rcases (HG.out.block e).1 with h | h
              · exact h
              · omega)
            obtain ⟨a3, c3, hv3⟩ := segForm hs3
            subst hv3
            clear hs3 hg3 HG HK
            go_wp2
            go_roundw
            case rel => exact ⟨t + 1, by omega, by go_num, HG3, HK3⟩
            case measure => simp [intOf]; omega
          · have hq0' : decide (0 ≤ q) = false := decide_eq_false hq0
            have HG3 : Hid (Seg wr (fun g => ok g ∨ w.heap.size ≤ g) 3 1 (.slice va hl vc) (hearsTo heard cs come (t + 1)).length (natsL (hearsTo heard cs come (t + 1)))) := by
              show Seg _ _ _ _ _ _ _
              rw [HE.out, if_neg hq0, hHl]
              exact HG.out
            clear HG
            go_wp2
            go_roundw
            case rel => exact ⟨t + 1, by omega, by go_num, HG3, HK⟩
            case measure => simp [intOf]; omega
    · obtain rfl : t = cl := by omega
      go_wp2
      go_ret
      exact ⟨_, rfl, HG.out, HK.out⟩
end Go.Proofs.Ytpdccjhabolccaa
