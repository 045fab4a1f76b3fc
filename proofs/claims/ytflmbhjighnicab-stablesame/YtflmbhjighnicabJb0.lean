/- Machines in a ring: StableSame, walked. -/
import Derived.Test.YtflmbhjighnicabJa4
namespace Go.Proofs.Ytflmbhjighnicab
open Go.RowKit
set_option linter.unusedVariables false

theorem u8_inS {z : Int} (hz : (Lit.int .u8 z).wf = true) : 0 ≤ z ∧ z ≤ 255 := by
  have h2 : IntKind.u8.min ≤ z ∧ z ≤ IntKind.u8.max := by simpa [Lit.wf] using hz
  have e1 : IntKind.u8.min = 0 := by decide
  have e2 : IntKind.u8.max = 255 := by decide
  omega
theorem same_row (m : Nat) (x : Int) : List.replicate m x = rwJ m (fun _ => x) := by
  simp [rwJ, List.map_const']
theorem same_app (j : Nat) (x : Int) : intsJ (List.replicate (j + 1) x) = intsJ (List.replicate j x) ++ [.int .i64 x] := by
  rw [List.replicate_succ']; simp [intsJ]

set_option maxRecDepth 100000 in
set_option maxHeartbeats 8000000 in
theorem ssame_any {W : World} (k x : Int) {kn : Nat} (hk : kn ≤ 255) :
    Calls Try.prog 3 #[.int .i64 k, .int .i64 x, .int .u8 (kn : Int)] W fun e W2 => e = .returned (.bool true) ∧ Below W.heap.size W W2 := by
  obtain ⟨i0, hit, hz0, hz1, hz2⟩ := info_parts cInfoInt
  obtain ⟨m, hm⟩ : ∃ m, m = kn % 8 := ⟨_, rfl⟩
  have m2 : (kn : Int) % 8 = (m : Int) := by omega
  have m1 : (kn : Int).tmod 8 = (m : Int) := by rw [Int.tmod_eq_emod_of_nonneg (by omega)]; exact m2
  have m5 : IntKind.i64.wrap (kn : Int) = (kn : Int) := wrapJ ⟨by omega, by omega⟩
  have m6 : IntKind.i64.wrap (m : Int) = (m : Int) := wrapJ ⟨by omega, by omega⟩
  have hm8 : m < 8 := by omega
  clear hm
  go_enter Try.func3, Try.ntmps3
  go_wp2
  go_loopw [7, 8] (fun v u wr => ∃ (j : Nat) (sa : Option Addr) (sc : Nat), j ≤ m ∧ u = .int .i64 (j : Int) ∧ v = .slice sa j sc ∧ Hid (Seg wr (fun g => W.heap.size ≤ g) 3 1 (.slice sa j sc) j (intsJ (List.replicate j x))) ∧ Hid (Stil W wr)) (fun _ u _ => m - (intOf u).toNat)
  case atStart => exact ⟨0, none, 0, Nat.zero_le _, rfl, rfl, Seg.nil _ _ _ _, Keep.refl _ _⟩
  case round =>
    obtain ⟨j, sa, sc, hj, rfl, rfl, HG, HS⟩ := hrel
    by_cases hlt : j < m
    · have hlt' : (j : Int) < (m : Int) := by omega
      go_wp2_with (at_builtin; refine wpList_append_seg _ rfl _ _ 22 rfl 3 i0 (.int .i64 0) 1 8 Try.underlying22 hit hz0 hz1 hz2 rfl (by decide) _ _ _ rfl (segAlloc HG.out _) ⟨_, 0, none⟩ 1 1 [.int .i64 x] rfl rfl (cCell1 _ _ _ _ (by simp)) (cOne _) (by unfold maxLen; omega) (by omega) ?_)
      intro v9 w9 hs9 hg9
      have HG9 : Hid (Seg w9 (fun g => W.heap.size ≤ g) 3 1 v9 (j + 1) (intsJ (List.replicate (j + 1) x))) := by
        show Seg _ _ _ _ _ _ _
        rw [same_app]
        refine hs9.mono (fun g _ h => ?_)
        rcases h with ⟨_, h⟩ | h
        · exact h
        · have h9 := HS.out.size; rw [h]; omega
      have HS9 : Hid (Stil W w9) := (HS.out.alloc _).grown hg9 (fun g e hg => by
        have := (HG.out.block e).1
        omega)
      obtain ⟨sa3, sc3, hv3⟩ := segForm hs9
      subst hv3
      clear hs9 hg9 HG HS
      go_wp2
      go_roundw
      case rel => exact ⟨j + 1, sa3, sc3, by omega, by go_num, rfl, HG9, HS9⟩
      case measure => simp [intOf]; omega
    · obtain rfl : j = m := by omega
      have hr := seg_rowJ HG.out
      clear HG
      by_cases hz : codeJ k (List.replicate j x) = 0
      · rw [same_row] at hr hz
        obtain ⟨z1, z2, z3, z4, _⟩ := codeJ_zero hz
        rw [rwJ_len] at z1 z2
        have hv : OkJ k j (fun _ => x) := fun i hi => by
          have := (codeJ_zero hz).2.2.2.2 x (by
            unfold rwJ
            rw [List.mem_map]
            exact ⟨0, by rw [List.mem_range]; omega, rfl⟩)
          exact this
        have hF := free_ok hr z1 z2 z3 z4 hv
        have h1 : frL j (fun _ => x) j = [0] := fr_one (cn_same z1 (x := x) (fun _ _ => rfl)) (by omega) (by simp [frJ])
        rw [h1] at hF
        have HF := hidMk hF
        have HR : Hid (∀ w1, Stil wr w1 → Calls Try.prog 5 #[.int .i64 k, .slice sa j sc] w1 fun e w2 => e = .returned (.bool true) ∧ w2 = w1) := hidMk (fun w1 hs => by
          have := states_any (hr.still hs) k
          rw [hz] at this
          exact this)
        clear hr hz hv hF h1
        go_wp2_with (first | (go_at_call 4; refine (HF.out).mono ?_; rintro e w1 ⟨a2, c2, rfl, hr1, hk1⟩; obtain ⟨y1, y2, y3, y4⟩ := hr1; obtain ⟨b3, o3, rfl, hb3, hc3⟩ := y4.resolve_left (by simp); have d3 := hc3 0 (0 : Int) rfl; rw [Nat.add_zero] at d3; clear y1 y3 hc3 hb3; simp only [List.length_singleton] at y2 ⊢; have y2' : (1 : Int) ≤ (c2 : Int) := (by omega)) | (go_at_call 5; refine (HR.out _ hk1).mono ?_; rintro e w2 ⟨rfl, hw⟩; obtain rfl := hw.symm))
        go_ret
        exact ⟨rfl, Stil.below (HS.out.tr hk1)⟩
      · have HF := hidMk (free_bad hr hz)
        have HR : Hid (∀ w1, Stil wr w1 → Calls Try.prog 5 #[.int .i64 k, .slice sa j sc] w1 fun e w2 => e = .returned (.bool false) ∧ w2 = w1) := hidMk (fun w1 hs => by
          have := states_any (hr.still hs) k
          rw [show (codeJ k (List.replicate j x) == 0) = false by simpa using hz] at this
          exact this)
        generalize codeJ k (List.replicate j x) = rc at *
        have q1 : (rc != 0) = true := by simpa using hz
        clear hr hz
        go_wp2_with (first | (go_at_call 4; refine (HF.out).mono ?_; rintro e w1 ⟨rfl, hk1⟩) | (go_at_call 5; refine (HR.out _ hk1).mono ?_; rintro e w2 ⟨rfl, hw⟩; obtain rfl := hw.symm))
        go_ret
        exact ⟨rfl, Stil.below (HS.out.tr hk1)⟩
theorem ssame_walk {W : World} (k x z : Int) (hz : (Lit.int .u8 z).wf = true) :
    Calls Try.prog 3 #[.int .i64 k, .int .i64 x, .int .u8 z] W fun e W2 => e = .returned (.bool true) ∧ Below W.heap.size W W2 := by
  obtain ⟨h1, h2⟩ := u8_inS hz
  obtain ⟨kn, rfl⟩ : ∃ kn : Nat, z = (kn : Int) := ⟨z.toNat, by omega⟩
  exact ssame_any k x (by omega)
end Go.Proofs.Ytflmbhjighnicab
