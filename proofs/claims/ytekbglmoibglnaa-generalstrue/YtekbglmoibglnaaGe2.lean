/- Generals: the document's longer. -/
import Derived.Test.YtekbglmoibglnaaGe1
namespace Go.Proofs.Ytekbglmoibglnaa
open Go.RowKit
set_option linter.unusedVariables false

/-- One number more, behind an append to a slice of the call's own. -/
theorem app_nat {w wr w9 : World} {v v9 : Value} {t : Nat} {xs : List Nat} {j : Nat} {o : Obj} (HS : Stil w wr) (HG : Seg wr (fun g => w.heap.size ≤ g) 3 1 v t (natsL xs))
    (hs9 : Seg w9 (fun g => (v.ownBlock = some g ∧ w.heap.size ≤ g) ∨ g = wr.heap.size + 1) 3 1 v9 (t + 1) (natsL xs ++ [.int .i64 (j : Int)])) (hg9 : (wr.alloc o).grownBy w9 v.ownBlock) :
    Seg w9 (fun g => w.heap.size ≤ g) 3 1 v9 (t + 1) (natsL (xs ++ [j])) ∧ Stil w w9 := by
  refine ⟨?_, ?_⟩
  · have e : natsL (xs ++ [j]) = natsL xs ++ [.int .i64 (j : Int)] := by simp [natsL]
    rw [e]
    refine hs9.mono (fun g _ h => ?_)
    rcases h with ⟨_, h⟩ | h
    · exact h
    · have h9 := HS.size; rw [h]; omega
  · exact (HS.alloc _).grown hg9 (fun g e hg => by
      have := (HG.block e).1
      omega)
theorem natsL_len (l : List Nat) : (natsL l).length = l.length := by simp [natsL]

set_option maxRecDepth 100000 in
set_option maxHeartbeats 4000000 in
theorem longer_any {W : World} {a : Option Addr} {len cap x : Nat} {l : List Nat} (h : RowI W a len cap (natsI l)) (h3 : len ≤ 100) :
    Calls Try.prog 22 #[.slice a len cap, .int .i64 (x : Int)] W fun e w2 => ∃ a2 c2, e = .returned (.slice a2 (len + 1) c2) ∧ RowI w2 a2 (len + 1) c2 (natsI (l ++ [x])) ∧ Stil W w2 := by
  obtain ⟨l1, c1, _, r1⟩ := h
  rw [natsI_len] at l1
  have hl3 : (len : Int) ≤ 100 := by omega
  obtain ⟨i0, hit, hz0, hz1, hz2⟩ := info_parts cInfoInt
  have HLn := hidMk l1
  have HC : Hid (len = 0 ∨ ∃ b off, a = some ⟨b, off, none⟩ ∧ b < W.heap.size ∧ ∀ (k : Nat) (j : Int), (natsI l)[k]? = some j → W.cell? ⟨b, off + k, none⟩ = some (.int .i64 j)) := r1
  clear l1 r1
  go_enter Try.func22, Try.ntmps22
  go_wp2
  go_loopw [5, 10] (fun v u wr => ∃ (k : Nat) (sa : Option Addr) (sc : Nat), k ≤ len ∧ u = .int .i64 (k : Int) ∧ v = .slice sa k sc ∧ Hid (Seg wr (fun g => W.heap.size ≤ g) 3 1 (.slice sa k sc) k (natsL (l.take k))) ∧ Hid (Stil W wr)) (fun _ u _ => len - (intOf u).toNat)
  case atStart => exact ⟨0, none, 0, Nat.zero_le _, rfl, rfl, Seg.nil _ _ _ _, Keep.refl _ _⟩
  case round =>
    obtain ⟨k, sa, sc, hk, rfl, rfl, HG, HS⟩ := hrel
    by_cases hlt : k < len
    · have hlt' : (k : Int) < (len : Int) := by omega
      obtain ⟨b, off, rfl, hb, hc⟩ := HC.out.resolve_left (by omega)
      have e : l[k]? = some (l[k]'(by rw [HLn.out]; exact hlt)) := List.getElem?_eq_getElem _
      generalize l[k]'(by rw [HLn.out]; exact hlt) = j at e
      have d0 := HS.out.cell (hc k _ (natsI_at e))
      have HT : Hid (l.take (k + 1) = l.take k ++ [j]) := by show _ = _; rw [List.take_add_one, e]; rfl
      clear hc e
      go_wp2_with (at_builtin; refine wpList_append_seg _ rfl _ _ 37 rfl 3 i0 (.int .i64 0) 1 8 Try.underlying37 hit hz0 hz1 hz2 rfl (by decide) _ _ _ rfl (segAlloc HG.out _) ⟨_, 0, none⟩ 1 1 [.int .i64 (j : Int)] rfl rfl (cCell1 _ _ _ _ (by simp)) (cOne _) (by unfold maxLen; omega) (by omega) ?_)
      intro v9 w9 hs9 hg9
      obtain ⟨q1, q2⟩ := app_nat HS.out HG.out hs9 hg9
      have HG9 := hidMk q1
      have HS9 := hidMk q2
      obtain ⟨sa3, sc3, hv3⟩ := segForm hs9
      subst hv3
      clear hs9 hg9 HG HS q1 q2
      go_wp2
      go_roundw
      case rel => exact ⟨k + 1, sa3, sc3, by omega, by go_num, rfl, by show Seg _ _ _ _ _ _ _; rw [HT.out]; exact HG9.out, HS9⟩
      case measure => simp [intOf]; omega
    · obtain rfl : k = len := by omega
      rw [List.take_of_length_le (by rw [HLn.out]; exact Nat.le_refl _)] at HG
      go_wp2_with (at_builtin; refine wpList_append_seg _ rfl _ _ 37 rfl 3 i0 (.int .i64 0) 1 8 Try.underlying37 hit hz0 hz1 hz2 rfl (by decide) _ _ _ rfl (segAlloc HG.out _) ⟨_, 0, none⟩ 1 1 [.int .i64 (x : Int)] rfl rfl (cCell1 _ _ _ _ (by simp)) (cOne _) (by unfold maxLen; omega) (by omega) ?_)
      intro v9 w9 hs9 hg9
      obtain ⟨q1, q2⟩ := app_nat HS.out HG.out hs9 hg9
      have HG9 := hidMk q1
      have HS9 := hidMk q2
      obtain ⟨sa3, sc3, hv3⟩ := segForm hs9
      subst hv3
      clear hs9 hg9 HG HS q1 q2
      go_wp2
      go_ret
      exact ⟨sa3, sc3, rfl, seg_row HG9.out, HS9.out⟩
end Go.Proofs.Ytekbglmoibglnaa
