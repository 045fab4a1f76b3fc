/- hear: one message is heard. -/
import Derived.Test.YtpdccjhabolccaaCa1
import Derived.Test.YtpdccjhabolccaaT7
import Derived.BigRegion
namespace Go.Proofs.Ytpdccjhabolccaa
open Go.RowKit Go.WideMaps
set_option linter.unusedVariables false

variable {W W2 : World} {mb n : Nat} {s : CS} {h h2 : CSh}

/-- Behind the append. -/
theorem hear_mid (m : Cmov W mb n s h) {i x ln : Nat} (hi : i < n) {a0 : Option Addr} {k0 : Nat} (er : h.f i = .slice a0 ln k0) (hln : (s.ls i).length = ln) {ob : Obj} {w3 : World} {v3 : Value}
    (hs : Seg w3 (fun g => ((Value.slice a0 ln k0).ownBlock = some g ∧ h.t g = .li i) ∨ g = (W.alloc ob).drew.heap.size) 3 1 v3 (ln + 1) (natsL (s.ls i) ++ [.int .i64 (x : Int)])) (hg : (W.alloc ob).drew.grownBy w3 (Value.slice a0 ln k0).ownBlock) :
    w3.cell? ⟨mb, 2, none⟩ = some (.slice (some ⟨h.L, 0, none⟩) n n) ∧ w3.cell? ⟨h.L, i, none⟩ = some (.slice a0 ln k0) ∧ w3.frozen? ⟨h.L, i, none⟩ = false ∧
      Hid (∃ h2, Cmov (w3.setCell ⟨h.L, i, none⟩ v3) mb n ⟨s.msgs, s.came, upd1 s.ls i (s.ls i ++ [x])⟩ h2 ∧ CStp W h (w3.setCell ⟨h.L, i, none⟩ v3) h2 0) := by
  subst hln
  rw [← er] at hs hg
  have hk : Keep (fun g => some g = (h.f i).ownBlock) W w3 := (((Keep.refl (fun g => some g = (h.f i).ownBlock) W).alloc ob).drew).grown hg (fun g e _ => e.symm)
  have hob : ∀ g, (h.f i).ownBlock = some g → h.t g = .li i ∧ g < W.heap.size := fun g e => (m.li i hi).block e
  have hmb := (Array.getElem?_eq_some_iff.1 m.blk).1
  have hL := (Array.getElem?_eq_some_iff.1 m.rows).1
  have b1 := (hk.block _ hL (fun e => by have := (hob _ e.symm).1; rw [m.tL] at this; cases this)).trans m.rows
  have b2 := (hk.block _ hmb (fun e => by have := (hob _ e.symm).1; rw [m.tmb] at this; cases this)).trans m.blk
  refine ⟨?_, ?_, frozen_of_row w3 _ _ _ _ b1, ?_⟩
  · rw [cell_of_row w3 _ _ _ _ _ b2]; rfl
  · rw [cell_of_row w3 _ _ _ _ _ b1, ← er]; simp [hi]
  · refine hidMk (m.push hi (X := (W.alloc ob).drew.heap.size) (((Keep.refl (fun _ => False) W).alloc ob).drew).size hk hs)

set_option maxRecDepth 100000 in
set_option maxHeartbeats 8000000 in
theorem hear_any (m : Cmov W mb n s h) {i x : Nat} (hi : i < n) (hn : n ≤ 6) (hx : x < 1000) (hc : h.c < 100000) (hlen : (s.ls i).length ≤ 1000) :
    Calls Try.prog 48 #[.pointer (some ⟨mb, 0, none⟩), .int .i64 (i : Int), .int .i64 (x : Int)] W fun e W2 => e = .returned (.tuple #[]) ∧ ∃ h2, Cmov W2 mb n (hearC s i x) h2 ∧ CStp W h W2 h2 1 := by
  obtain ⟨W1, hr1, M1, S1⟩ := m.came (v := 2) (show i < 1000 by omega) hx hc
  replace hr1 : (Instr.mapUpdate 69 (.map (some h.M)) (.agg #[.int .i64 (i : Int), .int .i64 (x : Int)]) (.int .i64 2)).run Try.prog W = .ok () W1 := hr1
  obtain ⟨c0, c1, c2⟩ := m.cells
  obtain ⟨d0, d1, d2⟩ := M1.cells
  obtain ⟨r1, r2⟩ := M1.row hi
  have hseg := M1.li i hi
  obtain ⟨a0, k0, e0⟩ := segForm hseg
  replace r1 : W1.cell? ⟨h.L, i, none⟩ = some (h.f i) := r1
  have hi' : (i : Int) < (n : Int) := by omega
  obtain ⟨i0, hit, hz0, hz1, hz2⟩ := info_parts cInfoInt
  have HM := hidMk M1
  have HS := hidMk S1
  replace d2 : W1.cell? ⟨mb, 2, none⟩ = some (.slice (some ⟨h.L, 0, none⟩) n n) := d2
  generalize hln : (s.ls i).length = ln at *
  have er : Hid (h.f i = .slice a0 ln k0) := hidMk e0
  rw [e0] at r1 hseg
  have HG := hidMk hseg
  obtain ⟨_, _, q2⟩ := (M1.alloc (.cells #[.int .i64 (x : Int)] 3)).cells
  obtain ⟨q3, q4⟩ := (M1.alloc (.cells #[.int .i64 (x : Int)] 3)).row hi
  replace q2 : (W1.alloc (.cells #[.int .i64 (x : Int)] 3)).cell? ⟨mb, 2, none⟩ = some (.slice (some ⟨h.L, 0, none⟩) n n) := q2
  replace q3 : (W1.alloc (.cells #[.int .i64 (x : Int)] 3)).cell? ⟨h.L, i, none⟩ = some (h.f i) := q3
  rw [e0] at q3
  clear hseg M1 S1 m d0 d1 c0 c2 e0
  go_enter Try.func48, Try.ntmps48
  go_wp2
  clear hr1 c1
  go_region_law (refine step_append_seg rfl (.tmp 24) (.tmp 26) 22 rfl 3 i0 (.int .i64 0) 1 8 Try.underlying22 hit hz0 hz1 hz2 rfl (by decide) (.slice a0 ln k0) ln (natsL (s.ls i)) rfl (segDrew (segAlloc HG.out _)) ⟨W1.heap.size, 0, none⟩ 1 1 [.int .i64 (x : Int)] rfl rfl (fun j u hu => cCell1 W1 (.int .i64 (x : Int)) 3 _ rfl j u hu) (cOne _) (by unfold maxLen; omega) (by omega) ?_
                 intro v3 w3 hs3 hg3
                 obtain ⟨a3, c3, rfl⟩ := segForm hs3
                 obtain ⟨g2, g3, g4, HM4⟩ := hear_mid HM.out hi er.out hln hs3 hg3)
  all_goals (go_wp2; go_end0; obtain ⟨h2, M2, S2⟩ := HM4.out; exact ⟨rfl, h2, M2, HS.out.trans S2⟩)
end Go.Proofs.Ytpdccjhabolccaa
