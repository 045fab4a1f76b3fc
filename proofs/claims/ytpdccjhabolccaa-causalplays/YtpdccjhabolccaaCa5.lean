/- send: a message more. -/
import Derived.Test.YtpdccjhabolccaaCa2
import Derived.Test.YtpdccjhabolccaaCa3
namespace Go.Proofs.Ytpdccjhabolccaa
open Go.RowKit Go.WideMaps
set_option linter.unusedVariables false

variable {W W2 : World} {mb n : Nat} {s : CS} {h h2 : CSh}
theorem send_mid (m : Cmov W mb n s h) {i ln ml : Nat} {am : Option Addr} {km : Nat} (er : h.mv = .slice am ml km) (hml : s.msgs.length = ml) {ob : Obj} {w3 : World} {v3 : Value}
    (hs : Seg w3 (fun g => ((Value.slice am ml km).ownBlock = some g ∧ h.t g = .ms) ∨ g = ((W.alloc ob).drew).heap.size) 93 2 v3 (ml + 1) (msgL s.msgs ++ [.int .i64 (i : Int), .int .i64 (ln : Int)])) (hg : ((W.alloc ob).drew).grownBy w3 (Value.slice am ml km).ownBlock) :
    w3.cell? ⟨mb, 0, none⟩ = some (.slice am ml km) ∧ w3.frozen? ⟨mb, 0, none⟩ = false ∧ w3.cell? ⟨mb, 2, none⟩ = some (.slice (some ⟨h.L, 0, none⟩) n n) ∧
      Hid (∃ h2, Cmov (w3.setCell ⟨mb, 0, none⟩ v3) mb n ⟨s.msgs ++ [(i, ln)], s.came, s.ls⟩ h2 ∧ CStp W h (w3.setCell ⟨mb, 0, none⟩ v3) h2 0 ∧ h2.mv = v3 ∧ h2.c = h.c) := by
  subst hml
  rw [← er] at hs hg
  have hk : Keep (fun g => some g = h.mv.ownBlock) W w3 := (((Keep.refl (fun g => some g = h.mv.ownBlock) W).alloc ob).drew).grown hg (fun g e _ => e.symm)
  have hob : ∀ g, h.mv.ownBlock = some g → h.t g = .ms ∧ g < W.heap.size := fun g e => m.ms.block e
  have hmb := (Array.getElem?_eq_some_iff.1 m.blk).1
  have b2 := (hk.block _ hmb (fun e => by have := (hob _ e.symm).1; rw [m.tmb] at this; cases this)).trans m.blk
  refine ⟨?_, frozen_of_row w3 _ _ _ _ b2, ?_, ?_⟩
  · rw [cell_of_row w3 _ _ _ _ _ b2, ← er]; rfl
  · rw [cell_of_row w3 _ _ _ _ _ b2]; rfl
  · exact hidMk (m.pushMsg (q := (i, ln)) (X := ((W.alloc ob).drew).heap.size) (((Keep.refl (fun _ => False) W).alloc ob).drew).size hk hs)

set_option maxRecDepth 100000 in
set_option maxHeartbeats 8000000 in
theorem send_any (m : Cmov W mb n s h) {i : Nat} (hi : i < n) (hn : n ≤ 6) (hml : s.msgs.length ≤ 200) (hc : h.c < 100000) (hlen : (s.ls i).length ≤ 200) :
    Calls Try.prog 43 #[.pointer (some ⟨mb, 0, none⟩), .int .i64 (i : Int)] W fun e W2 => e = .returned (.tuple #[]) ∧ ∃ h2, Cmov W2 mb n (sendC s i) h2 ∧ CStp W h W2 h2 1 := by
  obtain ⟨am, km, em⟩ := segForm m.ms
  obtain ⟨al, kl, el⟩ := segForm (m.li i hi)
  have hseg := m.ms
  generalize hll : (s.ls i).length = ln at *
  generalize hmm : s.msgs.length = ml at *
  have er : Hid (h.mv = .slice am ml km) := hidMk em
  rw [em] at hseg
  have HGs := hidMk hseg
  obtain ⟨c0, _, c2⟩ := m.cells
  obtain ⟨r1, _⟩ := m.row hi
  obtain ⟨d0, _, d2⟩ := (m.alloc (.cells #[.int .i64 (i : Int), .int .i64 (ln : Int)] 93)).cells
  obtain ⟨r2, _⟩ := (m.alloc (.cells #[.int .i64 (i : Int), .int .i64 (ln : Int)] 93)).row hi
  have fz : W.frozen? ⟨mb, 0, none⟩ = false := frozen_of_row W _ _ _ _ m.blk
  rw [em] at c0 d0
  rw [el] at r1 r2
  have hi' : (i : Int) < (n : Int) := by omega
  obtain ⟨i0, hit, hz0, hz1, hz2⟩ := info_parts cInfoMsg
  have HM := hidMk m
  have hw1 : IntKind.i64.wrap (((ml + 1 : Nat) : Int) - 1) = (ml : Int) := by
    rw [show (((ml + 1 : Nat) : Int) - 1) = (ml : Int) from by omega]
    exact wrap_of ⟨by omega, by omega⟩
  clear m hseg em el
  go_enter Try.func43, Try.ntmps43
  go_wp2
  go_region_law (refine step_append_seg rfl (.tmp 8) (.tmp 19) 70 rfl 93 i0 (.agg #[.int .i64 0, .int .i64 0]) 2 16 Try.underlying70 hit hz0 hz1 hz2 rfl (by decide) (.slice am ml km) ml (msgL s.msgs) rfl (segDrew (segAlloc HGs.out _)) ⟨W.heap.size, 0, none⟩ 1 1 [.int .i64 (i : Int), .int .i64 (ln : Int)] rfl rfl (fun j u hu => cCell2 W (.int .i64 (i : Int)) (.int .i64 (ln : Int)) 93 _ rfl j u hu) (cTwo _ _) (by unfold maxLen; omega) (by omega) ?_
                 intro v3 w3 hs3 hg3
                 obtain ⟨a3, c3, rfl⟩ := segForm hs3
                 obtain ⟨g2, g3, g4, HM4⟩ := send_mid HM.out er.out hmm hs3 hg3)
  all_goals
    obtain ⟨h2, M2, S2, e1, e2⟩ := HM4.out
    obtain ⟨y0, _, _⟩ := M2.cells
    rw [e1] at y0
    have HH := hidMk (fun (x : Nat) (hx : x < 1000) => hear_any M2 hi hn hx (by omega) (by show (s.ls i).length ≤ 1000; omega))
    have HS := hidMk S2
    clear M2 S2 HM4 g2 g3 g4 hs3 hg3 e1 e2 HM HGs er
    generalize w3.setCell ⟨mb, 0, none⟩ (.slice a3 (ml + 1) c3) = w4 at *
    generalize hm1 : ml + 1 = m1 at *
    go_wp2_with (go_at_call 48; refine (HH.out ml (by omega)).mono ?_; rintro e w5 ⟨rfl, h3, M3, S3⟩)
    go_end0
    exact ⟨rfl, h3, by rw [← hmm] at M3; rw [← hll] at M3; exact M3, (HS.out.trans S3).mono (by omega)⟩
end Go.Proofs.Ytpdccjhabolccaa
