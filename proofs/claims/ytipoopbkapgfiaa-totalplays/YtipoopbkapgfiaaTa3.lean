/- leastUnheard. -/
import Derived.Test.YtipoopbkapgfiaaTa2
namespace Go.Proofs.Ytipoopbkapgfiaa
open Go.RowKit Go.WideMaps
set_option linter.unusedVariables false

variable {W W2 : World} {mb n : Nat} {s : TS} {h h2 : TSh}
def lOf (o : Option (Nat × En)) : Nat := match o with
  | none => 0
  | some q => q.1
def lE (o : Option (Nat × En)) : En := match o with
  | none => ⟨0, 0, false, false⟩
  | some q => q.2
def entC (e : En) : Array Value := #[.int .i64 (e.n : Int), .int .i64 (e.p : Int), .bool e.told, .bool e.heard]
theorem least_next {f : Nat → Option En} {k : Nat} {e : En} (he : f k = some e) : leastTo f (k + 1) = if (!e.heard && beats (leastTo f k) e) = true then some (k, e) else leastTo f k := by
  rw [leastTo, he]
theorem least_skip {f : Nat → Option En} {k : Nat} (he : f k = none) : leastTo f (k + 1) = leastTo f k := by
  rw [leastTo, he]
theorem setRow4 {w : World} {g : Nat} {t : TypeId} {a b c d : Value} (e f u v : Value) (hb : w.heap[g]? = some (.cells #[a, b, c, d] t (0, 0))) :
    ((((w.setCell ⟨g, 0, none⟩ e).setCell ⟨g, 1, none⟩ f).setCell ⟨g, 2, none⟩ u).setCell ⟨g, 3, none⟩ v).heap[g]? = some (.cells #[e, f, u, v] t (0, 0)) := by
  have := heap_setCell_same _ g 3 _ _ v (heap_setCell_same _ g 2 _ _ u (heap_setCell_same _ g 1 _ _ f (heap_setCell_same w g 0 _ _ e hb)))
  simpa using this

set_option maxRecDepth 100000 in
set_option maxHeartbeats 8000000 in
theorem least_any (m : Tmov W mb n s h) {i : Nat} (hi : i < 1000) (hs : s.sent ≤ 200) :
    Calls Try.prog 20 #[.pointer (some ⟨mb, 0, none⟩), .int .i64 (i : Int)] W fun e W2 => e = .returned (.tuple #[.int .i64 (lOf (leastTo (s.ent i) s.sent) : Int), .bool (leastTo (s.ent i) s.sent).isSome]) ∧ Stil W W2 := by
  obtain ⟨c0, c1, c2, c3⟩ := m.cells
  have HM := hidMk m
  have HK0 : Hid (Stil W (W.alloc (.cells #[.int .i64 0, .int .i64 0, .bool false, .bool false] 56))) := hidMk ((Keep.refl _ W).alloc _)
  have HG0 : Hid ((W.alloc (.cells #[.int .i64 0, .int .i64 0, .bool false, .bool false] 56)).heap[W.heap.size]? = some (.cells #[.int .i64 0, .int .i64 0, .bool false, .bool false] 56 (0, 0))) := al_new _ _
  have d0 := HK0.out.cell c0
  have HC2 := hidMk c2
  generalize hse : s.sent = sn at *
  clear m c0 c1 c2 c3
  go_enter Try.func20, Try.ntmps20
  go_wp2
  generalize W.alloc (.cells #[.int .i64 0, .int .i64 0, .bool false, .bool false] 56) = w0 at *
  generalize hr : W.heap.size = r at *
  clear d0
  go_loopw [14, 4, 5] (fun u ul uf wr => ∃ k : Nat, k ≤ sn ∧ u = .int .i64 (k : Int) ∧ ul = .int .i64 (lOf (leastTo (s.ent i) k) : Int) ∧ uf = .bool (leastTo (s.ent i) k).isSome ∧ Hid (Stil W wr) ∧ Hid (wr.heap[r]? = some (.cells (entC (lE (leastTo (s.ent i) k))) 56 (0, 0)))) (fun u _ _ _ => sn - (intOf u).toNat)
  case atStart => exact ⟨0, Nat.zero_le _, rfl, rfl, rfl, HK0, HG0⟩
  case round =>
    obtain ⟨k, hk, rfl, rfl, rfl, HK, HG⟩ := hrel
    by_cases hlt : k < sn
    · have hlt' : (k : Int) < (sn : Int) := by omega
      have d2 := HK.out.cell HC2.out
      have lk := (HM.out.still HK.out).look2 hi (show k < 1000 by omega)
      have hgl : r < wr.heap.size := (Array.getElem?_eq_some_iff.1 HG.out).1
      cases he : s.ent i k with
      | none =>
        have HN := hidMk (least_skip (f := s.ent i) he)
        rw [he] at lk
        simp only [Option.map, Option.getD, Option.isSome] at lk
        unfold entZ at lk
        have HG2 : Hid ((wr.alloc (.cells #[.int .i64 0, .int .i64 0, .bool false, .bool false] 56)).heap[r]? = some (.cells (entC (lE (leastTo (s.ent i) (k + 1)))) 56 (0, 0))) := by
          show _ = _
          rw [al_old _ _ _ hgl, HN.out]; exact HG.out
        clear he
        go_wp2
        go_roundw
        case rel => exact ⟨k + 1, by omega, by go_num, by rw [HN.out], by rw [HN.out], HK.out.alloc _, HG2⟩
        case measure => simp [intOf]; omega
      | some e0 =>
        have HN := hidMk (least_next (f := s.ent i) he)
        rw [he] at lk
        simp only [Option.map, Option.getD, Option.isSome] at lk
        unfold entV at lk
        clear he
        obtain ⟨en, ep, et, eh⟩ := e0
        simp only at lk HN
        generalize hlo : leastTo (s.ent i) k = o at *
        have HLO := hidMk hlo
        clear hlo
        have HKa := hidMk (HK.out.alloc (.cells #[.int .i64 (en : Int), .int .i64 (ep : Int), .bool et, .bool eh] 56))
        have HGa : Hid ((wr.alloc (.cells #[.int .i64 (en : Int), .int .i64 (ep : Int), .bool et, .bool eh] 56)).heap[r]? = some (.cells (entC (lE o)) 56 (0, 0))) := by
          show _ = _
          rw [al_old _ _ _ hgl]; exact HG.out
        have b0 : (wr.alloc (.cells #[.int .i64 (en : Int), .int .i64 (ep : Int), .bool et, .bool eh] 56)).cell? ⟨wr.heap.size, 0, none⟩ = some (.int .i64 (en : Int)) := by go_simp
        have b1 : (wr.alloc (.cells #[.int .i64 (en : Int), .int .i64 (ep : Int), .bool et, .bool eh] 56)).cell? ⟨wr.heap.size, 1, none⟩ = some (.int .i64 (ep : Int)) := by go_simp
        have b2 : (wr.alloc (.cells #[.int .i64 (en : Int), .int .i64 (ep : Int), .bool et, .bool eh] 56)).cell? ⟨wr.heap.size, 2, none⟩ = some (.bool et) := by go_simp
        have b3 : (wr.alloc (.cells #[.int .i64 (en : Int), .int .i64 (ep : Int), .bool et, .bool eh] 56)).cell? ⟨wr.heap.size, 3, none⟩ = some (.bool eh) := by go_simp
        cases eh with
        | true =>
          have HN2 : Hid (leastTo (s.ent i) (k + 1) = o) := by show _ = _; rw [HN.out, if_neg (by simp)]
          clear HN
          go_wp2
          go_roundw
          case rel => exact ⟨k + 1, by omega, by go_num, by rw [HN2.out], by rw [HN2.out], HKa, by show _ = _; rw [HN2.out]; exact HGa.out⟩
          case measure => simp [intOf]; omega
        | false =>
          have g0 : (wr.alloc (.cells #[.int .i64 (en : Int), .int .i64 (ep : Int), .bool et, .bool false] 56)).cell? ⟨r, 0, none⟩ = some (.int .i64 ((lE o).n : Int)) := (cell_of_row _ _ 0 _ _ _ HGa.out).trans rfl
          have g1 : (wr.alloc (.cells #[.int .i64 (en : Int), .int .i64 (ep : Int), .bool et, .bool false] 56)).cell? ⟨r, 1, none⟩ = some (.int .i64 ((lE o).p : Int)) := (cell_of_row _ _ 1 _ _ _ HGa.out).trans rfl
          have g2 : (wr.alloc (.cells #[.int .i64 (en : Int), .int .i64 (ep : Int), .bool et, .bool false] 56)).cell? ⟨r, 2, none⟩ = some (.bool (lE o).told) := (cell_of_row _ _ 2 _ _ _ HGa.out).trans rfl
          have g3 : (wr.alloc (.cells #[.int .i64 (en : Int), .int .i64 (ep : Int), .bool et, .bool false] 56)).cell? ⟨r, 3, none⟩ = some (.bool (lE o).heard) := (cell_of_row _ _ 3 _ _ _ HGa.out).trans rfl
          cases o with
          | none =>
            have HN2 : Hid (leastTo (s.ent i) (k + 1) = some (k, ⟨en, ep, et, false⟩)) := by show _ = _; rw [HN.out]; rfl
            clear HN HM HK HG
            go_wp2
            generalize wr.alloc (.cells #[.int .i64 (en : Int), .int .i64 (ep : Int), .bool et, .bool false] 56) = w1 at *
            generalize wr.heap.size = b at *
            have q0 : w1.frozen? ⟨r, 0, none⟩ = false := frozen_of_row _ _ _ _ _ HGa.out
            have q1 : w1.frozen? ⟨r, 1, none⟩ = false := frozen_of_row _ _ _ _ _ HGa.out
            have q2 : w1.frozen? ⟨r, 2, none⟩ = false := frozen_of_row _ _ _ _ _ HGa.out
            have q3 : w1.frozen? ⟨r, 3, none⟩ = false := frozen_of_row _ _ _ _ _ HGa.out
            have HS4 := hidMk (setRow4 (.int .i64 (en : Int)) (.int .i64 (ep : Int)) (.bool et) (.bool false) (w := w1) (t := 56) HGa.out)
            have HK4 : Hid (Stil W ((((w1.setCell ⟨r, 0, none⟩ (.int .i64 (en : Int))).setCell ⟨r, 1, none⟩ (.int .i64 (ep : Int))).setCell ⟨r, 2, none⟩ (.bool et)).setCell ⟨r, 3, none⟩ (.bool false))) := (((HKa.out.setCell _ _ _ (fun e => by omega)).setCell _ _ _ (fun e => by omega)).setCell _ _ _ (fun e => by omega)).setCell _ _ _ (fun e => by omega)
            go_region
            all_goals go_wp2
            all_goals go_roundw
            case rel => exact ⟨k + 1, by omega, by go_num, by rw [HN2.out]; rfl, by rw [HN2.out]; rfl, HK4.out.drew, by show _ = _; rw [HN2.out]; exact HS4.out⟩
            case measure => simp [intOf]; omega
          | some q =>
            obtain ⟨qm, q⟩ := q
            have HL := hidMk (fun w : World => less_any w en ep q.n q.p)
            simp only [lE] at g0 g1 g2 g3
            have hN := HN.out
            clear HN HM HK HG
            simp only [beats, Bool.not_false, Bool.true_and] at hN
            go_wp2_with (fail)
            go_at_call 22
            refine (HL.out _).mono ?_
            rintro e w1 ⟨rfl, hk1⟩
            have HKb := hidMk (Stil.tr HKa.out hk1)
            have HGb := hidMk ((hk1.block r (Array.getElem?_eq_some_iff.1 HGa.out).1 (fun e => e)).trans HGa.out)
            have x0 := hk1.cell b0
            have x1 := hk1.cell b1
            have x2 := hk1.cell b2
            have x3 := hk1.cell b3
            have y0 := hk1.cell g0
            have y1 := hk1.cell g1
            have y2 := hk1.cell g2
            have y3 := hk1.cell g3
            clear hk1 b0 b1 b2 b3 g0 g1 g2 g3 HGa HKa HL lk d2
            have HGa := HGb
            have HKa := HKb
            clear HGb HKb
            generalize wr.heap.size = b at *
            by_cases hkl : klt en ep q.n q.p = true
            · have HN2 : Hid (leastTo (s.ent i) (k + 1) = some (k, ⟨en, ep, et, false⟩)) := by show _ = _; rw [hN, if_pos hkl]
              rw [hkl]
              clear hN hkl
              have q0 : w1.frozen? ⟨r, 0, none⟩ = false := frozen_of_row _ _ _ _ _ HGa.out
              have q1 : w1.frozen? ⟨r, 1, none⟩ = false := frozen_of_row _ _ _ _ _ HGa.out
              have q2 : w1.frozen? ⟨r, 2, none⟩ = false := frozen_of_row _ _ _ _ _ HGa.out
              have q3 : w1.frozen? ⟨r, 3, none⟩ = false := frozen_of_row _ _ _ _ _ HGa.out
              have HS4 := hidMk (setRow4 (.int .i64 (en : Int)) (.int .i64 (ep : Int)) (.bool et) (.bool false) (w := w1) (t := 56) HGa.out)
              have HK4 : Hid (Stil W ((((w1.setCell ⟨r, 0, none⟩ (.int .i64 (en : Int))).setCell ⟨r, 1, none⟩ (.int .i64 (ep : Int))).setCell ⟨r, 2, none⟩ (.bool et)).setCell ⟨r, 3, none⟩ (.bool false))) := (((HKa.out.setCell _ _ _ (fun e => by omega)).setCell _ _ _ (fun e => by omega)).setCell _ _ _ (fun e => by omega)).setCell _ _ _ (fun e => by omega)
              go_wp2
              go_region
              all_goals go_wp2
              all_goals go_roundw
              case rel => exact ⟨k + 1, by omega, by go_num, by rw [HN2.out]; rfl, by rw [HN2.out]; rfl, HK4.out.drew, by show _ = _; rw [HN2.out]; exact HS4.out⟩
              case measure => simp [intOf]; omega
            · have HN2 : Hid (leastTo (s.ent i) (k + 1) = some (qm, q)) := by show _ = _; rw [hN, if_neg hkl]
              have hkl2 : klt en ep q.n q.p = false := by simpa using hkl
              rw [hkl2]
              clear hN hkl hkl2
              go_wp2
              go_roundw
              case rel => exact ⟨k + 1, by omega, by go_num, by rw [HN2.out], by rw [HN2.out]; rfl, HKa, by show _ = _; rw [HN2.out]; exact HGa.out⟩
              case measure => simp [intOf]; omega
    · obtain rfl : k = sn := by omega
      go_wp2
      go_ret2
      exact ⟨rfl, HK.out⟩
end Go.Proofs.Ytipoopbkapgfiaa
