/- checkStep, whole. -/
import Derived.Test.YthadhhconkjpmaaT11
import Derived.Test.YthadhhconkjpmaaT12
namespace Go.Proofs.Ythadhhconkjpmaa
open Go.RowKit Go.WideMaps
set_option linter.unusedVariables false

variable {W W2 : World} {mb n : Nat} {s : St} {h h2 : Sh}
theorem checkStep_any (m : Mov W mb n s h) (hn0 : 0 < n) (hn : n ≤ 6) (p : Pass) :
    Calls Try.prog 10 #[.pointer (some ⟨mb, 0, none⟩), passV p] W fun e W2 => e = .returned (.int .i64 (codeS n s p)) ∧ Keep (fun _ => False) W W2 := by
  obtain ⟨kind, who, other, x⟩ := p
  obtain ⟨gm, om, cm, em, hcm, htgm, hclm, hfrm, hsetm⟩ := m.mon_at hn0
  have c0 := m.cells.1
  rw [em] at c0
  have hlt := World.block_lt_of_cell? _ _ c0
  have HC : Hid (∀ z o, Calls Try.prog 18 #[.int .i64 z, .pointer (some ⟨W.heap.size, 0, none⟩)] ((W.alloc (.cells #[.pointer (some ⟨mb, 0, none⟩)] 56)).alloc o) fun e w2 => e = .returned (.bool (inP n z)) ∧ w2 = (W.alloc (.cells #[.pointer (some ⟨mb, 0, none⟩)] 56)).alloc o) := by
    intro z o
    refine isProcess_any z ?_ ((World.cell?_of_block (((Keep.refl (fun _ => False) W).alloc _).alloc _ |>.block mb hlt (fun e => e))).trans c0)
    rw [cell_of_row _ W.heap.size 0 #[.pointer (some ⟨mb, 0, none⟩)] 56 (0, 0) (by rw [al_old _ _ _ (by simp), al_new])]
    rfl
  unfold passV codeS
  simp only []
  by_cases hk : kind = 1 ∨ kind = 2
  · rw [if_pos hk]
    by_cases hb : inP n who = false ∨ inP n other = false ∨ who = other
    · rw [if_pos hb]
      exact chk_a W kind who other x mb n hk HC hb
    · rw [if_neg hb]
      have hb1 : inP n who = true := by
        cases e : inP n who with
        | true => rfl
        | false => exact absurd (Or.inl e) hb
      have hb2 : inP n other = true := by
        cases e : inP n other with
        | true => rfl
        | false => exact absurd (Or.inr (Or.inl e)) hb
      have hb3 : who ≠ other := fun e => hb (.inr (.inr e))
      obtain ⟨w, hw, rfl⟩ := in_of hb1
      obtain ⟨o, ho, rfl⟩ := in_of hb2
      have hwo : w ≠ o := by omega
      simp only [Int.toNat_natCast]
      rcases hk with rfl | rfl
      · rw [if_pos rfl]
        exact chk_send W x (s.money w) w o gm om cm mb n hw ho hwo HC c0 (hclm w hw)
      · rw [if_neg (by omega)]
        obtain ⟨ta, tc, et⟩ := (m.th o w ho hw).form
        obtain ⟨na, nc, en⟩ := (m.nt o w ho hw).form
        have ev : (h.f o w).val = .agg #[.slice ta (s.ways o w).things.length tc, .slice na (s.ways o w).noted.length nc, .bool (h.f o w).bm] := by unfold WV.val; rw [et, en]
        have := chk_take W x w o h.M _ tc ta na _ nc (h.f o w).bm mb n hw ho hwo HC m.cells.2.2 (fun ob k k2 => by
          have h1 := (((m.alloc (.cells #[.pointer (some ⟨mb, 0, none⟩)] 56)).alloc ob).drewN k |>.drewN k2).map.look wayMap (i := o) (j := w) (by omega) (by omega)
          rw [ev] at h1
          exact h1)
        rw [show (if (s.ways o w).things = [] then (5 : Int) else 0) = (if (s.ways o w).things.length = 0 then 5 else 0) from by simp only [List.length_eq_zero_iff]]
        exact this
  · rw [if_neg hk]
    by_cases hk3 : kind = 3
    · subst hk3
      rw [if_pos rfl]
      cases hb : inP n who with
      | false => rw [if_pos rfl]; exact chk_begin_no W who other x mb n hb HC
      | true =>
        rw [if_neg (by simp)]
        obtain ⟨w, hw, rfl⟩ := in_of hb
        simp only [Int.toNat_natCast]
        have := chk_begin W other x w mb n hw (decide (s.own w ≠ -1)) HC (hidMk fun o k k2 => hasNoted_any ((((m.alloc (.cells #[.pointer (some ⟨mb, 0, none⟩)] 56)).alloc o).drewN k).drewN k2) hw)
        simpa using this
    · rw [if_neg hk3]
      exact chk_kind W kind who other x mb (fun e => hk (.inl e)) (fun e => hk (.inr e)) hk3
end Go.Proofs.Ythadhhconkjpmaa
