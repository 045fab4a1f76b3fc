/- A play of messages in one order, as laws see it. -/
import Derived.Test.YtipoopbkapgfiaaTa9
import Derived.Test.YtipoopbkapgfiaaTc1
import Derived.Test.YtipoopbkapgfiaaCb2
namespace Go.Proofs.Ytipoopbkapgfiaa
open Go.RowKit
set_option linter.unusedVariables false

structure SeenC (w : World) (C L n pl : Nat) (S : Nat → List Nat) (cd : Nat → Int) : Prop where
  codes : RowI w (some ⟨C, 0, none⟩) pl pl ((List.range pl).map cd)
  lists : ∀ i, i < n → ∃ a c, w.cell? ⟨L, i, none⟩ = some (.slice a (S i).length c) ∧ RowI w a (S i).length c (natsI (S i))
theorem SeenC.still {w w' : World} {C L n pl : Nat} {S : Nat → List Nat} {cd : Nat → Int} (h : SeenC w C L n pl S cd) (hs : Stil w w') : SeenC w' C L n pl S cd :=
  ⟨h.codes.still hs, fun i hi => let ⟨a, c, h1, h2⟩ := h.lists i hi; ⟨a, c, hs.cell h1, h2.still hs⟩⟩

theorem castCode_zero {z : Int} {len : Nat} (h : castCode z len = 0) : ∃ n : Nat, z = (n : Int) ∧ 0 < n ∧ n ≤ 6 ∧ len ≤ 120 := by
  unfold castCode at h
  split at h
  · omega
  · exact ⟨z.toNat, by omega, by omega, by omega, by omega⟩
theorem play_seenT {W : World} {pa : Option Addr} {n pl pc : Nat} {ps : List Cst} (hp : CameC W pa pl pc ps) (h0 : 0 < n) (h6 : n ≤ 6) (hpl : pl ≤ 120) :
    Calls Try.prog 4 #[.int .i64 (n : Int), .slice pa pl pc] W fun e W2 => (∃ C L, e = .returned (.tuple #[.agg #[.slice (some ⟨C, 0, none⟩) pl pl, .slice (some ⟨L, 0, none⟩) n n], .int .i64 0]) ∧ SeenC W2 C L n pl (tsAt n ps pl).ls (tcAt n ps)) ∧ Stil W W2 := by
  refine (play_okT hp h0 h6 hpl).mono ?_
  rintro e W2 ⟨C, mb, h, rfl, P⟩
  refine ⟨⟨C, h.L, rfl, ⟨⟨by simp, Nat.le_refl _, by unfold maxLen; omega, .inr ⟨C, 0, rfl, (Array.getElem?_eq_some_iff.1 P.codes).1, fun j x hx => ?_⟩⟩, fun i hi => ?_⟩⟩, P.keep⟩
  · rw [cell_of_row W2 _ _ _ _ _ P.codes]
    simp only [List.getElem?_toArray, Nat.zero_add]
    have hj := (List.getElem?_eq_some_iff.1 hx).1
    simp at hj
    rw [tcRow_at hj, if_pos hj]
    simp [hj] at hx
    rw [hx]
  · obtain ⟨a, c, e⟩ := segForm (P.mov.li hi)
    have hs := P.mov.li hi
    rw [e] at hs
    exact ⟨a, c, by rw [(P.mov.row hi).1, e], seg_row hs⟩
theorem u8_in {z : Int} (hz : (Lit.int .u8 z).wf = true) : 0 ≤ z ∧ z ≤ 255 := by
  have h2 : IntKind.u8.min ≤ z ∧ z ≤ IntKind.u8.max := by simpa [Lit.wf] using hz
  have e1 : IntKind.u8.min = 0 := by decide
  have e2 : IntKind.u8.max = 255 := by decide
  omega
theorem tlen_le {n : Nat} (hn : n ≤ 6) (ps : List Cst) (k p : Nat) : ((tsAt n ps k).ls p).length ≤ k := by
  obtain ⟨g, hi⟩ := (tat_all (n := n) (by omega) ps k).inv
  have := ls_len hi p
  have := tat_sent (n := n) (by omega) ps k
  omega
theorem tnodup {n : Nat} (hn : n ≤ 6) (ps : List Cst) (k p : Nat) : ((tsAt n ps k).ls p).Nodup := by
  obtain ⟨g, hi⟩ := (tat_all (n := n) (by omega) ps k).inv
  exact hi.nd p
end Go.Proofs.Ytipoopbkapgfiaa
