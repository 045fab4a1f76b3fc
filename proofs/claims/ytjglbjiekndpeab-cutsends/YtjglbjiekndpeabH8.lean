/- Contract of clocks.raise. -/
import Derived.Test.YtjglbjiekndpeabH7
import Derived.BigRegion
namespace Go.Proofs.Ytjglbjiekndpeab
open Go.RowKit Go.Shelf
set_option linter.unusedVariables false

/-- The greater one, of the first k. -/
def maxTo (f h : Nat → Nat) (k p : Nat) : Nat := if p < k then max (f p) (h p) else f p

theorem maxTo_zero (f h : Nat → Nat) : maxTo f h 0 = f := by funext p; simp [maxTo]
theorem maxTo_set (f h : Nat → Nat) (k n : Nat) : (rowN n (maxTo f h k)).set k (max (f k) (h k)) = rowN n (maxTo f h (k + 1)) := by
  rw [rowN_set]
  apply rowN_congr
  intro p _
  unfold maxTo
  by_cases hp : p = k
  · subst hp; rw [if_pos rfl, if_pos (Nat.lt_succ_self _)]
  · rw [if_neg hp]
    by_cases h2 : p < k
    · rw [if_pos h2, if_pos (by omega)]
    · rw [if_neg h2, if_neg (by omega)]

theorem grown_drew (A : World) (r : Option Nat) : A.grownBy A.drew r := ⟨rfl, rfl, rfl, Nat.le_refl _, fun _ _ _ => rfl⟩

set_option maxHeartbeats 1000000 in
theorem raise_any (g1 g2 n b1 b2 : Nat) (f h : Nat → Nat) (w : World) (hn : n ≤ 6) (hne : g1 ≠ g2) (h1 : RowI w b1 g1 n f) (h2 : RowI w b2 g2 n h) :
    Calls Try.prog 25 #[.slice (some ⟨g1, 0, none⟩) n n, .slice (some ⟨g2, 0, none⟩) n n] w fun e w2 => (∃ v, e = .returned v) ∧ RowI w2 b1 g1 n (fun p => max (f p) (h p)) ∧ w.grownBy w2 (some g1) := by
  have hn' : (n : Int) ≤ 6 := by omega
  have H1 := hidMk h1
  clear h1
  have hmo : Try.prog.follows .mixedOrders = true := by kernel_rfl
  go_enter Try.func25, Try.ntmps25
  go_wp2
  go_loopw [7] (fun i wr => ∃ k : Nat, k ≤ n ∧ i = .int .i64 (k : Int) ∧ RowI wr b1 g1 n (maxTo f h k) ∧ Hid (w.grownBy wr (some g1))) (fun i _ => n - (intOf i).toNat)
  case atStart => exact ⟨0, Nat.zero_le _, rfl, by rw [maxTo_zero]; exact H1.out, grown_refl _ _⟩
  case round =>
    obtain ⟨k, hk, rfl, hrow, HG⟩ := hrel
    by_cases hlt : k < n
    · have hlt' : (k : Int) < (n : Int) := by omega
      have c1 : wr.cell? ⟨g1, k, none⟩ = some (.int .i64 ((f k : Nat) : Int)) := by
        rw [World.ownsRow.cellAt hrow k (by omega), List.getElem?_map, rowN_at hlt]; simp [encN, maxTo]
      have c2 : wr.cell? ⟨g2, k, none⟩ = some (.int .i64 ((h k : Nat) : Int)) := by
        have h2' := World.ownsRow.kept h2 HG.out (.inr (by simp [Value.ownBlock]; exact fun e => hne e.symm))
        rw [World.ownsRow.cellAt h2' k (by omega), List.getElem?_map, rowN_at hlt]; simp [encN]
      have hfz := World.ownsRow.frozenAt hrow k
      have HR := hidMk hrow
      clear hrow
      go_wp2
      go_region
      have hmx : (if f k < h k then ((h k : Nat) : Int) else ((f k : Nat) : Int)) = ((max (f k) (h k) : Nat) : Int) := by split <;> omega
      rw [hmx]
      have hst := World.ownsRow.stored HR.out k (encN (max (f k) (h k)))
      rw [← map_set, maxTo_set] at hst
      have HST := hidMk hst
      clear hst hmx
      go_wp2
      go_roundw
      case rel => exact ⟨k + 1, by omega, by go_num, HST.out.1, grown_same (grown_same HG.out HST.out.2) (grown_drew _ _)⟩
      case measure => simp [intOf]; omega
    · obtain rfl : k = n := by omega
      go_wp2
      go_end0
      refine ⟨⟨_, rfl⟩, ?_, HG.out⟩
      have e : rowN k (maxTo f h k) = rowN k fun p => max (f p) (h p) := rowN_congr fun p hp => by simp [maxTo, hp]
      unfold RowI at hrow ⊢
      rw [← e]; exact hrow
end Go.Proofs.Ytjglbjiekndpeab
