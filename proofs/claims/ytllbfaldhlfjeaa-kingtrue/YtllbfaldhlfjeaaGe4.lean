/- Generals: the document's, whole; two lists of answers are the same. -/
import Derived.Test.YtllbfaldhlfjeaaGe3
namespace Go.Proofs.Ytllbfaldhlfjeaa
open Go.RowKit
set_option linter.unusedVariables false

def RowO (w : World) (a : Option Addr) (len cap : Nat) (xs : List Bool) : Prop :=
  xs.length = len ∧ len ≤ cap ∧ len ≤ maxLen ∧ (len = 0 ∨ ∃ b off, a = some ⟨b, off, none⟩ ∧ b < w.heap.size ∧ ∀ (j : Nat) (x : Bool), xs[j]? = some x → w.cell? ⟨b, off + j, none⟩ = some (.bool x))
theorem RowO.still {w w' : World} {a : Option Addr} {len cap : Nat} {xs : List Bool} (h : RowO w a len cap xs) (hs : Stil w w') : RowO w' a len cap xs := by
  obtain ⟨h1, h2, h3, h4⟩ := h
  refine ⟨h1, h2, h3, ?_⟩
  rcases h4 with h4 | ⟨b, off, e, hr, hc⟩
  · exact .inl h4
  · exact .inr ⟨b, off, e, Nat.lt_of_lt_of_le hr hs.size, fun j x hx => hs.cell (hc j x hx)⟩
def boolsL (xs : List Bool) : List Value := xs.map fun x => .bool x
theorem seg_rowO {W : World} {ok : Nat → Prop} {e : TypeId} {a : Option Addr} {n c : Nat} {l : List Bool} (h : Seg W ok e 1 (.slice a n c) n (boolsL l)) : RowO W a n c l := by
  obtain ⟨h1, ⟨h2, h3⟩ | ⟨g, off, cap, cur, h2, h3, h4, h5, h6, h7, h8⟩⟩ := h
  · subst h3
    cases h2
    exact ⟨by simpa [boolsL] using h1, Nat.le_refl _, Nat.zero_le _, .inl rfl⟩
  · cases h2
    refine ⟨by simpa [boolsL] using h1, h5, by omega, .inr ⟨g, off, rfl, (Array.getElem?_eq_some_iff.1 h4).1, fun j x hx => ?_⟩⟩
    rw [cell_of_row W _ _ _ _ _ h4]
    exact h8 j _ (by simp [boolsL, hx])

set_option maxRecDepth 100000 in
set_option maxHeartbeats 4000000 in
theorem bools_same {w : World} {a b : Option Addr} {n c d : Nat} {xs : List Bool} (h1 : RowO w a n c xs) (h2 : RowO w b n d xs) (hn : n ≤ 1000) :
    Calls Try.prog 8 #[.slice a n c, .slice b n d] w fun e w2 => e = .returned (.bool true) ∧ ∃ k, w2 = w.drewN k := by
  obtain ⟨l1, c1, _, r1⟩ := h1
  obtain ⟨l2, c2, _, r2⟩ := h2
  have hn' : (n : Int) ≤ 1000 := by omega
  by_cases hn0 : n = 0
  · subst hn0
    clear r1 r2
    go_enter Try.func8, Try.ntmps8
    go_wp2
    go_loopw [5] (fun u wr => u = .int .i64 0 ∧ wr = w) (fun u _ => 0)
    case atStart => exact ⟨rfl, rfl⟩
    case round =>
      obtain ⟨rfl, hwr⟩ := hrel
      subst hwr
      go_wp2
      go_ret
      exact ⟨rfl, 0, rfl⟩
  · rcases r1 with r1 | ⟨g1, o1, rfl, b1, k1⟩
    · exact absurd r1 hn0
    rcases r2 with r2 | ⟨g2, o2, rfl, b2, k2⟩
    · exact absurd r2 hn0
    have H1 := hidMk k1
    have H2 := hidMk k2
    clear k1 k2
    go_enter Try.func8, Try.ntmps8
    go_wp2
    go_loopw [5] (fun u wr => ∃ k q : Nat, k ≤ n ∧ u = .int .i64 (k : Int) ∧ wr = w.drewN q) (fun u _ => n - (intOf u).toNat)
    case atStart => exact ⟨0, 0, Nat.zero_le _, rfl, rfl⟩
    case round =>
      obtain ⟨k, q, hk, rfl, hwr⟩ := hrel
      by_cases hlt : k < n
      · have hlt' : (k : Int) < (n : Int) := by omega
        have hx : xs[k]? = some (xs[k]'(by omega)) := List.getElem?_eq_getElem (by omega)
        generalize xs[k]'(by omega) = x at hx
        have d1 : wr.cell? ⟨g1, o1 + k, none⟩ = some (.bool x) := by rw [hwr]; exact H1.out k x hx
        have d2 : wr.cell? ⟨g2, o2 + k, none⟩ = some (.bool x) := by rw [hwr]; exact H2.out k x hx
        have HW := hidMk hwr
        clear hwr hx
        cases x
        all_goals
          go_wp2
          go_quiet (fail)
          go_wp2
          go_roundw
          case rel => exact ⟨k + 1, q + nq, by omega, by go_num, by rw [HW.out, drewN_plus]⟩
          case measure => simp [intOf]; omega
      · obtain rfl : k = n := by omega
        go_wp2
        go_ret
        exact ⟨rfl, q, by first | rfl | exact hwr⟩

theorem bInfo : (Try.prog.info? 4).map (fun i => (i.zero, i.size, i.bytes)) = some (some (.bool false), 1, 1) := by kernel_rfl
theorem bOne (x : Bool) : ∀ u ∈ [Value.bool x], u.oneCell' = true := by intro u hu; simp at hu; subst hu; rfl
/-- The generals but the first. -/
def allG (m : Nat) : List Nat := (List.range m).map fun p => p + 1
theorem allG_len (m : Nat) : (allG m).length = m := by simp [allG]
theorem allG_succ (m : Nat) : allG (m + 1) = allG m ++ [m + 1] := by simp [allG, List.range_succ]
theorem allG_at {m k : Nat} (h : k < m) : (allG m)[k]? = some (k + 1) := by simp [allG, h]
theorem allG_lt {m : Nat} (hm : m ≤ 6) : ∀ j ∈ allG m, j < 7 := by
  intro j hj
  simp only [allG, List.mem_map, List.mem_range] at hj
  omega
theorem allG_nodup (m : Nat) : (allG m).Nodup := by
  unfold allG
  exact List.Pairwise.map _ (fun a b h e => h (by omega)) (List.nodup_range (n := m))
/-- What each one holds in the end. -/
def heldG (T L d n : Nat) (x : Bool) (k : Nat) : List Bool := (List.range k).map fun p => holdsG T.testBit L.testBit d [0] (allG (n - 1)) (p + 1) x
theorem heldG_len (T L d n : Nat) (x : Bool) (k : Nat) : (heldG T L d n x k).length = k := by simp [heldG]
theorem heldG_succ (T L d n : Nat) (x : Bool) (k : Nat) : boolsL (heldG T L d n x (k + 1)) = boolsL (heldG T L d n x k) ++ [.bool (holdsG T.testBit L.testBit d [0] (allG (n - 1)) (k + 1) x)] := by simp [heldG, boolsL, List.range_succ]
theorem app_bool {w wr w9 : World} {v v9 : Value} {t : Nat} {xs : List Bool} {ys : List Value} {y : Bool} {ws : World} (hy : ys = boolsL xs ++ [.bool y]) (HS : Stil w ws) (HK : Stil ws wr) (HG : Seg ws (fun g => w.heap.size ≤ g) 4 1 v t (boolsL xs))
    (hs9 : Seg w9 (fun g => (v.ownBlock = some g ∧ w.heap.size ≤ g) ∨ g = wr.heap.size) 4 1 v9 (t + 1) (boolsL xs ++ [.bool y])) (hg9 : wr.grownBy w9 v.ownBlock) :
    Seg w9 (fun g => w.heap.size ≤ g) 4 1 v9 (t + 1) ys ∧ Stil w w9 := by
  subst hy
  refine ⟨?_, ?_⟩
  · refine hs9.mono (fun g _ h => ?_)
    rcases h with ⟨_, h⟩ | h
    · exact h
    · have h9 := (HS.tr HK).size; rw [h]; omega
  · exact (HS.tr HK).grown hg9 (fun g e hg => by
      have := (HG.block e).1
      omega)

end Go.Proofs.Ytllbfaldhlfjeaa
