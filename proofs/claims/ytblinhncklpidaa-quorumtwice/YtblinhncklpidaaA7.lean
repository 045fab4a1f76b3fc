/- Contracts of quorum.eachTwo and its closure: each two sets of a family come once; or, when a round says so, no more come. -/
import Derived.Test.YtblinhncklpidaaA6
import Derived.RangeFuncNested
import Derived.RangeFuncBound
import Derived.RangeFuncCalls
import Derived.RangeFuncLeaves
import Derived.RangeFuncBox
import Derived.Shelf.Abstract
import Derived.Shelf.RegionOpen
import Derived.OwnWalkIn
import Derived.TacticsInMore
import Derived.LoopNIn
import Derived.LoopIn
namespace Go.Proofs.Ytblinhncklpidaa
open Go.RowKit Go.Shelf

attribute [local go_sem] Oper.semAt_some

/-- A number of 32 bits. -/
abbrev W32 := { x : Nat // x < 4294967296 }

/-- What lay below n₀ is kept, and the variable at Bs. -/
def Keeps (n₀ Bs : Nat) (W W' : World) : Prop := Below n₀ W W' ∧ ∀ v, W.cell? ⟨Bs, 0, none⟩ = some v → W'.cell? ⟨Bs, 0, none⟩ = some v
theorem keeps_t {n₀ Bs : Nat} {A B C : World} (h : Keeps n₀ Bs A B) (k : Keeps n₀ Bs B C) : Keeps n₀ Bs A C := ⟨h.1.trans k.1, fun v hv => k.2 v (h.2 v hv)⟩
theorem keeps_b {n₀ Bs : Nat} {w : World} (hw : n₀ ≤ w.heap.size) (W : World) (l : Nat) (o o' : Obj) (hl : w.heap.size ≤ l) (ho : W.heap[l]? = some o) (hc : o.isCells = false) (hi : o.isWalk = false) : Keeps n₀ Bs W (W.putObj l o') :=
  ⟨belowK_b hw W l o o' hl ho hc hi, fun _ hv => cell_kept hv (grownBy_putObj' W l o') (fun r e => by cases e; exact ⟨_, ho, hc⟩)⟩

/-- Both are sets of the family. -/
def Of (qs : List Nat) (p : W32 × W32) : Prop := p.1.1 ∈ qs ∧ p.2.1 ∈ qs
/-- Each two sets, of which the first stands at a place below k, have come. -/
def Came (qs : List Nat) (k : Nat) (ps : List (W32 × W32)) : Prop :=
  ∀ (i j x y : Nat), i < k → i ≤ j → qs[i]? = some x → qs[j]? = some y → ∃ p ∈ ps, p.1.1 = x ∧ p.2.1 = y
/-- And with the one at k those at k to k + j - 1. -/
def CameTo (qs : List Nat) (k : Nat) (x : Nat) (j : Nat) (ps : List (W32 × W32)) : Prop :=
  ∀ (m y : Nat), m < j → qs[k + m]? = some y → ∃ p ∈ ps, p.1.1 = x ∧ p.2.1 = y

theorem Came.more {qs : List Nat} {k : Nat} {ps : List (W32 × W32)} (h : Came qs k ps) (q : W32 × W32) : Came qs k (ps ++ [q]) :=
  fun i j x y a b c d => by obtain ⟨p, hp, e⟩ := h i j x y a b c d; exact ⟨p, List.mem_append_left _ hp, e⟩
theorem CameTo.more {qs : List Nat} {k x j y : Nat} {ps : List (W32 × W32)} (h : CameTo qs k x j ps) (hx : x < 4294967296) (hy : y < 4294967296) (e : qs[k + j]? = some y) : CameTo qs k x (j + 1) (ps ++ [(⟨x, hx⟩, ⟨y, hy⟩)]) := by
  intro m z hm hz
  by_cases he : m = j
  · subst he
    rw [e] at hz
    cases hz
    exact ⟨(⟨x, hx⟩, ⟨y, hy⟩), by simp, rfl, rfl⟩
  · obtain ⟨p, hp, e⟩ := h m z (by omega) hz
    exact ⟨p, List.mem_append_left _ hp, e⟩
theorem Came.next {qs : List Nat} {k x len : Nat} {ps : List (W32 × W32)} (h : Came qs k ps) (hx : qs[k]? = some x) (hl : qs.length = len) (h2 : CameTo qs k x (len - k) ps) : Came qs (k + 1) ps := by
  intro i j a b hi hij ha hb
  by_cases he : i = k
  · subst he
    rw [hx] at ha
    cases ha
    have hj : j < qs.length := (List.getElem?_eq_some_iff.1 hb).1
    obtain ⟨m, rfl⟩ : ∃ m, j = i + m := ⟨j - i, by omega⟩
    exact h2 m b (by omega) hb
  · exact h i j a b (by omega) hij ha hb

set_option maxRecDepth 100000 in
set_option maxHeartbeats 2000000 in
theorem eachTwo1_in (F : Fence) (n : Nat) (hf : F.fn 47) (hro : F.round = none) (hn : 1 ≤ n) (l Bs n₀ b off len cap : Nat) (qs : List Nat) (hl : qs.length = len) (hl2 : len ≤ 64) (hcap : len ≤ cap) (hb : b < n₀) (J Jx : List (W32 × W32) → World → Prop)
    (hY : ∀ pre (x : W32 × W32) W, J pre W → pre.length < 4200 → YieldAt F (n - 1) Try.prog l #[.int .u32 (x.1.1 : Int), .int .u32 (x.2.1 : Int)] W fun e W' =>
      (e = .returned (.bool true) ∧ J (pre ++ [x]) W' ∧ Keeps n₀ Bs W W') ∨ (e = .returned (.bool false) ∧ Jx (pre ++ [x]) W'))
    (W : World) (hBc : W.cell? ⟨Bs, 0, none⟩ = some (.slice (some ⟨b, off, none⟩) len cap)) (hq : Row W b off qs) (h0 : J [] W) :
    CallsIn F n Try.prog 47 #[.func (.yield l) #[] #[], .pointer (some ⟨Bs, 0, none⟩)] W fun e W' => (∃ v, e = .returned v) ∧
      ((∃ ys, ((∀ p ∈ ys, Of qs p) ∧ Came qs len ys) ∧ J ys W') ∨ (∃ pre, (∀ p ∈ pre, Of qs p) ∧ Jx pre W')) := by
  have HL : Hid (qs.length = len) := hl
  clear hl
  have HY := hidMk hY
  clear hY
  have hl2' : (len : Int) ≤ 64 := by omega
  refine callsIn_of_wp Try.func47 rfl hf ?_ hro
  simp only [Try.ntmps47, List.size_toArray, List.length_cons, List.length_nil, Nat.reduceAdd, Nat.reduceSub, Array.replicate_succ, Array.replicate_zero, List.push_toArray, List.append_toArray, List.nil_append, List.cons_append]
  gi_wp2
  gi_loopw [9] (fun i wr => ∃ (k : Nat) (pre : List (W32 × W32)), k ≤ len ∧ i = .int .i64 k ∧ J pre wr ∧ Keeps n₀ Bs W wr ∧ Hid (pre.length ≤ 64 * k ∧ (∀ p ∈ pre, Of qs p) ∧ Came qs k pre))
    (fun i _ => len - (intOf i).toNat)
  case atStart => exact ⟨0, [], Nat.zero_le _, rfl, h0, ⟨Below.refl _ _, fun _ h => h⟩, by simp, by simp, fun i j x y hi => by omega⟩
  case round =>
    obtain ⟨k, pre, hk, rfl, hJs, hnx, HP⟩ := hrel
    by_cases hlt : k < len
    · obtain ⟨x, hx, hmem, hxb, hc0⟩ := hq.at (k := k) (by rw [HL.out]; exact hlt)
      have HX : Hid (qs[k]? = some x) := hx
      clear hx
      have hc : wr.cell? ⟨b, off + k, none⟩ = some (.int .u32 (x : Int)) := (hnx.1.cell (p := ⟨b, off + k, none⟩) hb).trans hc0
      have hBr : wr.cell? ⟨Bs, 0, none⟩ = some (.slice (some ⟨b, off, none⟩) len cap) := hnx.2 _ hBc
      gi_wp2
      gi_loopw [18] (fun i wr => ∃ (j : Nat) (pre : List (W32 × W32)), j ≤ len - k ∧ i = .int .i64 j ∧ J pre wr ∧ Keeps n₀ Bs W wr ∧ Hid (pre.length ≤ 64 * k + j ∧ (∀ p ∈ pre, Of qs p) ∧ Came qs k pre ∧ CameTo qs k x j pre))
        (fun i _ => len - k - (intOf i).toNat)
      case atStart => exact ⟨0, pre, Nat.zero_le _, rfl, hJs, hnx, HP.out.1, HP.out.2.1, HP.out.2.2, fun m y hm => by omega⟩
      case round =>
        clear hc hc0 hBr hJs HP hnx
        obtain ⟨j, pre, hj, rfl, hJs, hnx, HP⟩ := hrel
        by_cases hlt2 : j < len - k
        · obtain ⟨y, hy, hmem2, hyb, hc0⟩ := hq.at (k := k + j) (by rw [HL.out]; omega)
          have HYY : Hid (qs[k + j]? = some y) := hy
          clear hy
          have hc : wr.cell? ⟨b, off + k + j, none⟩ = some (.int .u32 (y : Int)) := by
            rw [Nat.add_assoc]; exact (hnx.1.cell (p := ⟨b, off + (k + j), none⟩) hb).trans hc0
          clear hc0
          obtain ⟨fn, tmps, assign, body, hy, hR⟩ := HY.out pre (⟨x, hxb⟩, ⟨y, hyb⟩) wr hJs (by have := HP.out.1; omega)
          dsimp only at hy
          gi_wp2
          refine hR.mono ?_
          rintro e W3 (⟨rfl, hJ3, hk3⟩ | ⟨rfl, hJx3⟩)
          · gi_wp2
            go_roundw
            case rel => exact ⟨j + 1, _, by omega, by go_num, hJ3, keeps_t hnx hk3, by have := HP.out.1; simp; omega, fun p hp => (List.mem_append.1 hp).elim (HP.out.2.1 p) (fun e => by rw [List.mem_singleton] at e; rw [e]; exact ⟨hmem, hmem2⟩), HP.out.2.2.1.more _, HP.out.2.2.2.more hxb hyb HYY.out⟩
            case measure => simp [intOf]; omega
          · gi_wp2
            refine bodyPost_ret (results_none rfl _ _ _) rfl ?_
            exact ⟨⟨_, rfl⟩, .inr ⟨_, fun p hp => (List.mem_append.1 hp).elim (HP.out.2.1 p) (fun e => by rw [List.mem_singleton] at e; rw [e]; exact ⟨hmem, hmem2⟩), hJx3⟩⟩
        · obtain rfl : j = len - k := by omega
          gi_wp2
          go_roundw
          case rel => exact ⟨k + 1, pre, by omega, by go_num, hJs, hnx, by have := HP.out.1; omega, HP.out.2.1, HP.out.2.2.1.next HX.out HL.out HP.out.2.2.2⟩
          case measure => simp [intOf]; omega
    · obtain rfl : k = len := by omega
      gi_wp2
      go_end0
      exact ⟨⟨_, rfl⟩, .inl ⟨pre, ⟨HP.out.2.1, HP.out.2.2⟩, hJs⟩⟩

set_option maxHeartbeats 1000000 in
theorem eachTwo_in (F : Fence) (n : Nat) (hf : F.fn 36) (hro : F.round = none) (a : Option Addr) (len cap : Nat) (w : World) :
    CallsIn F n Try.prog 36 #[.slice a len cap] w fun e w' => e = .returned (.func (.func 47) #[] #[.pointer (some ⟨w.heap.size, 0, none⟩)]) ∧ w' = w.alloc (.cells #[.slice a len cap] 22) := by
  refine callsIn_of_wp Try.func36 rfl hf ?_ hro
  simp only [Try.ntmps36, List.size_toArray, List.length_cons, List.length_nil, Nat.reduceAdd, Nat.reduceSub, Array.replicate_succ, Array.replicate_zero, List.push_toArray, List.append_toArray, List.nil_append, List.cons_append]
  gi_wp2
  go_ret
  exact ⟨rfl, rfl⟩

theorem eachTwo_stops (F : Fence) (n : Nat) (hf : F.fn 47) (hro : F.round = none) (hn : 1 ≤ n) (Bs n₀ b off len cap : Nat) (qs : List Nat) (hl : qs.length = len) (hl2 : len ≤ 64) (hcap : len ≤ cap) (w : World) (hBs : Bs < w.heap.size) (hb : b < n₀)
    (hc : w.cell? ⟨Bs, 0, none⟩ = some (.slice (some ⟨b, off, none⟩) len cap)) (hq : Row w b off qs) :
    SeqStopsK F n Try.prog 47 #[.pointer (some ⟨Bs, 0, none⟩)] (fun x : W32 × W32 => #[Value.int .u32 (x.1.1 : Int), Value.int .u32 (x.2.1 : Int)]) (Keeps n₀ Bs)
      (fun ys => (∀ p ∈ ys, Of qs p) ∧ Came qs len ys) (fun pre => ∀ p ∈ pre, Of qs p) 4200 w := fun l J Jx W hW _ _ hY h0 =>
  eachTwo1_in F n hf hro hn l Bs n₀ b off len cap qs hl hl2 hcap hb J Jx hY W
    ((hW.cell (p := ⟨Bs, 0, none⟩) hBs).trans hc) (hq.below rfl hW) h0
end Go.Proofs.Ytblinhncklpidaa
