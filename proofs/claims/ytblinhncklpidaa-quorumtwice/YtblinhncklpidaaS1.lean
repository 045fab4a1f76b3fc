/- What the walks through the library's sort share: a row of numbers in a block, an exchange of two of them; contracts of cmp.Less and cmp.isNaN. -/
import Derived.Test.YtblinhncklpidaaC5
import Derived.Sort.LotD3
import Derived.Sort.LotA
import Derived.Sort.LotB
import Derived.Sort.LotC
import Derived.BigRegion
namespace Go.Proofs.Ytblinhncklpidaa
open Go.RowKit

def lt32 (x y : Nat) : Bool := decide (x < y)
theorem swo32 : Go.Sort.SWO lt32 where
  irrefl := fun x => by simp [lt32]
  trans := fun x y z h1 h2 => by simp [lt32] at *; omega
  ntrans := fun x y z h1 h2 => by simp [lt32] at *; omega

/-- Block g holds the numbers d at its beginning; it has cap cells. -/
def Arr (w : World) (g cap : Nat) (d : Array Nat) : Prop :=
  ∃ cur : Array Value, w.heap[g]? = some (.cells cur 34 (0, 0)) ∧ cur.size = cap ∧ d.size ≤ cap ∧ ∀ j, j < d.size → cur[j]? = some (enc32 d[j]!)

theorem Arr.lt {w : World} {g cap : Nat} {d : Array Nat} (h : Arr w g cap d) : g < w.heap.size := by
  obtain ⟨cur, h1, _⟩ := h
  exact (Array.getElem?_eq_some_iff.1 h1).1
theorem Arr.cell {w : World} {g cap : Nat} {d : Array Nat} (h : Arr w g cap d) {j : Nat} (hj : j < d.size) : w.cell? ⟨g, j, none⟩ = some (.int .u32 ((d[j]! : Nat) : Int)) := by
  obtain ⟨cur, h1, h2, h3, h4⟩ := h
  simp only [World.cell?, h1, Option.isSome_none, Bool.false_eq_true, if_false]
  exact h4 j hj
theorem Arr.frozen {w : World} {g cap : Nat} {d : Array Nat} (h : Arr w g cap d) (j : Nat) : w.frozen? ⟨g, j, none⟩ = false := by
  obtain ⟨cur, h1, h2, h3, h4⟩ := h
  simp [World.frozen?, h1]
theorem Arr.kept {w w' : World} {g cap : Nat} {d : Array Nat} {row : Option Nat} (h : Arr w g cap d) (hg : w.grownBy w' row) (hne : some g ≠ row) : Arr w' g cap d := by
  have hl := h.lt
  obtain ⟨cur, h1, h2⟩ := h
  exact ⟨cur, (hg.block g hl hne).trans h1, h2⟩
theorem Arr.drewN {w : World} {g cap : Nat} {d : Array Nat} (h : Arr w g cap d) (n : Nat) : Arr (w.drewN n) g cap d := h

theorem turned_drewN {w w' : World} {row : Option Nat} (h : w.grownBy w' row) (n : Nat) : w.grownBy (w'.drewN n) row := ⟨h.os, h.tape, h.output, h.size, h.block⟩
theorem turned_setCell (w : World) (g o : Nat) (v : Value) : w.grownBy (w.setCell ⟨g, o, none⟩ v) (some g) :=
  ⟨rfl, rfl, rfl, (KeepsWalks.setCell w _ v).size, fun k _ hk => Below.heap_setCell _ _ _ k (fun e => hk (by rw [e]))⟩

theorem Arr.set {w : World} {g cap : Nat} {d : Array Nat} (h : Arr w g cap d) (i x : Nat) (hi : i < d.size) : Arr (w.setCell ⟨g, i, none⟩ (.int .u32 (x : Int))) g cap (d.setIfInBounds i x) := by
  obtain ⟨cur, h1, h2, h3, h4⟩ := h
  obtain ⟨hlt, hk⟩ := Array.getElem?_eq_some_iff.1 h1
  refine ⟨cur.setIfInBounds i (.int .u32 (x : Int)), ?_, by simpa using h2, by simpa using h3, fun j hj => ?_⟩
  · show (w.heap.modify g _)[g]? = _
    rw [Array.getElem?_eq_getElem (by rw [Array.size_modify]; exact hlt), Array.getElem_modify_self, hk]
    rfl
  · rw [Array.size_setIfInBounds] at hj
    rw [Array.getElem?_setIfInBounds]
    by_cases he : i = j
    · subst he
      rw [if_pos rfl, if_pos (by omega), getElem!_pos _ i (by simpa using hj), Array.getElem_setIfInBounds]
      · simp [enc32]
      · exact hj
    · rw [if_neg he, h4 j hj, getElem!_pos d j hj, getElem!_pos _ j (by simpa using hj), Array.getElem_setIfInBounds]
      · simp [he]
      · exact hj

/-- An exchange of two of the numbers. -/
theorem Arr.swap {w : World} {g cap : Nat} {d : Array Nat} (h : Arr w g cap d) (i j : Nat) (hi : i < d.size) (hj : j < d.size) :
    Arr ((w.setCell ⟨g, i, none⟩ (.int .u32 ((d[j]! : Nat) : Int))).setCell ⟨g, j, none⟩ (.int .u32 ((d[i]! : Nat) : Int))) g cap (Go.Sort.swp d i j) := by
  unfold Go.Sort.swp
  exact (h.set i _ hi).set j _ (by simpa using hj)
theorem turned_swap (w : World) (g i j : Nat) (u v : Value) : w.grownBy ((w.setCell ⟨g, i, none⟩ u).setCell ⟨g, j, none⟩ v) (some g) :=
  (turned_setCell w g i u).trans (turned_setCell _ g j v)

theorem Arr.swapN {w : World} {g cap : Nat} {d : Array Nat} (h : Arr w g cap d) (i j : Nat) (hi : i < d.size) (hj : j < d.size) (q : Nat) :
    Arr (((w.drewN q).setCell ⟨g, i, none⟩ (.int .u32 ((d[j]! : Nat) : Int))).setCell ⟨g, j, none⟩ (.int .u32 ((d[i]! : Nat) : Int))) g cap (Go.Sort.swp d i j) := (h.drewN q).swap i j hi hj
theorem turned_swapN {w0 w : World} {g : Nat} (hG : w0.grownBy w (some g)) (q i j : Nat) (u v : Value) : w0.grownBy (((w.drewN q).setCell ⟨g, i, none⟩ u).setCell ⟨g, j, none⟩ v) (some g) :=
  (turned_drewN hG q).trans (turned_swap _ g i j u v)

theorem Arr.swapD {w : World} {g cap : Nat} {d : Array Nat} (h : Arr w g cap d) (i j : Nat) (hi : i < d.size) (hj : j < d.size) :
    Arr ((w.setCell ⟨g, i, none⟩ (.int .u32 ((d[j]! : Nat) : Int))).setCell ⟨g, j, none⟩ (.int .u32 ((d[i]! : Nat) : Int))).drew g cap (Go.Sort.swp d i j) := h.swap i j hi hj
theorem turned_drew {w w' : World} {row : Option Nat} (h : w.grownBy w' row) : w.grownBy w'.drew row := ⟨h.os, h.tape, h.output, h.size, h.block⟩
theorem turned_swapD {w0 w : World} {g : Nat} (hG : w0.grownBy w (some g)) (i j : Nat) (u v : Value) : w0.grownBy ((w.setCell ⟨g, i, none⟩ u).setCell ⟨g, j, none⟩ v).drew (some g) :=
  turned_drew (hG.trans (turned_swap _ g i j u v))

/-- A callee that draws nothing, met behind draws of an earlier statement. -/
theorem quiet2 {P : Program} {f : FuncId} {args : Array Value} {w : World} {k n : Nat} {v : Value}
    (h : Calls P f args (w.drewN (k + n)) fun e w' => e = .returned v ∧ w' = w.drewN (k + n)) : Calls P f args (w.drewN (k + n)) fun e w'' => e = .returned v ∧ ∃ n, w'' = w.drewN (k + n) :=
  h.mono fun _ _ ⟨he, hm⟩ => ⟨he, n, hm⟩

set_option maxHeartbeats 400000 in
theorem isNaN_any (x : Int) (w : World) : Calls Try.prog 67 #[.int .u32 x] w fun e w' => e = .returned (.bool false) ∧ w' = w := by
  have hx : (x != x) = false := by simp
  go_enter Try.func67, Try.ntmps67
  go_wp2
  go_ret
  exact ⟨by simp, rfl⟩

set_option maxHeartbeats 400000 in
theorem less_any (x y : Nat) (w : World) : Calls Try.prog 57 #[.int .u32 (x : Int), .int .u32 (y : Int)] w fun e w' => e = .returned (.bool (lt32 x y)) ∧ w' = w := by
  go_enter Try.func57, Try.ntmps57
  go_wp2_with (go_at_call 67; refine (isNaN_any _ _).mono ?_; rintro e w' ⟨rfl, hw⟩; obtain rfl := hw.symm)
  go_ret
  refine ⟨ret_bool ?_, rfl⟩
  unfold lt32
  simp

set_option maxHeartbeats 1000000 in
theorem insert_any (g cap : Nat) (d : Array Nat) (n a b : Nat) (w : World) (hn : n = d.size) (hb : b ≤ d.size) (hab : a ≤ b) (hd : d.size ≤ 4096) (h : Arr w g cap d) :
    Calls Try.prog 51 #[.slice (some ⟨g, 0, none⟩) n cap, .int .i64 (a : Int), .int .i64 (b : Int)] w fun e w' => (∃ v, e = .returned v) ∧ Arr w' g cap (Go.Sort.insertionSort lt32 d a b) ∧ w.grownBy w' (some g) := by
  subst hn
  have hb' : (b : Int) ≤ 4096 := by omega
  have ha' : (a : Int) ≤ 4096 := by omega
  go_enter Try.func51, Try.ntmps51
  go_wp2
  go_loopw [6] (fun x wr => ∃ (i : Nat) (d1 : Array Nat), a + 1 ≤ i ∧ i ≤ max b (a + 1) ∧ x = .int .i64 (i : Int) ∧ d1.size = d.size ∧ Arr wr g cap d1 ∧ w.grownBy wr (some g) ∧ Hid (Go.Sort.insOuter lt32 a b i d1 = Go.Sort.insertionSort lt32 d a b)) (fun x _ => b - (intOf x).toNat)
  case atStart => exact ⟨a + 1, d, Nat.le_refl _, by omega, by go_num, rfl, h, World.grownBy.refl _ _, rfl⟩
  case round =>
    obtain ⟨i, d1, hi1, hi2, rfl, hsz, hA, hG, HE⟩ := hrel
    by_cases hlt : i < b
    · have hlt' : (i : Int) < (b : Int) := by omega
      go_wp2
      go_loopw [7] (fun x wr => ∃ (j : Nat) (d2 : Array Nat), j ≤ i ∧ x = .int .i64 (j : Int) ∧ d2.size = d.size ∧ Arr wr g cap d2 ∧ w.grownBy wr (some g) ∧ Hid (Go.Sort.insInner lt32 a j d2 = Go.Sort.insInner lt32 a i d1)) (fun x _ => (intOf x).toNat)
      case atStart => exact ⟨i, d1, Nat.le_refl _, rfl, hsz, hA, hG, rfl⟩
      case round =>
        clear hA hG
        obtain ⟨j, d2, hj, rfl, hsz2, hA, hG, HI⟩ := hrel
        by_cases hja : a < j
        · obtain ⟨k, rfl⟩ : ∃ k, j = k + 1 := ⟨j - 1, by omega⟩
          have hja' : (a : Int) < (k : Int) + 1 := by omega
          have c1 := hA.cell (j := k + 1) (by omega)
          have c0 := hA.cell (j := k) (by omega)
          have HIS : Hid (Go.Sort.insInner lt32 a (k + 1) d2 = if k + 1 > a && lt32 d2[k + 1]! d2[k]! then Go.Sort.insInner lt32 a k (Go.Sort.swp d2 (k + 1) k) else d2) := rfl
          have HSW := hidMk (hA.swapN (k + 1) k (by omega) (by omega))
          have f1 := hA.frozen (k + 1)
          have f0 := hA.frozen k
          have HLE := hidMk (less_any d2[k + 1]! d2[k]!)
          cases hls : lt32 d2[k + 1]! d2[k]!
          · rw [hls] at HLE
            have HE2 : Hid (d2 = Go.Sort.insInner lt32 a i d1) := by
              show d2 = _
              have e := HIS.out
              rw [hls, HI.out] at e
              simpa using e.symm
            generalize d2[k + 1]! = x at *
            generalize d2[k]! = y at *
            clear hls HIS HSW
            go_wp2
            go_quiet ((go_at_call 57; exact Calls.quiet_of_same (HLE.out _)))
            go_wp2
            go_roundw
            case rel =>
              refine ⟨i + 1, d2, by omega, by omega, by go_num, hsz2, hA.drewN _, turned_drewN hG _, ?_⟩
              show Go.Sort.insOuter lt32 a b (i + 1) d2 = _
              have e := HE.out
              rw [Go.Sort.insOuter, if_pos hlt] at e
              rw [HE2.out]; exact e
            case measure => simp [intOf]; omega
          · rw [hls] at HLE
            have HE2 : Hid (Go.Sort.insInner lt32 a k (Go.Sort.swp d2 (k + 1) k) = Go.Sort.insInner lt32 a i d1) := by
              show Go.Sort.insInner lt32 a k (Go.Sort.swp d2 (k + 1) k) = _
              have e := HIS.out
              rw [hls, HI.out] at e
              have ha : decide (k + 1 > a) = true := decide_eq_true hja
              rw [ha] at e
              simpa using e.symm
            have hs3 : (Go.Sort.swp d2 (k + 1) k).size = d.size := by rw [Go.Sort.size_swp]; exact hsz2
            generalize d2[k + 1]! = x at *
            generalize d2[k]! = y at *
            clear hls HIS
            go_wp2
            go_quiet ((go_at_call 57; exact Calls.quiet_of_same (HLE.out _)))
            go_wp2
            go_region
            go_wp2
            go_roundw
            case rel => exact ⟨k, _, by omega, by go_num, hs3, HSW.out _, turned_swapN hG _ _ _ _ _, HE2⟩
            case measure => simp [intOf]
        · have hja' : decide ((a : Int) < (j : Int)) = false := by simp; omega
          have HE2 : Hid (d2 = Go.Sort.insInner lt32 a i d1) := by
            have e := HI.out
            have : Go.Sort.insInner lt32 a j d2 = d2 := by
              cases j with
              | zero => rfl
              | succ k =>
                show (if k + 1 > a && lt32 d2[k + 1]! d2[k]! then _ else _) = _
                have hd : decide (k + 1 > a) = false := decide_eq_false (by omega)
                rw [hd]; rfl
            rw [this] at e; exact e
          go_wp2
          go_quiet ((go_at_call 57; exact Calls.quiet_of_same (less_any _ _ _)))
          go_wp2
          go_roundw
          case rel =>
            refine ⟨i + 1, d2, by omega, by omega, by go_num, hsz2, hA.drewN _, turned_drewN hG _, ?_⟩
            show Go.Sort.insOuter lt32 a b (i + 1) d2 = _
            have e := HE.out
            rw [Go.Sort.insOuter, if_pos hlt] at e
            rw [HE2.out]; exact e
          case measure => simp [intOf]; omega
    · have hge : ¬ (i : Int) < (b : Int) := by omega
      go_wp2
      go_end0
      have e := HE.out
      rw [Go.Sort.insOuter, if_neg hlt] at e
      exact ⟨⟨_, rfl⟩, by rw [← e]; exact hA, hG⟩
end Go.Proofs.Ytblinhncklpidaa
